/-
  Contracts: Next, of the program and of the document.
-/
import Derived.Test.YtpllffekebkacaaSaMarks
import Derived.Deep.RegionHeld3
namespace Go.Proofs.Ytpllffekebkacaa
open Go.RowKit
set_option linter.unusedVariables false
set_option maxRecDepth 1000000

/-- What comes next. -/
noncomputable def nextZ (c : Cf) (zs : List Int) (s p : Int) : Int := drawZ (rowK (markZ c zs) c.vocab.toNat) c.top c.heat s p

set_option maxHeartbeats 1000000 in
theorem rnext_any (c : Cf) (a : Option Addr) (len cap : Nat) (zs : List Int) (s0 p0 : Int) (w : World) (hm : mayB c = true) (ha : Reads .i64 w a len cap zs) (hlen : len ≤ 1000) :
    Calls Try.prog 17 #[.agg (CfV c), .slice a len cap, .int .u64 s0, .int .u64 p0] w fun e w' => e = .returned (.int .i64 (nextZ c zs s0 p0)) ∧ Below w.heap.size w w' := by
  have hmp := may_parts hm
  obtain ⟨V, hV⟩ : ∃ V, c.vocab.toNat = V := ⟨_, rfl⟩
  have hV64 : V ≤ 64 := by omega
  obtain ⟨wA, hwA⟩ : ∃ wA, wA = w.alloc (.cells (CfV c) 32) := ⟨_, rfl⟩
  have HB0 : Hid (Below w.heap.size w wA) := by unfold Hid; rw [hwA]; exact (Below.refl _ _).alloc (Nat.le_refl _) _
  have HK := hid fun (W : World) (hb : Below wA.heap.size wA W) => Cf_cells (block_below (show wA.heap[w.heap.size]? = some (.cells (CfV c) 32 (0, 0)) by rw [hwA]; exact heap_alloc_new w _) hb)
  have HMk := hid fun (W : World) (hb : Below wA.heap.size wA W) => rmarks_any c a len cap zs W hm ((ha.below HB0.out).below hb) hlen
  rw [hV] at HMk
  have HDr := hid fun (W : World) a' c' (hr : Reads .i64 W a' V c' (rowK (markZ c zs) V)) => rdraw_any a' V c' (rowK (markZ c zs) V) c.top c.heat s0 p0 W hr (by omega)
  have HNx : Hid (drawZ (rowK (markZ c zs) V) c.top c.heat s0 p0 = nextZ c zs s0 p0) := by unfold Hid nextZ; rw [hV]
  rw [HNx.out] at HDr
  clear ha hm hmp hV HNx
  generalize rowK (markZ c zs) V = ms at *
  generalize nextZ c zs s0 p0 = td at *
  obtain ⟨s, v, d, l, tt, h⟩ := c
  unfold CfV at HMk hwA ⊢
  simp only at HK HMk HDr hwA ⊢
  go_enter Try.func17, Try.ntmps17
  go_wp2_with fail
  rw [← hwA]
  have HV : Hid (Below wA.heap.size wA wA.drew) := (Below.refl _ _).drew
  have HX : Hid (∀ W : World, Below wA.heap.size wA W → Below w.heap.size w W) := fun W hW => HB0.out.trans (hW.mono HB0.out.size)
  clear hwA HB0
  go_region_held3 (fun W : World => W.cell? ⟨w.heap.size, 0, none⟩ = some (.int .u64 s) ∧ W.cell? ⟨w.heap.size, 1, none⟩ = some (.int .i64 v) ∧ W.cell? ⟨w.heap.size, 2, none⟩ = some (.int .i64 d) ∧ W.cell? ⟨w.heap.size, 3, none⟩ = some (.int .i64 l) ∧ W.cell? ⟨w.heap.size, 4, none⟩ = some (.int .i64 tt) ∧ W.cell? ⟨w.heap.size, 5, none⟩ = some (.int .i64 h)) (first | (with_reducible exact HK.out _ (Below.refl _ _)) | (with_reducible exact HK.out _ HV.out))
    (first
      | (go_at_call 15; (with_reducible refine (HMk.out _ HV.out).mono ?_); rintro e y1 ⟨u1, rfl, ho, hb⟩; replace HV := hid (HV.out.trans (hb.mono HV.out.size)); obtain ⟨p1, q1, rfl, hr1⟩ := Reads.own (k := .i64) ho; have HR1 := hid hr1; clear hb ho hr1)
      | (go_at_call 12; (with_reducible refine (HDr.out _ _ _ HR1.out).mono ?_); rintro e y2 ⟨rfl, hb⟩; replace HV := hid (HV.out.trans (hb.mono HV.out.size)); clear hb))
  all_goals
    go_wp2_with fail
    go_ret
    exact ⟨rfl, HX.out _ HV.out⟩
set_option maxHeartbeats 1000000 in
theorem snext_any (pm : Option Addr) (c : Cf) (a : Option Addr) (len cap : Nat) (zs : List Int) (s0 p0 : Int) (w : World) (hp : MdAt w pm c) (hm : mayB c = true) (ha : Reads .i64 w a len cap zs) (hlen : len ≤ 1000) :
    Calls Try.prog 16 #[.pointer pm, .slice a len cap, .int .u64 s0, .int .u64 p0] w fun e w' => e = .returned (.int .i64 (nextZ c zs s0 p0)) ∧ Below w.heap.size w w' := by
  have hmp := may_parts hm
  obtain ⟨V, hV⟩ : ∃ V, c.vocab.toNat = V := ⟨_, rfl⟩
  have hV64 : V ≤ 64 := by omega
  have hC := config_any pm c w hp
  have HMk := hid fun (W : World) (hb : Below w.heap.size w W) => marks_any pm c a len cap zs W (hp.below hb) hm (ha.below hb) hlen
  rw [hV] at HMk
  have HDr := hid fun (W : World) a' c' (hr : Reads .i64 W a' V c' (rowK (markZ c zs) V)) => draw_any a' V c' (rowK (markZ c zs) V) c.top c.heat s0 p0 W hr (by omega)
  have HNx : Hid (drawZ (rowK (markZ c zs) V) c.top c.heat s0 p0 = nextZ c zs s0 p0) := by unfold Hid nextZ; rw [hV]
  rw [HNx.out] at HDr
  clear ha hm hmp hV HNx hp
  generalize rowK (markZ c zs) V = ms at *
  generalize nextZ c zs s0 p0 = td at *
  obtain ⟨s, v, d, l, tt, h⟩ := c
  unfold CfV at hC
  simp only at hC HDr ⊢
  go_enter Try.func16, Try.ntmps16
  go_wp2_with fail
  refine hC.mono ?_
  rintro e w1 ⟨rfl, hb⟩
  obtain ⟨wA, hwA⟩ : ∃ wA, wA = w1.alloc (.cells #[.int .u64 s, .int .i64 v, .int .i64 d, .int .i64 l, .int .i64 tt, .int .i64 h] 32) := ⟨_, rfl⟩
  have hB1 : Below w1.heap.size w1 wA := by rw [hwA]; exact (Below.refl _ _).alloc (Nat.le_refl _) _
  have HBA := hid (hb.trans (hB1.mono hb.size))
  have HK := hid fun (W : World) (hbW : Below wA.heap.size wA W) => Cf_cells (c := ⟨s, v, d, l, tt, h⟩) (block_below (show wA.heap[w1.heap.size]? = some (.cells (CfV ⟨s, v, d, l, tt, h⟩) 32 (0, 0)) by rw [hwA]; exact heap_alloc_new w1 _) hbW)
  simp only at HK
  have HX : Hid (∀ W : World, Below wA.heap.size wA W → Below w.heap.size w W) := fun W hW => HBA.out.trans (hW.mono HBA.out.size)
  have HV : Hid (Below wA.heap.size wA wA.drew) := (Below.refl _ _).drew
  clear hC hb hB1 HBA
  go_wp2_with fail
  rw [← hwA]
  clear hwA
  go_region_held3 (fun W : World => W.cell? ⟨w1.heap.size, 0, none⟩ = some (.int .u64 s) ∧ W.cell? ⟨w1.heap.size, 1, none⟩ = some (.int .i64 v) ∧ W.cell? ⟨w1.heap.size, 2, none⟩ = some (.int .i64 d) ∧ W.cell? ⟨w1.heap.size, 3, none⟩ = some (.int .i64 l) ∧ W.cell? ⟨w1.heap.size, 4, none⟩ = some (.int .i64 tt) ∧ W.cell? ⟨w1.heap.size, 5, none⟩ = some (.int .i64 h)) (first | (with_reducible exact HK.out _ (Below.refl _ _)) | (with_reducible exact HK.out _ HV.out))
    (first
      | (go_at_call 14; (with_reducible refine (HMk.out _ (HX.out _ HV.out)).mono ?_); rintro e y1 ⟨g1, q1, rfl, ho, hb⟩; replace HV := hid (HV.out.trans (hb.mono HV.out.size)); have HR1 := hid ho.reads; clear hb ho)
      | (go_at_call 11; (with_reducible refine (HDr.out _ _ _ HR1.out).mono ?_); rintro e y2 ⟨rfl, hb⟩; replace HV := hid (HV.out.trans (hb.mono HV.out.size)); clear hb))
  all_goals
    go_wp2_with fail
    go_ret
    exact ⟨rfl, HX.out _ HV.out⟩
end Go.Proofs.Ytpllffekebkacaa
