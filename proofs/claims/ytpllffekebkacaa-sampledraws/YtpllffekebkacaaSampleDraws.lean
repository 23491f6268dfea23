/-
  Proved: the likeliest of any marks, and what is drawn of them, are the document's: SampleDraws hands back true for whatever marks, top, heat, seed and place.
-/
import Derived.Test.YtpllffekebkacaaRows
import Derived.Test.YtpllffekebkacaaSaArgs
import Derived.Test.YtpllffekebkacaaRSa
import Derived.Deep.RegionHeld3
import Derived.WalkKit
import Derived.ProofKit
import Derived.OpenShut
import Derived.ShutString
import Derived.ChangeOld
import Derived.Below
namespace Go.Proofs.Ytpllffekebkacaa.sampleDraws
open Go.ChangeShapes Go.WideShapes Go.ChangeAt Go.RowKit
open Go.ChangeMaps (open_string shut_string)
set_option linter.unusedVariables false

theorem own : ownKnob Try.prog.godebug = none := by kernel_rfl
theorem laidOut : laidOutB Try.prog = true := by kernel_rfl

/-! ### The walk -/
set_option maxRecDepth 1000000 in
set_option maxHeartbeats 8000000 in
theorem walk (a0 : Option Addr) (l0 c0 : Nat) (z0 : List Int) (d1 : Dr) (w : World) (ga0 : Reads .i64 w a0 l0 c0 z0) :
    Calls Try.prog 3 #[.slice a0 l0 c0, .agg (DrV d1)] w fun e w' => e = .returned (.bool true) ∧ Below w.heap.size w w' := by
  obtain ⟨wA, hwA⟩ : ∃ wA, wA = w.alloc (.cells (DrV d1) 25) := ⟨_, rfl⟩
  have HB0 : Hid (Below w.heap.size w wA) := by unfold Hid; rw [hwA]; exact (Below.refl _ _).alloc (Nat.le_refl _) _
  have HK : Hid (∀ W : World, Below wA.heap.size wA W → W.cell? ⟨w.heap.size, 0, none⟩ = some (.int .i64 d1.top) ∧ W.cell? ⟨w.heap.size, 1, none⟩ = some (.int .i64 d1.heat) ∧ W.cell? ⟨w.heap.size, 2, none⟩ = some (.int .u64 d1.seed) ∧ W.cell? ⟨w.heap.size, 3, none⟩ = some (.int .u64 d1.place)) := by
    intro W hb
    have e1 : wA.heap[w.heap.size]? = some (.cells (DrV d1) 25 (0, 0)) := by rw [hwA]; exact heap_alloc_new w _
    exact Dr_cells (block_below e1 hb)
  have HR : Hid (∀ W : World, Below wA.heap.size wA W → Reads .i64 W a0 l0 c0 z0) := fun W hb => (ga0.below HB0.out).below hb
  have hF := far11_any a0 l0 c0 z0 wA (ga0.below HB0.out)
  obtain ⟨tt, h, s, p⟩ := d1
  unfold DrV at hwA
  simp only at HK hwA
  unfold DrV
  simp only
  clear ga0
  go_enter Try.func3, Try.ntmps3
  go_wp2_with fail
  rw [← hwA]
  refine hF.mono ?_
  rintro e w' ⟨rfl, rfl⟩
  rename World => wA
  clear hwA hF
  by_cases hl : 200 < l0
  · rw [decide_eq_true hl]
    have HW0 := HB0
    clear HK HR
    go_wp2_with fail
    refine (alive11_any _).mono ?_
    rintro e wz ⟨rfl, hb⟩
    have HZ := hid (HW0.out.trans (hb.mono HW0.out.size))
    clear hb
    go_wp2
    go_ret
    exact ⟨rfl, HZ.out⟩
  · rw [decide_eq_false hl]
    have HBe := hid fun W (hb : Below wA.heap.size wA W) => best_any a0 l0 c0 z0 W (HR.out W hb) (by omega)
    have HRB := hid fun W (hb : Below wA.heap.size wA W) => rbest_any a0 l0 c0 z0 W (HR.out W hb) (by omega)
    have HDr := hid fun W (hb : Below wA.heap.size wA W) => draw_any a0 l0 c0 z0 tt h s p W (HR.out W hb) (by omega)
    have HRD := hid fun W (hb : Below wA.heap.size wA W) => rdraw_any a0 l0 c0 z0 tt h s p W (HR.out W hb) (by omega)
    have HV : Hid (Below wA.heap.size wA wA.drew) := (Below.refl _ _).drew
    have HX : Hid (∀ W : World, Below wA.heap.size wA W → Below w.heap.size w W) := fun W hW => HB0.out.trans (hW.mono HB0.out.size)
    clear HB0 HR
    generalize bestZ z0 = tb at *
    generalize drawZ z0 tt h s p = td at *
    go_wp2_with fail
    go_region_held3 (fun W : World => W.cell? ⟨w.heap.size, 0, none⟩ = some (.int .i64 tt) ∧ W.cell? ⟨w.heap.size, 1, none⟩ = some (.int .i64 h) ∧ W.cell? ⟨w.heap.size, 2, none⟩ = some (.int .u64 s) ∧ W.cell? ⟨w.heap.size, 3, none⟩ = some (.int .u64 p)) (first | (with_reducible exact HK.out _ (Below.refl _ _)) | (with_reducible exact HK.out _ HV.out))
      (first
        | (go_at_call 9; (with_reducible refine (HBe.out _ HV.out).mono ?_); rintro e y1 ⟨rfl, hb⟩; replace HV := hid (HV.out.trans (hb.mono HV.out.size)); clear hb)
        | (go_at_call 10; (with_reducible refine (HRB.out _ HV.out).mono ?_); rintro e y2 ⟨rfl, hb⟩; replace HV := hid (HV.out.trans (hb.mono HV.out.size)); clear hb)
        | (go_at_call 11; (with_reducible refine (HDr.out _ HV.out).mono ?_); rintro e y3 ⟨rfl, hb⟩; replace HV := hid (HV.out.trans (hb.mono HV.out.size)); clear hb)
        | (go_at_call 12; (with_reducible refine (HRD.out _ HV.out).mono ?_); rintro e y4 ⟨rfl, hb⟩; replace HV := hid (HV.out.trans (hb.mono HV.out.size)); clear hb)
        | (go_at_call 8; (with_reducible refine (alive11_any _).mono ?_); rintro e y5 ⟨rfl, hb⟩; replace HV := hid (HV.out.trans (hb.mono HV.out.size)); clear hb))
    all_goals
      go_wp2_with fail
      go_ret
      exact ⟨rfl, HX.out _ HV.out⟩

/-! ### The row's step -/
set_option maxRecDepth 1000000 in
theorem lifted (os : Os) (started : os.Started) (H : Type) (enc : TypeId × Value → H) :
    ReturnsInHanded {} Try.checked os 3 .any (Rows.sampleDrawsSpec.pre6 enc Try.prog Try.f3 Rows.sampleDrawsRow.domain false) (Rows.sampleDrawsSpec.post enc Try.prog Try.f3 false true false false) := by
  refine returnsInHanded_of_change (C := Try.checked) own started (by kernel_rfl) Try.func3
    (ChangeSpec.witness6 (enc := enc) (C := Try.checked) false ⟨#[], #[.slice none 0 0, .agg #[.int .i64 0, .int .i64 0, .int .u64 0, .int .u64 0]], []⟩ 8 (by kernel_rfl) (by kernel_rfl) (by kernel_rfl) (by kernel_rfl)) ?_
  intro W base args ds gs before hval0 hW hcnd _
  have hval : ∀ (j : Nat) t v, Try.f3.params[j]? = some t → args[j]? = some v → Value.okWide Try.prog W .any base t v := hval0
  have hW' := hW
  obtain ⟨p, q, hA0, hV, rfl, hfz, hnd⟩ := hW
  have hA : DataW.TrodAll enc Try.prog W 0 (fun _ => true) true Try.f3.params.toList args.toList ds p := hA0
  rw [Try.params3] at hA hval
  obtain ⟨v0, vs0, d0, ds0, p0, q0, hargs, rfl, rfl, h0, r0⟩ := trodAll_cons hA
  obtain ⟨v1, vs1, d1, ds1, p1, q1, rfl, rfl, rfl, h1, r1⟩ := trodAll_cons r0
  obtain ⟨rfl, rfl, rfl⟩ := trodAll_nil r1
  obtain rfl : args = #[v0, v1] := by cases args; simp_all
  obtain ⟨rfl, rfl⟩ := trodVars_none hV
  have k0 := h0
  have lt0 : ∀ x ∈ p0, x.block < W.heap.size := by obtain ⟨m, hm⟩ := k0; exact DataW.trod_lt m _ _ _ hm
  obtain ⟨a0, l0, c0, z0, rfl, ga0⟩ := ints_open (hval 0 22 v0 rfl rfl) h0
  have k1 := h1
  have lt1 : ∀ x ∈ p1, x.block < W.heap.size := by obtain ⟨m, hm⟩ := k1; exact DataW.trod_lt m _ _ _ hm
  obtain ⟨d1, rfl⟩ := draws_open (hval 1 25 v1 rfl rfl) h1
  clear hA0 hval0
  refine (walk a0 l0 c0 z0 d1 W ga0).mono fun e W' ⟨he, bel⟩ => ?_
  subst he
  exact ⟨_, rfl, _, _, _, [], _, [], hW', trodAll_mk1 (shut_bool Try.underlying4 _), (trodAll_cons_mk (Below.trod laidOut (by kernel_rfl) (of_decide_eq_true (by kernel_rfl)) k0 bel lt0) (trodAll_cons_mk (Below.trod laidOut (by kernel_rfl) (of_decide_eq_true (by kernel_rfl)) k1 bel lt1) trodAll_mk0)), rfl, bel.frame _, fun h => by cases h⟩

theorem over : Rows.sampleDrawsRow.holds Try.pinned (OpenSpec.ofChange Rows.sampleDrawsSpec) :=
  OpenClaim.holds_of_wide 3 Try.f3 rfl rfl rfl rfl rfl rfl rfl ⟨rfl, rfl, rfl, rfl, rfl⟩ rfl rfl rfl rfl rfl (by kernel_rfl) Try.func3 (by kernel_rfl)
    (of_decide_eq_true (by kernel_rfl)) (by unfold Func.isWrapper; first | (rw [if_pos (by decide +kernel)]; kernel_rfl) | (rw [if_neg (by decide +kernel)]; exact ⟨rfl, rfl⟩))
    (fun os started H enc _ => lifted os started H enc)

/-- The statement. -/
theorem proved : Rows.SampleDrawsSaid := over
#print axioms proved
end Go.Proofs.Ytpllffekebkacaa.sampleDraws
