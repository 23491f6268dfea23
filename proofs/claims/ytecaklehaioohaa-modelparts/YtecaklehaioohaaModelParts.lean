/-
  Proved: a lesser Vocab, fewer layers, another Top or Heat turn no row that is there: ModelParts hands back true for whatever configurations and numbers.
-/
import Derived.Test.YtecaklehaioohaaRows
import Derived.Test.YtecaklehaioohaaSkips
import Derived.Deep.RegionHeld3
import Derived.WalkKit
import Derived.ProofKit
import Derived.OpenShut
import Derived.ShutString
import Derived.ChangeOld
import Derived.Below
namespace Go.Proofs.Ytecaklehaioohaa.modelParts
open Go.ChangeShapes Go.WideShapes Go.ChangeAt Go.RowKit
open Go.ChangeMaps (open_string shut_string)
set_option linter.unusedVariables false

theorem own : ownKnob Try.prog.godebug = none := by kernel_rfl
theorem laidOut : laidOutB Try.prog = true := by kernel_rfl

/-! ### The walk -/
set_option maxRecDepth 1000000 in
set_option maxHeartbeats 8000000 in
theorem walk (c0 : Cf) (c1 : Cf) (a2 b2 : Int) (w : World) :
    Calls Try.prog 4 #[.agg (CfV c0), .agg (CfV c1), .agg #[.int .i64 a2, .int .i64 b2]] w fun e w' => e = .returned (.bool true) ∧ Below w.heap.size w w' := by
  obtain ⟨s, v, d, l, tt, h⟩ := c0
  obtain ⟨s2, v2, d2, l2, tt2, h2⟩ := c1
  have HB0 : Hid (Below w.heap.size w (((w.alloc (.cells (CfV ⟨s, v, d, l, tt, h⟩) 24)).alloc (.cells (CfV ⟨s, v2, d, l2, tt2, h2⟩) 24)).alloc (.cells #[.int .i64 a2, .int .i64 b2] 25)).drew) := ((((Below.refl _ _).alloc (Nat.le_refl _) _).alloc (by simp) _).alloc (by simp; omega) _).drew
  have HK : Hid (∀ W : World, Below (((w.alloc (.cells (CfV ⟨s, v, d, l, tt, h⟩) 24)).alloc (.cells (CfV ⟨s, v2, d, l2, tt2, h2⟩) 24)).alloc (.cells #[.int .i64 a2, .int .i64 b2] 25)).drew.heap.size (((w.alloc (.cells (CfV ⟨s, v, d, l, tt, h⟩) 24)).alloc (.cells (CfV ⟨s, v2, d, l2, tt2, h2⟩) 24)).alloc (.cells #[.int .i64 a2, .int .i64 b2] 25)).drew W → W.cell? ⟨w.heap.size, 0, none⟩ = some (.int .u64 s) ∧ W.cell? ⟨w.heap.size, 1, none⟩ = some (.int .i64 v) ∧ W.cell? ⟨w.heap.size, 2, none⟩ = some (.int .i64 d) ∧ W.cell? ⟨w.heap.size, 3, none⟩ = some (.int .i64 l) ∧ W.cell? ⟨w.heap.size, 4, none⟩ = some (.int .i64 tt) ∧ W.cell? ⟨w.heap.size, 5, none⟩ = some (.int .i64 h) ∧ W.cell? ⟨w.heap.size + 1, 0, none⟩ = some (.int .u64 s) ∧ W.cell? ⟨w.heap.size + 1, 1, none⟩ = some (.int .i64 v2) ∧ W.cell? ⟨w.heap.size + 1, 2, none⟩ = some (.int .i64 d) ∧ W.cell? ⟨w.heap.size + 1, 3, none⟩ = some (.int .i64 l2) ∧ W.cell? ⟨w.heap.size + 1, 4, none⟩ = some (.int .i64 tt2) ∧ W.cell? ⟨w.heap.size + 1, 5, none⟩ = some (.int .i64 h2) ∧ W.cell? ⟨w.heap.size + 1 + 1, 0, none⟩ = some (.int .i64 a2) ∧ W.cell? ⟨w.heap.size + 1 + 1, 1, none⟩ = some (.int .i64 b2)) := by
    intro W hW
    have e1 : (((w.alloc (.cells (CfV ⟨s, v, d, l, tt, h⟩) 24)).alloc (.cells (CfV ⟨s, v2, d, l2, tt2, h2⟩) 24)).alloc (.cells #[.int .i64 a2, .int .i64 b2] 25)).heap[w.heap.size]? = some (.cells (CfV ⟨s, v, d, l, tt, h⟩) 24 (0, 0)) := by
      rw [Below.heap_alloc _ _ _ (by simp; omega), Below.heap_alloc _ _ _ (by simp)]; exact heap_alloc_new w _
    have e2 : (((w.alloc (.cells (CfV ⟨s, v, d, l, tt, h⟩) 24)).alloc (.cells (CfV ⟨s, v2, d, l2, tt2, h2⟩) 24)).alloc (.cells #[.int .i64 a2, .int .i64 b2] 25)).heap[w.heap.size + 1]? = some (.cells (CfV ⟨s, v2, d, l2, tt2, h2⟩) 24 (0, 0)) := by
      rw [Below.heap_alloc _ _ _ (by simp)]
      have := heap_alloc_new (w.alloc (.cells (CfV ⟨s, v, d, l, tt, h⟩) 24)) (.cells (CfV ⟨s, v2, d, l2, tt2, h2⟩) 24)
      rw [World.size_alloc] at this
      exact this
    have e3 : (((w.alloc (.cells (CfV ⟨s, v, d, l, tt, h⟩) 24)).alloc (.cells (CfV ⟨s, v2, d, l2, tt2, h2⟩) 24)).alloc (.cells #[.int .i64 a2, .int .i64 b2] 25)).heap[w.heap.size + 1 + 1]? = some (.cells #[.int .i64 a2, .int .i64 b2] 25 (0, 0)) := by
      have := heap_alloc_new ((w.alloc (.cells (CfV ⟨s, v, d, l, tt, h⟩) 24)).alloc (.cells (CfV ⟨s, v2, d, l2, tt2, h2⟩) 24)) (.cells #[.int .i64 a2, .int .i64 b2] 25)
      rw [World.size_alloc, World.size_alloc] at this
      exact this
    have hW' : Below (((w.alloc (.cells (CfV ⟨s, v, d, l, tt, h⟩) 24)).alloc (.cells (CfV ⟨s, v2, d, l2, tt2, h2⟩) 24)).alloc (.cells #[.int .i64 a2, .int .i64 b2] 25)).heap.size (((w.alloc (.cells (CfV ⟨s, v, d, l, tt, h⟩) 24)).alloc (.cells (CfV ⟨s, v2, d, l2, tt2, h2⟩) 24)).alloc (.cells #[.int .i64 a2, .int .i64 b2] 25)) W := (Below.refl _ _).drew.trans hW
    obtain ⟨x0, x1, x2, x3, x4, x5⟩ := Cf_cells (block_below e1 hW')
    obtain ⟨y0, y1, y2, y3, y4, y5⟩ := Cf_cells (block_below e2 hW')
    have e3 := block_below e3 hW'
    exact ⟨x0, x1, x2, x3, x4, x5, y0, y1, y2, y3, y4, y5, by rw [cell_of_row _ _ _ _ _ _ e3]; rfl, by rw [cell_of_row _ _ _ _ _ _ e3]; rfl⟩
  cases hc : mayB ⟨s, v, d, l, tt, h⟩ with
  | false =>
    have HN := hid fun W => new_no _ W hc
    have HN2y := hid fun W => new_yes ⟨s, v2, d, l2, tt2, h2⟩ W
    have HN2n := hid fun W => new_no ⟨s, v2, d, l2, tt2, h2⟩ W
    clear hc
    have hc2 : mayB ⟨s, v2, d, l2, tt2, h2⟩ = true ∨ mayB ⟨s, v2, d, l2, tt2, h2⟩ = false := by cases mayB ⟨s, v2, d, l2, tt2, h2⟩ <;> simp
    have HN2 : Hid (∀ W : World, Calls Try.prog 6 #[.agg (CfV ⟨s, v2, d, l2, tt2, h2⟩)] W fun e w' => ∃ (p : Option Addr) (n : Int), e = .returned (.tuple #[.pointer p, .int .i64 n]) ∧ Below W.heap.size W w') := by
      intro W
      rcases hc2 with h | h
      · exact (HN2y.out W h).mono fun e w' ⟨g, h1, _, _, h4⟩ => ⟨_, _, h1, h4⟩
      · exact (HN2n.out W h).mono fun e w' ⟨h1, h4⟩ => ⟨_, _, h1, h4⟩
    clear hc2 HN2y HN2n
    unfold CfV at *
    simp only at HB0 HK HN HN2 ⊢
    go_enter Try.func4, Try.ntmps4
    go_wp2_with fail
    go_region
    go_wp2_with fail
    refine (HN.out _).mono ?_
    rintro e w1 ⟨rfl, hb⟩
    have HW := hid hb
    obtain ⟨x0, x1, x2, x3, x4, x5, y0, y1, y2, y3, y4, y5, z0, z1⟩ := HK.out _ HW.out
    clear HN hb
    go_wp2_with fail
    refine (HN2.out _).mono ?_
    rintro e w2 ⟨p2, n2, rfl, hb⟩
    replace HW := hid (HW.out.trans (hb.mono HW.out.size))
    clear hb x0 x1 x2 x3 x4 x5 y0 y1 y2 y3 y4 y5 z0 z1 HN2 HK
    go_wp2_with fail
    refine (alive_any _).mono ?_
    rintro e w5 ⟨rfl, hb⟩
    replace HW := hid (HB0.out.trans ((HW.out.trans (hb.mono HW.out.size)).mono HB0.out.size))
    clear hb HB0
    go_wp2
    go_ret
    exact ⟨rfl, HW.out⟩
  | true =>
  cases hc2 : mayB ⟨s, v2, d, l2, tt2, h2⟩ with
  | false =>
    have HN := hid fun W => new_yes _ W hc
    have HN2 := hid fun W => new_no _ W hc2
    clear hc hc2
    unfold CfV at *
    simp only at HB0 HK HN HN2 ⊢
    go_enter Try.func4, Try.ntmps4
    go_wp2_with fail
    go_region
    go_wp2_with fail
    refine (HN.out _).mono ?_
    rintro e w1 ⟨g, rfl, _, _, hb⟩
    have HW := hid hb
    obtain ⟨x0, x1, x2, x3, x4, x5, y0, y1, y2, y3, y4, y5, z0, z1⟩ := HK.out _ HW.out
    clear HN hb
    go_wp2_with fail
    refine (HN2.out _).mono ?_
    rintro e w2 ⟨rfl, hb⟩
    replace HW := hid (HW.out.trans (hb.mono HW.out.size))
    clear hb x0 x1 x2 x3 x4 x5 y0 y1 y2 y3 y4 y5 z0 z1 HN2 HK
    go_wp2_with fail
    refine (alive_any _).mono ?_
    rintro e w5 ⟨rfl, hb⟩
    replace HW := hid (HB0.out.trans ((HW.out.trans (hb.mono HW.out.size)).mono HB0.out.size))
    clear hb HB0
    go_wp2
    go_ret
    exact ⟨rfl, HW.out⟩
  | true =>
    have HN := hid fun W => new_yes _ W hc
    have HN2 := hid fun W => new_yes _ W hc2
    have HTa := hid fun p W (hp : MdAt W p ⟨s, v, d, l, tt, h⟩) => token_g p _ a2 W hp hc
    have HTb := hid fun p W (hp : MdAt W p ⟨s, v2, d, l2, tt2, h2⟩) => token_g p _ a2 W hp hc2
    have HRa := hid fun p W (hp : MdAt W p ⟨s, v, d, l, tt, h⟩) => rows_g p _ a2 b2 W hp hc
    have HRb := hid fun p W (hp : MdAt W p ⟨s, v2, d, l2, tt2, h2⟩) => rows_g p _ a2 b2 W hp hc2
    have HPa := hid fun p W (hp : MdAt W p ⟨s, v, d, l, tt, h⟩) => place_g p _ b2 W hp hc
    have HPb := hid fun p W (hp : MdAt W p ⟨s, v2, d, l2, tt2, h2⟩) => place_g p _ b2 W hp hc2
    rw [show plL ⟨s, v2, d, l2, tt2, h2⟩ b2 = plL ⟨s, v, d, l, tt, h⟩ b2 from rfl] at HPb
    have ht16 := tokL_len hc a2
    have hp16 := plL_len hc b2
    have hr16 := tabL_len hc a2 b2
    have hTT : Hid (a2 < v → a2 < v2 → tokL ⟨s, v2, d, l2, tt2, h2⟩ a2 = tokL ⟨s, v, d, l, tt, h⟩ a2) := by
      intro h1 h2
      unfold tokL
      simp only [h1, h2, and_true]
    have hLL : Hid (a2 < l → a2 < l2 → tabL ⟨s, v2, d, l2, tt2, h2⟩ a2 b2 = tabL ⟨s, v, d, l, tt, h⟩ a2 b2) := by
      intro h1 h2
      unfold tabL
      simp only [h1, h2, true_and]
    clear hc hc2
    obtain ⟨mv, hmv⟩ : ∃ m : Int, (if v2 < v then v2 else v) = m := ⟨_, rfl⟩
    obtain ⟨ml, hml⟩ : ∃ m : Int, (if l2 < l then l2 else l) = m := ⟨_, rfl⟩
    have HMV : Hid (mv ≤ v ∧ mv ≤ v2) := by unfold Hid; rw [← hmv]; split <;> omega
    have HML : Hid (ml ≤ l ∧ ml ≤ l2) := by unfold Hid; rw [← hml]; split <;> omega
    generalize plL ⟨s, v, d, l, tt, h⟩ b2 = ys at *
    unfold CfV at HB0 HK HN HN2 ⊢
    simp only at HB0 HK HN HN2 ⊢
    go_enter Try.func4, Try.ntmps4
    go_wp2_with fail
    go_region
    go_wp2_with fail
    refine (HN.out _).mono ?_
    rintro e w1 ⟨g, rfl, _, hM, hb⟩
    have HMd : Hid (MdAt w1 (some ⟨g, 0, none⟩) ⟨s, v, d, l, tt, h⟩) := .inr ⟨g, rfl, hM⟩
    have HW := hid hb
    obtain ⟨x0, x1, x2, x3, x4, x5, y0, y1, y2, y3, y4, y5, z0, z1⟩ := HK.out _ HW.out
    clear HN hb hM
    go_wp2_with fail
    refine (HN2.out _).mono ?_
    rintro e w2 ⟨g2, rfl, _, hM, hb⟩
    replace HMd := hid (HMd.out.below hb)
    have HMd2 : Hid (MdAt w2 (some ⟨g2, 0, none⟩) ⟨s, v2, d, l2, tt2, h2⟩) := .inr ⟨g2, rfl, hM⟩
    replace HW := hid (HW.out.trans (hb.mono HW.out.size))
    clear hb x0 x1 x2 x3 x4 x5 y0 y1 y2 y3 y4 y5 z0 z1 HN2 hM
    have HKK : Hid (∀ W : World, Below w2.heap.size w2 W → W.cell? ⟨w.heap.size, 0, none⟩ = some (.int .u64 s) ∧ W.cell? ⟨w.heap.size, 1, none⟩ = some (.int .i64 v) ∧ W.cell? ⟨w.heap.size, 2, none⟩ = some (.int .i64 d) ∧ W.cell? ⟨w.heap.size, 3, none⟩ = some (.int .i64 l) ∧ W.cell? ⟨w.heap.size, 4, none⟩ = some (.int .i64 tt) ∧ W.cell? ⟨w.heap.size, 5, none⟩ = some (.int .i64 h) ∧ W.cell? ⟨w.heap.size + 1, 0, none⟩ = some (.int .u64 s) ∧ W.cell? ⟨w.heap.size + 1, 1, none⟩ = some (.int .i64 v2) ∧ W.cell? ⟨w.heap.size + 1, 2, none⟩ = some (.int .i64 d) ∧ W.cell? ⟨w.heap.size + 1, 3, none⟩ = some (.int .i64 l2) ∧ W.cell? ⟨w.heap.size + 1, 4, none⟩ = some (.int .i64 tt2) ∧ W.cell? ⟨w.heap.size + 1, 5, none⟩ = some (.int .i64 h2) ∧ W.cell? ⟨w.heap.size + 1 + 1, 0, none⟩ = some (.int .i64 a2) ∧ W.cell? ⟨w.heap.size + 1 + 1, 1, none⟩ = some (.int .i64 b2)) := fun W hW => HK.out _ (HW.out.trans (hW.mono HW.out.size))
    have HMa : Hid (∀ W : World, Below w2.heap.size w2 W → MdAt W (some ⟨g, 0, none⟩) ⟨s, v, d, l, tt, h⟩) := fun W hW => HMd.out.below hW
    have HMb : Hid (∀ W : World, Below w2.heap.size w2 W → MdAt W (some ⟨g2, 0, none⟩) ⟨s, v2, d, l2, tt2, h2⟩) := fun W hW => HMd2.out.below hW
    have HV : Hid (Below w2.heap.size w2 w2.drew) := (Below.refl _ _).drew
    have HX : Hid (∀ W : World, Below w2.heap.size w2 W → Below w.heap.size w W) := fun W hW => HB0.out.trans ((HW.out.trans (hW.mono HW.out.size)).mono HB0.out.size)
    clear HW HMd HMd2 HB0 HK
    have HEnd : Hid (∀ W : World, Below w2.heap.size w2 W → Below w2.heap.size w2 W.drew) := fun W h => h.drew
    go_wp2_with fail
    by_cases hT : a2 < mv
    · by_cases hL : a2 < ml
      · have hT : a2 < mv := hT
        rw [hTT.out (by have := HMV.out; omega) (by have := HMV.out; omega)] at HTb
        generalize tokL ⟨s, v, d, l, tt, h⟩ a2 = xs at *
        have hL : a2 < ml := hL
        rw [hLL.out (by have := HML.out; omega) (by have := HML.out; omega)] at HRb
        generalize tabL ⟨s, v, d, l, tt, h⟩ a2 b2 = ls at *
        clear hTT hLL HMV HML
        go_region_held3 (fun W : World => W.cell? ⟨w.heap.size, 0, none⟩ = some (.int .u64 s) ∧ W.cell? ⟨w.heap.size, 1, none⟩ = some (.int .i64 v) ∧ W.cell? ⟨w.heap.size, 2, none⟩ = some (.int .i64 d) ∧ W.cell? ⟨w.heap.size, 3, none⟩ = some (.int .i64 l) ∧ W.cell? ⟨w.heap.size, 4, none⟩ = some (.int .i64 tt) ∧ W.cell? ⟨w.heap.size, 5, none⟩ = some (.int .i64 h) ∧ W.cell? ⟨w.heap.size + 1, 0, none⟩ = some (.int .u64 s) ∧ W.cell? ⟨w.heap.size + 1, 1, none⟩ = some (.int .i64 v2) ∧ W.cell? ⟨w.heap.size + 1, 2, none⟩ = some (.int .i64 d) ∧ W.cell? ⟨w.heap.size + 1, 3, none⟩ = some (.int .i64 l2) ∧ W.cell? ⟨w.heap.size + 1, 4, none⟩ = some (.int .i64 tt2) ∧ W.cell? ⟨w.heap.size + 1, 5, none⟩ = some (.int .i64 h2) ∧ W.cell? ⟨w.heap.size + 1 + 1, 0, none⟩ = some (.int .i64 a2) ∧ W.cell? ⟨w.heap.size + 1 + 1, 1, none⟩ = some (.int .i64 b2)) (first | (with_reducible exact HKK.out _ (Below.refl _ _)) | (with_reducible exact HKK.out _ HV.out))
              (first
                | (go_at_call 12; (with_reducible refine (HTa.out _ _ (HMa.out _ HV.out)).mono ?_); rintro e y2 ⟨u1, rfl, ho, hb⟩; replace HV := hid (HV.out.trans (hb.mono HV.out.size)); obtain ⟨p1, q1, rfl, hr1⟩ := Reads.own (k := .i64) ho; have HR1 := hid hr1; clear hb ho hr1)
                | (go_at_call 12; (with_reducible refine (HTb.out _ _ (HMb.out _ HV.out)).mono ?_); rintro e y3 ⟨u2, rfl, ho, hb⟩; replace HV := hid (HV.out.trans (hb.mono HV.out.size)); obtain ⟨p2, q2, rfl, hr2⟩ := Reads.own (k := .i64) ho; have HR2 := hid hr2; replace HR1 := hid (HR1.out.below hb); clear hb ho hr2)
                | (go_at_call 11; (with_reducible refine (same_yes p1 p2 _ q1 q2 xs _ HR1.out HR2.out (by omega)).mono ?_); rintro e y4 ⟨rfl, hb⟩; replace HV := hid (HV.out.trans (hb.mono HV.out.size)); clear hb HR1 HR2)
                | (go_at_call 17; (with_reducible refine (HRa.out _ _ (HMa.out _ HV.out)).mono ?_); rintro e y8 ⟨p5, q5, hs5, rfl, hr5, hb⟩; replace HV := hid (HV.out.trans (hb.mono HV.out.size)); have HR5 := hid hr5; clear hb hr5)
                | (go_at_call 17; (with_reducible refine (HRb.out _ _ (HMb.out _ HV.out)).mono ?_); rintro e y9 ⟨p6, q6, hs6, rfl, hr6, hb⟩; replace HV := hid (HV.out.trans (hb.mono HV.out.size)); have HR6 := hid hr6; replace HR5 := hid (HR5.out.below hb); clear hb hr6)
                | (go_at_call 16; (with_reducible refine (rows_like p5 p6 _ q5 q6 hs5 hs6 ls _ HR5.out HR6.out (by omega)).mono ?_); rintro e y10 ⟨rfl, hb⟩; replace HV := hid (HV.out.trans (hb.mono HV.out.size)); clear hb HR5 HR6))
        all_goals
          have HVo := HV
          replace HV := hid (HEnd.out _ HV.out)
          go_wp2_with fail
          go_region_held3 (fun W : World => W.cell? ⟨w.heap.size, 0, none⟩ = some (.int .u64 s) ∧ W.cell? ⟨w.heap.size, 1, none⟩ = some (.int .i64 v) ∧ W.cell? ⟨w.heap.size, 2, none⟩ = some (.int .i64 d) ∧ W.cell? ⟨w.heap.size, 3, none⟩ = some (.int .i64 l) ∧ W.cell? ⟨w.heap.size, 4, none⟩ = some (.int .i64 tt) ∧ W.cell? ⟨w.heap.size, 5, none⟩ = some (.int .i64 h) ∧ W.cell? ⟨w.heap.size + 1, 0, none⟩ = some (.int .u64 s) ∧ W.cell? ⟨w.heap.size + 1, 1, none⟩ = some (.int .i64 v2) ∧ W.cell? ⟨w.heap.size + 1, 2, none⟩ = some (.int .i64 d) ∧ W.cell? ⟨w.heap.size + 1, 3, none⟩ = some (.int .i64 l2) ∧ W.cell? ⟨w.heap.size + 1, 4, none⟩ = some (.int .i64 tt2) ∧ W.cell? ⟨w.heap.size + 1, 5, none⟩ = some (.int .i64 h2) ∧ W.cell? ⟨w.heap.size + 1 + 1, 0, none⟩ = some (.int .i64 a2) ∧ W.cell? ⟨w.heap.size + 1 + 1, 1, none⟩ = some (.int .i64 b2)) (first | (with_reducible exact HKK.out _ HVo.out) | (with_reducible exact HKK.out _ HV.out))
              (first
                | (go_at_call 14; (with_reducible refine (HPa.out _ _ (HMa.out _ HV.out)).mono ?_); rintro e z5 ⟨u3, rfl, ho, hb⟩; replace HV := hid (HV.out.trans (hb.mono HV.out.size)); obtain ⟨p3, q3, rfl, hr3⟩ := Reads.own (k := .i64) ho; have HR3 := hid hr3; clear hb ho hr3)
                | (go_at_call 14; (with_reducible refine (HPb.out _ _ (HMb.out _ HV.out)).mono ?_); rintro e z6 ⟨u4, rfl, ho, hb⟩; replace HV := hid (HV.out.trans (hb.mono HV.out.size)); obtain ⟨p4, q4, rfl, hr4⟩ := Reads.own (k := .i64) ho; have HR4 := hid hr4; replace HR3 := hid (HR3.out.below hb); clear hb ho hr4)
                | (go_at_call 11; (with_reducible refine (same_yes p3 p4 _ q3 q4 ys _ HR3.out HR4.out (by omega)).mono ?_); rintro e z7 ⟨rfl, hb⟩; replace HV := hid (HV.out.trans (hb.mono HV.out.size)); clear hb HR3 HR4)
                | (go_at_call 9; (with_reducible refine (alive_any _).mono ?_); rintro e z11 ⟨rfl, hb⟩; replace HV := hid (HV.out.trans (hb.mono HV.out.size)); clear hb))
          all_goals
            go_wp2_with fail
            go_ret
            exact ⟨rfl, HX.out _ HV.out⟩
      · have hT : a2 < mv := hT
        rw [hTT.out (by have := HMV.out; omega) (by have := HMV.out; omega)] at HTb
        generalize tokL ⟨s, v, d, l, tt, h⟩ a2 = xs at *
        have dL : decide (a2 < ml) = false := decide_eq_false hL
        clear hTT hLL HMV HML
        refine wp_region_noPanic ?_
        refine wp_region_held_drew (S := fun W : World => W.cell? ⟨w.heap.size, 0, none⟩ = some (.int .u64 s) ∧ W.cell? ⟨w.heap.size, 1, none⟩ = some (.int .i64 v) ∧ W.cell? ⟨w.heap.size, 2, none⟩ = some (.int .i64 d) ∧ W.cell? ⟨w.heap.size, 3, none⟩ = some (.int .i64 l) ∧ W.cell? ⟨w.heap.size, 4, none⟩ = some (.int .i64 tt) ∧ W.cell? ⟨w.heap.size, 5, none⟩ = some (.int .i64 h) ∧ W.cell? ⟨w.heap.size + 1, 0, none⟩ = some (.int .u64 s) ∧ W.cell? ⟨w.heap.size + 1, 1, none⟩ = some (.int .i64 v2) ∧ W.cell? ⟨w.heap.size + 1, 2, none⟩ = some (.int .i64 d) ∧ W.cell? ⟨w.heap.size + 1, 3, none⟩ = some (.int .i64 l2) ∧ W.cell? ⟨w.heap.size + 1, 4, none⟩ = some (.int .i64 tt2) ∧ W.cell? ⟨w.heap.size + 1, 5, none⟩ = some (.int .i64 h2) ∧ W.cell? ⟨w.heap.size + 1 + 1, 0, none⟩ = some (.int .i64 a2) ∧ W.cell? ⟨w.heap.size + 1 + 1, 1, none⟩ = some (.int .i64 b2)) (by kernel_rfl) (HKK.out _ HV.out) (fun hHeld => ?_)
        refine takeH 0 (oi := ?oic0) ?hic0 (v := ?vc0) (by kernel_rfl) (by kernel_rfl) (by kernel_rfl) (fun _ _ _ h => h) ?hwc0 ?hyc0 hHeld ?_
        case hic0 => (simp only [List.getElem?_toArray, List.getElem?_cons_zero]; exact rfl)
        case hwc0 => rfl
        case hyc0 => (intro w hSw; (try dsimp only at hSw); go_simp; all_goals (with_reducible rfl))
        try simp only [Act.put, List.setIfInBounds_toArray, List.set_cons_zero, List.set_cons_succ]
        refine takeH 1 (oi := ?oic1) ?hic1 (v := ?vc1) (by kernel_rfl) (by kernel_rfl) (by kernel_rfl) (fun _ _ _ h => h) ?hwc1 ?hyc1 hHeld ?_
        case hic1 => (simp only [List.getElem?_toArray, List.getElem?_cons_succ, List.getElem?_cons_zero]; exact rfl)
        case hwc1 => rfl
        case hyc1 => (intro w hSw; (try dsimp only at hSw); go_simp; all_goals (with_reducible rfl))
        try simp only [Act.put, List.setIfInBounds_toArray, List.set_cons_zero, List.set_cons_succ]
        refine takeH 2 (oi := ?oic2) ?hic2 (v := ?vc2) (by kernel_rfl) (by kernel_rfl) (by kernel_rfl) (fun _ _ _ h => h) ?hwc2 ?hyc2 hHeld ?_
        case hic2 => (simp only [List.getElem?_toArray, List.getElem?_cons_succ, List.getElem?_cons_zero]; exact rfl)
        case hwc2 => rfl
        case hyc2 => (intro w hSw; (try dsimp only at hSw); go_simp; all_goals (with_reducible rfl))
        try simp only [Act.put, List.setIfInBounds_toArray, List.set_cons_zero, List.set_cons_succ]
        refine takeH 3 (oi := ?oic3) ?hic3 (v := ?vc3) (by kernel_rfl) (by kernel_rfl) (by kernel_rfl) (fun _ _ _ h => h) ?hwc3 ?hyc3 hHeld ?_
        case hic3 => (simp only [List.getElem?_toArray, List.getElem?_cons_succ, List.getElem?_cons_zero]; exact rfl)
        case hwc3 => rfl
        case hyc3 => (intro w hSw; (try dsimp only at hSw); go_simp; all_goals (with_reducible rfl))
        try simp only [Act.put, List.setIfInBounds_toArray, List.set_cons_zero, List.set_cons_succ]
        refine takeH 4 (oi := ?oic4) ?hic4 (v := ?vc4) (by kernel_rfl) (by kernel_rfl) (by kernel_rfl) (fun _ _ _ h => h) ?hwc4 ?hyc4 hHeld ?_
        case hic4 => (simp only [List.getElem?_toArray, List.getElem?_cons_succ, List.getElem?_cons_zero]; exact rfl)
        case hwc4 => rfl
        case hyc4 => (intro w hSw; (try dsimp only at hSw); go_simp; all_goals (with_reducible rfl))
        try simp only [Act.put, List.setIfInBounds_toArray, List.set_cons_zero, List.set_cons_succ]
        refine takeH 5 (oi := ?oic5) ?hic5 (v := ?vc5) (by kernel_rfl) (by kernel_rfl) (by kernel_rfl) (fun _ _ _ h => h) ?hwc5 ?hyc5 hHeld ?_
        case hic5 => (simp only [List.getElem?_toArray, List.getElem?_cons_succ, List.getElem?_cons_zero]; exact rfl)
        case hwc5 => rfl
        case hyc5 => (intro w hSw; (try dsimp only at hSw); go_simp; all_goals (with_reducible rfl))
        try simp only [Act.put, List.setIfInBounds_toArray, List.set_cons_zero, List.set_cons_succ]
        refine runH 6 (oi := ?oic6) ?hic6 (by kernel_rfl) (fun K hK => ?_)
        case hic6 => (simp only [List.getElem?_toArray, List.getElem?_cons_succ, List.getElem?_cons_zero]; exact rfl)
        go_simp
        refine hK.out _ _ ?_ (fun hHeld2 => ?_)
        · (try dsimp only); (first | (with_reducible exact HKK.out _ (Below.refl _ _)) | (with_reducible exact HKK.out _ HV.out))
        clear hK K hHeld
        have hHeld := hHeld2
        clear hHeld2
        try simp only [Act.put, List.setIfInBounds_toArray, List.set_cons_zero, List.set_cons_succ]
        refine takeH 7 (oi := ?oic7) ?hic7 (v := ?vc7) (by kernel_rfl) (by kernel_rfl) (by kernel_rfl) (fun _ _ _ h => h) ?hwc7 ?hyc7 hHeld ?_
        case hic7 => (simp only [List.getElem?_toArray, List.getElem?_cons_succ, List.getElem?_cons_zero]; exact rfl)
        case hwc7 => rfl
        case hyc7 => (intro w hSw; (try dsimp only at hSw); go_simp; all_goals (with_reducible rfl))
        try simp only [Act.put, List.setIfInBounds_toArray, List.set_cons_zero, List.set_cons_succ]
        refine takeH 8 (oi := ?oic8) ?hic8 (v := ?vc8) (by kernel_rfl) (by kernel_rfl) (by kernel_rfl) (fun _ _ _ h => h) ?hwc8 ?hyc8 hHeld ?_
        case hic8 => (simp only [List.getElem?_toArray, List.getElem?_cons_succ, List.getElem?_cons_zero]; exact rfl)
        case hwc8 => rfl
        case hyc8 => (intro w hSw; (try dsimp only at hSw); go_simp; all_goals (with_reducible rfl))
        try simp only [Act.put, List.setIfInBounds_toArray, List.set_cons_zero, List.set_cons_succ]
        refine takeH 9 (oi := ?oic9) ?hic9 (v := ?vc9) (by kernel_rfl) (by kernel_rfl) (by kernel_rfl) (fun _ _ _ h => h) ?hwc9 ?hyc9 hHeld ?_
        case hic9 => (simp only [List.getElem?_toArray, List.getElem?_cons_succ, List.getElem?_cons_zero]; exact rfl)
        case hwc9 => rfl
        case hyc9 => (intro w hSw; (try dsimp only at hSw); go_simp; all_goals (with_reducible rfl))
        try simp only [Act.put, List.setIfInBounds_toArray, List.set_cons_zero, List.set_cons_succ]
        refine takeH 10 (oi := ?oic10) ?hic10 (v := ?vc10) (by kernel_rfl) (by kernel_rfl) (by kernel_rfl) (fun _ _ _ h => h) ?hwc10 ?hyc10 hHeld ?_
        case hic10 => (simp only [List.getElem?_toArray, List.getElem?_cons_succ, List.getElem?_cons_zero]; exact rfl)
        case hwc10 => rfl
        case hyc10 => (intro w hSw; (try dsimp only at hSw); go_simp; all_goals (with_reducible rfl))
        try simp only [Act.put, List.setIfInBounds_toArray, List.set_cons_zero, List.set_cons_succ]
        refine takeH 11 (oi := ?oic11) ?hic11 (v := ?vc11) (by kernel_rfl) (by kernel_rfl) (by kernel_rfl) (fun _ _ _ h => h) ?hwc11 ?hyc11 hHeld ?_
        case hic11 => (simp only [List.getElem?_toArray, List.getElem?_cons_succ, List.getElem?_cons_zero]; exact rfl)
        case hwc11 => rfl
        case hyc11 => (intro w hSw; (try dsimp only at hSw); go_simp; all_goals (with_reducible rfl))
        try simp only [Act.put, List.setIfInBounds_toArray, List.set_cons_zero, List.set_cons_succ]
        refine takeH 13 (oi := ?oic13) ?hic13 (v := ?vc13) (by kernel_rfl) (by kernel_rfl) (by kernel_rfl) (fun _ _ _ h => h) ?hwc13 ?hyc13 hHeld ?_
        case hic13 => (simp only [List.getElem?_toArray, List.getElem?_cons_succ, List.getElem?_cons_zero]; exact rfl)
        case hwc13 => rfl
        case hyc13 => (intro w hSw; (try dsimp only at hSw); go_simp; all_goals (with_reducible rfl))
        try simp only [Act.put, List.setIfInBounds_toArray, List.set_cons_zero, List.set_cons_succ]
        refine takeH 14 (oi := ?oic14) ?hic14 (v := ?vc14) (by kernel_rfl) (by kernel_rfl) (by kernel_rfl) (fun _ _ _ h => h) ?hwc14 ?hyc14 hHeld ?_
        case hic14 => (simp only [List.getElem?_toArray, List.getElem?_cons_succ, List.getElem?_cons_zero]; exact rfl)
        case hwc14 => rfl
        case hyc14 => (intro w hSw; (try dsimp only at hSw); go_simp; all_goals (with_reducible rfl))
        try simp only [Act.put, List.setIfInBounds_toArray, List.set_cons_zero, List.set_cons_succ]
        refine takeH 15 (oi := ?oic15) ?hic15 (v := ?vc15) (by kernel_rfl) (by kernel_rfl) (by kernel_rfl) (fun _ _ _ h => h) ?hwc15 ?hyc15 hHeld ?_
        case hic15 => (simp only [List.getElem?_toArray, List.getElem?_cons_succ, List.getElem?_cons_zero]; exact rfl)
        case hwc15 => rfl
        case hyc15 => (intro w hSw; (try dsimp only at hSw); go_simp; all_goals (with_reducible rfl))
        try simp only [Act.put, List.setIfInBounds_toArray, List.set_cons_zero, List.set_cons_succ]
        refine runH 12 (oi := ?oic12) ?hic12 (by kernel_rfl) (fun K hK => ?_)
        case hic12 => (simp only [List.getElem?_toArray, List.getElem?_cons_succ, List.getElem?_cons_zero]; exact rfl)
        go_simp
        go_at_call 12; (with_reducible refine (HTa.out _ _ (HMa.out _ HV.out)).mono ?_); rintro e y2 ⟨u1, rfl, ho, hb⟩; replace HV := hid (HV.out.trans (hb.mono HV.out.size)); obtain ⟨p1, q1, rfl, hr1⟩ := Reads.own (k := .i64) ho; have HR1 := hid hr1; clear hb ho hr1
        go_wp2_with fail
        refine hK.out _ _ ?_ (fun hHeld2 => ?_)
        · (try dsimp only); (first | (with_reducible exact HKK.out _ (Below.refl _ _)) | (with_reducible exact HKK.out _ HV.out))
        clear hK K hHeld
        have hHeld := hHeld2
        clear hHeld2
        try simp only [Act.put, List.setIfInBounds_toArray, List.set_cons_zero, List.set_cons_succ]
        refine runH 16 (oi := ?oic16) ?hic16 (by kernel_rfl) (fun K hK => ?_)
        case hic16 => (simp only [List.getElem?_toArray, List.getElem?_cons_succ, List.getElem?_cons_zero]; exact rfl)
        go_simp
        go_at_call 12; (with_reducible refine (HTb.out _ _ (HMb.out _ HV.out)).mono ?_); rintro e y3 ⟨u2, rfl, ho, hb⟩; replace HV := hid (HV.out.trans (hb.mono HV.out.size)); obtain ⟨p2, q2, rfl, hr2⟩ := Reads.own (k := .i64) ho; have HR2 := hid hr2; replace HR1 := hid (HR1.out.below hb); clear hb ho hr2
        go_wp2_with fail
        refine hK.out _ _ ?_ (fun hHeld2 => ?_)
        · (try dsimp only); (first | (with_reducible exact HKK.out _ (Below.refl _ _)) | (with_reducible exact HKK.out _ HV.out))
        clear hK K hHeld
        have hHeld := hHeld2
        clear hHeld2
        try simp only [Act.put, List.setIfInBounds_toArray, List.set_cons_zero, List.set_cons_succ]
        refine runH 17 (oi := ?oic17) ?hic17 (by kernel_rfl) (fun K hK => ?_)
        case hic17 => (simp only [List.getElem?_toArray, List.getElem?_cons_succ, List.getElem?_cons_zero]; exact rfl)
        go_simp
        go_at_call 11; (with_reducible refine (same_yes p1 p2 _ q1 q2 xs _ HR1.out HR2.out (by omega)).mono ?_); rintro e y4 ⟨rfl, hb⟩; replace HV := hid (HV.out.trans (hb.mono HV.out.size)); clear hb HR1 HR2
        go_wp2_with fail
        refine hK.out _ _ ?_ (fun hHeld2 => ?_)
        · (try dsimp only); (first | (with_reducible exact HKK.out _ (Below.refl _ _)) | (with_reducible exact HKK.out _ HV.out))
        clear hK K hHeld
        have hHeld := hHeld2
        clear hHeld2
        try simp only [Act.put, List.setIfInBounds_toArray, List.set_cons_zero, List.set_cons_succ]
        refine takeH 18 (oi := ?oic18) ?hic18 (v := ?vc18) (by kernel_rfl) (by kernel_rfl) (by kernel_rfl) (fun _ _ _ h => h) ?hwc18 ?hyc18 hHeld ?_
        case hic18 => (simp only [List.getElem?_toArray, List.getElem?_cons_succ, List.getElem?_cons_zero]; exact rfl)
        case hwc18 => rfl
        case hyc18 => (intro w hSw; (try dsimp only at hSw); go_simp; all_goals (with_reducible rfl))
        try simp only [Act.put, List.setIfInBounds_toArray, List.set_cons_zero, List.set_cons_succ]
        refine takeH 19 (oi := ?oic19) ?hic19 (v := ?vc19) (by kernel_rfl) (by kernel_rfl) (by kernel_rfl) (fun _ _ _ h => h) ?hwc19 ?hyc19 hHeld ?_
        case hic19 => (simp only [List.getElem?_toArray, List.getElem?_cons_succ, List.getElem?_cons_zero]; exact rfl)
        case hwc19 => rfl
        case hyc19 => (intro w hSw; (try dsimp only at hSw); go_simp; all_goals (with_reducible rfl))
        try simp only [Act.put, List.setIfInBounds_toArray, List.set_cons_zero, List.set_cons_succ]
        refine takeH 20 (oi := ?oic20) ?hic20 (v := ?vc20) (by kernel_rfl) (by kernel_rfl) (by kernel_rfl) (fun _ _ _ h => h) ?hwc20 ?hyc20 hHeld ?_
        case hic20 => (simp only [List.getElem?_toArray, List.getElem?_cons_succ, List.getElem?_cons_zero]; exact rfl)
        case hwc20 => rfl
        case hyc20 => (intro w hSw; (try dsimp only at hSw); go_simp; all_goals (with_reducible rfl))
        try simp only [Act.put, List.setIfInBounds_toArray, List.set_cons_zero, List.set_cons_succ]
        refine takeH 21 (oi := ?oic21) ?hic21 (v := ?vc21) (by kernel_rfl) (by kernel_rfl) (by kernel_rfl) (fun _ _ _ h => h) ?hwc21 ?hyc21 hHeld ?_
        case hic21 => (simp only [List.getElem?_toArray, List.getElem?_cons_succ, List.getElem?_cons_zero]; exact rfl)
        case hwc21 => rfl
        case hyc21 => (intro w hSw; (try dsimp only at hSw); go_simp; all_goals (with_reducible rfl))
        try simp only [Act.put, List.setIfInBounds_toArray, List.set_cons_zero, List.set_cons_succ]
        refine takeH 22 (oi := ?oic22) ?hic22 (v := ?vc22) (by kernel_rfl) (by kernel_rfl) (by kernel_rfl) (fun _ _ _ h => h) ?hwc22 ?hyc22 hHeld ?_
        case hic22 => (simp only [List.getElem?_toArray, List.getElem?_cons_succ, List.getElem?_cons_zero]; exact rfl)
        case hwc22 => rfl
        case hyc22 => (intro w hSw; (try dsimp only at hSw); go_simp; all_goals (with_reducible rfl))
        try simp only [Act.put, List.setIfInBounds_toArray, List.set_cons_zero, List.set_cons_succ]
        refine takeH 23 (oi := ?oic23) ?hic23 (v := ?vc23) (by kernel_rfl) (by kernel_rfl) (by kernel_rfl) (fun _ _ _ h => h) ?hwc23 ?hyc23 hHeld ?_
        case hic23 => (simp only [List.getElem?_toArray, List.getElem?_cons_succ, List.getElem?_cons_zero]; exact rfl)
        case hwc23 => rfl
        case hyc23 => (intro w hSw; (try dsimp only at hSw); go_simp; all_goals (with_reducible rfl))
        try simp only [Act.put, List.setIfInBounds_toArray, List.set_cons_zero, List.set_cons_succ]
        refine takeH 24 (oi := ?oic24) ?hic24 (v := ?vc24) (by kernel_rfl) (by kernel_rfl) (by kernel_rfl) (fun _ _ _ h => h) ?hwc24 ?hyc24 hHeld ?_
        case hic24 => (simp only [List.getElem?_toArray, List.getElem?_cons_succ, List.getElem?_cons_zero]; exact rfl)
        case hwc24 => rfl
        case hyc24 => (intro w hSw; (try dsimp only at hSw); go_simp; all_goals (with_reducible rfl))
        try simp only [Act.put, List.setIfInBounds_toArray, List.set_cons_zero, List.set_cons_succ]
        refine takeH 25 (oi := ?oic25) ?hic25 (v := ?vc25) (by kernel_rfl) (by kernel_rfl) (by kernel_rfl) (fun _ _ _ h => h) ?hwc25 ?hyc25 hHeld ?_
        case hic25 => (simp only [List.getElem?_toArray, List.getElem?_cons_succ, List.getElem?_cons_zero]; exact rfl)
        case hwc25 => rfl
        case hyc25 => (intro w hSw; (try dsimp only at hSw); go_simp; all_goals (with_reducible rfl))
        try simp only [Act.put, List.setIfInBounds_toArray, List.set_cons_zero, List.set_cons_succ]
        refine takeH 26 (oi := ?oic26) ?hic26 (v := ?vc26) (by kernel_rfl) (by kernel_rfl) (by kernel_rfl) (fun _ _ _ h => h) ?hwc26 ?hyc26 hHeld ?_
        case hic26 => (simp only [List.getElem?_toArray, List.getElem?_cons_succ, List.getElem?_cons_zero]; exact rfl)
        case hwc26 => rfl
        case hyc26 => (intro w hSw; (try dsimp only at hSw); go_simp; all_goals (with_reducible rfl))
        try simp only [Act.put, List.setIfInBounds_toArray, List.set_cons_zero, List.set_cons_succ]
        refine runH 27 (oi := ?oic27) ?hic27 (by kernel_rfl) (fun K hK => ?_)
        case hic27 => (simp only [List.getElem?_toArray, List.getElem?_cons_succ, List.getElem?_cons_zero]; exact rfl)
        go_simp
        refine hK.out _ _ ?_ (fun hHeld2 => ?_)
        · (try dsimp only); (first | (with_reducible exact HKK.out _ (Below.refl _ _)) | (with_reducible exact HKK.out _ HV.out))
        clear hK K hHeld
        have hHeld := hHeld2
        clear hHeld2
        try simp only [Act.put, List.setIfInBounds_toArray, List.set_cons_zero, List.set_cons_succ]
        refine takeH 28 (oi := ?oic28) ?hic28 (v := ?vc28) (by kernel_rfl) (by kernel_rfl) (by kernel_rfl) (fun _ _ _ h => h) ?hwc28 ?hyc28 hHeld ?_
        case hic28 => (simp only [List.getElem?_toArray, List.getElem?_cons_succ, List.getElem?_cons_zero]; exact rfl)
        case hwc28 => rfl
        case hyc28 => (intro w hSw; (try dsimp only at hSw); go_simp; all_goals (with_reducible rfl))
        try simp only [Act.put, List.setIfInBounds_toArray, List.set_cons_zero, List.set_cons_succ]
        refine takeH 29 (oi := ?oic29) ?hic29 (v := ?vc29) (by kernel_rfl) (by kernel_rfl) (by kernel_rfl) (fun _ _ _ h => h) ?hwc29 ?hyc29 hHeld ?_
        case hic29 => (simp only [List.getElem?_toArray, List.getElem?_cons_succ, List.getElem?_cons_zero]; exact rfl)
        case hwc29 => rfl
        case hyc29 => (intro w hSw; (try dsimp only at hSw); go_simp; all_goals (with_reducible rfl))
        try simp only [Act.put, List.setIfInBounds_toArray, List.set_cons_zero, List.set_cons_succ]
        refine skipH 30 (oi := ?oic30) ?hic30 (by kernel_rfl) (by kernel_rfl) (by kernel_rfl) (fun _ _ _ h => h) ?hwc30 hHeld ?_
        case hic30 => (simp only [List.getElem?_toArray, List.getElem?_cons_succ, List.getElem?_cons_zero]; exact rfl)
        case hwc30 => rfl
        try simp only [Act.put, List.setIfInBounds_toArray, List.set_cons_zero, List.set_cons_succ]
        refine skipH 31 (oi := ?oic31) ?hic31 (by kernel_rfl) (by kernel_rfl) (by kernel_rfl) (fun _ _ _ h => h) ?hwc31 hHeld ?_
        case hic31 => (simp only [List.getElem?_toArray, List.getElem?_cons_succ, List.getElem?_cons_zero]; exact rfl)
        case hwc31 => rfl
        try simp only [Act.put, List.setIfInBounds_toArray, List.set_cons_zero, List.set_cons_succ]
        refine skipH 32 (oi := ?oic32) ?hic32 (by kernel_rfl) (by kernel_rfl) (by kernel_rfl) (fun _ _ _ h => h) ?hwc32 hHeld ?_
        case hic32 => (simp only [List.getElem?_toArray, List.getElem?_cons_succ, List.getElem?_cons_zero]; exact rfl)
        case hwc32 => rfl
        try simp only [Act.put, List.setIfInBounds_toArray, List.set_cons_zero, List.set_cons_succ]
        refine skipH 33 (oi := ?oic33) ?hic33 (by kernel_rfl) (by kernel_rfl) (by kernel_rfl) (fun _ _ _ h => h) ?hwc33 hHeld ?_
        case hic33 => (simp only [List.getElem?_toArray, List.getElem?_cons_succ, List.getElem?_cons_zero]; exact rfl)
        case hwc33 => rfl
        try simp only [Act.put, List.setIfInBounds_toArray, List.set_cons_zero, List.set_cons_succ]
        refine skipH 34 (oi := ?oic34) ?hic34 (by kernel_rfl) (by kernel_rfl) (by kernel_rfl) (fun _ _ _ h => h) ?hwc34 hHeld ?_
        case hic34 => (simp only [List.getElem?_toArray, List.getElem?_cons_succ, List.getElem?_cons_zero]; exact rfl)
        case hwc34 => rfl
        try simp only [Act.put, List.setIfInBounds_toArray, List.set_cons_zero, List.set_cons_succ]
        refine skipH 36 (oi := ?oic36) ?hic36 (by kernel_rfl) (by kernel_rfl) (by kernel_rfl) (fun _ _ _ h => h) ?hwc36 hHeld ?_
        case hic36 => (simp only [List.getElem?_toArray, List.getElem?_cons_succ, List.getElem?_cons_zero]; exact rfl)
        case hwc36 => rfl
        try simp only [Act.put, List.setIfInBounds_toArray, List.set_cons_zero, List.set_cons_succ]
        refine skipH 37 (oi := ?oic37) ?hic37 (by kernel_rfl) (by kernel_rfl) (by kernel_rfl) (fun _ _ _ h => h) ?hwc37 hHeld ?_
        case hic37 => (simp only [List.getElem?_toArray, List.getElem?_cons_succ, List.getElem?_cons_zero]; exact rfl)
        case hwc37 => rfl
        try simp only [Act.put, List.setIfInBounds_toArray, List.set_cons_zero, List.set_cons_succ]
        refine skipH 38 (oi := ?oic38) ?hic38 (by kernel_rfl) (by kernel_rfl) (by kernel_rfl) (fun _ _ _ h => h) ?hwc38 hHeld ?_
        case hic38 => (simp only [List.getElem?_toArray, List.getElem?_cons_succ, List.getElem?_cons_zero]; exact rfl)
        case hwc38 => rfl
        try simp only [Act.put, List.setIfInBounds_toArray, List.set_cons_zero, List.set_cons_succ]
        refine skipH 39 (oi := ?oic39) ?hic39 (by kernel_rfl) (by kernel_rfl) (by kernel_rfl) (fun _ _ _ h => h) ?hwc39 hHeld ?_
        case hic39 => (simp only [List.getElem?_toArray, List.getElem?_cons_succ, List.getElem?_cons_zero]; exact rfl)
        case hwc39 => rfl
        try simp only [Act.put, List.setIfInBounds_toArray, List.set_cons_zero, List.set_cons_succ]
        refine skipH 40 (oi := ?oic40) ?hic40 (by kernel_rfl) (by kernel_rfl) (by kernel_rfl) (fun _ _ _ h => h) ?hwc40 hHeld ?_
        case hic40 => (simp only [List.getElem?_toArray, List.getElem?_cons_succ, List.getElem?_cons_zero]; exact rfl)
        case hwc40 => rfl
        try simp only [Act.put, List.setIfInBounds_toArray, List.set_cons_zero, List.set_cons_succ]
        refine runH 35 (oi := ?oic35) ?hic35 (by kernel_rfl) (fun K hK => ?_)
        case hic35 => (simp only [List.getElem?_toArray, List.getElem?_cons_succ, List.getElem?_cons_zero]; exact rfl)
        go_simp
        refine hK.out _ _ ?_ (fun hHeld2 => ?_)
        · (try dsimp only); (first | (with_reducible exact HKK.out _ (Below.refl _ _)) | (with_reducible exact HKK.out _ HV.out))
        clear hK K hHeld
        have hHeld := hHeld2
        clear hHeld2
        try simp only [Act.put, List.setIfInBounds_toArray, List.set_cons_zero, List.set_cons_succ]
        refine runH 41 (oi := ?oic41) ?hic41 (by kernel_rfl) (fun K hK => ?_)
        case hic41 => (simp only [List.getElem?_toArray, List.getElem?_cons_succ, List.getElem?_cons_zero]; exact rfl)
        go_simp
        refine hK.out _ _ ?_ (fun hHeld2 => ?_)
        · (try dsimp only); (first | (with_reducible exact HKK.out _ (Below.refl _ _)) | (with_reducible exact HKK.out _ HV.out))
        clear hK K hHeld
        have hHeld := hHeld2
        clear hHeld2
        try simp only [Act.put, List.setIfInBounds_toArray, List.set_cons_zero, List.set_cons_succ]
        refine runH 42 (oi := ?oic42) ?hic42 (by kernel_rfl) (fun K hK => ?_)
        case hic42 => (simp only [List.getElem?_toArray, List.getElem?_cons_succ, List.getElem?_cons_zero]; exact rfl)
        go_simp
        refine hK.out _ _ ?_ (fun hHeld2 => ?_)
        · (try dsimp only); (first | (with_reducible exact HKK.out _ (Below.refl _ _)) | (with_reducible exact HKK.out _ HV.out))
        clear hK K hHeld
        have hHeld := hHeld2
        clear hHeld2
        try simp only [Act.put, List.setIfInBounds_toArray, List.set_cons_zero, List.set_cons_succ]
        refine skipH 43 (oi := ?oic43) ?hic43 (by kernel_rfl) (by kernel_rfl) (by kernel_rfl) (fun _ _ _ h => h) ?hwc43 hHeld ?_
        case hic43 => (simp only [List.getElem?_toArray, List.getElem?_cons_succ, List.getElem?_cons_zero]; exact rfl)
        case hwc43 => rfl
        try simp only [Act.put, List.setIfInBounds_toArray, List.set_cons_zero, List.set_cons_succ]
        refine takeH 44 (oi := ?oic44) ?hic44 (v := ?vc44) (by kernel_rfl) (by kernel_rfl) (by kernel_rfl) (fun _ _ _ h => h) ?hwc44 ?hyc44 hHeld ?_
        case hic44 => (simp only [List.getElem?_toArray, List.getElem?_cons_succ, List.getElem?_cons_zero]; exact rfl)
        case hwc44 => rfl
        case hyc44 => (intro w hSw; (try dsimp only at hSw); go_simp; all_goals (with_reducible rfl))
        try simp only [Act.put, List.setIfInBounds_toArray, List.set_cons_zero, List.set_cons_succ]
        refine takeH 45 (oi := ?oic45) ?hic45 (v := ?vc45) (by kernel_rfl) (by kernel_rfl) (by kernel_rfl) (fun _ _ _ h => h) ?hwc45 ?hyc45 hHeld ?_
        case hic45 => (simp only [List.getElem?_toArray, List.getElem?_cons_succ, List.getElem?_cons_zero]; exact rfl)
        case hwc45 => rfl
        case hyc45 => (intro w hSw; (try dsimp only at hSw); go_simp; all_goals (with_reducible rfl))
        try simp only [Act.put, List.setIfInBounds_toArray, List.set_cons_zero, List.set_cons_succ]
        refine wpAnyH_done (by kernel_rfl) ?_ _
        refine NoPanic.normal ?_
        clear hHeld
        all_goals
          have HVo := HV
          replace HV := hid (HEnd.out _ HV.out)
          go_wp2_with fail
          go_region_held3 (fun W : World => W.cell? ⟨w.heap.size, 0, none⟩ = some (.int .u64 s) ∧ W.cell? ⟨w.heap.size, 1, none⟩ = some (.int .i64 v) ∧ W.cell? ⟨w.heap.size, 2, none⟩ = some (.int .i64 d) ∧ W.cell? ⟨w.heap.size, 3, none⟩ = some (.int .i64 l) ∧ W.cell? ⟨w.heap.size, 4, none⟩ = some (.int .i64 tt) ∧ W.cell? ⟨w.heap.size, 5, none⟩ = some (.int .i64 h) ∧ W.cell? ⟨w.heap.size + 1, 0, none⟩ = some (.int .u64 s) ∧ W.cell? ⟨w.heap.size + 1, 1, none⟩ = some (.int .i64 v2) ∧ W.cell? ⟨w.heap.size + 1, 2, none⟩ = some (.int .i64 d) ∧ W.cell? ⟨w.heap.size + 1, 3, none⟩ = some (.int .i64 l2) ∧ W.cell? ⟨w.heap.size + 1, 4, none⟩ = some (.int .i64 tt2) ∧ W.cell? ⟨w.heap.size + 1, 5, none⟩ = some (.int .i64 h2) ∧ W.cell? ⟨w.heap.size + 1 + 1, 0, none⟩ = some (.int .i64 a2) ∧ W.cell? ⟨w.heap.size + 1 + 1, 1, none⟩ = some (.int .i64 b2)) (first | (with_reducible exact HKK.out _ HVo.out) | (with_reducible exact HKK.out _ HV.out))
              (first
                | (go_at_call 14; (with_reducible refine (HPa.out _ _ (HMa.out _ HV.out)).mono ?_); rintro e z5 ⟨u3, rfl, ho, hb⟩; replace HV := hid (HV.out.trans (hb.mono HV.out.size)); obtain ⟨p3, q3, rfl, hr3⟩ := Reads.own (k := .i64) ho; have HR3 := hid hr3; clear hb ho hr3)
                | (go_at_call 14; (with_reducible refine (HPb.out _ _ (HMb.out _ HV.out)).mono ?_); rintro e z6 ⟨u4, rfl, ho, hb⟩; replace HV := hid (HV.out.trans (hb.mono HV.out.size)); obtain ⟨p4, q4, rfl, hr4⟩ := Reads.own (k := .i64) ho; have HR4 := hid hr4; replace HR3 := hid (HR3.out.below hb); clear hb ho hr4)
                | (go_at_call 11; (with_reducible refine (same_yes p3 p4 _ q3 q4 ys _ HR3.out HR4.out (by omega)).mono ?_); rintro e z7 ⟨rfl, hb⟩; replace HV := hid (HV.out.trans (hb.mono HV.out.size)); clear hb HR3 HR4)
                | (go_at_call 9; (with_reducible refine (alive_any _).mono ?_); rintro e z11 ⟨rfl, hb⟩; replace HV := hid (HV.out.trans (hb.mono HV.out.size)); clear hb))
          all_goals
            go_wp2_with fail
            go_ret
            exact ⟨rfl, HX.out _ HV.out⟩
    · by_cases hL : a2 < ml
      · have dT : decide (a2 < mv) = false := decide_eq_false hT
        have hL : a2 < ml := hL
        rw [hLL.out (by have := HML.out; omega) (by have := HML.out; omega)] at HRb
        generalize tabL ⟨s, v, d, l, tt, h⟩ a2 b2 = ls at *
        clear hTT hLL HMV HML
        refine wp_region_noPanic ?_
        refine wp_region_held_drew (S := fun W : World => W.cell? ⟨w.heap.size, 0, none⟩ = some (.int .u64 s) ∧ W.cell? ⟨w.heap.size, 1, none⟩ = some (.int .i64 v) ∧ W.cell? ⟨w.heap.size, 2, none⟩ = some (.int .i64 d) ∧ W.cell? ⟨w.heap.size, 3, none⟩ = some (.int .i64 l) ∧ W.cell? ⟨w.heap.size, 4, none⟩ = some (.int .i64 tt) ∧ W.cell? ⟨w.heap.size, 5, none⟩ = some (.int .i64 h) ∧ W.cell? ⟨w.heap.size + 1, 0, none⟩ = some (.int .u64 s) ∧ W.cell? ⟨w.heap.size + 1, 1, none⟩ = some (.int .i64 v2) ∧ W.cell? ⟨w.heap.size + 1, 2, none⟩ = some (.int .i64 d) ∧ W.cell? ⟨w.heap.size + 1, 3, none⟩ = some (.int .i64 l2) ∧ W.cell? ⟨w.heap.size + 1, 4, none⟩ = some (.int .i64 tt2) ∧ W.cell? ⟨w.heap.size + 1, 5, none⟩ = some (.int .i64 h2) ∧ W.cell? ⟨w.heap.size + 1 + 1, 0, none⟩ = some (.int .i64 a2) ∧ W.cell? ⟨w.heap.size + 1 + 1, 1, none⟩ = some (.int .i64 b2)) (by kernel_rfl) (HKK.out _ HV.out) (fun hHeld => ?_)
        refine takeH 0 (oi := ?oib0) ?hib0 (v := ?vb0) (by kernel_rfl) (by kernel_rfl) (by kernel_rfl) (fun _ _ _ h => h) ?hwb0 ?hyb0 hHeld ?_
        case hib0 => (simp only [List.getElem?_toArray, List.getElem?_cons_zero]; exact rfl)
        case hwb0 => rfl
        case hyb0 => (intro w hSw; (try dsimp only at hSw); go_simp; all_goals (with_reducible rfl))
        try simp only [Act.put, List.setIfInBounds_toArray, List.set_cons_zero, List.set_cons_succ]
        refine takeH 1 (oi := ?oib1) ?hib1 (v := ?vb1) (by kernel_rfl) (by kernel_rfl) (by kernel_rfl) (fun _ _ _ h => h) ?hwb1 ?hyb1 hHeld ?_
        case hib1 => (simp only [List.getElem?_toArray, List.getElem?_cons_succ, List.getElem?_cons_zero]; exact rfl)
        case hwb1 => rfl
        case hyb1 => (intro w hSw; (try dsimp only at hSw); go_simp; all_goals (with_reducible rfl))
        try simp only [Act.put, List.setIfInBounds_toArray, List.set_cons_zero, List.set_cons_succ]
        refine takeH 2 (oi := ?oib2) ?hib2 (v := ?vb2) (by kernel_rfl) (by kernel_rfl) (by kernel_rfl) (fun _ _ _ h => h) ?hwb2 ?hyb2 hHeld ?_
        case hib2 => (simp only [List.getElem?_toArray, List.getElem?_cons_succ, List.getElem?_cons_zero]; exact rfl)
        case hwb2 => rfl
        case hyb2 => (intro w hSw; (try dsimp only at hSw); go_simp; all_goals (with_reducible rfl))
        try simp only [Act.put, List.setIfInBounds_toArray, List.set_cons_zero, List.set_cons_succ]
        refine takeH 3 (oi := ?oib3) ?hib3 (v := ?vb3) (by kernel_rfl) (by kernel_rfl) (by kernel_rfl) (fun _ _ _ h => h) ?hwb3 ?hyb3 hHeld ?_
        case hib3 => (simp only [List.getElem?_toArray, List.getElem?_cons_succ, List.getElem?_cons_zero]; exact rfl)
        case hwb3 => rfl
        case hyb3 => (intro w hSw; (try dsimp only at hSw); go_simp; all_goals (with_reducible rfl))
        try simp only [Act.put, List.setIfInBounds_toArray, List.set_cons_zero, List.set_cons_succ]
        refine takeH 4 (oi := ?oib4) ?hib4 (v := ?vb4) (by kernel_rfl) (by kernel_rfl) (by kernel_rfl) (fun _ _ _ h => h) ?hwb4 ?hyb4 hHeld ?_
        case hib4 => (simp only [List.getElem?_toArray, List.getElem?_cons_succ, List.getElem?_cons_zero]; exact rfl)
        case hwb4 => rfl
        case hyb4 => (intro w hSw; (try dsimp only at hSw); go_simp; all_goals (with_reducible rfl))
        try simp only [Act.put, List.setIfInBounds_toArray, List.set_cons_zero, List.set_cons_succ]
        refine takeH 5 (oi := ?oib5) ?hib5 (v := ?vb5) (by kernel_rfl) (by kernel_rfl) (by kernel_rfl) (fun _ _ _ h => h) ?hwb5 ?hyb5 hHeld ?_
        case hib5 => (simp only [List.getElem?_toArray, List.getElem?_cons_succ, List.getElem?_cons_zero]; exact rfl)
        case hwb5 => rfl
        case hyb5 => (intro w hSw; (try dsimp only at hSw); go_simp; all_goals (with_reducible rfl))
        try simp only [Act.put, List.setIfInBounds_toArray, List.set_cons_zero, List.set_cons_succ]
        refine runH 6 (oi := ?oib6) ?hib6 (by kernel_rfl) (fun K hK => ?_)
        case hib6 => (simp only [List.getElem?_toArray, List.getElem?_cons_succ, List.getElem?_cons_zero]; exact rfl)
        go_simp
        refine hK.out _ _ ?_ (fun hHeld2 => ?_)
        · (try dsimp only); (first | (with_reducible exact HKK.out _ (Below.refl _ _)) | (with_reducible exact HKK.out _ HV.out))
        clear hK K hHeld
        have hHeld := hHeld2
        clear hHeld2
        try simp only [Act.put, List.setIfInBounds_toArray, List.set_cons_zero, List.set_cons_succ]
        refine takeH 7 (oi := ?oib7) ?hib7 (v := ?vb7) (by kernel_rfl) (by kernel_rfl) (by kernel_rfl) (fun _ _ _ h => h) ?hwb7 ?hyb7 hHeld ?_
        case hib7 => (simp only [List.getElem?_toArray, List.getElem?_cons_succ, List.getElem?_cons_zero]; exact rfl)
        case hwb7 => rfl
        case hyb7 => (intro w hSw; (try dsimp only at hSw); go_simp; all_goals (with_reducible rfl))
        try simp only [Act.put, List.setIfInBounds_toArray, List.set_cons_zero, List.set_cons_succ]
        refine takeH 8 (oi := ?oib8) ?hib8 (v := ?vb8) (by kernel_rfl) (by kernel_rfl) (by kernel_rfl) (fun _ _ _ h => h) ?hwb8 ?hyb8 hHeld ?_
        case hib8 => (simp only [List.getElem?_toArray, List.getElem?_cons_succ, List.getElem?_cons_zero]; exact rfl)
        case hwb8 => rfl
        case hyb8 => (intro w hSw; (try dsimp only at hSw); go_simp; all_goals (with_reducible rfl))
        try simp only [Act.put, List.setIfInBounds_toArray, List.set_cons_zero, List.set_cons_succ]
        refine skipH 9 (oi := ?oib9) ?hib9 (by kernel_rfl) (by kernel_rfl) (by kernel_rfl) (fun _ _ _ h => h) ?hwb9 hHeld ?_
        case hib9 => (simp only [List.getElem?_toArray, List.getElem?_cons_succ, List.getElem?_cons_zero]; exact rfl)
        case hwb9 => rfl
        try simp only [Act.put, List.setIfInBounds_toArray, List.set_cons_zero, List.set_cons_succ]
        refine skipH 10 (oi := ?oib10) ?hib10 (by kernel_rfl) (by kernel_rfl) (by kernel_rfl) (fun _ _ _ h => h) ?hwb10 hHeld ?_
        case hib10 => (simp only [List.getElem?_toArray, List.getElem?_cons_succ, List.getElem?_cons_zero]; exact rfl)
        case hwb10 => rfl
        try simp only [Act.put, List.setIfInBounds_toArray, List.set_cons_zero, List.set_cons_succ]
        refine skipH 11 (oi := ?oib11) ?hib11 (by kernel_rfl) (by kernel_rfl) (by kernel_rfl) (fun _ _ _ h => h) ?hwb11 hHeld ?_
        case hib11 => (simp only [List.getElem?_toArray, List.getElem?_cons_succ, List.getElem?_cons_zero]; exact rfl)
        case hwb11 => rfl
        try simp only [Act.put, List.setIfInBounds_toArray, List.set_cons_zero, List.set_cons_succ]
        refine skipH 13 (oi := ?oib13) ?hib13 (by kernel_rfl) (by kernel_rfl) (by kernel_rfl) (fun _ _ _ h => h) ?hwb13 hHeld ?_
        case hib13 => (simp only [List.getElem?_toArray, List.getElem?_cons_succ, List.getElem?_cons_zero]; exact rfl)
        case hwb13 => rfl
        try simp only [Act.put, List.setIfInBounds_toArray, List.set_cons_zero, List.set_cons_succ]
        refine skipH 14 (oi := ?oib14) ?hib14 (by kernel_rfl) (by kernel_rfl) (by kernel_rfl) (fun _ _ _ h => h) ?hwb14 hHeld ?_
        case hib14 => (simp only [List.getElem?_toArray, List.getElem?_cons_succ, List.getElem?_cons_zero]; exact rfl)
        case hwb14 => rfl
        try simp only [Act.put, List.setIfInBounds_toArray, List.set_cons_zero, List.set_cons_succ]
        refine skipH 15 (oi := ?oib15) ?hib15 (by kernel_rfl) (by kernel_rfl) (by kernel_rfl) (fun _ _ _ h => h) ?hwb15 hHeld ?_
        case hib15 => (simp only [List.getElem?_toArray, List.getElem?_cons_succ, List.getElem?_cons_zero]; exact rfl)
        case hwb15 => rfl
        try simp only [Act.put, List.setIfInBounds_toArray, List.set_cons_zero, List.set_cons_succ]
        refine runH 12 (oi := ?oib12) ?hib12 (by kernel_rfl) (fun K hK => ?_)
        case hib12 => (simp only [List.getElem?_toArray, List.getElem?_cons_succ, List.getElem?_cons_zero]; exact rfl)
        go_simp
        refine hK.out _ _ ?_ (fun hHeld2 => ?_)
        · (try dsimp only); (first | (with_reducible exact HKK.out _ (Below.refl _ _)) | (with_reducible exact HKK.out _ HV.out))
        clear hK K hHeld
        have hHeld := hHeld2
        clear hHeld2
        try simp only [Act.put, List.setIfInBounds_toArray, List.set_cons_zero, List.set_cons_succ]
        refine runH 16 (oi := ?oib16) ?hib16 (by kernel_rfl) (fun K hK => ?_)
        case hib16 => (simp only [List.getElem?_toArray, List.getElem?_cons_succ, List.getElem?_cons_zero]; exact rfl)
        go_simp
        refine hK.out _ _ ?_ (fun hHeld2 => ?_)
        · (try dsimp only); (first | (with_reducible exact HKK.out _ (Below.refl _ _)) | (with_reducible exact HKK.out _ HV.out))
        clear hK K hHeld
        have hHeld := hHeld2
        clear hHeld2
        try simp only [Act.put, List.setIfInBounds_toArray, List.set_cons_zero, List.set_cons_succ]
        refine runH 17 (oi := ?oib17) ?hib17 (by kernel_rfl) (fun K hK => ?_)
        case hib17 => (simp only [List.getElem?_toArray, List.getElem?_cons_succ, List.getElem?_cons_zero]; exact rfl)
        go_simp
        refine hK.out _ _ ?_ (fun hHeld2 => ?_)
        · (try dsimp only); (first | (with_reducible exact HKK.out _ (Below.refl _ _)) | (with_reducible exact HKK.out _ HV.out))
        clear hK K hHeld
        have hHeld := hHeld2
        clear hHeld2
        try simp only [Act.put, List.setIfInBounds_toArray, List.set_cons_zero, List.set_cons_succ]
        refine skipH 18 (oi := ?oib18) ?hib18 (by kernel_rfl) (by kernel_rfl) (by kernel_rfl) (fun _ _ _ h => h) ?hwb18 hHeld ?_
        case hib18 => (simp only [List.getElem?_toArray, List.getElem?_cons_succ, List.getElem?_cons_zero]; exact rfl)
        case hwb18 => rfl
        try simp only [Act.put, List.setIfInBounds_toArray, List.set_cons_zero, List.set_cons_succ]
        refine takeH 19 (oi := ?oib19) ?hib19 (v := ?vb19) (by kernel_rfl) (by kernel_rfl) (by kernel_rfl) (fun _ _ _ h => h) ?hwb19 ?hyb19 hHeld ?_
        case hib19 => (simp only [List.getElem?_toArray, List.getElem?_cons_succ, List.getElem?_cons_zero]; exact rfl)
        case hwb19 => rfl
        case hyb19 => (intro w hSw; (try dsimp only at hSw); go_simp; all_goals (with_reducible rfl))
        try simp only [Act.put, List.setIfInBounds_toArray, List.set_cons_zero, List.set_cons_succ]
        refine takeH 20 (oi := ?oib20) ?hib20 (v := ?vb20) (by kernel_rfl) (by kernel_rfl) (by kernel_rfl) (fun _ _ _ h => h) ?hwb20 ?hyb20 hHeld ?_
        case hib20 => (simp only [List.getElem?_toArray, List.getElem?_cons_succ, List.getElem?_cons_zero]; exact rfl)
        case hwb20 => rfl
        case hyb20 => (intro w hSw; (try dsimp only at hSw); go_simp; all_goals (with_reducible rfl))
        try simp only [Act.put, List.setIfInBounds_toArray, List.set_cons_zero, List.set_cons_succ]
        refine takeH 21 (oi := ?oib21) ?hib21 (v := ?vb21) (by kernel_rfl) (by kernel_rfl) (by kernel_rfl) (fun _ _ _ h => h) ?hwb21 ?hyb21 hHeld ?_
        case hib21 => (simp only [List.getElem?_toArray, List.getElem?_cons_succ, List.getElem?_cons_zero]; exact rfl)
        case hwb21 => rfl
        case hyb21 => (intro w hSw; (try dsimp only at hSw); go_simp; all_goals (with_reducible rfl))
        try simp only [Act.put, List.setIfInBounds_toArray, List.set_cons_zero, List.set_cons_succ]
        refine takeH 22 (oi := ?oib22) ?hib22 (v := ?vb22) (by kernel_rfl) (by kernel_rfl) (by kernel_rfl) (fun _ _ _ h => h) ?hwb22 ?hyb22 hHeld ?_
        case hib22 => (simp only [List.getElem?_toArray, List.getElem?_cons_succ, List.getElem?_cons_zero]; exact rfl)
        case hwb22 => rfl
        case hyb22 => (intro w hSw; (try dsimp only at hSw); go_simp; all_goals (with_reducible rfl))
        try simp only [Act.put, List.setIfInBounds_toArray, List.set_cons_zero, List.set_cons_succ]
        refine takeH 23 (oi := ?oib23) ?hib23 (v := ?vb23) (by kernel_rfl) (by kernel_rfl) (by kernel_rfl) (fun _ _ _ h => h) ?hwb23 ?hyb23 hHeld ?_
        case hib23 => (simp only [List.getElem?_toArray, List.getElem?_cons_succ, List.getElem?_cons_zero]; exact rfl)
        case hwb23 => rfl
        case hyb23 => (intro w hSw; (try dsimp only at hSw); go_simp; all_goals (with_reducible rfl))
        try simp only [Act.put, List.setIfInBounds_toArray, List.set_cons_zero, List.set_cons_succ]
        refine takeH 24 (oi := ?oib24) ?hib24 (v := ?vb24) (by kernel_rfl) (by kernel_rfl) (by kernel_rfl) (fun _ _ _ h => h) ?hwb24 ?hyb24 hHeld ?_
        case hib24 => (simp only [List.getElem?_toArray, List.getElem?_cons_succ, List.getElem?_cons_zero]; exact rfl)
        case hwb24 => rfl
        case hyb24 => (intro w hSw; (try dsimp only at hSw); go_simp; all_goals (with_reducible rfl))
        try simp only [Act.put, List.setIfInBounds_toArray, List.set_cons_zero, List.set_cons_succ]
        refine takeH 25 (oi := ?oib25) ?hib25 (v := ?vb25) (by kernel_rfl) (by kernel_rfl) (by kernel_rfl) (fun _ _ _ h => h) ?hwb25 ?hyb25 hHeld ?_
        case hib25 => (simp only [List.getElem?_toArray, List.getElem?_cons_succ, List.getElem?_cons_zero]; exact rfl)
        case hwb25 => rfl
        case hyb25 => (intro w hSw; (try dsimp only at hSw); go_simp; all_goals (with_reducible rfl))
        try simp only [Act.put, List.setIfInBounds_toArray, List.set_cons_zero, List.set_cons_succ]
        refine takeH 26 (oi := ?oib26) ?hib26 (v := ?vb26) (by kernel_rfl) (by kernel_rfl) (by kernel_rfl) (fun _ _ _ h => h) ?hwb26 ?hyb26 hHeld ?_
        case hib26 => (simp only [List.getElem?_toArray, List.getElem?_cons_succ, List.getElem?_cons_zero]; exact rfl)
        case hwb26 => rfl
        case hyb26 => (intro w hSw; (try dsimp only at hSw); go_simp; all_goals (with_reducible rfl))
        try simp only [Act.put, List.setIfInBounds_toArray, List.set_cons_zero, List.set_cons_succ]
        refine runH 27 (oi := ?oib27) ?hib27 (by kernel_rfl) (fun K hK => ?_)
        case hib27 => (simp only [List.getElem?_toArray, List.getElem?_cons_succ, List.getElem?_cons_zero]; exact rfl)
        go_simp
        refine hK.out _ _ ?_ (fun hHeld2 => ?_)
        · (try dsimp only); (first | (with_reducible exact HKK.out _ (Below.refl _ _)) | (with_reducible exact HKK.out _ HV.out))
        clear hK K hHeld
        have hHeld := hHeld2
        clear hHeld2
        try simp only [Act.put, List.setIfInBounds_toArray, List.set_cons_zero, List.set_cons_succ]
        refine takeH 28 (oi := ?oib28) ?hib28 (v := ?vb28) (by kernel_rfl) (by kernel_rfl) (by kernel_rfl) (fun _ _ _ h => h) ?hwb28 ?hyb28 hHeld ?_
        case hib28 => (simp only [List.getElem?_toArray, List.getElem?_cons_succ, List.getElem?_cons_zero]; exact rfl)
        case hwb28 => rfl
        case hyb28 => (intro w hSw; (try dsimp only at hSw); go_simp; all_goals (with_reducible rfl))
        try simp only [Act.put, List.setIfInBounds_toArray, List.set_cons_zero, List.set_cons_succ]
        refine takeH 29 (oi := ?oib29) ?hib29 (v := ?vb29) (by kernel_rfl) (by kernel_rfl) (by kernel_rfl) (fun _ _ _ h => h) ?hwb29 ?hyb29 hHeld ?_
        case hib29 => (simp only [List.getElem?_toArray, List.getElem?_cons_succ, List.getElem?_cons_zero]; exact rfl)
        case hwb29 => rfl
        case hyb29 => (intro w hSw; (try dsimp only at hSw); go_simp; all_goals (with_reducible rfl))
        try simp only [Act.put, List.setIfInBounds_toArray, List.set_cons_zero, List.set_cons_succ]
        refine takeH 30 (oi := ?oib30) ?hib30 (v := ?vb30) (by kernel_rfl) (by kernel_rfl) (by kernel_rfl) (fun _ _ _ h => h) ?hwb30 ?hyb30 hHeld ?_
        case hib30 => (simp only [List.getElem?_toArray, List.getElem?_cons_succ, List.getElem?_cons_zero]; exact rfl)
        case hwb30 => rfl
        case hyb30 => (intro w hSw; (try dsimp only at hSw); go_simp; all_goals (with_reducible rfl))
        try simp only [Act.put, List.setIfInBounds_toArray, List.set_cons_zero, List.set_cons_succ]
        refine takeH 31 (oi := ?oib31) ?hib31 (v := ?vb31) (by kernel_rfl) (by kernel_rfl) (by kernel_rfl) (fun _ _ _ h => h) ?hwb31 ?hyb31 hHeld ?_
        case hib31 => (simp only [List.getElem?_toArray, List.getElem?_cons_succ, List.getElem?_cons_zero]; exact rfl)
        case hwb31 => rfl
        case hyb31 => (intro w hSw; (try dsimp only at hSw); go_simp; all_goals (with_reducible rfl))
        try simp only [Act.put, List.setIfInBounds_toArray, List.set_cons_zero, List.set_cons_succ]
        refine takeH 32 (oi := ?oib32) ?hib32 (v := ?vb32) (by kernel_rfl) (by kernel_rfl) (by kernel_rfl) (fun _ _ _ h => h) ?hwb32 ?hyb32 hHeld ?_
        case hib32 => (simp only [List.getElem?_toArray, List.getElem?_cons_succ, List.getElem?_cons_zero]; exact rfl)
        case hwb32 => rfl
        case hyb32 => (intro w hSw; (try dsimp only at hSw); go_simp; all_goals (with_reducible rfl))
        try simp only [Act.put, List.setIfInBounds_toArray, List.set_cons_zero, List.set_cons_succ]
        refine takeH 33 (oi := ?oib33) ?hib33 (v := ?vb33) (by kernel_rfl) (by kernel_rfl) (by kernel_rfl) (fun _ _ _ h => h) ?hwb33 ?hyb33 hHeld ?_
        case hib33 => (simp only [List.getElem?_toArray, List.getElem?_cons_succ, List.getElem?_cons_zero]; exact rfl)
        case hwb33 => rfl
        case hyb33 => (intro w hSw; (try dsimp only at hSw); go_simp; all_goals (with_reducible rfl))
        try simp only [Act.put, List.setIfInBounds_toArray, List.set_cons_zero, List.set_cons_succ]
        refine takeH 34 (oi := ?oib34) ?hib34 (v := ?vb34) (by kernel_rfl) (by kernel_rfl) (by kernel_rfl) (fun _ _ _ h => h) ?hwb34 ?hyb34 hHeld ?_
        case hib34 => (simp only [List.getElem?_toArray, List.getElem?_cons_succ, List.getElem?_cons_zero]; exact rfl)
        case hwb34 => rfl
        case hyb34 => (intro w hSw; (try dsimp only at hSw); go_simp; all_goals (with_reducible rfl))
        try simp only [Act.put, List.setIfInBounds_toArray, List.set_cons_zero, List.set_cons_succ]
        refine takeH 36 (oi := ?oib36) ?hib36 (v := ?vb36) (by kernel_rfl) (by kernel_rfl) (by kernel_rfl) (fun _ _ _ h => h) ?hwb36 ?hyb36 hHeld ?_
        case hib36 => (simp only [List.getElem?_toArray, List.getElem?_cons_succ, List.getElem?_cons_zero]; exact rfl)
        case hwb36 => rfl
        case hyb36 => (intro w hSw; (try dsimp only at hSw); go_simp; all_goals (with_reducible rfl))
        try simp only [Act.put, List.setIfInBounds_toArray, List.set_cons_zero, List.set_cons_succ]
        refine takeH 37 (oi := ?oib37) ?hib37 (v := ?vb37) (by kernel_rfl) (by kernel_rfl) (by kernel_rfl) (fun _ _ _ h => h) ?hwb37 ?hyb37 hHeld ?_
        case hib37 => (simp only [List.getElem?_toArray, List.getElem?_cons_succ, List.getElem?_cons_zero]; exact rfl)
        case hwb37 => rfl
        case hyb37 => (intro w hSw; (try dsimp only at hSw); go_simp; all_goals (with_reducible rfl))
        try simp only [Act.put, List.setIfInBounds_toArray, List.set_cons_zero, List.set_cons_succ]
        refine takeH 38 (oi := ?oib38) ?hib38 (v := ?vb38) (by kernel_rfl) (by kernel_rfl) (by kernel_rfl) (fun _ _ _ h => h) ?hwb38 ?hyb38 hHeld ?_
        case hib38 => (simp only [List.getElem?_toArray, List.getElem?_cons_succ, List.getElem?_cons_zero]; exact rfl)
        case hwb38 => rfl
        case hyb38 => (intro w hSw; (try dsimp only at hSw); go_simp; all_goals (with_reducible rfl))
        try simp only [Act.put, List.setIfInBounds_toArray, List.set_cons_zero, List.set_cons_succ]
        refine takeH 39 (oi := ?oib39) ?hib39 (v := ?vb39) (by kernel_rfl) (by kernel_rfl) (by kernel_rfl) (fun _ _ _ h => h) ?hwb39 ?hyb39 hHeld ?_
        case hib39 => (simp only [List.getElem?_toArray, List.getElem?_cons_succ, List.getElem?_cons_zero]; exact rfl)
        case hwb39 => rfl
        case hyb39 => (intro w hSw; (try dsimp only at hSw); go_simp; all_goals (with_reducible rfl))
        try simp only [Act.put, List.setIfInBounds_toArray, List.set_cons_zero, List.set_cons_succ]
        refine takeH 40 (oi := ?oib40) ?hib40 (v := ?vb40) (by kernel_rfl) (by kernel_rfl) (by kernel_rfl) (fun _ _ _ h => h) ?hwb40 ?hyb40 hHeld ?_
        case hib40 => (simp only [List.getElem?_toArray, List.getElem?_cons_succ, List.getElem?_cons_zero]; exact rfl)
        case hwb40 => rfl
        case hyb40 => (intro w hSw; (try dsimp only at hSw); go_simp; all_goals (with_reducible rfl))
        try simp only [Act.put, List.setIfInBounds_toArray, List.set_cons_zero, List.set_cons_succ]
        refine runH 35 (oi := ?oib35) ?hib35 (by kernel_rfl) (fun K hK => ?_)
        case hib35 => (simp only [List.getElem?_toArray, List.getElem?_cons_succ, List.getElem?_cons_zero]; exact rfl)
        go_simp
        go_at_call 17; (with_reducible refine (HRa.out _ _ (HMa.out _ HV.out)).mono ?_); rintro e y8 ⟨p5, q5, hs5, rfl, hr5, hb⟩; replace HV := hid (HV.out.trans (hb.mono HV.out.size)); have HR5 := hid hr5; clear hb hr5
        go_wp2_with fail
        refine hK.out _ _ ?_ (fun hHeld2 => ?_)
        · (try dsimp only); (first | (with_reducible exact HKK.out _ (Below.refl _ _)) | (with_reducible exact HKK.out _ HV.out))
        clear hK K hHeld
        have hHeld := hHeld2
        clear hHeld2
        try simp only [Act.put, List.setIfInBounds_toArray, List.set_cons_zero, List.set_cons_succ]
        refine runH 41 (oi := ?oib41) ?hib41 (by kernel_rfl) (fun K hK => ?_)
        case hib41 => (simp only [List.getElem?_toArray, List.getElem?_cons_succ, List.getElem?_cons_zero]; exact rfl)
        go_simp
        go_at_call 17; (with_reducible refine (HRb.out _ _ (HMb.out _ HV.out)).mono ?_); rintro e y9 ⟨p6, q6, hs6, rfl, hr6, hb⟩; replace HV := hid (HV.out.trans (hb.mono HV.out.size)); have HR6 := hid hr6; replace HR5 := hid (HR5.out.below hb); clear hb hr6
        go_wp2_with fail
        refine hK.out _ _ ?_ (fun hHeld2 => ?_)
        · (try dsimp only); (first | (with_reducible exact HKK.out _ (Below.refl _ _)) | (with_reducible exact HKK.out _ HV.out))
        clear hK K hHeld
        have hHeld := hHeld2
        clear hHeld2
        try simp only [Act.put, List.setIfInBounds_toArray, List.set_cons_zero, List.set_cons_succ]
        refine runH 42 (oi := ?oib42) ?hib42 (by kernel_rfl) (fun K hK => ?_)
        case hib42 => (simp only [List.getElem?_toArray, List.getElem?_cons_succ, List.getElem?_cons_zero]; exact rfl)
        go_simp
        go_at_call 16; (with_reducible refine (rows_like p5 p6 _ q5 q6 hs5 hs6 ls _ HR5.out HR6.out (by omega)).mono ?_); rintro e y10 ⟨rfl, hb⟩; replace HV := hid (HV.out.trans (hb.mono HV.out.size)); clear hb HR5 HR6
        go_wp2_with fail
        refine hK.out _ _ ?_ (fun hHeld2 => ?_)
        · (try dsimp only); (first | (with_reducible exact HKK.out _ (Below.refl _ _)) | (with_reducible exact HKK.out _ HV.out))
        clear hK K hHeld
        have hHeld := hHeld2
        clear hHeld2
        try simp only [Act.put, List.setIfInBounds_toArray, List.set_cons_zero, List.set_cons_succ]
        refine takeH 43 (oi := ?oib43) ?hib43 (v := ?vb43) (by kernel_rfl) (by kernel_rfl) (by kernel_rfl) (fun _ _ _ h => h) ?hwb43 ?hyb43 hHeld ?_
        case hib43 => (simp only [List.getElem?_toArray, List.getElem?_cons_succ, List.getElem?_cons_zero]; exact rfl)
        case hwb43 => rfl
        case hyb43 => (intro w hSw; (try dsimp only at hSw); go_simp; all_goals (with_reducible rfl))
        try simp only [Act.put, List.setIfInBounds_toArray, List.set_cons_zero, List.set_cons_succ]
        refine takeH 44 (oi := ?oib44) ?hib44 (v := ?vb44) (by kernel_rfl) (by kernel_rfl) (by kernel_rfl) (fun _ _ _ h => h) ?hwb44 ?hyb44 hHeld ?_
        case hib44 => (simp only [List.getElem?_toArray, List.getElem?_cons_succ, List.getElem?_cons_zero]; exact rfl)
        case hwb44 => rfl
        case hyb44 => (intro w hSw; (try dsimp only at hSw); go_simp; all_goals (with_reducible rfl))
        try simp only [Act.put, List.setIfInBounds_toArray, List.set_cons_zero, List.set_cons_succ]
        refine takeH 45 (oi := ?oib45) ?hib45 (v := ?vb45) (by kernel_rfl) (by kernel_rfl) (by kernel_rfl) (fun _ _ _ h => h) ?hwb45 ?hyb45 hHeld ?_
        case hib45 => (simp only [List.getElem?_toArray, List.getElem?_cons_succ, List.getElem?_cons_zero]; exact rfl)
        case hwb45 => rfl
        case hyb45 => (intro w hSw; (try dsimp only at hSw); go_simp; all_goals (with_reducible rfl))
        try simp only [Act.put, List.setIfInBounds_toArray, List.set_cons_zero, List.set_cons_succ]
        refine wpAnyH_done (by kernel_rfl) ?_ _
        refine NoPanic.normal ?_
        clear hHeld
        all_goals
          have HVo := HV
          replace HV := hid (HEnd.out _ HV.out)
          go_wp2_with fail
          go_region_held3 (fun W : World => W.cell? ⟨w.heap.size, 0, none⟩ = some (.int .u64 s) ∧ W.cell? ⟨w.heap.size, 1, none⟩ = some (.int .i64 v) ∧ W.cell? ⟨w.heap.size, 2, none⟩ = some (.int .i64 d) ∧ W.cell? ⟨w.heap.size, 3, none⟩ = some (.int .i64 l) ∧ W.cell? ⟨w.heap.size, 4, none⟩ = some (.int .i64 tt) ∧ W.cell? ⟨w.heap.size, 5, none⟩ = some (.int .i64 h) ∧ W.cell? ⟨w.heap.size + 1, 0, none⟩ = some (.int .u64 s) ∧ W.cell? ⟨w.heap.size + 1, 1, none⟩ = some (.int .i64 v2) ∧ W.cell? ⟨w.heap.size + 1, 2, none⟩ = some (.int .i64 d) ∧ W.cell? ⟨w.heap.size + 1, 3, none⟩ = some (.int .i64 l2) ∧ W.cell? ⟨w.heap.size + 1, 4, none⟩ = some (.int .i64 tt2) ∧ W.cell? ⟨w.heap.size + 1, 5, none⟩ = some (.int .i64 h2) ∧ W.cell? ⟨w.heap.size + 1 + 1, 0, none⟩ = some (.int .i64 a2) ∧ W.cell? ⟨w.heap.size + 1 + 1, 1, none⟩ = some (.int .i64 b2)) (first | (with_reducible exact HKK.out _ HVo.out) | (with_reducible exact HKK.out _ HV.out))
              (first
                | (go_at_call 14; (with_reducible refine (HPa.out _ _ (HMa.out _ HV.out)).mono ?_); rintro e z5 ⟨u3, rfl, ho, hb⟩; replace HV := hid (HV.out.trans (hb.mono HV.out.size)); obtain ⟨p3, q3, rfl, hr3⟩ := Reads.own (k := .i64) ho; have HR3 := hid hr3; clear hb ho hr3)
                | (go_at_call 14; (with_reducible refine (HPb.out _ _ (HMb.out _ HV.out)).mono ?_); rintro e z6 ⟨u4, rfl, ho, hb⟩; replace HV := hid (HV.out.trans (hb.mono HV.out.size)); obtain ⟨p4, q4, rfl, hr4⟩ := Reads.own (k := .i64) ho; have HR4 := hid hr4; replace HR3 := hid (HR3.out.below hb); clear hb ho hr4)
                | (go_at_call 11; (with_reducible refine (same_yes p3 p4 _ q3 q4 ys _ HR3.out HR4.out (by omega)).mono ?_); rintro e z7 ⟨rfl, hb⟩; replace HV := hid (HV.out.trans (hb.mono HV.out.size)); clear hb HR3 HR4)
                | (go_at_call 9; (with_reducible refine (alive_any _).mono ?_); rintro e z11 ⟨rfl, hb⟩; replace HV := hid (HV.out.trans (hb.mono HV.out.size)); clear hb))
          all_goals
            go_wp2_with fail
            go_ret
            exact ⟨rfl, HX.out _ HV.out⟩
      · have dT : decide (a2 < mv) = false := decide_eq_false hT
        have dL : decide (a2 < ml) = false := decide_eq_false hL
        clear hTT hLL HMV HML
        refine wp_region_noPanic ?_
        refine wp_region_held_drew (S := fun W : World => W.cell? ⟨w.heap.size, 0, none⟩ = some (.int .u64 s) ∧ W.cell? ⟨w.heap.size, 1, none⟩ = some (.int .i64 v) ∧ W.cell? ⟨w.heap.size, 2, none⟩ = some (.int .i64 d) ∧ W.cell? ⟨w.heap.size, 3, none⟩ = some (.int .i64 l) ∧ W.cell? ⟨w.heap.size, 4, none⟩ = some (.int .i64 tt) ∧ W.cell? ⟨w.heap.size, 5, none⟩ = some (.int .i64 h) ∧ W.cell? ⟨w.heap.size + 1, 0, none⟩ = some (.int .u64 s) ∧ W.cell? ⟨w.heap.size + 1, 1, none⟩ = some (.int .i64 v2) ∧ W.cell? ⟨w.heap.size + 1, 2, none⟩ = some (.int .i64 d) ∧ W.cell? ⟨w.heap.size + 1, 3, none⟩ = some (.int .i64 l2) ∧ W.cell? ⟨w.heap.size + 1, 4, none⟩ = some (.int .i64 tt2) ∧ W.cell? ⟨w.heap.size + 1, 5, none⟩ = some (.int .i64 h2) ∧ W.cell? ⟨w.heap.size + 1 + 1, 0, none⟩ = some (.int .i64 a2) ∧ W.cell? ⟨w.heap.size + 1 + 1, 1, none⟩ = some (.int .i64 b2)) (by kernel_rfl) (HKK.out _ HV.out) (fun hHeld => ?_)
        refine takeH 0 (oi := ?oia0) ?hia0 (v := ?va0) (by kernel_rfl) (by kernel_rfl) (by kernel_rfl) (fun _ _ _ h => h) ?hwa0 ?hya0 hHeld ?_
        case hia0 => (simp only [List.getElem?_toArray, List.getElem?_cons_zero]; exact rfl)
        case hwa0 => rfl
        case hya0 => (intro w hSw; (try dsimp only at hSw); go_simp; all_goals (with_reducible rfl))
        try simp only [Act.put, List.setIfInBounds_toArray, List.set_cons_zero, List.set_cons_succ]
        refine takeH 1 (oi := ?oia1) ?hia1 (v := ?va1) (by kernel_rfl) (by kernel_rfl) (by kernel_rfl) (fun _ _ _ h => h) ?hwa1 ?hya1 hHeld ?_
        case hia1 => (simp only [List.getElem?_toArray, List.getElem?_cons_succ, List.getElem?_cons_zero]; exact rfl)
        case hwa1 => rfl
        case hya1 => (intro w hSw; (try dsimp only at hSw); go_simp; all_goals (with_reducible rfl))
        try simp only [Act.put, List.setIfInBounds_toArray, List.set_cons_zero, List.set_cons_succ]
        refine takeH 2 (oi := ?oia2) ?hia2 (v := ?va2) (by kernel_rfl) (by kernel_rfl) (by kernel_rfl) (fun _ _ _ h => h) ?hwa2 ?hya2 hHeld ?_
        case hia2 => (simp only [List.getElem?_toArray, List.getElem?_cons_succ, List.getElem?_cons_zero]; exact rfl)
        case hwa2 => rfl
        case hya2 => (intro w hSw; (try dsimp only at hSw); go_simp; all_goals (with_reducible rfl))
        try simp only [Act.put, List.setIfInBounds_toArray, List.set_cons_zero, List.set_cons_succ]
        refine takeH 3 (oi := ?oia3) ?hia3 (v := ?va3) (by kernel_rfl) (by kernel_rfl) (by kernel_rfl) (fun _ _ _ h => h) ?hwa3 ?hya3 hHeld ?_
        case hia3 => (simp only [List.getElem?_toArray, List.getElem?_cons_succ, List.getElem?_cons_zero]; exact rfl)
        case hwa3 => rfl
        case hya3 => (intro w hSw; (try dsimp only at hSw); go_simp; all_goals (with_reducible rfl))
        try simp only [Act.put, List.setIfInBounds_toArray, List.set_cons_zero, List.set_cons_succ]
        refine takeH 4 (oi := ?oia4) ?hia4 (v := ?va4) (by kernel_rfl) (by kernel_rfl) (by kernel_rfl) (fun _ _ _ h => h) ?hwa4 ?hya4 hHeld ?_
        case hia4 => (simp only [List.getElem?_toArray, List.getElem?_cons_succ, List.getElem?_cons_zero]; exact rfl)
        case hwa4 => rfl
        case hya4 => (intro w hSw; (try dsimp only at hSw); go_simp; all_goals (with_reducible rfl))
        try simp only [Act.put, List.setIfInBounds_toArray, List.set_cons_zero, List.set_cons_succ]
        refine takeH 5 (oi := ?oia5) ?hia5 (v := ?va5) (by kernel_rfl) (by kernel_rfl) (by kernel_rfl) (fun _ _ _ h => h) ?hwa5 ?hya5 hHeld ?_
        case hia5 => (simp only [List.getElem?_toArray, List.getElem?_cons_succ, List.getElem?_cons_zero]; exact rfl)
        case hwa5 => rfl
        case hya5 => (intro w hSw; (try dsimp only at hSw); go_simp; all_goals (with_reducible rfl))
        try simp only [Act.put, List.setIfInBounds_toArray, List.set_cons_zero, List.set_cons_succ]
        refine runH 6 (oi := ?oia6) ?hia6 (by kernel_rfl) (fun K hK => ?_)
        case hia6 => (simp only [List.getElem?_toArray, List.getElem?_cons_succ, List.getElem?_cons_zero]; exact rfl)
        go_simp
        refine hK.out _ _ ?_ (fun hHeld2 => ?_)
        · (try dsimp only); (first | (with_reducible exact HKK.out _ (Below.refl _ _)) | (with_reducible exact HKK.out _ HV.out))
        clear hK K hHeld
        have hHeld := hHeld2
        clear hHeld2
        try simp only [Act.put, List.setIfInBounds_toArray, List.set_cons_zero, List.set_cons_succ]
        refine takeH 7 (oi := ?oia7) ?hia7 (v := ?va7) (by kernel_rfl) (by kernel_rfl) (by kernel_rfl) (fun _ _ _ h => h) ?hwa7 ?hya7 hHeld ?_
        case hia7 => (simp only [List.getElem?_toArray, List.getElem?_cons_succ, List.getElem?_cons_zero]; exact rfl)
        case hwa7 => rfl
        case hya7 => (intro w hSw; (try dsimp only at hSw); go_simp; all_goals (with_reducible rfl))
        try simp only [Act.put, List.setIfInBounds_toArray, List.set_cons_zero, List.set_cons_succ]
        refine takeH 8 (oi := ?oia8) ?hia8 (v := ?va8) (by kernel_rfl) (by kernel_rfl) (by kernel_rfl) (fun _ _ _ h => h) ?hwa8 ?hya8 hHeld ?_
        case hia8 => (simp only [List.getElem?_toArray, List.getElem?_cons_succ, List.getElem?_cons_zero]; exact rfl)
        case hwa8 => rfl
        case hya8 => (intro w hSw; (try dsimp only at hSw); go_simp; all_goals (with_reducible rfl))
        try simp only [Act.put, List.setIfInBounds_toArray, List.set_cons_zero, List.set_cons_succ]
        refine skipH 9 (oi := ?oia9) ?hia9 (by kernel_rfl) (by kernel_rfl) (by kernel_rfl) (fun _ _ _ h => h) ?hwa9 hHeld ?_
        case hia9 => (simp only [List.getElem?_toArray, List.getElem?_cons_succ, List.getElem?_cons_zero]; exact rfl)
        case hwa9 => rfl
        try simp only [Act.put, List.setIfInBounds_toArray, List.set_cons_zero, List.set_cons_succ]
        refine skipH 10 (oi := ?oia10) ?hia10 (by kernel_rfl) (by kernel_rfl) (by kernel_rfl) (fun _ _ _ h => h) ?hwa10 hHeld ?_
        case hia10 => (simp only [List.getElem?_toArray, List.getElem?_cons_succ, List.getElem?_cons_zero]; exact rfl)
        case hwa10 => rfl
        try simp only [Act.put, List.setIfInBounds_toArray, List.set_cons_zero, List.set_cons_succ]
        refine skipH 11 (oi := ?oia11) ?hia11 (by kernel_rfl) (by kernel_rfl) (by kernel_rfl) (fun _ _ _ h => h) ?hwa11 hHeld ?_
        case hia11 => (simp only [List.getElem?_toArray, List.getElem?_cons_succ, List.getElem?_cons_zero]; exact rfl)
        case hwa11 => rfl
        try simp only [Act.put, List.setIfInBounds_toArray, List.set_cons_zero, List.set_cons_succ]
        refine skipH 13 (oi := ?oia13) ?hia13 (by kernel_rfl) (by kernel_rfl) (by kernel_rfl) (fun _ _ _ h => h) ?hwa13 hHeld ?_
        case hia13 => (simp only [List.getElem?_toArray, List.getElem?_cons_succ, List.getElem?_cons_zero]; exact rfl)
        case hwa13 => rfl
        try simp only [Act.put, List.setIfInBounds_toArray, List.set_cons_zero, List.set_cons_succ]
        refine skipH 14 (oi := ?oia14) ?hia14 (by kernel_rfl) (by kernel_rfl) (by kernel_rfl) (fun _ _ _ h => h) ?hwa14 hHeld ?_
        case hia14 => (simp only [List.getElem?_toArray, List.getElem?_cons_succ, List.getElem?_cons_zero]; exact rfl)
        case hwa14 => rfl
        try simp only [Act.put, List.setIfInBounds_toArray, List.set_cons_zero, List.set_cons_succ]
        refine skipH 15 (oi := ?oia15) ?hia15 (by kernel_rfl) (by kernel_rfl) (by kernel_rfl) (fun _ _ _ h => h) ?hwa15 hHeld ?_
        case hia15 => (simp only [List.getElem?_toArray, List.getElem?_cons_succ, List.getElem?_cons_zero]; exact rfl)
        case hwa15 => rfl
        try simp only [Act.put, List.setIfInBounds_toArray, List.set_cons_zero, List.set_cons_succ]
        refine runH 12 (oi := ?oia12) ?hia12 (by kernel_rfl) (fun K hK => ?_)
        case hia12 => (simp only [List.getElem?_toArray, List.getElem?_cons_succ, List.getElem?_cons_zero]; exact rfl)
        go_simp
        refine hK.out _ _ ?_ (fun hHeld2 => ?_)
        · (try dsimp only); (first | (with_reducible exact HKK.out _ (Below.refl _ _)) | (with_reducible exact HKK.out _ HV.out))
        clear hK K hHeld
        have hHeld := hHeld2
        clear hHeld2
        try simp only [Act.put, List.setIfInBounds_toArray, List.set_cons_zero, List.set_cons_succ]
        refine runH 16 (oi := ?oia16) ?hia16 (by kernel_rfl) (fun K hK => ?_)
        case hia16 => (simp only [List.getElem?_toArray, List.getElem?_cons_succ, List.getElem?_cons_zero]; exact rfl)
        go_simp
        refine hK.out _ _ ?_ (fun hHeld2 => ?_)
        · (try dsimp only); (first | (with_reducible exact HKK.out _ (Below.refl _ _)) | (with_reducible exact HKK.out _ HV.out))
        clear hK K hHeld
        have hHeld := hHeld2
        clear hHeld2
        try simp only [Act.put, List.setIfInBounds_toArray, List.set_cons_zero, List.set_cons_succ]
        refine runH 17 (oi := ?oia17) ?hia17 (by kernel_rfl) (fun K hK => ?_)
        case hia17 => (simp only [List.getElem?_toArray, List.getElem?_cons_succ, List.getElem?_cons_zero]; exact rfl)
        go_simp
        refine hK.out _ _ ?_ (fun hHeld2 => ?_)
        · (try dsimp only); (first | (with_reducible exact HKK.out _ (Below.refl _ _)) | (with_reducible exact HKK.out _ HV.out))
        clear hK K hHeld
        have hHeld := hHeld2
        clear hHeld2
        try simp only [Act.put, List.setIfInBounds_toArray, List.set_cons_zero, List.set_cons_succ]
        refine skipH 18 (oi := ?oia18) ?hia18 (by kernel_rfl) (by kernel_rfl) (by kernel_rfl) (fun _ _ _ h => h) ?hwa18 hHeld ?_
        case hia18 => (simp only [List.getElem?_toArray, List.getElem?_cons_succ, List.getElem?_cons_zero]; exact rfl)
        case hwa18 => rfl
        try simp only [Act.put, List.setIfInBounds_toArray, List.set_cons_zero, List.set_cons_succ]
        refine takeH 19 (oi := ?oia19) ?hia19 (v := ?va19) (by kernel_rfl) (by kernel_rfl) (by kernel_rfl) (fun _ _ _ h => h) ?hwa19 ?hya19 hHeld ?_
        case hia19 => (simp only [List.getElem?_toArray, List.getElem?_cons_succ, List.getElem?_cons_zero]; exact rfl)
        case hwa19 => rfl
        case hya19 => (intro w hSw; (try dsimp only at hSw); go_simp; all_goals (with_reducible rfl))
        try simp only [Act.put, List.setIfInBounds_toArray, List.set_cons_zero, List.set_cons_succ]
        refine takeH 20 (oi := ?oia20) ?hia20 (v := ?va20) (by kernel_rfl) (by kernel_rfl) (by kernel_rfl) (fun _ _ _ h => h) ?hwa20 ?hya20 hHeld ?_
        case hia20 => (simp only [List.getElem?_toArray, List.getElem?_cons_succ, List.getElem?_cons_zero]; exact rfl)
        case hwa20 => rfl
        case hya20 => (intro w hSw; (try dsimp only at hSw); go_simp; all_goals (with_reducible rfl))
        try simp only [Act.put, List.setIfInBounds_toArray, List.set_cons_zero, List.set_cons_succ]
        refine takeH 21 (oi := ?oia21) ?hia21 (v := ?va21) (by kernel_rfl) (by kernel_rfl) (by kernel_rfl) (fun _ _ _ h => h) ?hwa21 ?hya21 hHeld ?_
        case hia21 => (simp only [List.getElem?_toArray, List.getElem?_cons_succ, List.getElem?_cons_zero]; exact rfl)
        case hwa21 => rfl
        case hya21 => (intro w hSw; (try dsimp only at hSw); go_simp; all_goals (with_reducible rfl))
        try simp only [Act.put, List.setIfInBounds_toArray, List.set_cons_zero, List.set_cons_succ]
        refine takeH 22 (oi := ?oia22) ?hia22 (v := ?va22) (by kernel_rfl) (by kernel_rfl) (by kernel_rfl) (fun _ _ _ h => h) ?hwa22 ?hya22 hHeld ?_
        case hia22 => (simp only [List.getElem?_toArray, List.getElem?_cons_succ, List.getElem?_cons_zero]; exact rfl)
        case hwa22 => rfl
        case hya22 => (intro w hSw; (try dsimp only at hSw); go_simp; all_goals (with_reducible rfl))
        try simp only [Act.put, List.setIfInBounds_toArray, List.set_cons_zero, List.set_cons_succ]
        refine takeH 23 (oi := ?oia23) ?hia23 (v := ?va23) (by kernel_rfl) (by kernel_rfl) (by kernel_rfl) (fun _ _ _ h => h) ?hwa23 ?hya23 hHeld ?_
        case hia23 => (simp only [List.getElem?_toArray, List.getElem?_cons_succ, List.getElem?_cons_zero]; exact rfl)
        case hwa23 => rfl
        case hya23 => (intro w hSw; (try dsimp only at hSw); go_simp; all_goals (with_reducible rfl))
        try simp only [Act.put, List.setIfInBounds_toArray, List.set_cons_zero, List.set_cons_succ]
        refine takeH 24 (oi := ?oia24) ?hia24 (v := ?va24) (by kernel_rfl) (by kernel_rfl) (by kernel_rfl) (fun _ _ _ h => h) ?hwa24 ?hya24 hHeld ?_
        case hia24 => (simp only [List.getElem?_toArray, List.getElem?_cons_succ, List.getElem?_cons_zero]; exact rfl)
        case hwa24 => rfl
        case hya24 => (intro w hSw; (try dsimp only at hSw); go_simp; all_goals (with_reducible rfl))
        try simp only [Act.put, List.setIfInBounds_toArray, List.set_cons_zero, List.set_cons_succ]
        refine takeH 25 (oi := ?oia25) ?hia25 (v := ?va25) (by kernel_rfl) (by kernel_rfl) (by kernel_rfl) (fun _ _ _ h => h) ?hwa25 ?hya25 hHeld ?_
        case hia25 => (simp only [List.getElem?_toArray, List.getElem?_cons_succ, List.getElem?_cons_zero]; exact rfl)
        case hwa25 => rfl
        case hya25 => (intro w hSw; (try dsimp only at hSw); go_simp; all_goals (with_reducible rfl))
        try simp only [Act.put, List.setIfInBounds_toArray, List.set_cons_zero, List.set_cons_succ]
        refine takeH 26 (oi := ?oia26) ?hia26 (v := ?va26) (by kernel_rfl) (by kernel_rfl) (by kernel_rfl) (fun _ _ _ h => h) ?hwa26 ?hya26 hHeld ?_
        case hia26 => (simp only [List.getElem?_toArray, List.getElem?_cons_succ, List.getElem?_cons_zero]; exact rfl)
        case hwa26 => rfl
        case hya26 => (intro w hSw; (try dsimp only at hSw); go_simp; all_goals (with_reducible rfl))
        try simp only [Act.put, List.setIfInBounds_toArray, List.set_cons_zero, List.set_cons_succ]
        refine runH 27 (oi := ?oia27) ?hia27 (by kernel_rfl) (fun K hK => ?_)
        case hia27 => (simp only [List.getElem?_toArray, List.getElem?_cons_succ, List.getElem?_cons_zero]; exact rfl)
        go_simp
        refine hK.out _ _ ?_ (fun hHeld2 => ?_)
        · (try dsimp only); (first | (with_reducible exact HKK.out _ (Below.refl _ _)) | (with_reducible exact HKK.out _ HV.out))
        clear hK K hHeld
        have hHeld := hHeld2
        clear hHeld2
        try simp only [Act.put, List.setIfInBounds_toArray, List.set_cons_zero, List.set_cons_succ]
        refine takeH 28 (oi := ?oia28) ?hia28 (v := ?va28) (by kernel_rfl) (by kernel_rfl) (by kernel_rfl) (fun _ _ _ h => h) ?hwa28 ?hya28 hHeld ?_
        case hia28 => (simp only [List.getElem?_toArray, List.getElem?_cons_succ, List.getElem?_cons_zero]; exact rfl)
        case hwa28 => rfl
        case hya28 => (intro w hSw; (try dsimp only at hSw); go_simp; all_goals (with_reducible rfl))
        try simp only [Act.put, List.setIfInBounds_toArray, List.set_cons_zero, List.set_cons_succ]
        refine takeH 29 (oi := ?oia29) ?hia29 (v := ?va29) (by kernel_rfl) (by kernel_rfl) (by kernel_rfl) (fun _ _ _ h => h) ?hwa29 ?hya29 hHeld ?_
        case hia29 => (simp only [List.getElem?_toArray, List.getElem?_cons_succ, List.getElem?_cons_zero]; exact rfl)
        case hwa29 => rfl
        case hya29 => (intro w hSw; (try dsimp only at hSw); go_simp; all_goals (with_reducible rfl))
        try simp only [Act.put, List.setIfInBounds_toArray, List.set_cons_zero, List.set_cons_succ]
        refine skipH 30 (oi := ?oia30) ?hia30 (by kernel_rfl) (by kernel_rfl) (by kernel_rfl) (fun _ _ _ h => h) ?hwa30 hHeld ?_
        case hia30 => (simp only [List.getElem?_toArray, List.getElem?_cons_succ, List.getElem?_cons_zero]; exact rfl)
        case hwa30 => rfl
        try simp only [Act.put, List.setIfInBounds_toArray, List.set_cons_zero, List.set_cons_succ]
        refine skipH 31 (oi := ?oia31) ?hia31 (by kernel_rfl) (by kernel_rfl) (by kernel_rfl) (fun _ _ _ h => h) ?hwa31 hHeld ?_
        case hia31 => (simp only [List.getElem?_toArray, List.getElem?_cons_succ, List.getElem?_cons_zero]; exact rfl)
        case hwa31 => rfl
        try simp only [Act.put, List.setIfInBounds_toArray, List.set_cons_zero, List.set_cons_succ]
        refine skipH 32 (oi := ?oia32) ?hia32 (by kernel_rfl) (by kernel_rfl) (by kernel_rfl) (fun _ _ _ h => h) ?hwa32 hHeld ?_
        case hia32 => (simp only [List.getElem?_toArray, List.getElem?_cons_succ, List.getElem?_cons_zero]; exact rfl)
        case hwa32 => rfl
        try simp only [Act.put, List.setIfInBounds_toArray, List.set_cons_zero, List.set_cons_succ]
        refine skipH 33 (oi := ?oia33) ?hia33 (by kernel_rfl) (by kernel_rfl) (by kernel_rfl) (fun _ _ _ h => h) ?hwa33 hHeld ?_
        case hia33 => (simp only [List.getElem?_toArray, List.getElem?_cons_succ, List.getElem?_cons_zero]; exact rfl)
        case hwa33 => rfl
        try simp only [Act.put, List.setIfInBounds_toArray, List.set_cons_zero, List.set_cons_succ]
        refine skipH 34 (oi := ?oia34) ?hia34 (by kernel_rfl) (by kernel_rfl) (by kernel_rfl) (fun _ _ _ h => h) ?hwa34 hHeld ?_
        case hia34 => (simp only [List.getElem?_toArray, List.getElem?_cons_succ, List.getElem?_cons_zero]; exact rfl)
        case hwa34 => rfl
        try simp only [Act.put, List.setIfInBounds_toArray, List.set_cons_zero, List.set_cons_succ]
        refine skipH 36 (oi := ?oia36) ?hia36 (by kernel_rfl) (by kernel_rfl) (by kernel_rfl) (fun _ _ _ h => h) ?hwa36 hHeld ?_
        case hia36 => (simp only [List.getElem?_toArray, List.getElem?_cons_succ, List.getElem?_cons_zero]; exact rfl)
        case hwa36 => rfl
        try simp only [Act.put, List.setIfInBounds_toArray, List.set_cons_zero, List.set_cons_succ]
        refine skipH 37 (oi := ?oia37) ?hia37 (by kernel_rfl) (by kernel_rfl) (by kernel_rfl) (fun _ _ _ h => h) ?hwa37 hHeld ?_
        case hia37 => (simp only [List.getElem?_toArray, List.getElem?_cons_succ, List.getElem?_cons_zero]; exact rfl)
        case hwa37 => rfl
        try simp only [Act.put, List.setIfInBounds_toArray, List.set_cons_zero, List.set_cons_succ]
        refine skipH 38 (oi := ?oia38) ?hia38 (by kernel_rfl) (by kernel_rfl) (by kernel_rfl) (fun _ _ _ h => h) ?hwa38 hHeld ?_
        case hia38 => (simp only [List.getElem?_toArray, List.getElem?_cons_succ, List.getElem?_cons_zero]; exact rfl)
        case hwa38 => rfl
        try simp only [Act.put, List.setIfInBounds_toArray, List.set_cons_zero, List.set_cons_succ]
        refine skipH 39 (oi := ?oia39) ?hia39 (by kernel_rfl) (by kernel_rfl) (by kernel_rfl) (fun _ _ _ h => h) ?hwa39 hHeld ?_
        case hia39 => (simp only [List.getElem?_toArray, List.getElem?_cons_succ, List.getElem?_cons_zero]; exact rfl)
        case hwa39 => rfl
        try simp only [Act.put, List.setIfInBounds_toArray, List.set_cons_zero, List.set_cons_succ]
        refine skipH 40 (oi := ?oia40) ?hia40 (by kernel_rfl) (by kernel_rfl) (by kernel_rfl) (fun _ _ _ h => h) ?hwa40 hHeld ?_
        case hia40 => (simp only [List.getElem?_toArray, List.getElem?_cons_succ, List.getElem?_cons_zero]; exact rfl)
        case hwa40 => rfl
        try simp only [Act.put, List.setIfInBounds_toArray, List.set_cons_zero, List.set_cons_succ]
        refine runH 35 (oi := ?oia35) ?hia35 (by kernel_rfl) (fun K hK => ?_)
        case hia35 => (simp only [List.getElem?_toArray, List.getElem?_cons_succ, List.getElem?_cons_zero]; exact rfl)
        go_simp
        refine hK.out _ _ ?_ (fun hHeld2 => ?_)
        · (try dsimp only); (first | (with_reducible exact HKK.out _ (Below.refl _ _)) | (with_reducible exact HKK.out _ HV.out))
        clear hK K hHeld
        have hHeld := hHeld2
        clear hHeld2
        try simp only [Act.put, List.setIfInBounds_toArray, List.set_cons_zero, List.set_cons_succ]
        refine runH 41 (oi := ?oia41) ?hia41 (by kernel_rfl) (fun K hK => ?_)
        case hia41 => (simp only [List.getElem?_toArray, List.getElem?_cons_succ, List.getElem?_cons_zero]; exact rfl)
        go_simp
        refine hK.out _ _ ?_ (fun hHeld2 => ?_)
        · (try dsimp only); (first | (with_reducible exact HKK.out _ (Below.refl _ _)) | (with_reducible exact HKK.out _ HV.out))
        clear hK K hHeld
        have hHeld := hHeld2
        clear hHeld2
        try simp only [Act.put, List.setIfInBounds_toArray, List.set_cons_zero, List.set_cons_succ]
        refine runH 42 (oi := ?oia42) ?hia42 (by kernel_rfl) (fun K hK => ?_)
        case hia42 => (simp only [List.getElem?_toArray, List.getElem?_cons_succ, List.getElem?_cons_zero]; exact rfl)
        go_simp
        refine hK.out _ _ ?_ (fun hHeld2 => ?_)
        · (try dsimp only); (first | (with_reducible exact HKK.out _ (Below.refl _ _)) | (with_reducible exact HKK.out _ HV.out))
        clear hK K hHeld
        have hHeld := hHeld2
        clear hHeld2
        try simp only [Act.put, List.setIfInBounds_toArray, List.set_cons_zero, List.set_cons_succ]
        refine skipH 43 (oi := ?oia43) ?hia43 (by kernel_rfl) (by kernel_rfl) (by kernel_rfl) (fun _ _ _ h => h) ?hwa43 hHeld ?_
        case hia43 => (simp only [List.getElem?_toArray, List.getElem?_cons_succ, List.getElem?_cons_zero]; exact rfl)
        case hwa43 => rfl
        try simp only [Act.put, List.setIfInBounds_toArray, List.set_cons_zero, List.set_cons_succ]
        refine takeH 44 (oi := ?oia44) ?hia44 (v := ?va44) (by kernel_rfl) (by kernel_rfl) (by kernel_rfl) (fun _ _ _ h => h) ?hwa44 ?hya44 hHeld ?_
        case hia44 => (simp only [List.getElem?_toArray, List.getElem?_cons_succ, List.getElem?_cons_zero]; exact rfl)
        case hwa44 => rfl
        case hya44 => (intro w hSw; (try dsimp only at hSw); go_simp; all_goals (with_reducible rfl))
        try simp only [Act.put, List.setIfInBounds_toArray, List.set_cons_zero, List.set_cons_succ]
        refine takeH 45 (oi := ?oia45) ?hia45 (v := ?va45) (by kernel_rfl) (by kernel_rfl) (by kernel_rfl) (fun _ _ _ h => h) ?hwa45 ?hya45 hHeld ?_
        case hia45 => (simp only [List.getElem?_toArray, List.getElem?_cons_succ, List.getElem?_cons_zero]; exact rfl)
        case hwa45 => rfl
        case hya45 => (intro w hSw; (try dsimp only at hSw); go_simp; all_goals (with_reducible rfl))
        try simp only [Act.put, List.setIfInBounds_toArray, List.set_cons_zero, List.set_cons_succ]
        refine wpAnyH_done (by kernel_rfl) ?_ _
        refine NoPanic.normal ?_
        clear hHeld
        all_goals
          have HVo := HV
          replace HV := hid (HEnd.out _ HV.out)
          go_wp2_with fail
          go_region_held3 (fun W : World => W.cell? ⟨w.heap.size, 0, none⟩ = some (.int .u64 s) ∧ W.cell? ⟨w.heap.size, 1, none⟩ = some (.int .i64 v) ∧ W.cell? ⟨w.heap.size, 2, none⟩ = some (.int .i64 d) ∧ W.cell? ⟨w.heap.size, 3, none⟩ = some (.int .i64 l) ∧ W.cell? ⟨w.heap.size, 4, none⟩ = some (.int .i64 tt) ∧ W.cell? ⟨w.heap.size, 5, none⟩ = some (.int .i64 h) ∧ W.cell? ⟨w.heap.size + 1, 0, none⟩ = some (.int .u64 s) ∧ W.cell? ⟨w.heap.size + 1, 1, none⟩ = some (.int .i64 v2) ∧ W.cell? ⟨w.heap.size + 1, 2, none⟩ = some (.int .i64 d) ∧ W.cell? ⟨w.heap.size + 1, 3, none⟩ = some (.int .i64 l2) ∧ W.cell? ⟨w.heap.size + 1, 4, none⟩ = some (.int .i64 tt2) ∧ W.cell? ⟨w.heap.size + 1, 5, none⟩ = some (.int .i64 h2) ∧ W.cell? ⟨w.heap.size + 1 + 1, 0, none⟩ = some (.int .i64 a2) ∧ W.cell? ⟨w.heap.size + 1 + 1, 1, none⟩ = some (.int .i64 b2)) (first | (with_reducible exact HKK.out _ HVo.out) | (with_reducible exact HKK.out _ HV.out))
              (first
                | (go_at_call 14; (with_reducible refine (HPa.out _ _ (HMa.out _ HV.out)).mono ?_); rintro e z5 ⟨u3, rfl, ho, hb⟩; replace HV := hid (HV.out.trans (hb.mono HV.out.size)); obtain ⟨p3, q3, rfl, hr3⟩ := Reads.own (k := .i64) ho; have HR3 := hid hr3; clear hb ho hr3)
                | (go_at_call 14; (with_reducible refine (HPb.out _ _ (HMb.out _ HV.out)).mono ?_); rintro e z6 ⟨u4, rfl, ho, hb⟩; replace HV := hid (HV.out.trans (hb.mono HV.out.size)); obtain ⟨p4, q4, rfl, hr4⟩ := Reads.own (k := .i64) ho; have HR4 := hid hr4; replace HR3 := hid (HR3.out.below hb); clear hb ho hr4)
                | (go_at_call 11; (with_reducible refine (same_yes p3 p4 _ q3 q4 ys _ HR3.out HR4.out (by omega)).mono ?_); rintro e z7 ⟨rfl, hb⟩; replace HV := hid (HV.out.trans (hb.mono HV.out.size)); clear hb HR3 HR4)
                | (go_at_call 9; (with_reducible refine (alive_any _).mono ?_); rintro e z11 ⟨rfl, hb⟩; replace HV := hid (HV.out.trans (hb.mono HV.out.size)); clear hb))
          all_goals
            go_wp2_with fail
            go_ret
            exact ⟨rfl, HX.out _ HV.out⟩

/-! ### The row's step -/
set_option maxRecDepth 1000000 in
theorem lifted (os : Os) (started : os.Started) (H : Type) (enc : TypeId × Value → H) :
    ReturnsInHanded {} Try.checked os 4 .any (Rows.modelPartsSpec.pre6 enc Try.prog Try.f4 Rows.modelPartsRow.domain false) (Rows.modelPartsSpec.post enc Try.prog Try.f4 false true false false) := by
  refine returnsInHanded_of_change (C := Try.checked) own started (by kernel_rfl) Try.func4
    (ChangeSpec.witness6 (enc := enc) (C := Try.checked) false ⟨#[], #[.agg #[.int .u64 0, .int .i64 0, .int .i64 0, .int .i64 0, .int .i64 0, .int .i64 0], .agg #[.int .u64 0, .int .i64 0, .int .i64 0, .int .i64 0, .int .i64 0, .int .i64 0], .agg #[.int .i64 0, .int .i64 0]], []⟩ 8 (by kernel_rfl) (by kernel_rfl) (by kernel_rfl) (by kernel_rfl)) ?_
  intro W base args ds gs before hval0 hW hcnd _
  have hval : ∀ (j : Nat) t v, Try.f4.params[j]? = some t → args[j]? = some v → Value.okWide Try.prog W .any base t v := hval0
  have hW' := hW
  obtain ⟨p, q, hA0, hV, rfl, hfz, hnd⟩ := hW
  have hA : DataW.TrodAll enc Try.prog W 0 (fun _ => true) true Try.f4.params.toList args.toList ds p := hA0
  rw [Try.params4] at hA hval
  obtain ⟨v0, vs0, d0, ds0, p0, q0, hargs, rfl, rfl, h0, r0⟩ := trodAll_cons hA
  obtain ⟨v1, vs1, d1, ds1, p1, q1, rfl, rfl, rfl, h1, r1⟩ := trodAll_cons r0
  obtain ⟨v2, vs2, d2, ds2, p2, q2, rfl, rfl, rfl, h2, r2⟩ := trodAll_cons r1
  obtain ⟨rfl, rfl, rfl⟩ := trodAll_nil r2
  obtain rfl : args = #[v0, v1, v2] := by cases args; simp_all
  obtain ⟨rfl, rfl⟩ := trodVars_none hV
  have k0 := h0
  have lt0 : ∀ x ∈ p0, x.block < W.heap.size := by obtain ⟨m, hm⟩ := k0; exact DataW.trod_lt m _ _ _ hm
  obtain ⟨c0, rfl⟩ := conf_open (hval 0 24 v0 rfl rfl) h0
  have k1 := h1
  have lt1 : ∀ x ∈ p1, x.block < W.heap.size := by obtain ⟨m, hm⟩ := k1; exact DataW.trod_lt m _ _ _ hm
  obtain ⟨c1, rfl⟩ := conf_open (hval 1 24 v1 rfl rfl) h1
  have k2 := h2
  have lt2 : ∀ x ∈ p2, x.block < W.heap.size := by obtain ⟨m, hm⟩ := k2; exact DataW.trod_lt m _ _ _ hm
  obtain ⟨a2, b2, rfl⟩ := pair_open (hval 2 25 v2 rfl rfl) h2
  clear hA0 hval0
  refine (walk c0 c1 a2 b2 W).mono fun e W' ⟨he, bel⟩ => ?_
  subst he
  exact ⟨_, rfl, _, _, _, [], _, [], hW', trodAll_mk1 (shut_bool Try.underlying4 _), (trodAll_cons_mk (Below.trod laidOut (by kernel_rfl) (of_decide_eq_true (by kernel_rfl)) k0 bel lt0) (trodAll_cons_mk (Below.trod laidOut (by kernel_rfl) (of_decide_eq_true (by kernel_rfl)) k1 bel lt1) (trodAll_cons_mk (Below.trod laidOut (by kernel_rfl) (of_decide_eq_true (by kernel_rfl)) k2 bel lt2) trodAll_mk0))), rfl, bel.frame _, fun h => by cases h⟩

theorem over : Rows.modelPartsRow.holds Try.pinned (OpenSpec.ofChange Rows.modelPartsSpec) :=
  OpenClaim.holds_of_wide 4 Try.f4 rfl rfl rfl rfl rfl rfl rfl ⟨rfl, rfl, rfl, rfl, rfl⟩ rfl rfl rfl rfl rfl (by kernel_rfl) Try.func4 (by kernel_rfl)
    (of_decide_eq_true (by kernel_rfl)) (by unfold Func.isWrapper; first | (rw [if_pos (by decide +kernel)]; kernel_rfl) | (rw [if_neg (by decide +kernel)]; exact ⟨rfl, rfl⟩))
    (fun os started H enc _ => lifted os started H enc)

/-- The statement. -/
theorem proved : Rows.ModelPartsSaid := over
#print axioms proved
end Go.Proofs.Ytecaklehaioohaa.modelParts
