/-
  Proved: any configuration's model, each row and each table of it, are the document's, or refused: ModelTables hands back true for whatever configuration and numbers.
-/
import Derived.Test.YtecaklehaioohaaRows
import Derived.Test.YtecaklehaioohaaAsks
import Derived.Deep.RegionHeld3
import Derived.WalkKit
import Derived.ProofKit
import Derived.OpenShut
import Derived.ShutString
import Derived.ChangeOld
import Derived.Below
namespace Go.Proofs.Ytecaklehaioohaa.modelTables
open Go.ChangeShapes Go.WideShapes Go.ChangeAt Go.RowKit
open Go.ChangeMaps (open_string shut_string)
set_option linter.unusedVariables false

theorem own : ownKnob Try.prog.godebug = none := by kernel_rfl
theorem laidOut : laidOutB Try.prog = true := by kernel_rfl

/-! ### The walk -/
set_option maxRecDepth 1000000 in
set_option maxHeartbeats 8000000 in
theorem walk (c0 : Cf) (a1 b1 : Int) (w : World) :
    Calls Try.prog 3 #[.agg (CfV c0), .agg #[.int .i64 a1, .int .i64 b1]] w fun e w' => e = .returned (.bool true) ∧ Below w.heap.size w w' := by
  have HB0 : Hid (Below w.heap.size w ((w.alloc (.cells (CfV c0) 24)).alloc (.cells #[.int .i64 a1, .int .i64 b1] 25))) := ((Below.refl _ _).alloc (Nat.le_refl _) _).alloc (by simp) _
  have HK : Hid (∀ W : World, Below ((w.alloc (.cells (CfV c0) 24)).alloc (.cells #[.int .i64 a1, .int .i64 b1] 25)).heap.size ((w.alloc (.cells (CfV c0) 24)).alloc (.cells #[.int .i64 a1, .int .i64 b1] 25)) W →
      W.cell? ⟨w.heap.size, 0, none⟩ = some (.int .u64 c0.seed) ∧ W.cell? ⟨w.heap.size, 1, none⟩ = some (.int .i64 c0.vocab) ∧ W.cell? ⟨w.heap.size, 2, none⟩ = some (.int .i64 c0.dim) ∧ W.cell? ⟨w.heap.size, 3, none⟩ = some (.int .i64 c0.layers) ∧ W.cell? ⟨w.heap.size, 4, none⟩ = some (.int .i64 c0.top) ∧ W.cell? ⟨w.heap.size, 5, none⟩ = some (.int .i64 c0.heat) ∧ W.cell? ⟨w.heap.size + 1, 0, none⟩ = some (.int .i64 a1) ∧ W.cell? ⟨w.heap.size + 1, 1, none⟩ = some (.int .i64 b1)) := by
    intro W hW
    have e1 : ((w.alloc (.cells (CfV c0) 24)).alloc (.cells #[.int .i64 a1, .int .i64 b1] 25)).heap[w.heap.size]? = some (.cells (CfV c0) 24 (0, 0)) := by
      rw [Below.heap_alloc _ _ _ (by simp)]; exact heap_alloc_new w _
    have e2 : ((w.alloc (.cells (CfV c0) 24)).alloc (.cells #[.int .i64 a1, .int .i64 b1] 25)).heap[w.heap.size + 1]? = some (.cells #[.int .i64 a1, .int .i64 b1] 25 (0, 0)) := by
      have := heap_alloc_new (w.alloc (.cells (CfV c0) 24)) (.cells #[.int .i64 a1, .int .i64 b1] 25)
      simpa using this
    obtain ⟨x0, x1, x2, x3, x4, x5⟩ := Cf_cells (block_below e1 hW)
    have e3 := block_below e2 hW
    exact ⟨x0, x1, x2, x3, x4, x5, by rw [cell_of_row _ _ _ _ _ _ e3]; rfl, by rw [cell_of_row _ _ _ _ _ _ e3]; rfl⟩
  have HM := hid (may_any c0)
  have HRM := hid (rmay_any c0)
  cases hc : mayB c0 with
  | false =>
    have hN := new_no c0 ((w.alloc (.cells (CfV c0) 24)).alloc (.cells #[.int .i64 a1, .int .i64 b1] 25)) hc
    rw [hc] at HM HRM
    clear hc
    obtain ⟨s, v, d, l, tt, h⟩ := c0
    unfold CfV at *
    simp only at HB0 HK HM HRM hN ⊢
    go_enter Try.func3, Try.ntmps3
    go_wp2_with fail
    refine hN.mono ?_
    rintro e w1 ⟨rfl, hb⟩
    have HW := hid hb
    obtain ⟨x0, x1, x2, x3, x4, x5, x6, x7⟩ := HK.out _ HW.out
    clear hN hb
    go_wp2_with fail
    refine (HRM.out _).mono ?_
    rintro e w2 ⟨rfl, hb⟩
    replace HW := hid (HW.out.trans (hb.mono HW.out.size))
    clear hb x0 x1 x2 x3 x4 x5 x6 x7 HRM
    obtain ⟨x0, x1, x2, x3, x4, x5, x6, x7⟩ := HK.out _ HW.out
    go_wp2_with fail
    refine (HM.out _).mono ?_
    rintro e w3 ⟨rfl, hb⟩
    replace HW := hid (HW.out.trans (hb.mono HW.out.size))
    clear hb x0 x1 x2 x3 x4 x5 x6 x7
    obtain ⟨x0, x1, x2, x3, x4, x5, x6, x7⟩ := HK.out _ HW.out
    go_wp2_with fail
    refine (HM.out _).mono ?_
    rintro e w4 ⟨rfl, hb⟩
    replace HW := hid (HW.out.trans (hb.mono HW.out.size))
    clear hb x0 x1 x2 x3 x4 x5 x6 x7 HM HK
    go_wp2_with fail
    refine (alive_any _).mono ?_
    rintro e w5 ⟨rfl, hb⟩
    replace HW := hid (HB0.out.trans ((HW.out.trans (hb.mono HW.out.size)).mono HB0.out.size))
    clear hb HB0
    go_wp2
    go_ret
    exact ⟨rfl, HW.out⟩
  | true =>
    have hN := new_yes c0 ((w.alloc (.cells (CfV c0) 24)).alloc (.cells #[.int .i64 a1, .int .i64 b1] 25)) hc
    have HT := hid fun p W (hp : MdAt W p c0) => token_g p c0 a1 W hp hc
    have HRT := hid fun W => rtoken_g c0 a1 W hc
    have HP := hid fun p W (hp : MdAt W p c0) => place_g p c0 b1 W hp hc
    have HRP := hid fun W => rplace_g c0 b1 W hc
    have HR := hid fun p W (hp : MdAt W p c0) => rows_g p c0 a1 b1 W hp hc
    have HRR := hid fun W => rrows_g c0 a1 b1 W hc
    have HC := hid fun p W (hp : MdAt W p c0) => config_any p c0 W hp
    have ht16 := tokL_len hc a1
    have hp16 := plL_len hc b1
    have hr16 := tabL_len hc a1 b1
    rw [hc] at HM HRM
    generalize tokL c0 a1 = xs at *
    generalize plL c0 b1 = ys at *
    generalize tabL c0 a1 b1 = ls at *
    clear hc
    obtain ⟨s, v, d, l, tt, h⟩ := c0
    unfold CfV at *
    simp only at HB0 HK HM HRM hN HC HRT HRP HRR ⊢
    go_enter Try.func3, Try.ntmps3
    go_wp2_with fail
    refine hN.mono ?_
    rintro e w1 ⟨g, rfl, hg, hM, hb⟩
    have HMd : Hid (MdAt w1 (some ⟨g, 0, none⟩) ⟨s, v, d, l, tt, h⟩) := .inr ⟨g, rfl, hM⟩
    have HW := hid hb
    obtain ⟨x0, x1, x2, x3, x4, x5, x6, x7⟩ := HK.out _ HW.out
    clear hN hb hM hg
    go_wp2_with fail
    refine (HRM.out _).mono ?_
    rintro e w2 ⟨rfl, hb⟩
    replace HW := hid (HW.out.trans (hb.mono HW.out.size))
    replace HMd := hid (HMd.out.below hb)
    clear hb x0 x1 x2 x3 x4 x5 x6 x7 HRM
    obtain ⟨x0, x1, x2, x3, x4, x5, x6, x7⟩ := HK.out _ HW.out
    go_wp2_with fail
    refine (HM.out _).mono ?_
    rintro e w3 ⟨rfl, hb⟩
    replace HW := hid (HW.out.trans (hb.mono HW.out.size))
    replace HMd := hid (HMd.out.below hb)
    clear hb x0 x1 x2 x3 x4 x5 x6 x7 HM
    have HKK : Hid (∀ W : World, Below w3.heap.size w3 W → W.cell? ⟨w.heap.size, 0, none⟩ = some (.int .u64 s) ∧ W.cell? ⟨w.heap.size, 1, none⟩ = some (.int .i64 v) ∧ W.cell? ⟨w.heap.size, 2, none⟩ = some (.int .i64 d) ∧ W.cell? ⟨w.heap.size, 3, none⟩ = some (.int .i64 l) ∧ W.cell? ⟨w.heap.size, 4, none⟩ = some (.int .i64 tt) ∧ W.cell? ⟨w.heap.size, 5, none⟩ = some (.int .i64 h) ∧ W.cell? ⟨w.heap.size + 1, 0, none⟩ = some (.int .i64 a1) ∧ W.cell? ⟨w.heap.size + 1, 1, none⟩ = some (.int .i64 b1)) := fun W hW => HK.out _ (HW.out.trans (hW.mono HW.out.size))
    have HMM : Hid (∀ W : World, Below w3.heap.size w3 W → MdAt W (some ⟨g, 0, none⟩) ⟨s, v, d, l, tt, h⟩) := fun W hW => HMd.out.below hW
    have HV : Hid (Below w3.heap.size w3 w3.drew) := (Below.refl _ _).drew
    have HX : Hid (∀ W : World, Below w3.heap.size w3 W → Below w.heap.size w W) := fun W hW => HB0.out.trans ((HW.out.trans (hW.mono HW.out.size)).mono HB0.out.size)
    clear HW HMd HB0 HK
    go_wp2_with fail
    go_region_held3 (fun W : World => W.cell? ⟨w.heap.size, 0, none⟩ = some (.int .u64 s) ∧ W.cell? ⟨w.heap.size, 1, none⟩ = some (.int .i64 v) ∧ W.cell? ⟨w.heap.size, 2, none⟩ = some (.int .i64 d) ∧ W.cell? ⟨w.heap.size, 3, none⟩ = some (.int .i64 l) ∧ W.cell? ⟨w.heap.size, 4, none⟩ = some (.int .i64 tt) ∧ W.cell? ⟨w.heap.size, 5, none⟩ = some (.int .i64 h) ∧ W.cell? ⟨w.heap.size + 1, 0, none⟩ = some (.int .i64 a1) ∧ W.cell? ⟨w.heap.size + 1, 1, none⟩ = some (.int .i64 b1)) (first | (with_reducible exact HKK.out _ (Below.refl _ _)) | (with_reducible exact HKK.out _ HV.out))
      (first
        | (go_at_call 10; (with_reducible refine (HC.out _ _ (HMM.out _ HV.out)).mono ?_); rintro e y1 ⟨rfl, hb⟩; replace HV := hid (HV.out.trans (hb.mono HV.out.size)); clear hb)
        | (go_at_call 12; (with_reducible refine (HT.out _ _ (HMM.out _ HV.out)).mono ?_); rintro e y2 ⟨u1, rfl, ho, hb⟩; replace HV := hid (HV.out.trans (hb.mono HV.out.size)); obtain ⟨p1, q1, rfl, hr1⟩ := Reads.own (k := .i64) ho; have HR1 := hid hr1; clear hb ho hr1)
        | (go_at_call 13; (with_reducible refine (HRT.out _).mono ?_); rintro e y3 ⟨u2, rfl, ho, hb⟩; replace HV := hid (HV.out.trans (hb.mono HV.out.size)); obtain ⟨p2, q2, rfl, hr2⟩ := Reads.own (k := .i64) ho; have HR2 := hid hr2; replace HR1 := hid (HR1.out.below hb); clear hb ho hr2)
        | (go_at_call 11; (with_reducible refine (same_yes p1 p2 _ q1 q2 xs _ HR1.out HR2.out (by omega)).mono ?_); rintro e y4 ⟨rfl, hb⟩; replace HV := hid (HV.out.trans (hb.mono HV.out.size)); clear hb HR1 HR2)
        | (go_at_call 14; (with_reducible refine (HP.out _ _ (HMM.out _ HV.out)).mono ?_); rintro e y5 ⟨u3, rfl, ho, hb⟩; replace HV := hid (HV.out.trans (hb.mono HV.out.size)); obtain ⟨p3, q3, rfl, hr3⟩ := Reads.own (k := .i64) ho; have HR3 := hid hr3; clear hb ho hr3)
        | (go_at_call 15; (with_reducible refine (HRP.out _).mono ?_); rintro e y6 ⟨p4, q4, rfl, hr4, hb⟩; replace HV := hid (HV.out.trans (hb.mono HV.out.size)); have HR4 := hid hr4; replace HR3 := hid (HR3.out.below hb); clear hb hr4)
        | (go_at_call 11; (with_reducible refine (same_yes p3 p4 _ q3 q4 ys _ HR3.out HR4.out (by omega)).mono ?_); rintro e y7 ⟨rfl, hb⟩; replace HV := hid (HV.out.trans (hb.mono HV.out.size)); clear hb HR3 HR4)
        | (go_at_call 17; (with_reducible refine (HR.out _ _ (HMM.out _ HV.out)).mono ?_); rintro e y8 ⟨p5, q5, hs5, rfl, hr5, hb⟩; replace HV := hid (HV.out.trans (hb.mono HV.out.size)); have HR5 := hid hr5; clear hb hr5)
        | (go_at_call 18; (with_reducible refine (HRR.out _).mono ?_); rintro e y9 ⟨p6, q6, hs6, rfl, hr6, hb⟩; replace HV := hid (HV.out.trans (hb.mono HV.out.size)); have HR6 := hid hr6; replace HR5 := hid (HR5.out.below hb); clear hb hr6)
        | (go_at_call 16; (with_reducible refine (rows_like p5 p6 _ q5 q6 hs5 hs6 ls _ HR5.out HR6.out (by omega)).mono ?_); rintro e y10 ⟨rfl, hb⟩; replace HV := hid (HV.out.trans (hb.mono HV.out.size)); clear hb HR5 HR6)
        | (go_at_call 9; (with_reducible refine (alive_any _).mono ?_); rintro e y11 ⟨rfl, hb⟩; replace HV := hid (HV.out.trans (hb.mono HV.out.size)); clear hb))
    all_goals
      go_wp2_with fail
      go_ret
      exact ⟨rfl, HX.out _ HV.out⟩

/-! ### The row's step -/
set_option maxRecDepth 1000000 in
theorem lifted (os : Os) (started : os.Started) (H : Type) (enc : TypeId × Value → H) :
    ReturnsInHanded {} Try.checked os 3 .any (Rows.modelTablesSpec.pre6 enc Try.prog Try.f3 Rows.modelTablesRow.domain false) (Rows.modelTablesSpec.post enc Try.prog Try.f3 false true false false) := by
  refine returnsInHanded_of_change (C := Try.checked) own started (by kernel_rfl) Try.func3
    (ChangeSpec.witness6 (enc := enc) (C := Try.checked) false ⟨#[], #[.agg #[.int .u64 0, .int .i64 0, .int .i64 0, .int .i64 0, .int .i64 0, .int .i64 0], .agg #[.int .i64 0, .int .i64 0]], []⟩ 8 (by kernel_rfl) (by kernel_rfl) (by kernel_rfl) (by kernel_rfl)) ?_
  intro W base args ds gs before hval0 hW hcnd _
  have hval : ∀ (j : Nat) t v, Try.f3.params[j]? = some t → args[j]? = some v → Value.okWide Try.prog W .any base t v := hval0
  have hW' := hW
  obtain ⟨p, q, hA0, hV, rfl, hfz, hnd⟩ := hW
  have hA : DataW.TrodAll enc Try.prog W 0 (fun _ => true) true Try.f3.params.toList args.toList ds p := hA0
  rw [Try.params3] at hA hval
  obtain ⟨v0, vs0, d0, ds0, p0, q0, hargs, rfl, rfl, h0, r0⟩ := trodAll_cons hA
  obtain ⟨v1, vs1, d1, ds1, p1, q1, rfl, rfl, rfl, h1, r1⟩ := trodAll_cons r0
  obtain ⟨rfl, rfl, rfl⟩ := trodAll_nil r1
  obtain rfl : args = #[v0, v1] := by cases args; simp_all
  obtain ⟨rfl, rfl⟩ := trodVars_none hV
  have k0 := h0
  have lt0 : ∀ x ∈ p0, x.block < W.heap.size := by obtain ⟨m, hm⟩ := k0; exact DataW.trod_lt m _ _ _ hm
  obtain ⟨c0, rfl⟩ := conf_open (hval 0 24 v0 rfl rfl) h0
  have k1 := h1
  have lt1 : ∀ x ∈ p1, x.block < W.heap.size := by obtain ⟨m, hm⟩ := k1; exact DataW.trod_lt m _ _ _ hm
  obtain ⟨a1, b1, rfl⟩ := pair_open (hval 1 25 v1 rfl rfl) h1
  clear hA0 hval0
  refine (walk c0 a1 b1 W).mono fun e W' ⟨he, bel⟩ => ?_
  subst he
  exact ⟨_, rfl, _, _, _, [], _, [], hW', trodAll_mk1 (shut_bool Try.underlying4 _), (trodAll_cons_mk (Below.trod laidOut (by kernel_rfl) (of_decide_eq_true (by kernel_rfl)) k0 bel lt0) (trodAll_cons_mk (Below.trod laidOut (by kernel_rfl) (of_decide_eq_true (by kernel_rfl)) k1 bel lt1) trodAll_mk0)), rfl, bel.frame _, fun h => by cases h⟩

theorem over : Rows.modelTablesRow.holds Try.pinned (OpenSpec.ofChange Rows.modelTablesSpec) :=
  OpenClaim.holds_of_wide 3 Try.f3 rfl rfl rfl rfl rfl rfl rfl ⟨rfl, rfl, rfl, rfl, rfl⟩ rfl rfl rfl rfl rfl (by kernel_rfl) Try.func3 (by kernel_rfl)
    (of_decide_eq_true (by kernel_rfl)) (by unfold Func.isWrapper; first | (rw [if_pos (by decide +kernel)]; kernel_rfl) | (rw [if_neg (by decide +kernel)]; exact ⟨rfl, rfl⟩))
    (fun os started H enc _ => lifted os started H enc)

/-- The statement. -/
theorem proved : Rows.ModelTablesSaid := over
#print axioms proved
end Go.Proofs.Ytecaklehaioohaa.modelTables
