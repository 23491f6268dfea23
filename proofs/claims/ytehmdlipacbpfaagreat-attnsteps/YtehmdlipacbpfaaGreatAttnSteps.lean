/-
  Proved: what any layer makes of any vector, with any keys and values, and its own key and value, are the document's: AttnSteps hands back true for whatever case.
-/
import Derived.Test.YtehmdlipacbpfaaGreatRows
import Derived.Test.YtehmdlipacbpfaaGreatACases
import Derived.Test.YtehmdlipacbpfaaGreatRStepY
import Derived.WalkKit
import Derived.ProofKit
import Derived.OpenShut
import Derived.ShutString
import Derived.ChangeOld
import Derived.Below
namespace Go.Proofs.YtehmdlipacbpfaaGreat.attnSteps
open Go.ChangeShapes Go.WideShapes Go.ChangeAt Go.RowKit
open Go.ChangeMaps (open_string shut_string)
set_option linter.unusedVariables false

theorem own : ownKnob Tryz.prog.godebug = none := by kernel_rfl
theorem laidOut : laidOutB Tryz.prog = true := by kernel_rfl

/-! ### The walk -/
set_option maxRecDepth 1000000 in
set_option maxHeartbeats 8000000 in
theorem walk (x0 : Ca) (w : World) (gx0 : CaIn w x0) :
    Calls Tryz.prog 3 #[.agg (CaV x0)] w fun e w' => e = .returned (.bool true) ∧ Below w.heap.size w w' := by
  obtain ⟨cf, la, ax, lx, cx, zs, ak, lk, ck, hk, ks, av, lv, cv, hv, vs⟩ := x0
  obtain ⟨gx, gk, gv⟩ := gx0
  simp only at gx gk gv
  obtain ⟨wA, hwA⟩ : ∃ wA, wA = w.alloc (.cells (CaV ⟨cf, la, ax, lx, cx, zs, ak, lk, ck, hk, ks, av, lv, cv, hv, vs⟩) 28) := ⟨_, rfl⟩
  have HB0 : Hid (Below w.heap.size w wA) := by unfold Hid; rw [hwA]; exact (Below.refl _ _).alloc (Nat.le_refl _) _
  have hsz : wA.heap.size = w.heap.size + 1 := by rw [hwA]; simp
  obtain ⟨wB, hwB⟩ : ∃ wB, wB = wA.alloc (.cells #[.slice ak lk ck, .slice av lv cv] 26) := ⟨_, rfl⟩
  have HBB : Hid (Below wA.heap.size wA wB) := by unfold Hid; rw [hwB]; exact (Below.refl _ _).alloc (Nat.le_refl _) _
  have HF := hid (lfar_any ax lx cx (some ⟨w.heap.size + 1, 0, none⟩) 2 2 [(ak, lk, ck), (av, lv, cv)] (fun i => if i = 0 then hk else hv) wB (by rw [hwB]; exact rd2_twoT _ wA ak av lk ck lv cv hsz) (fun i hi => by
    rcases (by omega : i = 0 ∨ i = 1) with rfl | rfl
    · exact (gk.1.below HB0.out).below HBB.out
    · exact (gv.1.below HB0.out).below HBB.out))
  have HX := hid fun W (hb : Below wA.heap.size wA W) => (gx.below HB0.out).below hb
  have HXs := hid gx.size
  have HKl := hid gk.2.1
  have HVl := hid gv.2.1
  have HTk := hid fun W (hb : Below wA.heap.size wA W) (h40 : ∀ j, j < lk → (hk[j]?.getD (none, 0, 0)).2.1 ≤ 40) => ((gk.tbl h40).below HB0.out).below hb
  have HTv := hid fun W (hb : Below wA.heap.size wA W) (h40 : ∀ j, j < lv → (hv[j]?.getD (none, 0, 0)).2.1 ≤ 40) => ((gv.tbl h40).below HB0.out).below hb
  have HNy := hid fun W (h : mayB cf = true) => new_yes cf W h
  have HNn := hid fun W (h : mayB cf = false) => new_no cf W h
  obtain ⟨s, vo, d, l, tt, h⟩ := cf
  have HK : Hid (∀ W : World, Below wA.heap.size wA W → W.cell? ⟨w.heap.size, 0, none⟩ = some (.int .u64 s) ∧ W.cell? ⟨w.heap.size, 1, none⟩ = some (.int .i64 vo) ∧ W.cell? ⟨w.heap.size, 2, none⟩ = some (.int .i64 d) ∧ W.cell? ⟨w.heap.size, 3, none⟩ = some (.int .i64 l) ∧ W.cell? ⟨w.heap.size, 4, none⟩ = some (.int .i64 tt) ∧ W.cell? ⟨w.heap.size, 5, none⟩ = some (.int .i64 h) ∧ W.cell? ⟨w.heap.size, 6, none⟩ = some (.int .i64 la) ∧ W.cell? ⟨w.heap.size, 7, none⟩ = some (.slice ax lx cx) ∧ W.cell? ⟨w.heap.size, 8, none⟩ = some (.slice ak lk ck) ∧ W.cell? ⟨w.heap.size, 9, none⟩ = some (.slice av lv cv)) := by
    intro W hb
    have e1 : wA.heap[w.heap.size]? = some (.cells (CaV ⟨⟨s, vo, d, l, tt, h⟩, la, ax, lx, cx, zs, ak, lk, ck, hk, ks, av, lv, cv, hv, vs⟩) 28 (0, 0)) := by rw [hwA]; exact heap_alloc_new w _
    have e2 := block_below e1 hb
    refine ⟨?_, ?_, ?_, ?_, ?_, ?_, ?_, ?_, ?_, ?_⟩ <;> (rw [cell_of_row _ _ _ _ _ _ e2]; rfl)
  clear gx gk gv
  unfold CfV at HNy HNn
  unfold CaV at hwA
  simp only at HNy HNn hwA
  unfold CaV
  simp only
  go_enter Tryz.func3, Tryz.ntmps3
  go_wp2_with fail
  rw [← hwA, ← hwB]
  refine HF.out.mono ?_
  rintro e w' ⟨b, rfl, hfar, rfl⟩
  rename World => wB
  have HV := HBB
  clear hwA hwB HF HBB hsz
  cases b with
  | true =>
    have HW0 := hid (HB0.out.trans (HV.out.mono HB0.out.size))
    clear HK HX HTk HTv HNy HNn hfar
    go_wp2_with fail
    refine (alive10_any _).mono ?_
    rintro e wz ⟨rfl, hb⟩
    have HZ := hid (HW0.out.trans (hb.mono HW0.out.size))
    clear hb
    go_wp2
    go_ret
    exact ⟨rfl, HZ.out⟩
  | false =>
  obtain ⟨hx40, hfr⟩ := hfar rfl
  have hf0 := hfr 0 (by simp)
  have hf1 := hfr 1 (by simp)
  have hlk : lk ≤ 30 := hf0.1
  have hlv : lv ≤ 30 := hf1.1
  replace HTk := hid fun W (hb : Below wA.heap.size wA W) => HTk.out W hb hf0.2
  replace HTv := hid fun W (hb : Below wA.heap.size wA W) => HTv.out W hb hf1.2
  clear hfar hfr hf0 hf1
  obtain ⟨x0, x1, x2, x3, x4, x5, x6, x7, x8, x9⟩ := HK.out _ HV.out
  cases hc : mayB ⟨s, vo, d, l, tt, h⟩ with
  | false =>
    have hN := HNn.out wB hc
    clear HX HTk HTv HNy HNn hc
    go_wp2_with fail
    refine hN.mono ?_
    rintro e w4 ⟨rfl, hb⟩
    have HW0 := hid (HB0.out.trans ((HV.out.trans (hb.mono HV.out.size)).mono HB0.out.size))
    clear hN hb x0 x1 x2 x3 x4 x5 x6 x7 x8 x9 HK
    go_wp2_with fail
    refine (alive10_any _).mono ?_
    rintro e wz ⟨rfl, hb⟩
    have HZ := hid (HW0.out.trans (hb.mono HW0.out.size))
    clear hb
    go_wp2
    go_ret
    exact ⟨rfl, HZ.out⟩
  | true =>
  have hN := HNy.out wB hc
  clear HNy HNn
  have HC := hid hc
  clear hc
  go_wp2_with fail
  refine hN.mono ?_
  rintro e w1 ⟨g, rfl, hg, hm, hb⟩
  have HMd : Hid (MdAt w1 (some ⟨g, 0, none⟩) ⟨s, vo, d, l, tt, h⟩) := .inr ⟨g, rfl, hm⟩
  replace HV := hid (HV.out.trans (hb.mono HV.out.size))
  clear hN hb hg hm x0 x1 x2 x3 x4 x5 x6 x7 x8 x9
  obtain ⟨x0, x1, x2, x3, x4, x5, x6, x7, x8, x9⟩ := HK.out _ HV.out
  by_cases hla : la < 0 ∨ l ≤ la
  · have hS := step_no (some ⟨g, 0, none⟩) ⟨s, vo, d, l, tt, h⟩ la ax lx cx zs (.slice ak lk ck) (.slice av lv cv) w1 HMd.out hla (HX.out _ HV.out) (by omega)
    clear HMd HTk HTv HKl HVl HC
    go_wp2_with fail
    refine hS.mono ?_
    rintro e w2 ⟨b1, b2, b3, n1, n2, n3, d1, d2, d3, rfl, hR1, hR2, hR3, _, _, _, hb⟩
    obtain rfl : n2 = 0 := hR2.size.symm
    obtain rfl : n3 = 0 := hR3.size.symm
    have HR1 := hid hR1
    replace HV := hid (HV.out.trans (hb.mono HV.out.size))
    have hn1 : n1 ≤ 1000 := by rw [← hR1.size, HXs.out]; omega
    clear hS hb hR1 hR2 hR3 x0 x1 x2 x3 x4 x5 x6 x7 x8 x9
    obtain ⟨x0, x1, x2, x3, x4, x5, x6, x7, x8, x9⟩ := HK.out _ HV.out
    by_cases hl0 : la < 0
    · clear hla
      go_wp2_with fail
      refine (same_h b1 ax n1 lx d1 cx zs _ HR1.out (HX.out _ HV.out) hn1).mono ?_
      rintro e w3 ⟨rfl, hb⟩
      have HW0 := hid (HB0.out.trans ((HV.out.trans (hb.mono HV.out.size)).mono HB0.out.size))
      clear hb HR1 HX HK x0 x1 x2 x3 x4 x5 x6 x7 x8 x9 HV HB0
      go_wp2_with fail
      refine (alive10_any _).mono ?_
      rintro e wz ⟨rfl, hb⟩
      have HZ := hid (HW0.out.trans (hb.mono HW0.out.size))
      clear hb
      go_wp2
      go_ret
      exact ⟨rfl, HZ.out⟩
    · have hl1 : l ≤ la := by omega
      clear hla
      go_wp2_with fail
      refine (same_h b1 ax n1 lx d1 cx zs _ HR1.out (HX.out _ HV.out) hn1).mono ?_
      rintro e w3 ⟨rfl, hb⟩
      have HW0 := hid (HB0.out.trans ((HV.out.trans (hb.mono HV.out.size)).mono HB0.out.size))
      clear hb HR1 HX HK x0 x1 x2 x3 x4 x5 x6 x7 x8 x9 HV HB0
      go_wp2_with fail
      refine (alive10_any _).mono ?_
      rintro e wz ⟨rfl, hb⟩
      have HZ := hid (HW0.out.trans (hb.mono HW0.out.size))
      clear hb
      go_wp2
      go_ret
      exact ⟨rfl, HZ.out⟩
  · obtain ⟨m, hm⟩ : ∃ m, min lk lv = m := ⟨_, rfl⟩
    have hl0 : 0 ≤ la := by omega
    have hl1 : la < l := by omega
    have hS := step_yes (some ⟨g, 0, none⟩) ⟨s, vo, d, l, tt, h⟩ la ax lx cx zs ak lk ck hk ks av lv cv hv vs m w1 HMd.out HC.out hl0 hl1 (HX.out _ HV.out) (by omega) (HTk.out _ HV.out) HKl.out (by omega) (HTv.out _ HV.out) HVl.out (by omega) hm
    have HRS := hid fun W (hb : Below wA.heap.size wA W) => rstep_any ⟨s, vo, d, l, tt, h⟩ la ax lx cx zs ak lk ck hk ks av lv cv hv vs m W HC.out (HX.out _ hb) (by omega) (HTk.out _ hb) HKl.out (by omega) (HTv.out _ hb) HVl.out (by omega) hm
    have HOl : Hid ((outL ⟨s, vo, d, l, tt, h⟩ la zs (ks.take m) (vs.take m)).length ≤ 1000) := Nat.le_trans (outL_len _ _ _ _ _) (by rw [HXs.out]; omega)
    have HKy : Hid ((keyL ⟨s, vo, d, l, tt, h⟩ la zs).length ≤ 1000) := Nat.le_trans (keyL_len HC.out _ _) (by omega)
    have HVy : Hid ((valL ⟨s, vo, d, l, tt, h⟩ la zs).length ≤ 1000) := Nat.le_trans (valL_len HC.out _ _) (by omega)
    unfold CfV at HRS
    simp only at HRS
    clear hla HMd HX HTk HTv HKl HVl HXs HC hm
    generalize outL ⟨s, vo, d, l, tt, h⟩ la zs (ks.take m) (vs.take m) = X at *
    generalize keyL ⟨s, vo, d, l, tt, h⟩ la zs = K at *
    generalize valL ⟨s, vo, d, l, tt, h⟩ la zs = V at *
    go_wp2_with fail
    refine hS.mono ?_
    rintro e w2 ⟨b1, b2, b3, n1, n2, n3, d1, d2, d3, rfl, hR1, hR2, hR3, _, _, _, hb⟩
    have HR1 := hid hR1
    have HR2 := hid hR2
    have HR3 := hid hR3
    replace HV := hid (HV.out.trans (hb.mono HV.out.size))
    have hn1 : n1 ≤ 1000 := by rw [← hR1.size]; exact HOl.out
    have hn2 : n2 ≤ 1000 := by rw [← hR2.size]; exact HKy.out
    have hn3 : n3 ≤ 1000 := by rw [← hR3.size]; exact HVy.out
    clear hS hb hR1 hR2 hR3 x0 x1 x2 x3 x4 x5 x6 x7 x8 x9 HOl HKy HVy
    obtain ⟨x0, x1, x2, x3, x4, x5, x6, x7, x8, x9⟩ := HK.out _ HV.out
    go_wp2_with fail
    refine (HRS.out _ HV.out).mono ?_
    rintro e w3 ⟨p1, p2, p3, m1, m2, m3, q1, q2, q3, rfl, hR1, hR2, hR3, _, _, _, hb⟩
    obtain ⟨wC, hwC⟩ : ∃ wC, wC = w3.alloc (.cells #[.slice p1 m1 q1, .slice p2 m2 q2, .slice p3 m3 q3] 39) := ⟨_, rfl⟩
    have hbC : Below w3.heap.size w3 wC := by rw [hwC]; exact (Below.refl _ _).alloc (Nat.le_refl _) _
    have HQ1 := hid (hR1.below hbC)
    have HQ2 := hid (hR2.below hbC)
    have HQ3 := hid (hR3.below hbC)
    have hbb : Below w2.heap.size w2 wC := hb.trans (hbC.mono hb.size)
    replace HR1 := hid (HR1.out.below hbb)
    replace HR2 := hid (HR2.out.below hbb)
    replace HR3 := hid (HR3.out.below hbb)
    replace HV := hid (HV.out.trans (hbb.mono HV.out.size))
    have HKC : Hid (∀ W : World, Below wC.heap.size wC W → W.cell? ⟨w3.heap.size, 0, none⟩ = some (.slice p1 m1 q1) ∧ W.cell? ⟨w3.heap.size, 1, none⟩ = some (.slice p2 m2 q2) ∧ W.cell? ⟨w3.heap.size, 2, none⟩ = some (.slice p3 m3 q3)) := by
      intro W hw
      have e1 : wC.heap[w3.heap.size]? = some (.cells #[.slice p1 m1 q1, .slice p2 m2 q2, .slice p3 m3 q3] 39 (0, 0)) := by rw [hwC]; exact heap_alloc_new w3 _
      have e2 := block_below e1 hw
      refine ⟨?_, ?_, ?_⟩ <;> (rw [cell_of_row _ _ _ _ _ _ e2]; rfl)
    clear hR1 hR2 hR3 hb hbC hbb HRS HK x0 x1 x2 x3 x4 x5 x6 x7 x8 x9
    go_wp2_with fail
    rw [← hwC]
    clear hwC
    refine (same_h b1 p1 n1 m1 d1 q1 X _ HR1.out HQ1.out hn1).mono ?_
    rintro e w4 ⟨rfl, hb⟩
    have HY := hid hb
    replace HR2 := hid (HR2.out.below hb)
    replace HR3 := hid (HR3.out.below hb)
    replace HQ2 := hid (HQ2.out.below hb)
    replace HQ3 := hid (HQ3.out.below hb)
    replace HV := hid (HV.out.trans (hb.mono HV.out.size))
    clear hb HR1 HQ1
    obtain ⟨y0, y1, y2⟩ := HKC.out _ HY.out
    go_wp2_with fail
    refine (same_h b2 p2 n2 m2 d2 q2 K _ HR2.out HQ2.out hn2).mono ?_
    rintro e w5 ⟨rfl, hb⟩
    replace HY := hid (HY.out.trans (hb.mono HY.out.size))
    replace HR3 := hid (HR3.out.below hb)
    replace HQ3 := hid (HQ3.out.below hb)
    replace HV := hid (HV.out.trans (hb.mono HV.out.size))
    clear hb HR2 HQ2 y0 y1 y2
    obtain ⟨y0, y1, y2⟩ := HKC.out _ HY.out
    go_wp2_with fail
    refine (same_h b3 p3 n3 m3 d3 q3 V _ HR3.out HQ3.out hn3).mono ?_
    rintro e w6 ⟨rfl, hb⟩
    have HW0 := hid (HB0.out.trans ((HV.out.trans (hb.mono HV.out.size)).mono HB0.out.size))
    clear hb HR3 HQ3 y0 y1 y2 HKC HY HV HB0
    go_wp2_with fail
    refine (alive10_any _).mono ?_
    rintro e wz ⟨rfl, hb⟩
    have HZ := hid (HW0.out.trans (hb.mono HW0.out.size))
    clear hb
    go_wp2
    go_ret
    exact ⟨rfl, HZ.out⟩

/-! ### The row's step -/
set_option maxRecDepth 1000000 in
theorem lifted (os : Os) (started : os.Started) (H : Type) (enc : TypeId × Value → H) :
    ReturnsInHanded {} Tryz.checked os 3 .any (Rows.attnStepsSpec.pre6 enc Tryz.prog Tryz.f3 Rows.attnStepsRow.domain false) (Rows.attnStepsSpec.post enc Tryz.prog Tryz.f3 false true false false) := by
  refine returnsInHanded_of_change (C := Tryz.checked) own started (by kernel_rfl) Tryz.func3
    (ChangeSpec.witness6 (enc := enc) (C := Tryz.checked) false ⟨#[], #[.agg #[.int .u64 0, .int .i64 0, .int .i64 0, .int .i64 0, .int .i64 0, .int .i64 0, .int .i64 0, .slice none 0 0, .slice none 0 0, .slice none 0 0]], []⟩ 8 (by kernel_rfl) (by kernel_rfl) (by kernel_rfl) (by kernel_rfl)) ?_
  intro W base args ds gs before hval0 hW hcnd _
  have hval : ∀ (j : Nat) t v, Tryz.f3.params[j]? = some t → args[j]? = some v → Value.okWide Tryz.prog W .any base t v := hval0
  have hW' := hW
  obtain ⟨p, q, hA0, hV, rfl, hfz, hnd⟩ := hW
  have hA : DataW.TrodAll enc Tryz.prog W 0 (fun _ => true) true Tryz.f3.params.toList args.toList ds p := hA0
  rw [Tryz.params3] at hA hval
  obtain ⟨v0, vs0, d0, ds0, p0, q0, hargs, rfl, rfl, h0, r0⟩ := trodAll_cons hA
  obtain ⟨rfl, rfl, rfl⟩ := trodAll_nil r0
  obtain rfl : args = #[v0] := by cases args; simp_all
  obtain ⟨rfl, rfl⟩ := trodVars_none hV
  have k0 := h0
  have lt0 : ∀ x ∈ p0, x.block < W.heap.size := by obtain ⟨m, hm⟩ := k0; exact DataW.trod_lt m _ _ _ hm
  obtain ⟨x0, rfl, gx0⟩ := case_open (hval 0 28 v0 rfl rfl) h0
  clear hA0 hval0
  refine (walk x0 W gx0).mono fun e W' ⟨he, bel⟩ => ?_
  subst he
  exact ⟨_, rfl, _, _, _, [], _, [], hW', trodAll_mk1 (shut_bool Tryz.underlying4 _), (trodAll_cons_mk (Below.trod laidOut (by kernel_rfl) (of_decide_eq_true (by kernel_rfl)) k0 bel lt0) trodAll_mk0), rfl, bel.frame _, fun h => by cases h⟩

theorem over : Rows.attnStepsRow.holds Tryz.pinned (OpenSpec.ofChange Rows.attnStepsSpec) :=
  OpenClaim.holds_of_wide 3 Tryz.f3 rfl rfl rfl rfl rfl rfl rfl ⟨rfl, rfl, rfl, rfl, rfl⟩ rfl rfl rfl rfl rfl (by kernel_rfl) Tryz.func3 (by kernel_rfl)
    (of_decide_eq_true (by kernel_rfl)) (by unfold Func.isWrapper; first | (rw [if_pos (by decide +kernel)]; kernel_rfl) | (rw [if_neg (by decide +kernel)]; exact ⟨rfl, rfl⟩))
    (fun os started H enc _ => lifted os started H enc)

/-- The statement. -/
theorem proved : Rows.AttnStepsSaid := over
#print axioms proved
end Go.Proofs.YtehmdlipacbpfaaGreat.attnSteps
