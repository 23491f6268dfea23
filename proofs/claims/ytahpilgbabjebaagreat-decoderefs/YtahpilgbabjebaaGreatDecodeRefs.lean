/-
  Proved: what follows any prompt, by any model, is the document's, or refused: DecodeRefs hands back true for whatever configuration and job.
-/
import Derived.Test.YtahpilgbabjebaaGreatRows
import Derived.Test.YtahpilgbabjebaaGreatPk17
import Derived.WalkKit
import Derived.ProofKit
import Derived.OpenShut
import Derived.ShutString
import Derived.ChangeOld
import Derived.Below
namespace Go.Proofs.YtahpilgbabjebaaGreat.decodeRefs
open Go.ChangeShapes Go.WideShapes Go.ChangeAt Go.RowKit
open Go.ChangeMaps (open_string shut_string)
set_option linter.unusedVariables false

theorem own : ownKnob Tryz.prog.godebug = none := by kernel_rfl
theorem laidOut : laidOutB Tryz.prog = true := by kernel_rfl

/-! ### The walk -/
set_option maxRecDepth 1000000 in
set_option maxHeartbeats 8000000 in
theorem walk (c0 : Cf) (j1 : Jb) (w : World) (gj1 : JbIn w j1) :
    Calls Tryz.prog 3 #[.agg (CfV c0), .agg (JbV j1)] w fun e w' => e = .returned (.bool true) ∧ Below w.heap.size w w' := by
  obtain ⟨wA, hwA⟩ : ∃ wA, wA = (w.alloc (.cells (CfV c0) 24)).alloc (.cells (JbV j1) 27) := ⟨_, rfl⟩
  have HB0 : Hid (Below w.heap.size w wA) := by unfold Hid; rw [hwA]; exact ((Below.refl _ _).alloc (Nat.le_refl _) _).alloc (by simp) _
  have HK : Hid (∀ W : World, Below wA.heap.size wA W → (W.cell? ⟨w.heap.size, 0, none⟩ = some (.int .u64 c0.seed) ∧ W.cell? ⟨w.heap.size, 1, none⟩ = some (.int .i64 c0.vocab) ∧ W.cell? ⟨w.heap.size, 2, none⟩ = some (.int .i64 c0.dim) ∧ W.cell? ⟨w.heap.size, 3, none⟩ = some (.int .i64 c0.layers) ∧ W.cell? ⟨w.heap.size, 4, none⟩ = some (.int .i64 c0.top) ∧ W.cell? ⟨w.heap.size, 5, none⟩ = some (.int .i64 c0.heat)) ∧ W.cell? ⟨w.heap.size + 1, 0, none⟩ = some (.int .u64 j1.seed) ∧ W.cell? ⟨w.heap.size + 1, 1, none⟩ = some (.slice j1.ap j1.lp j1.cp) ∧ W.cell? ⟨w.heap.size + 1, 2, none⟩ = some (.int .i64 j1.most)) := by
    intro W hb
    have e1 : wA.heap[w.heap.size]? = some (.cells (CfV c0) 24 (0, 0)) := by rw [hwA, Below.heap_alloc _ _ _ (by simp)]; exact heap_alloc_new w _
    have e2 : wA.heap[w.heap.size + 1]? = some (.cells (JbV j1) 27 (0, 0)) := by
      have := heap_alloc_new (w.alloc (.cells (CfV c0) 24)) (.cells (JbV j1) 27)
      rw [hwA]
      simpa using this
    exact ⟨Cf_cells (block_below e1 hb), Jb_cells (block_below e2 hb)⟩
  have HJ : Hid (∀ W : World, Below wA.heap.size wA W → JbIn W j1) := fun W hb => Reads.below (Reads.below gj1 HB0.out) hb
  have HX : Hid (∀ W : World, Below wA.heap.size wA W → Below w.heap.size w W) := fun W hW => HB0.out.trans (hW.mono HB0.out.size)
  have hz := gj1.size
  have hNy := fun (h : mayB c0 = true) => new_yes c0 wA h
  have hNn := fun (h : mayB c0 = false) => new_no c0 wA h
  have HF := hid fun W (hb : Below wA.heap.size wA W) => far12_any j1 W (HJ.out W hb)
  have HRn := hid fun W (hb : Below wA.heap.size wA W) => dref_nil j1 W (HJ.out W hb)
  have HR0 := hid fun (hc : mayB c0 = true) (hm : mayJ c0.vocab j1.most j1.ts = false) p W (hp : MdAt W p c0) (hb : Below wA.heap.size wA W) => dref_no p c0 j1 W hp hc (HJ.out W hb) hm
  have HR1 := hid fun (hc : mayB c0 = true) (hm : mayJ c0.vocab j1.most j1.ts = true) p W (hp : MdAt W p c0) (hb : Below wA.heap.size wA W) => dref_yes p c0 j1 W hp hc (HJ.out W hb) hm
  have HRR := hid fun (hc : mayB c0 = true) (hm : mayJ c0.vocab j1.most j1.ts = true) W (hb : Below wA.heap.size wA W) => rref_any c0 j1 W hc (HJ.out W hb) hm
  have HMa := hid fun W (hb : Below wA.heap.size wA W) => dmay_any c0 j1 W (HJ.out W hb)
  have HRM := hid fun W (hb : Below wA.heap.size wA W) => rmayj_any c0 j1 W (HJ.out W hb)
  have HLn : Hid (mayJ c0.vocab j1.most j1.ts = true → (refL c0 j1.seed (0 :: j1.ts) j1.most.toNat).length ≤ 1000) := fun hm => by
    have h1 := mayJ_iff.1 hm
    have h2 := refL_len c0 j1.seed j1.most.toNat (0 :: j1.ts)
    omega
  clear gj1 HB0
  generalize refL c0 j1.seed (0 :: j1.ts) j1.most.toNat = rs at *
  generalize hmj : mayJ c0.vocab j1.most j1.ts = mj at *
  clear hmj
  obtain ⟨s, v, d, l, tt, h⟩ := c0
  obtain ⟨sd, ap, lp, cp, ts, mo⟩ := j1
  unfold CfV at hNy hNn hwA HRR HMa HRM
  unfold JbV at hwA HF HRn HR0 HR1 HRR HMa HRM
  simp only at HK hNy hNn hwA HF HRn HR0 HR1 HRR HMa HRM hz
  unfold CfV JbV
  simp only
  cases hc : mayB ⟨s, v, d, l, tt, h⟩ with
  | false =>
    have hN := hNn hc
    clear hNy hNn HR0 HR1 HRR HMa HRM HLn hc HF
    go_enter Tryz.func3, Tryz.ntmps3
    go_wp2_with fail
    rw [← hwA]
    refine hN.mono ?_
    rintro e w1 ⟨rfl, hb⟩
    obtain ⟨⟨x0, x1, x2, x3, x4, x5⟩, x6, x7, x8⟩ := HK.out _ hb
    have hR := HRn.out w1 hb
    have HV := hid hb
    clear hN hb hwA HRn HK
    go_wp2_with fail
    refine hR.mono ?_
    rintro e w2 ⟨u, rfl, hb⟩
    have HW0 := hid (HX.out _ (HV.out.trans (hb.mono HV.out.size)))
    clear hR hb HV HX x0 x1 x2 x3 x4 x5 x6 x7 x8
    go_wp2_with fail
    refine (alive12_any _).mono ?_
    rintro e wz ⟨rfl, hb⟩
    have HZ := hid (HW0.out.trans (hb.mono HW0.out.size))
    clear hb
    go_wp2
    go_ret
    exact ⟨rfl, HZ.out⟩
  | true =>
    have hN := hNy hc
    replace HR0 := hid (HR0.out hc)
    replace HR1 := hid (HR1.out hc)
    replace HRR := hid (HRR.out hc)
    clear hNy hNn hc
    go_enter Tryz.func3, Tryz.ntmps3
    go_wp2_with fail
    rw [← hwA]
    refine hN.mono ?_
    rintro e w1 ⟨g, rfl, hg, hM, hb⟩
    have HMM : Hid (∀ W : World, Below w1.heap.size w1 W → MdAt W (some ⟨g, 0, none⟩) ⟨s, v, d, l, tt, h⟩) := fun W hW => .inr ⟨g, rfl, block_below hM hW⟩
    have HU : Hid (∀ W : World, Below w1.heap.size w1 W → Below wA.heap.size wA W) := fun W hW => hb.trans (hW.mono hb.size)
    have HV : Hid (Below w1.heap.size w1 w1) := Below.refl _ _
    have hFa := HF.out w1 hb
    obtain ⟨⟨x0, x1, x2, x3, x4, x5⟩, x6, x7, x8⟩ := HK.out _ hb
    clear hN hb hwA HF hg hM
    go_wp2_with fail
    refine hFa.mono ?_
    rintro e w2 ⟨b, rfl, hfar, hb⟩
    replace HV := hid (HV.out.trans (hb.mono HV.out.size))
    clear hFa hb x0 x1 x2 x3 x4 x5 x6 x7 x8 hfar
    obtain ⟨⟨x0, x1, x2, x3, x4, x5⟩, x6, x7, x8⟩ := HK.out _ (HU.out _ HV.out)
    cases b with
    | true =>
      have hR := HRn.out _ (HU.out _ HV.out)
      clear HR0 HR1 HRR HMa HRM HLn HRn HK HMM
      go_wp2_with fail
      refine hR.mono ?_
      rintro e w3 ⟨u, rfl, hb⟩
      have HW0 := hid (HX.out _ (HU.out _ (HV.out.trans (hb.mono HV.out.size))))
      clear hR hb HV HX HU x0 x1 x2 x3 x4 x5 x6 x7 x8
      go_wp2_with fail
      refine (alive12_any _).mono ?_
      rintro e wz ⟨rfl, hb⟩
      have HZ := hid (HW0.out.trans (hb.mono HW0.out.size))
      clear hb
      go_wp2
      go_ret
      exact ⟨rfl, HZ.out⟩
    | false =>
      cases mj with
      | false =>
        have hR := HR0.out rfl _ _ (HMM.out _ HV.out) (HU.out _ HV.out)
        clear HR0 HR1 HRR HLn HRn HMM
        go_wp2_with fail
        refine hR.mono ?_
        rintro e w3 ⟨a3, c3, rfl, hb⟩
        replace HV := hid (HV.out.trans (hb.mono HV.out.size))
        clear hR hb x0 x1 x2 x3 x4 x5 x6 x7 x8
        obtain ⟨⟨x0, x1, x2, x3, x4, x5⟩, x6, x7, x8⟩ := HK.out _ (HU.out _ HV.out)
        go_wp2_with fail
        refine (HRM.out _ (HU.out _ HV.out)).mono ?_
        rintro e w4 ⟨rfl, hb⟩
        replace HV := hid (HV.out.trans (hb.mono HV.out.size))
        clear hb x0 x1 x2 x3 x4 x5 x6 x7 x8 HRM
        obtain ⟨⟨x0, x1, x2, x3, x4, x5⟩, x6, x7, x8⟩ := HK.out _ (HU.out _ HV.out)
        go_wp2_with fail
        refine (HMa.out _ (HU.out _ HV.out)).mono ?_
        rintro e w5 ⟨rfl, hb⟩
        have HW0 := hid (HX.out _ (HU.out _ (HV.out.trans (hb.mono HV.out.size))))
        clear hb x0 x1 x2 x3 x4 x5 x6 x7 x8 HMa HV HU HK HX
        go_wp2_with fail
        refine (alive12_any _).mono ?_
        rintro e wz ⟨rfl, hb⟩
        have HZ := hid (HW0.out.trans (hb.mono HW0.out.size))
        clear hb
        go_wp2
        go_ret
        exact ⟨rfl, HZ.out⟩
      | true =>
        have hR := HR1.out rfl _ _ (HMM.out _ HV.out) (HU.out _ HV.out)
        have hln := HLn.out rfl
        replace HRR := hid (HRR.out rfl)
        clear HR0 HR1 HLn HRn HMM
        go_wp2_with fail
        refine hR.mono ?_
        rintro e w3 ⟨a3, c3, rfl, hr, hb⟩
        have HL := hid hr
        replace HV := hid (HV.out.trans (hb.mono HV.out.size))
        clear hR hb hr x0 x1 x2 x3 x4 x5 x6 x7 x8
        obtain ⟨⟨x0, x1, x2, x3, x4, x5⟩, x6, x7, x8⟩ := HK.out _ (HU.out _ HV.out)
        go_wp2_with fail
        refine (HRM.out _ (HU.out _ HV.out)).mono ?_
        rintro e w4 ⟨rfl, hb⟩
        replace HL := hid (HL.out.below hb)
        replace HV := hid (HV.out.trans (hb.mono HV.out.size))
        clear hb x0 x1 x2 x3 x4 x5 x6 x7 x8 HRM
        obtain ⟨⟨x0, x1, x2, x3, x4, x5⟩, x6, x7, x8⟩ := HK.out _ (HU.out _ HV.out)
        go_wp2_with fail
        refine (HMa.out _ (HU.out _ HV.out)).mono ?_
        rintro e w5 ⟨rfl, hb⟩
        replace HL := hid (HL.out.below hb)
        replace HV := hid (HV.out.trans (hb.mono HV.out.size))
        clear hb x0 x1 x2 x3 x4 x5 x6 x7 x8 HMa
        obtain ⟨⟨x0, x1, x2, x3, x4, x5⟩, x6, x7, x8⟩ := HK.out _ (HU.out _ HV.out)
        go_wp2_with fail
        refine (HRR.out _ (HU.out _ HV.out)).mono ?_
        rintro e w6 ⟨a6, c6, rfl, hr, hb⟩
        have HL2 := hid hr
        replace HL := hid (HL.out.below hb)
        replace HV := hid (HV.out.trans (hb.mono HV.out.size))
        clear hb hr x0 x1 x2 x3 x4 x5 x6 x7 x8 HRR HK
        go_wp2_with fail
        refine (same_yes _ _ _ _ _ rs _ HL.out HL2.out hln).mono ?_
        rintro e w7 ⟨rfl, hb⟩
        have HW0 := hid (HX.out _ (HU.out _ (HV.out.trans (hb.mono HV.out.size))))
        clear hb HV HU HX HL HL2
        go_wp2_with fail
        refine (alive12_any _).mono ?_
        rintro e wz ⟨rfl, hb⟩
        have HZ := hid (HW0.out.trans (hb.mono HW0.out.size))
        clear hb
        go_wp2
        go_ret
        exact ⟨rfl, HZ.out⟩

/-! ### The row's step -/
set_option maxRecDepth 1000000 in
theorem lifted (os : Os) (started : os.Started) (H : Type) (enc : TypeId × Value → H) :
    ReturnsInHanded {} Tryz.checked os 3 .any (Rows.decodeRefsSpec.pre6 enc Tryz.prog Tryz.f3 Rows.decodeRefsRow.domain false) (Rows.decodeRefsSpec.post enc Tryz.prog Tryz.f3 false true false false) := by
  refine returnsInHanded_of_change (C := Tryz.checked) own started (by kernel_rfl) Tryz.func3
    (ChangeSpec.witness6 (enc := enc) (C := Tryz.checked) false ⟨#[], #[.agg #[.int .u64 0, .int .i64 0, .int .i64 0, .int .i64 0, .int .i64 0, .int .i64 0], .agg #[.int .u64 0, .slice none 0 0, .int .i64 0]], []⟩ 8 (by kernel_rfl) (by kernel_rfl) (by kernel_rfl) (by kernel_rfl)) ?_
  intro W base args ds gs before hval0 hW hcnd _
  have hval : ∀ (j : Nat) t v, Tryz.f3.params[j]? = some t → args[j]? = some v → Value.okWide Tryz.prog W .any base t v := hval0
  have hW' := hW
  obtain ⟨p, q, hA0, hV, rfl, hfz, hnd⟩ := hW
  have hA : DataW.TrodAll enc Tryz.prog W 0 (fun _ => true) true Tryz.f3.params.toList args.toList ds p := hA0
  rw [Tryz.params3] at hA hval
  obtain ⟨v0, vs0, d0, ds0, p0, q0, hargs, rfl, rfl, h0, r0⟩ := trodAll_cons hA
  obtain ⟨v1, vs1, d1, ds1, p1, q1, rfl, rfl, rfl, h1, r1⟩ := trodAll_cons r0
  obtain ⟨rfl, rfl, rfl⟩ := trodAll_nil r1
  obtain rfl : args = #[v0, v1] := by cases args; simp_all
  obtain ⟨rfl, rfl⟩ := trodVars_none hV
  have k0 := h0
  have lt0 : ∀ x ∈ p0, x.block < W.heap.size := by obtain ⟨m, hm⟩ := k0; exact DataW.trod_lt m _ _ _ hm
  obtain ⟨c0, rfl⟩ := conf_open (hval 0 24 v0 rfl rfl) h0
  have k1 := h1
  have lt1 : ∀ x ∈ p1, x.block < W.heap.size := by obtain ⟨m, hm⟩ := k1; exact DataW.trod_lt m _ _ _ hm
  obtain ⟨j1, rfl, gj1⟩ := job_open (hval 1 27 v1 rfl rfl) h1
  clear hA0 hval0
  refine (walk c0 j1 W gj1).mono fun e W' ⟨he, bel⟩ => ?_
  subst he
  exact ⟨_, rfl, _, _, _, [], _, [], hW', trodAll_mk1 (shut_bool Tryz.underlying4 _), (trodAll_cons_mk (Below.trod laidOut (by kernel_rfl) (of_decide_eq_true (by kernel_rfl)) k0 bel lt0) (trodAll_cons_mk (Below.trod laidOut (by kernel_rfl) (of_decide_eq_true (by kernel_rfl)) k1 bel lt1) trodAll_mk0)), rfl, bel.frame _, fun h => by cases h⟩

theorem over : Rows.decodeRefsRow.holds Tryz.pinned (OpenSpec.ofChange Rows.decodeRefsSpec) :=
  OpenClaim.holds_of_wide 3 Tryz.f3 rfl rfl rfl rfl rfl rfl rfl ⟨rfl, rfl, rfl, rfl, rfl⟩ rfl rfl rfl rfl rfl (by kernel_rfl) Tryz.func3 (by kernel_rfl)
    (of_decide_eq_true (by kernel_rfl)) (by unfold Func.isWrapper; first | (rw [if_pos (by decide +kernel)]; kernel_rfl) | (rw [if_neg (by decide +kernel)]; exact ⟨rfl, rfl⟩))
    (fun os started H enc _ => lifted os started H enc)

/-- The statement. -/
theorem proved : Rows.DecodeRefsSaid := over
#print axioms proved
end Go.Proofs.YtahpilgbabjebaaGreat.decodeRefs
