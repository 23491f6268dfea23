/-
  Proved: with a lesser Most less follows, and that is its beginning: DecodeLess hands back true for whatever configuration, job and number.
-/
import Derived.Test.YtahpilgbabjebaaGreatRows
import Derived.Test.YtahpilgbabjebaaGreatPk17
import Derived.WalkKit
import Derived.ProofKit
import Derived.OpenShut
import Derived.ShutString
import Derived.ChangeOld
import Derived.Below
namespace Go.Proofs.YtahpilgbabjebaaGreat.decodeLess
open Go.ChangeShapes Go.WideShapes Go.ChangeAt Go.RowKit
open Go.ChangeMaps (open_string shut_string)
set_option linter.unusedVariables false

theorem own : ownKnob Tryz.prog.godebug = none := by kernel_rfl
theorem laidOut : laidOutB Tryz.prog = true := by kernel_rfl

/-! ### The walk -/
set_option maxRecDepth 1000000 in
set_option maxHeartbeats 8000000 in
theorem walk (c0 : Cf) (j1 : Jb) (n2 : Int) (w : World) (gj1 : JbIn w j1) :
    Calls Tryz.prog 7 #[.agg (CfV c0), .agg (JbV j1), .int .i64 n2] w fun e w' => e = .returned (.bool true) ∧ Below w.heap.size w w' := by
  obtain ⟨wA, hwA⟩ : ∃ wA, wA = (w.alloc (.cells (CfV c0) 24)).alloc (.cells (JbV j1) 27) := ⟨_, rfl⟩
  have HB0 : Hid (Below w.heap.size w wA) := by unfold Hid; rw [hwA]; exact ((Below.refl _ _).alloc (Nat.le_refl _) _).alloc (by simp) _
  have HK : Hid (∀ W : World, Below wA.heap.size wA W → (W.cell? ⟨w.heap.size, 0, none⟩ = some (.int .u64 c0.seed) ∧ W.cell? ⟨w.heap.size, 1, none⟩ = some (.int .i64 c0.vocab) ∧ W.cell? ⟨w.heap.size, 2, none⟩ = some (.int .i64 c0.dim) ∧ W.cell? ⟨w.heap.size, 3, none⟩ = some (.int .i64 c0.layers) ∧ W.cell? ⟨w.heap.size, 4, none⟩ = some (.int .i64 c0.top) ∧ W.cell? ⟨w.heap.size, 5, none⟩ = some (.int .i64 c0.heat)) ∧ W.cell? ⟨w.heap.size + 1, 0, none⟩ = some (.int .u64 j1.seed) ∧ W.cell? ⟨w.heap.size + 1, 1, none⟩ = some (.slice j1.ap j1.lp j1.cp) ∧ W.cell? ⟨w.heap.size + 1, 2, none⟩ = some (.int .i64 j1.most)) := by
    intro W hb
    have e1 : wA.heap[w.heap.size]? = some (.cells (CfV c0) 24 (0, 0)) := by rw [hwA, Below.heap_alloc _ _ _ (by simp)]; exact heap_alloc_new w _
    have e2 : wA.heap[w.heap.size + 1]? = some (.cells (JbV j1) 27 (0, 0)) := by
      have := heap_alloc_new (w.alloc (.cells (CfV c0) 24)) (.cells (JbV j1) 27)
      rw [hwA]
      simpa using this
    exact ⟨Cf_cells (block_below e1 hb), Jb_cells (block_below e2 hb)⟩
  have HJ : Hid (∀ W : World, Below wA.heap.size wA W → JbIn W j1) := fun W hb => Reads.below (Reads.below gj1 HB0.out) hb
  have HX : Hid (∀ W : World, Below wA.heap.size wA W → Below w.heap.size w W) := fun W hW => HB0.out.trans (hW.mono HB0.out.size)
  have hz := gj1.size
  have hNy := fun (h : mayB c0 = true) => new_yes c0 wA h
  have hNn := fun (h : mayB c0 = false) => new_no c0 wA h
  have HF := hid fun W (hb : Below wA.heap.size wA W) => far12_any j1 W (HJ.out W hb)
  have HRf := hid fun sd ap lp cp ts mo => fun (hc : mayB c0 = true) p W (hp : MdAt W p c0) (hj : Reads .i64 W ap lp cp ts) (hm : mayJ c0.vocab mo ts = true) => dref_yes p c0 ⟨sd, ap, lp, cp, ts, mo⟩ W hp hc hj hm
  unfold JbV at HRf
  simp only at HRf
  replace HJ := hid fun W (hb : Below wA.heap.size wA W) => show Reads .i64 W j1.ap j1.lp j1.cp j1.ts from HJ.out W hb
  have HMa := hid fun W (hb : Below wA.heap.size wA W) => dmay_any c0 j1 W (HJ.out W hb)
  obtain ⟨mj, hmj⟩ : ∃ mj, mayJ c0.vocab j1.most j1.ts = mj := ⟨_, rfl⟩
  rw [hmj] at HMa
  have hMJ := hid fun (h : mj = true) => mayJ_iff.1 (hmj.trans h)
  have hmj' := hid hmj
  clear hmj gj1 HB0
  obtain ⟨s, v, d, l, tt, h⟩ := c0
  obtain ⟨sd, ap, lp, cp, ts, mo⟩ := j1
  unfold CfV at hNy hNn hwA HMa
  unfold JbV at hwA HF HMa
  simp only at HK hNy hNn hwA HF HMa hz hMJ hmj'
  unfold CfV JbV
  simp only
  cases hc : mayB ⟨s, v, d, l, tt, h⟩ with
  | false =>
    have hN := hNn hc
    clear hNy hNn HMa hMJ hmj' hc HF HRf HJ
    go_enter Tryz.func7, Tryz.ntmps7
    go_wp2_with fail
    rw [← hwA]
    refine hN.mono ?_
    rintro e w1 ⟨rfl, hb⟩
    have HW0 := hid (HX.out _ hb)
    clear hN hb hwA HK HX
    go_wp2_with fail
    refine (alive12_any _).mono ?_
    rintro e wz ⟨rfl, hb⟩
    have HZ := hid (HW0.out.trans (hb.mono HW0.out.size))
    clear hb
    go_wp2
    go_ret
    exact ⟨rfl, HZ.out⟩
  | true =>
  have hN := hNy hc
  replace hc := hid hc
  clear hNy hNn
  go_enter Tryz.func7, Tryz.ntmps7
  go_wp2_with fail
  rw [← hwA]
  refine hN.mono ?_
  rintro e w1 ⟨g, rfl, hg, hM, hb⟩
  have HMM : Hid (∀ W : World, Below w1.heap.size w1 W → MdAt W (some ⟨g, 0, none⟩) ⟨s, v, d, l, tt, h⟩) := fun W hW => .inr ⟨g, rfl, block_below hM hW⟩
  have HU : Hid (∀ W : World, Below w1.heap.size w1 W → Below wA.heap.size wA W) := fun W hW => hb.trans (hW.mono hb.size)
  have HV : Hid (Below w1.heap.size w1 w1) := Below.refl _ _
  have hFa := HF.out w1 hb
  obtain ⟨⟨x0, x1, x2, x3, x4, x5⟩, x6, x7, x8⟩ := HK.out _ hb
  clear hN hb hwA HF hg hM
  go_wp2_with fail
  refine hFa.mono ?_
  rintro e w2 ⟨b, rfl, hfar, hb⟩
  replace HV := hid (HV.out.trans (hb.mono HV.out.size))
  clear hFa hb x0 x1 x2 x3 x4 x5 x6 x7 x8
  cases b with
  | true =>
    have HW0 := hid (HX.out _ (HU.out _ HV.out))
    clear HMa hMJ hmj' hfar HK HX HMM HU HV HRf HJ
    go_wp2_with fail
    refine (alive12_any _).mono ?_
    rintro e wz ⟨rfl, hb⟩
    have HZ := hid (HW0.out.trans (hb.mono HW0.out.size))
    clear hb
    go_wp2
    go_ret
    exact ⟨rfl, HZ.out⟩
  | false =>
  have hFr := hid (hfar rfl)
  obtain ⟨⟨x0, x1, x2, x3, x4, x5⟩, x6, x7, x8⟩ := HK.out _ (HU.out _ HV.out)
  clear hfar
  go_wp2_with fail
  refine (HMa.out _ (HU.out _ HV.out)).mono ?_
  rintro e w3 ⟨rfl, hb⟩
  replace HV := hid (HV.out.trans (hb.mono HV.out.size))
  clear hb x0 x1 x2 x3 x4 x5 x6 x7 x8 HMa
  cases mj with
  | false =>
    have HW0 := hid (HX.out _ (HU.out _ HV.out))
    clear hMJ hmj' hFr HK HX HMM HU HV HRf HJ
    go_wp2_with fail
    refine (alive12_any _).mono ?_
    rintro e wz ⟨rfl, hb⟩
    have HZ := hid (HW0.out.trans (hb.mono HW0.out.size))
    clear hb
    go_wp2
    go_ret
    exact ⟨rfl, HZ.out⟩
  | true =>
  obtain ⟨hm0, hm1, hm2, hmt⟩ := hMJ.out rfl
  have HMt := hid hmt
  have hfr := hFr.out
  have hmo12 : mo ≤ 12 := by omega
  have hlp : lp ≤ 10 ∨ lp = 255 := by omega
  clear hMJ hFr hfr hmt
  obtain ⟨M, hM⟩ : ∃ M : Nat, mo = (M : Int) := ⟨mo.toNat, by omega⟩
  subst hM
  have hlM : M ≤ 12 := by omega
  replace HRf := hid fun K (hK : K ≤ M) p W (hp : MdAt W p ⟨s, v, d, l, tt, h⟩) (hj : Reads .i64 W ap lp cp ts) => HRf.out sd ap lp cp ts ((K : Nat) : Int) hc.out p W hp hj (mayJ_iff.2 ⟨by omega, by omega, hm2, HMt.out⟩)
  simp only [Int.toNat_natCast] at HRf
  obtain ⟨K, hK⟩ : ∃ K, cutN n2 M = K := ⟨_, rfl⟩
  have hKM : K ≤ M := by unfold cutN at hK; omega
  obtain ⟨x, hx⟩ : ∃ x : Int, (if n2 < 0 then 0 else n2) = x := ⟨_, rfl⟩
  have hx2 : (if 0 < n2 then n2 else 0) = x := by rw [← hx]; split <;> split <;> omega
  have hA : (if (M : Int) < x then (M : Int) else x) = (K : Int) := by unfold cutN at hK; rw [← hx]; split <;> split at * <;> omega
  have hB : (if x < (M : Int) then x else (M : Int)) = (K : Int) := by unfold cutN at hK; rw [← hx]; split <;> split at * <;> omega
  have hLa := HRf.out M (Nat.le_refl _)
  have hLb := HRf.out K hKM
  have HLe := hid (refL_less ⟨s, v, d, l, tt, h⟩ sd M (0 :: ts) K hKM)
  have HLk := hid (refL_len ⟨s, v, d, l, tt, h⟩ sd K (0 :: ts))
  have HLm := hid (refL_len ⟨s, v, d, l, tt, h⟩ sd M (0 :: ts))
  have HLa := hid hLa
  have HLb := hid hLb
  clear hLa hLb HRf HMt hmj' hc hK
  generalize refL ⟨s, v, d, l, tt, h⟩ sd (0 :: ts) M = rM at *
  generalize refL ⟨s, v, d, l, tt, h⟩ sd (0 :: ts) K = rK at *
  obtain ⟨⟨x0, x1, x2, x3, x4, x5⟩, x6, x7, x8⟩ := HK.out _ (HU.out _ HV.out)
  have y8 := cell_al x8 (.cells #[.int .u64 sd, .slice ap lp cp, .int .i64 (M : Int)] 27)
  obtain ⟨wB, hwB⟩ : ∃ wB, wB = w3.alloc (.cells #[.int .u64 sd, .slice ap lp cp, .int .i64 (K : Int)] 27) := ⟨_, rfl⟩
  have hB0 : Below w3.heap.size w3 wB := by rw [hwB]; exact (Below.refl _ _).alloc (Nat.le_refl _) _
  have HKB : Hid (∀ W : World, Below wB.heap.size wB W → W.cell? ⟨w3.heap.size, 0, none⟩ = some (.int .u64 sd) ∧ W.cell? ⟨w3.heap.size, 1, none⟩ = some (.slice ap lp cp) ∧ W.cell? ⟨w3.heap.size, 2, none⟩ = some (.int .i64 (K : Int))) := fun W hb =>
    Jb_cells (j := ⟨sd, ap, lp, cp, ts, (K : Int)⟩) (block_below (show wB.heap[w3.heap.size]? = some (.cells (JbV ⟨sd, ap, lp, cp, ts, (K : Int)⟩) 27 (0, 0)) by rw [hwB]; exact heap_alloc_new w3 _) hb)
  have z6 := cell_al x6 (.cells #[.int .u64 sd, .slice ap lp cp, .int .i64 (K : Int)] 27)
  have z7 := cell_al x7 (.cells #[.int .u64 sd, .slice ap lp cp, .int .i64 (K : Int)] 27)
  have z8 := cell_al x8 (.cells #[.int .u64 sd, .slice ap lp cp, .int .i64 (K : Int)] 27)
  have HVB : Hid (Below w1.heap.size w1 wB) := HV.out.trans (hB0.mono HV.out.size)
  have HV2 : Hid (Below wB.heap.size wB wB) := Below.refl _ _
  replace HU := hid fun W (hb : Below wB.heap.size wB W) => HU.out W (HVB.out.trans (hb.mono HVB.out.size))
  replace HMM := hid fun W (hb : Below wB.heap.size wB W) => HMM.out W (HVB.out.trans (hb.mono HVB.out.size))
  clear HV HVB hB0
  go_wp2_with fail
  rw [← hwB]
  refine (HLa.out _ _ (HMM.out _ HV2.out) (HJ.out _ (HU.out _ HV2.out))).mono ?_
  rintro e w4 ⟨a4, c4, rfl, hr4, hb⟩
  have HR4 := hid hr4
  have r4 := hr4.room
  have m4 := hr4.most
  replace HV2 := hid (HV2.out.trans (hb.mono HV2.out.size))
  clear hb hr4 hwB y8 z6 z7 z8 HLa x0 x1 x2 x3 x4 x5 x6 x7 x8 hx hx2 hA hB
  obtain ⟨y6, y7, y8⟩ := HKB.out _ HV2.out
  go_wp2_with fail
  refine (HLb.out _ _ (HMM.out _ HV2.out) (HJ.out _ (HU.out _ HV2.out))).mono ?_
  rintro e w5 ⟨a5, c5, rfl, hr5, hb⟩
  have HR5 := hid hr5
  replace HR4 := hid (HR4.out.below hb)
  replace HV2 := hid (HV2.out.trans (hb.mono HV2.out.size))
  have r5 := hr5.room
  have m5 := hr5.most
  clear hb hr5 y6 y7 y8 HLb HMM HJ
  obtain ⟨y6, y7, y8⟩ := HKB.out _ HV2.out
  obtain ⟨nM, hnM⟩ : ∃ nM, rM.length = nM := ⟨_, rfl⟩
  obtain ⟨nK, hnK⟩ : ∃ nK, rK.length = nK := ⟨_, rfl⟩
  have hkl := HLk.out
  have hml := HLm.out
  have HqK : Hid (min nM K = nK) := by unfold Hid; rw [← hnK, HLe.out, List.length_take, hnM]; omega
  have HtK : Hid (rM.take nK = rK) := by
    unfold Hid
    rw [← HqK.out, HLe.out, ← hnM]
    rcases Nat.le_total K rM.length with hh | hh
    · rw [Nat.min_eq_right hh]
    · rw [Nat.min_eq_left hh, List.take_length, List.take_of_length_le hh]
  rw [hnM] at HR4 r4 hml ⊢
  rw [hnK] at HR5 r5 hkl ⊢
  have hqq := HqK.out
  have hmin1 : (if (nM : Int) < (K : Int) then (nM : Int) else (K : Int)) = (nK : Int) := by split <;> omega
  have hmin2 : (if (K : Int) < (nM : Int) then (K : Int) else (nM : Int)) = (nK : Int) := by split <;> omega
  have hmin3 : (if nM < K then (nM : Int) else (K : Int)) = (nK : Int) := by split <;> omega
  have hmin4 : (if K < nM then (K : Int) else (nM : Int)) = (nK : Int) := by split <;> omega
  have hle : (nK : Int) ≤ (K : Int) := by omega
  have hnn : nK ≤ nM := by omega
  replace HR4 := hid (HR4.out.cut hnn)
  rw [HtK.out] at HR4
  clear HLe HLk HLm HqK HtK hnM hnK hqq
  go_wp2_with fail
  refine (same_yes _ _ _ _ _ rK _ HR5.out HR4.out (by omega)).mono ?_
  rintro e w6 ⟨rfl, hb⟩
  have HW0 := hid (HX.out _ (HU.out _ (HV2.out.trans (hb.mono HV2.out.size))))
  clear hb HR4 HR5 HV2 HU HX y6 y7 y8 HKB HK
  go_wp2_with fail
  refine (alive12_any _).mono ?_
  rintro e wz ⟨rfl, hb⟩
  have HZ := hid (HW0.out.trans (hb.mono HW0.out.size))
  clear hb
  go_wp2
  go_ret
  exact ⟨rfl, HZ.out⟩

/-! ### The row's step -/
set_option maxRecDepth 1000000 in
theorem lifted (os : Os) (started : os.Started) (H : Type) (enc : TypeId × Value → H) :
    ReturnsInHanded {} Tryz.checked os 7 .any (Rows.decodeLessSpec.pre6 enc Tryz.prog Tryz.f7 Rows.decodeLessRow.domain false) (Rows.decodeLessSpec.post enc Tryz.prog Tryz.f7 false true false false) := by
  refine returnsInHanded_of_change (C := Tryz.checked) own started (by kernel_rfl) Tryz.func7
    (ChangeSpec.witness6 (enc := enc) (C := Tryz.checked) false ⟨#[], #[.agg #[.int .u64 0, .int .i64 0, .int .i64 0, .int .i64 0, .int .i64 0, .int .i64 0], .agg #[.int .u64 0, .slice none 0 0, .int .i64 0], .int .i64 0], []⟩ 8 (by kernel_rfl) (by kernel_rfl) (by kernel_rfl) (by kernel_rfl)) ?_
  intro W base args ds gs before hval0 hW hcnd _
  have hval : ∀ (j : Nat) t v, Tryz.f7.params[j]? = some t → args[j]? = some v → Value.okWide Tryz.prog W .any base t v := hval0
  have hW' := hW
  obtain ⟨p, q, hA0, hV, rfl, hfz, hnd⟩ := hW
  have hA : DataW.TrodAll enc Tryz.prog W 0 (fun _ => true) true Tryz.f7.params.toList args.toList ds p := hA0
  rw [Tryz.params7] at hA hval
  obtain ⟨v0, vs0, d0, ds0, p0, q0, hargs, rfl, rfl, h0, r0⟩ := trodAll_cons hA
  obtain ⟨v1, vs1, d1, ds1, p1, q1, rfl, rfl, rfl, h1, r1⟩ := trodAll_cons r0
  obtain ⟨v2, vs2, d2, ds2, p2, q2, rfl, rfl, rfl, h2, r2⟩ := trodAll_cons r1
  obtain ⟨rfl, rfl, rfl⟩ := trodAll_nil r2
  obtain rfl : args = #[v0, v1, v2] := by cases args; simp_all
  obtain ⟨rfl, rfl⟩ := trodVars_none hV
  have k0 := h0
  have lt0 : ∀ x ∈ p0, x.block < W.heap.size := by obtain ⟨m, hm⟩ := k0; exact DataW.trod_lt m _ _ _ hm
  obtain ⟨c0, rfl⟩ := conf_open (hval 0 24 v0 rfl rfl) h0
  have k1 := h1
  have lt1 : ∀ x ∈ p1, x.block < W.heap.size := by obtain ⟨m, hm⟩ := k1; exact DataW.trod_lt m _ _ _ hm
  obtain ⟨j1, rfl, gj1⟩ := job_open (hval 1 27 v1 rfl rfl) h1
  have k2 := h2
  have lt2 : ∀ x ∈ p2, x.block < W.heap.size := by obtain ⟨m, hm⟩ := k2; exact DataW.trod_lt m _ _ _ hm
  obtain ⟨n2, rfl⟩ := num_open (hval 2 3 v2 rfl rfl) h2
  clear hA0 hval0
  refine (walk c0 j1 n2 W gj1).mono fun e W' ⟨he, bel⟩ => ?_
  subst he
  exact ⟨_, rfl, _, _, _, [], _, [], hW', trodAll_mk1 (shut_bool Tryz.underlying4 _), (trodAll_cons_mk (Below.trod laidOut (by kernel_rfl) (of_decide_eq_true (by kernel_rfl)) k0 bel lt0) (trodAll_cons_mk (Below.trod laidOut (by kernel_rfl) (of_decide_eq_true (by kernel_rfl)) k1 bel lt1) (trodAll_cons_mk (Below.trod laidOut (by kernel_rfl) (of_decide_eq_true (by kernel_rfl)) k2 bel lt2) trodAll_mk0))), rfl, bel.frame _, fun h => by cases h⟩

theorem over : Rows.decodeLessRow.holds Tryz.pinned (OpenSpec.ofChange Rows.decodeLessSpec) :=
  OpenClaim.holds_of_wide 7 Tryz.f7 rfl rfl rfl rfl rfl rfl rfl ⟨rfl, rfl, rfl, rfl, rfl⟩ rfl rfl rfl rfl rfl (by kernel_rfl) Tryz.func7 (by kernel_rfl)
    (of_decide_eq_true (by kernel_rfl)) (by unfold Func.isWrapper; first | (rw [if_pos (by decide +kernel)]; kernel_rfl) | (rw [if_neg (by decide +kernel)]; exact ⟨rfl, rfl⟩))
    (fun os started H enc _ => lifted os started H enc)

/-- The statement. -/
theorem proved : Rows.DecodeLessSaid := over
#print axioms proved
end Go.Proofs.YtahpilgbabjebaaGreat.decodeLess
