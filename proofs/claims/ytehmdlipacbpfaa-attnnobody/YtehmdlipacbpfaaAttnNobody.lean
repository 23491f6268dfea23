/-
  Proved: a nil memory is one of no layers, and one of another number of layers counts as an empty one: AttnNobody hands back true for whatever configuration, vector and number.
-/
import Derived.Test.YtehmdlipacbpfaaRows
import Derived.Test.YtehmdlipacbpfaaAArgs
import Derived.WalkKit
import Derived.ProofKit
import Derived.OpenShut
import Derived.ShutString
import Derived.ChangeOld
import Derived.Below
namespace Go.Proofs.Ytehmdlipacbpfaa.attnNobody
open Go.ChangeShapes Go.WideShapes Go.ChangeAt Go.RowKit
open Go.ChangeMaps (open_string shut_string)
set_option linter.unusedVariables false

theorem own : ownKnob Try.prog.godebug = none := by kernel_rfl
theorem laidOut : laidOutB Try.prog = true := by kernel_rfl

/-! ### The walk -/
set_option maxRecDepth 1000000 in
set_option maxHeartbeats 8000000 in
theorem walk (c0 : Cf) (a1 : Option Addr) (l1 c1 : Nat) (z1 : List Int) (n2 : Int) (w : World) (ga1 : Reads .i64 w a1 l1 c1 z1) :
    Calls Try.prog 4 #[.agg (CfV c0), .slice a1 l1 c1, .int .i64 n2] w fun e w' => e = .returned (.bool true) ∧ Below w.heap.size w w' := by
  obtain ⟨wA, hwA⟩ : ∃ wA, wA = w.alloc (.cells (CfV c0) 24) := ⟨_, rfl⟩
  have HB0 : Hid (Below w.heap.size w wA) := by unfold Hid; rw [hwA]; exact (Below.refl _ _).alloc (Nat.le_refl _) _
  have HK : Hid (∀ W : World, Below wA.heap.size wA W → W.cell? ⟨w.heap.size, 0, none⟩ = some (.int .u64 c0.seed) ∧ W.cell? ⟨w.heap.size, 1, none⟩ = some (.int .i64 c0.vocab) ∧ W.cell? ⟨w.heap.size, 2, none⟩ = some (.int .i64 c0.dim) ∧ W.cell? ⟨w.heap.size, 3, none⟩ = some (.int .i64 c0.layers) ∧ W.cell? ⟨w.heap.size, 4, none⟩ = some (.int .i64 c0.top) ∧ W.cell? ⟨w.heap.size, 5, none⟩ = some (.int .i64 c0.heat)) := by
    intro W hb
    have e1 : wA.heap[w.heap.size]? = some (.cells (CfV c0) 24 (0, 0)) := by rw [hwA]; exact heap_alloc_new w _
    exact Cf_cells (block_below e1 hb)
  have HF := hid (lfar_any a1 l1 c1 none 0 0 [] (fun _ => []) wA (Rd2.nil _) (fun i hi => absurd hi (by omega)))
  have HX := hid fun W (hb : Below wA.heap.size wA W) => (ga1.below HB0.out).below hb
  have HNy := hid fun W (h : mayB c0 = true) => new_yes c0 W h
  have HNn := hid fun W (h : mayB c0 = false) => new_no c0 W h
  have HLy := hid fun (h : mayB c0 = true) => may_parts h
  have HT := hid fun p qm M a n cap zs W (hp : MdAt W p c0) (h : mayB c0 = true) => through_any p c0 qm M 0 a n cap zs W hp h
  have HE1 : Hid (∀ M zs, Even (fromM M c0.layers.toNat) 0 → Even (thrM c0 (fromM M c0.layers.toNat) zs c0.layers.toNat) 1) := fun M zs hE i hi => by
    rw [thrM_len] at hi
    rw [thrM_at _ _ _ hi]
    by_cases hl : i < (fromM M c0.layers.toNat).length
    · have := hE i hl
      simp [this.1, this.2]
    · have : kv (fromM M c0.layers.toNat) i = ([], []) := by unfold kv; rw [List.getElem?_eq_none (by omega)]; rfl
      simp [this]
  have HF1 : Hid (∀ m, fromM (noneM m) c0.layers.toNat = noneM c0.layers.toNat) := fun m => by
    unfold fromM
    split
    · rename_i h; rw [noneM_len] at h; rw [h]
    · rfl
  obtain ⟨m, hm⟩ : ∃ m, clampL n2 = m := ⟨_, rfl⟩
  obtain ⟨x, hx⟩ : ∃ x : Int, (if n2 < 0 then 0 else n2) = x := ⟨_, rfl⟩
  have hm4 : m ≤ 4 := by unfold clampL at hm; omega
  have hx2 : (if 0 < n2 then n2 else 0) = x := by rw [← hx]; split <;> split <;> omega
  have hA : (if (4 : Int) < x then 4 else x) = (m : Int) := by
    unfold clampL at hm
    rw [← hx]
    split <;> split at * <;> omega
  have hB : (if x < (4 : Int) then x else 4) = (m : Int) := by
    unfold clampL at hm
    rw [← hx]
    split <;> split at * <;> omega
  have HA := hid fun W => anew_any n2 W
  rw [hm] at HA
  clear ga1 hm
  generalize hL : c0.layers.toNat = L at *
  have HLL := hid hL
  clear hL
  obtain ⟨s, v, d, l, tt, h⟩ := c0
  unfold CfV at HNy HNn hwA
  simp only at HK HNy HNn HLy hwA HLL
  unfold CfV
  simp only
  go_enter Try.func4, Try.ntmps4
  go_wp2_with fail
  rw [← hwA]
  refine HF.out.mono ?_
  rintro e w' ⟨b, rfl, hfar, rfl⟩
  rename World => wA
  clear hwA HF
  cases b with
  | true =>
    have HW0 := HB0
    clear HK HX HNy HNn HLy HT HA hA hB hx hx2 hfar HE1 HF1
    go_wp2_with fail
    refine (alive10_any _).mono ?_
    rintro e wz ⟨rfl, hb⟩
    have HZ := hid (HW0.out.trans (hb.mono HW0.out.size))
    clear hb
    go_wp2
    go_ret
    exact ⟨rfl, HZ.out⟩
  | false =>
  have h40 := (hfar rfl).1
  clear hfar
  -- of no memory
  have hnil : ∀ W : World, MemAt W none [] := fun W => .inl ⟨rfl, rfl⟩
  have HNil := hid hnil
  clear hnil
  go_wp2_with fail
  refine (len_any none [] 0 _ (HNil.out _) (fun _ => rfl) (fun h => absurd h (by simp)) (by simp)).mono ?_
  rintro e w' ⟨rfl, rfl⟩
  rename World => wA
  go_wp2_with fail
  refine (layers_any none [] _ (HNil.out _)).mono ?_
  rintro e w' ⟨rfl, rfl⟩
  rename World => wA
  go_wp2_with fail
  refine (cut_any none [] 3 0 _ (HNil.out _) (by simp) (fun i hi => absurd hi (by simp)) (by omega) (fun _ => rfl)).mono ?_
  rintro e w1 ⟨B0, g0, ps0, rfl, _, _, hM, hb⟩
  have HV := hid hb
  have HM : Hid (MemAt w1 (some ⟨B0, 0, none⟩) []) := .inr ⟨B0, g0, ps0, rfl, hM⟩
  clear hM hb
  go_wp2_with fail
  refine (len_any (some ⟨B0, 0, none⟩) [] 0 _ HM.out (fun _ => rfl) (fun h => absurd h (by simp)) (by simp)).mono ?_
  rintro e w' ⟨rfl, rfl⟩
  rename World => w1
  clear HM
  go_wp2_with fail
  refine (msame_yes none none [] 0 _ (HNil.out _) (HNil.out _) (fun i hi => absurd hi (by simp)) (by omega) (by simp)).mono ?_
  rintro e w2 ⟨rfl, hb⟩
  replace HV := hid (HV.out.trans (hb.mono HV.out.size))
  clear hb
  go_wp2_with fail
  refine (HA.out _).mono ?_
  rintro e w3 ⟨B1, g1, ps1, rfl, _, _, hM, hb⟩
  have HM : Hid (MemAt w3 (some ⟨B1, 0, none⟩) (noneM m)) := .inr ⟨B1, g1, ps1, rfl, hM⟩
  replace HV := hid (HV.out.trans (hb.mono HV.out.size))
  clear hb hM
  have hLy := layers_any (some ⟨B1, 0, none⟩) (noneM m) _ HM.out
  rw [noneM_len] at hLy
  go_wp2_with fail
  refine hLy.mono ?_
  rintro e w' ⟨rfl, rfl⟩
  rename World => w3
  clear hLy HM
  obtain ⟨x0, x1, x2, x3, x4, x5⟩ := HK.out _ HV.out
  cases hc : mayB ⟨s, v, d, l, tt, h⟩ with
  | false =>
    have hN := HNn.out w3 hc
    clear HX HNy HNn HLy HT HA hc HNil HE1 HF1
    go_wp2_with fail
    refine hN.mono ?_
    rintro e w4 ⟨rfl, hb⟩
    have HW0 := hid (HB0.out.trans ((HV.out.trans (hb.mono HV.out.size)).mono HB0.out.size))
    clear hN hb x0 x1 x2 x3 x4 x5 HK
    go_wp2_with fail
    refine (alive10_any _).mono ?_
    rintro e wz ⟨rfl, hb⟩
    have HZ := hid (HW0.out.trans (hb.mono HW0.out.size))
    clear hb
    go_wp2
    go_ret
    exact ⟨rfl, HZ.out⟩
  | true =>
  have hN := HNy.out w3 hc
  obtain ⟨_, _, _, _, hl1, hl4⟩ := HLy.out hc
  replace HT := hid fun p qm M a n cap zs W (hp : MdAt W p ⟨s, v, d, l, tt, h⟩) => HT.out p qm M a n cap zs W hp hc
  have hlL : l = (L : Int) := by have := HLL.out; omega
  subst hlL
  clear HNy HNn HLy hc HLL
  go_wp2_with fail
  refine hN.mono ?_
  rintro e w4 ⟨g, rfl, hg, hm, hb⟩
  have HMd : Hid (MdAt w4 (some ⟨g, 0, none⟩) ⟨s, v, d, (L : Int), tt, h⟩) := .inr ⟨g, rfl, hm⟩
  replace HV := hid (HV.out.trans (hb.mono HV.out.size))
  clear hN hb hg hm x0 x1 x2 x3 x4 x5
  have HFn : Hid (fromM [] L = noneM L) := HF1.out 0
  have HEn : Hid (Even (noneM L) 0) := fun i hi => by rw [noneM_at]; exact ⟨rfl, rfl⟩
  have hT1 := HT.out (some ⟨g, 0, none⟩) none [] a1 l1 c1 z1 w4 HMd.out (HNil.out _) (by simp) (by rw [HFn.out]; exact HEn.out) (by omega) (HX.out _ HV.out) (by omega)
  rw [HFn.out] at hT1
  go_wp2_with fail
  refine hT1.mono ?_
  rintro e w5 ⟨p1, k1, d1, B1, g1, ps1, rfl, hR, _, hM, _, hb⟩
  have HR1 := hid hR
  have HM1 : Hid (MemAt w5 (some ⟨B1, 0, none⟩) (thrM ⟨s, v, d, (L : Int), tt, h⟩ (noneM L) z1 L)) := .inr ⟨B1, g1, ps1, rfl, hM⟩
  have HK1 : Hid (k1 ≤ 1000) := by unfold Hid; rw [← hR.size]; exact Nat.le_trans (thrX_len _ _ _ _) (by rw [(HX.out _ HV.out).size]; omega)
  replace HMd := hid (HMd.out.below hb)
  replace HV := hid (HV.out.trans (hb.mono HV.out.size))
  clear hb hR hM hT1 HNil HFn
  obtain ⟨x0, x1, x2, x3, x4, x5⟩ := HK.out _ HV.out
  have hN2 := anew_nat L w5 (by omega)
  go_wp2_with fail
  refine hN2.mono ?_
  rintro e w6 ⟨B2, g2, ps2, rfl, _, _, hM, hb⟩
  have HM2 : Hid (MemAt w6 (some ⟨B2, 0, none⟩) (noneM L)) := .inr ⟨B2, g2, ps2, rfl, hM⟩
  replace HMd := hid (HMd.out.below hb)
  replace HR1 := hid (HR1.out.below hb)
  replace HM1 := hid (HM1.out.below hb)
  replace HV := hid (HV.out.trans (hb.mono HV.out.size))
  clear hb hM hN2 x0 x1 x2 x3 x4 x5 HK
  have hT2 := HT.out (some ⟨g, 0, none⟩) (some ⟨B2, 0, none⟩) (noneM L) a1 l1 c1 z1 w6 HMd.out HM2.out (by rw [noneM_len]; omega) (by rw [HF1.out]; exact HEn.out) (by omega) (HX.out _ HV.out) (by omega)
  rw [HF1.out] at hT2
  go_wp2_with fail
  refine hT2.mono ?_
  rintro e w7 ⟨p2, k2, d2, B3, g3, ps3, rfl, hR, _, hM, _, hb⟩
  have HR2 := hid hR
  have HM3 : Hid (MemAt w7 (some ⟨B3, 0, none⟩) (thrM ⟨s, v, d, (L : Int), tt, h⟩ (noneM L) z1 L)) := .inr ⟨B3, g3, ps3, rfl, hM⟩
  have HK2 : Hid (k2 ≤ 1000) := by unfold Hid; rw [← hR.size]; exact Nat.le_trans (thrX_len _ _ _ _) (by rw [(HX.out _ HV.out).size]; omega)
  replace HMd := hid (HMd.out.below hb)
  replace HR1 := hid (HR1.out.below hb)
  replace HM1 := hid (HM1.out.below hb)
  replace HV := hid (HV.out.trans (hb.mono HV.out.size))
  clear hb hR hM hT2 HM2
  go_wp2_with fail
  refine (HA.out _).mono ?_
  rintro e w8 ⟨B4, g4, ps4, rfl, _, _, hM, hb⟩
  have HM4 : Hid (MemAt w8 (some ⟨B4, 0, none⟩) (noneM m)) := .inr ⟨B4, g4, ps4, rfl, hM⟩
  replace HMd := hid (HMd.out.below hb)
  replace HR1 := hid (HR1.out.below hb)
  replace HM1 := hid (HM1.out.below hb)
  replace HR2 := hid (HR2.out.below hb)
  replace HM3 := hid (HM3.out.below hb)
  replace HV := hid (HV.out.trans (hb.mono HV.out.size))
  clear hb hM HA
  have hT3 := HT.out (some ⟨g, 0, none⟩) (some ⟨B4, 0, none⟩) (noneM m) a1 l1 c1 z1 w8 HMd.out HM4.out (by rw [noneM_len]; omega) (by rw [HF1.out]; exact HEn.out) (by omega) (HX.out _ HV.out) (by omega)
  rw [HF1.out] at hT3
  go_wp2_with fail
  refine hT3.mono ?_
  rintro e w9 ⟨p3, k3, d3, B5, g5, ps5, rfl, hR, _, hM, _, hb⟩
  have HR3 := hid hR
  have HM5 : Hid (MemAt w9 (some ⟨B5, 0, none⟩) (thrM ⟨s, v, d, (L : Int), tt, h⟩ (noneM L) z1 L)) := .inr ⟨B5, g5, ps5, rfl, hM⟩
  replace HR1 := hid (HR1.out.below hb)
  replace HM1 := hid (HM1.out.below hb)
  replace HR2 := hid (HR2.out.below hb)
  replace HM3 := hid (HM3.out.below hb)
  replace HV := hid (HV.out.trans (hb.mono HV.out.size))
  have HEv : Hid (Even (thrM ⟨s, v, d, (L : Int), tt, h⟩ (noneM L) z1 L) 1) := by
    have := HE1.out (noneM L) z1 (by rw [HF1.out]; exact HEn.out)
    rw [HF1.out] at this
    exact this
  have HLn : Hid ((thrM ⟨s, v, d, (L : Int), tt, h⟩ (noneM L) z1 L).length ≤ 4) := by unfold Hid; rw [thrM_len]; omega
  clear hb hR hM hT3 HM4 HMd HT HX HE1 HF1 HEn
  generalize thrM ⟨s, v, d, (L : Int), tt, h⟩ (noneM L) z1 L = N at *
  generalize thrX ⟨s, v, d, (L : Int), tt, h⟩ (noneM L) z1 L = X at *
  go_wp2_with fail
  refine (same_h p1 p2 k1 k2 d1 d2 X _ HR1.out HR2.out HK1.out).mono ?_
  rintro e w10 ⟨rfl, hb⟩
  replace HR2 := hid (HR2.out.below hb)
  replace HR3 := hid (HR3.out.below hb)
  replace HM1 := hid (HM1.out.below hb)
  replace HM3 := hid (HM3.out.below hb)
  replace HM5 := hid (HM5.out.below hb)
  replace HV := hid (HV.out.trans (hb.mono HV.out.size))
  clear hb HR1
  go_wp2_with fail
  refine (same_h p2 p3 k2 k3 d2 d3 X _ HR2.out HR3.out HK2.out).mono ?_
  rintro e w11 ⟨rfl, hb⟩
  replace HM1 := hid (HM1.out.below hb)
  replace HM3 := hid (HM3.out.below hb)
  replace HM5 := hid (HM5.out.below hb)
  replace HV := hid (HV.out.trans (hb.mono HV.out.size))
  clear hb HR2 HR3
  go_wp2_with fail
  refine (msame_yes (some ⟨B1, 0, none⟩) (some ⟨B3, 0, none⟩) N 1 _ HM1.out HM3.out HEv.out (by omega) HLn.out).mono ?_
  rintro e w12 ⟨rfl, hb⟩
  replace HM3 := hid (HM3.out.below hb)
  replace HM5 := hid (HM5.out.below hb)
  replace HV := hid (HV.out.trans (hb.mono HV.out.size))
  clear hb HM1
  go_wp2_with fail
  refine (msame_yes (some ⟨B3, 0, none⟩) (some ⟨B5, 0, none⟩) N 1 _ HM3.out HM5.out HEv.out (by omega) HLn.out).mono ?_
  rintro e w13 ⟨rfl, hb⟩
  have HW0 := hid (HB0.out.trans ((HV.out.trans (hb.mono HV.out.size)).mono HB0.out.size))
  clear hb HM3 HM5 HV HB0
  go_wp2_with fail
  refine (alive10_any _).mono ?_
  rintro e wz ⟨rfl, hb⟩
  have HZ := hid (HW0.out.trans (hb.mono HW0.out.size))
  clear hb
  go_wp2
  go_ret
  exact ⟨rfl, HZ.out⟩

/-! ### The row's step -/
set_option maxRecDepth 1000000 in
theorem lifted (os : Os) (started : os.Started) (H : Type) (enc : TypeId × Value → H) :
    ReturnsInHanded {} Try.checked os 4 .any (Rows.attnNobodySpec.pre6 enc Try.prog Try.f4 Rows.attnNobodyRow.domain false) (Rows.attnNobodySpec.post enc Try.prog Try.f4 false true false false) := by
  refine returnsInHanded_of_change (C := Try.checked) own started (by kernel_rfl) Try.func4
    (ChangeSpec.witness6 (enc := enc) (C := Try.checked) false ⟨#[], #[.agg #[.int .u64 0, .int .i64 0, .int .i64 0, .int .i64 0, .int .i64 0, .int .i64 0], .slice none 0 0, .int .i64 0], []⟩ 8 (by kernel_rfl) (by kernel_rfl) (by kernel_rfl) (by kernel_rfl)) ?_
  intro W base args ds gs before hval0 hW hcnd _
  have hval : ∀ (j : Nat) t v, Try.f4.params[j]? = some t → args[j]? = some v → Value.okWide Try.prog W .any base t v := hval0
  have hW' := hW
  obtain ⟨p, q, hA0, hV, rfl, hfz, hnd⟩ := hW
  have hA : DataW.TrodAll enc Try.prog W 0 (fun _ => true) true Try.f4.params.toList args.toList ds p := hA0
  rw [Try.params4] at hA hval
  obtain ⟨v0, vs0, d0, ds0, p0, q0, hargs, rfl, rfl, h0, r0⟩ := trodAll_cons hA
  obtain ⟨v1, vs1, d1, ds1, p1, q1, rfl, rfl, rfl, h1, r1⟩ := trodAll_cons r0
  obtain ⟨v2, vs2, d2, ds2, p2, q2, rfl, rfl, rfl, h2, r2⟩ := trodAll_cons r1
  obtain ⟨rfl, rfl, rfl⟩ := trodAll_nil r2
  obtain rfl : args = #[v0, v1, v2] := by cases args; simp_all
  obtain ⟨rfl, rfl⟩ := trodVars_none hV
  have k0 := h0
  have lt0 : ∀ x ∈ p0, x.block < W.heap.size := by obtain ⟨m, hm⟩ := k0; exact DataW.trod_lt m _ _ _ hm
  obtain ⟨c0, rfl⟩ := conf_open (hval 0 24 v0 rfl rfl) h0
  have k1 := h1
  have lt1 : ∀ x ∈ p1, x.block < W.heap.size := by obtain ⟨m, hm⟩ := k1; exact DataW.trod_lt m _ _ _ hm
  obtain ⟨a1, l1, c1, z1, rfl, ga1⟩ := ints_open (hval 1 34 v1 rfl rfl) h1
  have k2 := h2
  have lt2 : ∀ x ∈ p2, x.block < W.heap.size := by obtain ⟨m, hm⟩ := k2; exact DataW.trod_lt m _ _ _ hm
  obtain ⟨n2, rfl⟩ := num_open (hval 2 3 v2 rfl rfl) h2
  clear hA0 hval0
  refine (walk c0 a1 l1 c1 z1 n2 W ga1).mono fun e W' ⟨he, bel⟩ => ?_
  subst he
  exact ⟨_, rfl, _, _, _, [], _, [], hW', trodAll_mk1 (shut_bool Try.underlying4 _), (trodAll_cons_mk (Below.trod laidOut (by kernel_rfl) (of_decide_eq_true (by kernel_rfl)) k0 bel lt0) (trodAll_cons_mk (Below.trod laidOut (by kernel_rfl) (of_decide_eq_true (by kernel_rfl)) k1 bel lt1) (trodAll_cons_mk (Below.trod laidOut (by kernel_rfl) (of_decide_eq_true (by kernel_rfl)) k2 bel lt2) trodAll_mk0))), rfl, bel.frame _, fun h => by cases h⟩

theorem over : Rows.attnNobodyRow.holds Try.pinned (OpenSpec.ofChange Rows.attnNobodySpec) :=
  OpenClaim.holds_of_wide 4 Try.f4 rfl rfl rfl rfl rfl rfl rfl ⟨rfl, rfl, rfl, rfl, rfl⟩ rfl rfl rfl rfl rfl (by kernel_rfl) Try.func4 (by kernel_rfl)
    (of_decide_eq_true (by kernel_rfl)) (by unfold Func.isWrapper; first | (rw [if_pos (by decide +kernel)]; kernel_rfl) | (rw [if_neg (by decide +kernel)]; exact ⟨rfl, rfl⟩))
    (fun os started H enc _ => lifted os started H enc)

/-- The statement. -/
theorem proved : Rows.AttnNobodySaid := over
#print axioms proved
end Go.Proofs.Ytehmdlipacbpfaa.attnNobody
