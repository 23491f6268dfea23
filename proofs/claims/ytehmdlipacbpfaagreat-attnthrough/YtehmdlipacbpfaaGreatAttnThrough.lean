/-
  Proved: what all layers make of any vectors, one behind the other, are the document's: AttnThrough hands back true for whatever configuration and vectors.
-/
import Derived.Test.YtehmdlipacbpfaaGreatRows
import Derived.Test.YtehmdlipacbpfaaGreatAThrs
import Derived.WalkKit
import Derived.ProofKit
import Derived.OpenShut
import Derived.ShutString
import Derived.ChangeOld
import Derived.Below
namespace Go.Proofs.YtehmdlipacbpfaaGreat.attnThrough
open Go.ChangeShapes Go.WideShapes Go.ChangeAt Go.RowKit
open Go.ChangeMaps (open_string shut_string)
set_option linter.unusedVariables false

theorem own : ownKnob Tryz.prog.godebug = none := by kernel_rfl
theorem laidOut : laidOutB Tryz.prog = true := by kernel_rfl

/-! ### The walk -/
set_option maxRecDepth 1000000 in
set_option maxHeartbeats 8000000 in
theorem walk (c0 : Cf) (a1 : Option Addr) (l1 c1 : Nat) (hs1 : List Hd) (xs1 : List (List Int)) (w : World) (ga1 : TblIn w a1 l1 c1 hs1 xs1) :
    Calls Tryz.prog 4 #[.agg (CfV c0), .slice a1 l1 c1] w fun e w' => e = .returned (.bool true) ∧ Below w.heap.size w w' := by
  obtain ⟨wA, hwA⟩ : ∃ wA, wA = w.alloc (.cells (CfV c0) 24) := ⟨_, rfl⟩
  have HB0 : Hid (Below w.heap.size w wA) := by unfold Hid; rw [hwA]; exact (Below.refl _ _).alloc (Nat.le_refl _) _
  have HK : Hid (∀ W : World, Below wA.heap.size wA W → W.cell? ⟨w.heap.size, 0, none⟩ = some (.int .u64 c0.seed) ∧ W.cell? ⟨w.heap.size, 1, none⟩ = some (.int .i64 c0.vocab) ∧ W.cell? ⟨w.heap.size, 2, none⟩ = some (.int .i64 c0.dim) ∧ W.cell? ⟨w.heap.size, 3, none⟩ = some (.int .i64 c0.layers) ∧ W.cell? ⟨w.heap.size, 4, none⟩ = some (.int .i64 c0.top) ∧ W.cell? ⟨w.heap.size, 5, none⟩ = some (.int .i64 c0.heat)) := by
    intro W hb
    have e1 : wA.heap[w.heap.size]? = some (.cells (CfV c0) 24 (0, 0)) := by rw [hwA]; exact heap_alloc_new w _
    exact Cf_cells (block_below e1 hb)
  have hsz : wA.heap.size = w.heap.size + 1 := by rw [hwA]; simp
  obtain ⟨wB, hwB⟩ : ∃ wB, wB = wA.alloc (.cells #[.slice a1 l1 c1] 26) := ⟨_, rfl⟩
  have HBB : Hid (Below wA.heap.size wA wB) := by unfold Hid; rw [hwB]; exact (Below.refl _ _).alloc (Nat.le_refl _) _
  have HF := hid (lfar_any none 0 0 (some ⟨w.heap.size + 1, 0, none⟩) 1 1 [(a1, l1, c1)] (fun _ => hs1) wB (by rw [hwB]; exact rd2_oneT _ wA a1 l1 c1 hsz) (fun i hi => by
    obtain rfl : i = 0 := by omega
    exact (ga1.1.below HB0.out).below HBB.out))
  have r1 := ga1.1.room
  have m1 := ga1.1.most
  have HX := hid fun W (hb : Below wA.heap.size wA W) => (ga1.1.below HB0.out).below hb
  have HXs : Hid (∀ k W, k < l1 → Below wA.heap.size wA W → Reads .i64 W (hs1[k]?.getD (none, 0, 0)).1 (hs1[k]?.getD (none, 0, 0)).2.1 (hs1[k]?.getD (none, 0, 0)).2.2 (xs1[k]?.getD [])) := fun k W hk hb => ((ga1.2.2 k hk).below HB0.out).below hb
  have HNy := hid fun W (h : mayB c0 = true) => new_yes c0 W h
  have HNn := hid fun W (h : mayB c0 = false) => new_no c0 W h
  have HLy := hid fun (h : mayB c0 = true) => may_parts h
  have HT := hid fun p qm k a n cap W (hp : MdAt W p c0) (h : mayB c0 = true) => through_mem p c0 qm xs1 k a n cap W hp h
  clear ga1
  generalize hL : c0.layers.toNat = L at *
  have HLL := hid hL
  clear hL
  obtain ⟨s, v, d, l, tt, h⟩ := c0
  unfold CfV at HNy HNn hwA
  simp only at HK HNy HNn HLy hwA HLL
  unfold CfV
  simp only
  obtain ⟨i0, hi, hz0, hz1, hz2⟩ := info_parts Tryz.infoPl
  go_enter Tryz.func4, Tryz.ntmps4
  go_wp2_with fail
  rw [← hwA, ← hwB]
  refine HF.out.mono ?_
  rintro e w' ⟨b, rfl, hfar, rfl⟩
  rename World => wB
  have HV := HBB
  clear hwA hwB HF HBB hsz
  cases b with
  | true =>
    have HW0 := hid (HB0.out.trans (HV.out.mono HB0.out.size))
    clear HK HX HXs HNy HNn HLy HT hfar
    go_wp2_with fail
    refine (alive10_any _).mono ?_
    rintro e wz ⟨rfl, hb⟩
    have HZ := hid (HW0.out.trans (hb.mono HW0.out.size))
    clear hb
    go_wp2
    go_ret
    exact ⟨rfl, HZ.out⟩
  | false =>
  have HNF := hid (hfar rfl)
  clear hfar
  by_cases h6 : 6 < l1
  · have HW0 := hid (HB0.out.trans (HV.out.mono HB0.out.size))
    clear HK HX HXs HNy HNn HLy HT HNF
    go_wp2_with fail
    refine (alive10_any _).mono ?_
    rintro e wz ⟨rfl, hb⟩
    have HZ := hid (HW0.out.trans (hb.mono HW0.out.size))
    clear hb
    go_wp2
    go_ret
    exact ⟨rfl, HZ.out⟩
  have h6' : l1 ≤ 6 := by omega
  clear h6
  have HS40 : Hid (∀ k, k < l1 → (hs1[k]?.getD (none, 0, 0)).2.1 ≤ 40) := fun k hk => ((HNF.out.2 0 (by simp)).2 k hk)
  clear HNF
  obtain ⟨x0, x1, x2, x3, x4, x5⟩ := HK.out _ HV.out
  cases hc : mayB ⟨s, v, d, l, tt, h⟩ with
  | false =>
    have hN := HNn.out wB hc
    clear HX HXs HNy HNn HLy HT hc HS40
    go_wp2_with fail
    refine hN.mono ?_
    rintro e w4 ⟨rfl, hb⟩
    have HW0 := hid (HB0.out.trans ((HV.out.trans (hb.mono HV.out.size)).mono HB0.out.size))
    clear hN hb x0 x1 x2 x3 x4 x5 HK
    go_wp2_with fail
    refine (alive10_any _).mono ?_
    rintro e wz ⟨rfl, hb⟩
    have HZ := hid (HW0.out.trans (hb.mono HW0.out.size))
    clear hb
    go_wp2
    go_ret
    exact ⟨rfl, HZ.out⟩
  | true =>
  have hN := HNy.out wB hc
  obtain ⟨_, _, _, _, hl1, hl4⟩ := HLy.out hc
  replace HT := hid fun p qm k a n cap W (hp : MdAt W p ⟨s, v, d, l, tt, h⟩) => HT.out p qm k a n cap W hp hc
  have hlL : l = (L : Int) := by have := HLL.out; omega
  subst hlL
  have HRT := hid fun la ln lc ps KK VV M a n cap zs W => rthrough_nat s v d tt h L la ln lc ps KK VV M a n cap zs W hc (by omega)
  unfold CfV at HRT
  simp only at HRT
  clear HNy HNn HLy hc HLL
  go_wp2_with fail
  refine hN.mono ?_
  rintro e w1 ⟨g, rfl, hg, hm, hb⟩
  have HMd : Hid (MdAt w1 (some ⟨g, 0, none⟩) ⟨s, v, d, (L : Int), tt, h⟩) := .inr ⟨g, rfl, hm⟩
  replace HV := hid (HV.out.trans (hb.mono HV.out.size))
  clear hN hb hg hm x0 x1 x2 x3 x4 x5
  obtain ⟨x0, x1, x2, x3, x4, x5⟩ := HK.out _ HV.out
  have hN2 := anew_nat L w1 (by omega)
  go_wp2_with fail
  refine hN2.mono ?_
  rintro e w2 ⟨B0, g0, ps0, rfl, _, _, hM, hb⟩
  replace HMd := hid (HMd.out.below hb)
  replace HV := hid (HV.out.trans (hb.mono HV.out.size))
  have HC0 : Hid (ThAt w2 ⟨s, v, d, (L : Int), tt, h⟩ L xs1 0 (.pointer (some ⟨B0, 0, none⟩)) (.slice none 0 0) w2) := ⟨B0, [], rfl, .inr ⟨B0, g0, ps0, rfl, hM⟩, PlO.nil _ _ _ _, Below.refl _ _⟩
  replace HMd := hid fun W (hw : Below w2.heap.size w2 W) => HMd.out.below hw
  replace HV := hid fun W (hw : Below w2.heap.size w2 W) => HV.out.trans (hw.mono HV.out.size)
  clear hb hM hN2 x0 x1 x2 x3 x4 x5
  go_wp2_with fail
  go_loopw [7, 8, 37] (fun u o i W => ∃ k : Nat, k ≤ l1 ∧ i = .int .i64 k ∧ Hid (ThAt w2 ⟨s, v, d, (L : Int), tt, h⟩ L xs1 k u o W)) (fun _ _ i _ => l1 - (intOf i).toNat)
  case atStart => exact ⟨0, Nat.zero_le _, rfl, HC0⟩
  case round =>
  obtain ⟨k, hk, rfl, HC⟩ := hrel
  rename World => wr
  clear HC0
  by_cases hlt : k < l1
  · obtain ⟨B, ps, rfl, hMm, hO, hw⟩ := HC.out
    obtain ⟨pa, pc, rfl, hPa⟩ := hO.at
    have HMm := hid hMm
    have HO := hid hO
    have HPa := hid hPa
    have HWr := hid hw
    have q1 : (k : Int) < (l1 : Int) := by omega
    obtain ⟨b1, o1, rfl, cx⟩ := (HX.out wr (HV.out _ hw)).cell k hlt
    have h40 := HS40.out k hlt
    have hC := HT.out (some ⟨g, 0, none⟩) (some ⟨B, 0, none⟩) k _ _ _ wr (HMd.out _ hw) hMm (by omega) (HXs.out k wr hlt (HV.out _ hw)) (by omega)
    have HXl : Hid ((xs1[k]?.getD []).length ≤ 40) := by unfold Hid; rw [(HXs.out k wr hlt (HV.out _ hw)).size]; exact h40
    have HRC := hid fun W (hb : Below wr.heap.size wr W) => HRT.out pa k pc ps (plK ⟨s, v, d, (L : Int), tt, h⟩ L xs1) (plV ⟨s, v, d, (L : Int), tt, h⟩ L xs1) (memL ⟨s, v, d, (L : Int), tt, h⟩ L xs1 k) _ _ _ _ W (HPa.out.below hb) (fun i hi => ⟨tblK_len _ _, tblK_len _ _⟩) (fun j hj => memL_rows _ _ _ _ hj) (by omega) (HXs.out k W hlt (HV.out _ (HWr.out.trans (hb.mono HWr.out.size)))) (by omega) (by omega)
    have HKr := hid fun W (hb : Below wr.heap.size wr W) => HK.out W (HV.out _ (HWr.out.trans (hb.mono HWr.out.size)))
    have HLn : Hid (∀ k, (memL ⟨s, v, d, (L : Int), tt, h⟩ L xs1 k).length = L) := fun k => memL_len _ _ _ _
    have HAt := hid fun k => (memL_at ⟨s, v, d, (L : Int), tt, h⟩ L xs1 k (j := 0) (by omega)).1
    clear HX HXs HT HMd HV HS40 HC hMm hO hw HK HRT hPa HPa
    generalize hs1[k]?.getD (none, 0, 0) = y at *
    obtain ⟨y1, y2, y3⟩ := y
    simp only at cx hC h40 HRC
    go_wp2_with fail
    refine hC.mono ?_
    rintro e w3 ⟨p1, n1, d1, B1, g1, ps1, rfl, hR, hI, hM, _, hb⟩
    have HR := hid hR
    have HI := hid hI
    have HM1 : Hid (MemAt w3 (some ⟨B1, 0, none⟩) (memL ⟨s, v, d, (L : Int), tt, h⟩ L xs1 (k + 1))) := .inr ⟨B1, g1, ps1, rfl, hM⟩
    have HB := hid hb
    have hn1 : n1 ≤ 1000 := by rw [← hR.size]; exact Nat.le_trans (thrX_len _ _ _ _) (Nat.le_trans HXl.out (by omega))
    replace HMm := hid (HMm.out.below hb)
    clear hC hR hI hM hb cx
    obtain ⟨x0, x1, x2, x3, x4, x5⟩ := HKr.out _ HB.out
    go_wp2_with fail
    refine (HRC.out _ HB.out).mono ?_
    rintro e w4 ⟨p2, n2, d2, ⟨u1, u2, u3⟩, ⟨v1, v2, v3⟩, rfl, hR2, hTu, hTv, hb⟩
    obtain ⟨wC, hwC⟩ : ∃ wC, wC = w4.alloc (.cells #[.slice u1 u2 u3, .slice v1 v2 v3] 48) := ⟨_, rfl⟩
    have hbC : Below w4.heap.size w4 wC := by rw [hwC]; exact (Below.refl _ _).alloc (Nat.le_refl _) _
    have hbb : Below w3.heap.size w3 wC := hb.trans (hbC.mono hb.size)
    have HR2 := hid (hR2.below hbC)
    have HTu := hid (hTu.below hbC)
    have HTv := hid (hTv.below hbC)
    replace HR := hid (HR.out.below hbb)
    replace HM1 := hid (HM1.out.below hbb)
    replace HMm := hid (HMm.out.below hbb)
    replace HB := hid (HB.out.trans (hbb.mono HB.out.size))
    have HBx : Hid (wC.heap[w4.heap.size]? = some (.cells #[.slice u1 u2 u3, .slice v1 v2 v3] 48 (0, 0))) := by unfold Hid; rw [hwC]; exact heap_alloc_new w4 _
    clear hR2 hTu hTv hb hbC hbb HRC HKr x0 x1 x2 x3 x4 x5 HI
    go_wp2_with fail
    rw [← hwC]
    clear hwC
    refine (same_h p1 p2 n1 n2 d1 d2 _ _ HR.out HR2.out hn1).mono ?_
    rintro e w5 ⟨rfl, hb⟩
    replace HTu := hid (HTu.out.below hb)
    replace HTv := hid (HTv.out.below hb)
    replace HM1 := hid (HM1.out.below hb)
    replace HMm := hid (HMm.out.below hb)
    replace HB := hid (HB.out.trans (hb.mono HB.out.size))
    replace HBx := hid (block_below HBx.out hb)
    clear hb HR HR2
    have hL1 := len_any (some ⟨B1, 0, none⟩) _ (k + 1) w5 HM1.out (fun h => by rw [HLn.out] at h; omega) (fun _ => HAt.out (k + 1)) (by rw [HLn.out]; omega)
    have hL0 := len_any (some ⟨B, 0, none⟩) _ k w5 HMm.out (fun h => by rw [HLn.out] at h; omega) (fun _ => HAt.out k) (by rw [HLn.out]; omega)
    go_wp2_with fail
    refine hL1.mono ?_
    rintro e w' ⟨rfl, rfl⟩
    rename World => w5
    clear hL1
    go_wp2_with fail
    refine hL0.mono ?_
    rintro e w' ⟨rfl, rfl⟩
    rename World => w5
    clear hL0 HMm HAt HLn
    obtain ⟨y0, y1'⟩ := two_cells HBx.out
    have HOb := hid (HO.out.below HB.out)
    have HAl : Hid (∀ o, Below w5.heap.size w5 (w5.alloc o)) := fun o => (Below.refl _ _).alloc (Nat.le_refl _) _
    have HLs : Hid (w2.heap.size ≤ w5.heap.size) := Nat.le_trans HWr.out.size HB.out.size
    have HCe := hid (two_cells (heap_alloc_new w5 (.cells #[.slice u1 u2 u3, .slice v1 v2 v3] 48)))
    have HWn := hid (HWr.out.trans (HB.out.mono HWr.out.size))
    go_wp2_with (at_builtin; refine append_place _ rfl (.tmp 74) (.tmp 76) 44 rfl w2.heap.size i0 Tryz.underlying44 hi hz0 hz1 hz2 _ k _ rfl (own_below HOb.out.own (HAl.out _)) (by omega) w5.heap.size (u1, u2, u3) (v1, v2, v3) rfl HCe.out.1 HCe.out.2 (Nat.le_trans HLs.out (HAl.out _).size) ?_; intro v' w6 hO6 hg6)
    obtain ⟨hP6, hK6⟩ := HOb.out.snoc HTu.out HTv.out hO6 hg6
    have HCn : Hid (ThAt w2 ⟨s, v, d, (L : Int), tt, h⟩ L xs1 (k + 1) (.pointer (some ⟨B1, 0, none⟩)) v' w6) := by
      refine ⟨B1, _, rfl, HM1.out.keep hK6 (by decide) (by decide) (by decide) (by decide), hP6, ?_⟩
      have h1 : Below w2.heap.size w2 (w5.alloc (.cells #[.slice u1 u2 u3, .slice v1 v2 v3] 48)) := HWn.out.trans ((HAl.out _).mono HWn.out.size)
      exact h1.grown hg6 h1.size fun g hg => (HOb.out.own.lt g hg).1
    clear hP6 hK6 hO6 hg6 HO HOb HWr HB HAl HLs HCe HWn HTu HTv HM1 HBx y0 y1' HXl
    go_wp2_with fail
    go_round
    case rel => exact ⟨k + 1, by omega, by go_num, HCn⟩
    case measure => simp [intOf]; omega
  obtain rfl : l1 = k := by omega
  obtain ⟨B, ps, rfl, hMm, hO, hw⟩ := HC.out
  have HW0 := hid (HB0.out.trans ((HV.out _ hw).mono HB0.out.size))
  clear HC hMm hO hw HX HXs HT HMd HV HS40 HK HRT HB0
  go_wp2_with fail
  refine (alive10_any _).mono ?_
  rintro e wz ⟨rfl, hb⟩
  have HZ := hid (HW0.out.trans (hb.mono HW0.out.size))
  clear hb
  go_wp2
  go_ret
  exact ⟨rfl, HZ.out⟩

/-! ### The row's step -/
set_option maxRecDepth 1000000 in
theorem lifted (os : Os) (started : os.Started) (H : Type) (enc : TypeId × Value → H) :
    ReturnsInHanded {} Tryz.checked os 4 .any (Rows.attnThroughSpec.pre6 enc Tryz.prog Tryz.f4 Rows.attnThroughRow.domain false) (Rows.attnThroughSpec.post enc Tryz.prog Tryz.f4 false true false false) := by
  refine returnsInHanded_of_change (C := Tryz.checked) own started (by kernel_rfl) Tryz.func4
    (ChangeSpec.witness6 (enc := enc) (C := Tryz.checked) false ⟨#[], #[.agg #[.int .u64 0, .int .i64 0, .int .i64 0, .int .i64 0, .int .i64 0, .int .i64 0], .slice none 0 0], []⟩ 8 (by kernel_rfl) (by kernel_rfl) (by kernel_rfl) (by kernel_rfl)) ?_
  intro W base args ds gs before hval0 hW hcnd _
  have hval : ∀ (j : Nat) t v, Tryz.f4.params[j]? = some t → args[j]? = some v → Value.okWide Tryz.prog W .any base t v := hval0
  have hW' := hW
  obtain ⟨p, q, hA0, hV, rfl, hfz, hnd⟩ := hW
  have hA : DataW.TrodAll enc Tryz.prog W 0 (fun _ => true) true Tryz.f4.params.toList args.toList ds p := hA0
  rw [Tryz.params4] at hA hval
  obtain ⟨v0, vs0, d0, ds0, p0, q0, hargs, rfl, rfl, h0, r0⟩ := trodAll_cons hA
  obtain ⟨v1, vs1, d1, ds1, p1, q1, rfl, rfl, rfl, h1, r1⟩ := trodAll_cons r0
  obtain ⟨rfl, rfl, rfl⟩ := trodAll_nil r1
  obtain rfl : args = #[v0, v1] := by cases args; simp_all
  obtain ⟨rfl, rfl⟩ := trodVars_none hV
  have k0 := h0
  have lt0 : ∀ x ∈ p0, x.block < W.heap.size := by obtain ⟨m, hm⟩ := k0; exact DataW.trod_lt m _ _ _ hm
  obtain ⟨c0, rfl⟩ := conf_open (hval 0 24 v0 rfl rfl) h0
  have k1 := h1
  have lt1 : ∀ x ∈ p1, x.block < W.heap.size := by obtain ⟨m, hm⟩ := k1; exact DataW.trod_lt m _ _ _ hm
  obtain ⟨a1, l1, c1, hs1, xs1, rfl, ga1⟩ := rows_open (hval 1 26 v1 rfl rfl) h1
  clear hA0 hval0
  refine (walk c0 a1 l1 c1 hs1 xs1 W ga1).mono fun e W' ⟨he, bel⟩ => ?_
  subst he
  exact ⟨_, rfl, _, _, _, [], _, [], hW', trodAll_mk1 (shut_bool Tryz.underlying4 _), (trodAll_cons_mk (Below.trod laidOut (by kernel_rfl) (of_decide_eq_true (by kernel_rfl)) k0 bel lt0) (trodAll_cons_mk (Below.trod laidOut (by kernel_rfl) (of_decide_eq_true (by kernel_rfl)) k1 bel lt1) trodAll_mk0)), rfl, bel.frame _, fun h => by cases h⟩

theorem over : Rows.attnThroughRow.holds Tryz.pinned (OpenSpec.ofChange Rows.attnThroughSpec) :=
  OpenClaim.holds_of_wide 4 Tryz.f4 rfl rfl rfl rfl rfl rfl rfl ⟨rfl, rfl, rfl, rfl, rfl⟩ rfl rfl rfl rfl rfl (by kernel_rfl) Tryz.func4 (by kernel_rfl)
    (of_decide_eq_true (by kernel_rfl)) (by unfold Func.isWrapper; first | (rw [if_pos (by decide +kernel)]; kernel_rfl) | (rw [if_neg (by decide +kernel)]; exact ⟨rfl, rfl⟩))
    (fun os started H enc _ => lifted os started H enc)

/-- The statement. -/
theorem proved : Rows.AttnThroughSaid := over
#print axioms proved
end Go.Proofs.YtehmdlipacbpfaaGreat.attnThrough
