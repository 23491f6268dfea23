/-
  Proved: what was cut off and made anew is the same, and a memory that was handed on stays as it is: AttnCuts hands back true for whatever configuration, vectors and number.
-/
import Derived.Test.YtehmdlipacbpfaaRows
import Derived.Test.YtehmdlipacbpfaaACuts
import Derived.Deep.RegionHeld3
import Derived.WalkKit
import Derived.ProofKit
import Derived.OpenShut
import Derived.ShutString
import Derived.ChangeOld
import Derived.Below
namespace Go.Proofs.Ytehmdlipacbpfaa.attnCuts
open Go.ChangeShapes Go.WideShapes Go.ChangeAt Go.RowKit
open Go.ChangeMaps (open_string shut_string)
set_option linter.unusedVariables false

theorem own : ownKnob Try.prog.godebug = none := by kernel_rfl
theorem laidOut : laidOutB Try.prog = true := by kernel_rfl

/-! ### The walk -/
set_option maxRecDepth 1000000 in
set_option maxHeartbeats 8000000 in
theorem walk (c0 : Cf) (a1 : Option Addr) (l1 c1 : Nat) (hs1 : List Hd) (xs1 : List (List Int)) (n2 : Int) (w : World) (ga1 : TblIn w a1 l1 c1 hs1 xs1) :
    Calls Try.prog 3 #[.agg (CfV c0), .slice a1 l1 c1, .int .i64 n2] w fun e w' => e = .returned (.bool true) ∧ Below w.heap.size w w' := by
  obtain ⟨wA, hwA⟩ : ∃ wA, wA = w.alloc (.cells (CfV c0) 24) := ⟨_, rfl⟩
  have HB0 : Hid (Below w.heap.size w wA) := by unfold Hid; rw [hwA]; exact (Below.refl _ _).alloc (Nat.le_refl _) _
  have HK : Hid (∀ W : World, Below wA.heap.size wA W → W.cell? ⟨w.heap.size, 0, none⟩ = some (.int .u64 c0.seed) ∧ W.cell? ⟨w.heap.size, 1, none⟩ = some (.int .i64 c0.vocab) ∧ W.cell? ⟨w.heap.size, 2, none⟩ = some (.int .i64 c0.dim) ∧ W.cell? ⟨w.heap.size, 3, none⟩ = some (.int .i64 c0.layers) ∧ W.cell? ⟨w.heap.size, 4, none⟩ = some (.int .i64 c0.top) ∧ W.cell? ⟨w.heap.size, 5, none⟩ = some (.int .i64 c0.heat)) := by
    intro W hb
    have e1 : wA.heap[w.heap.size]? = some (.cells (CfV c0) 24 (0, 0)) := by rw [hwA]; exact heap_alloc_new w _
    exact Cf_cells (block_below e1 hb)
  have hsz : wA.heap.size = w.heap.size + 1 := by rw [hwA]; simp
  obtain ⟨wB, hwB⟩ : ∃ wB, wB = wA.alloc (.cells #[.slice a1 l1 c1] 25) := ⟨_, rfl⟩
  have HBB : Hid (Below wA.heap.size wA wB) := by unfold Hid; rw [hwB]; exact (Below.refl _ _).alloc (Nat.le_refl _) _
  have HF := hid (lfar_any none 0 0 (some ⟨w.heap.size + 1, 0, none⟩) 1 1 [(a1, l1, c1)] (fun _ => hs1) wB (by rw [hwB]; exact rd2_oneT _ wA a1 l1 c1 hsz) (fun i hi => by
    obtain rfl : i = 0 := by omega
    exact (ga1.1.below HB0.out).below HBB.out))
  have r1 := ga1.1.room
  have m1 := ga1.1.most
  have HX := hid fun W (hb : Below wA.heap.size wA W) => (ga1.1.below HB0.out).below hb
  have HXs : Hid (∀ k W, k < l1 → Below wA.heap.size wA W → Reads .i64 W (hs1[k]?.getD (none, 0, 0)).1 (hs1[k]?.getD (none, 0, 0)).2.1 (hs1[k]?.getD (none, 0, 0)).2.2 (xs1[k]?.getD [])) := fun k W hk hb => ((ga1.2.2 k hk).below HB0.out).below hb
  have HNy := hid fun W (h : mayB c0 = true) => new_yes c0 W h
  have HNn := hid fun W (h : mayB c0 = false) => new_no c0 W h
  have HLy := hid fun (h : mayB c0 = true) => may_parts h
  have HT := hid fun p qm k a n cap W (hp : MdAt W p c0) (h : mayB c0 = true) => through_mem p c0 qm xs1 k a n cap W hp h
  have HTo := hid fun p qm k a n cap zs W (hp : MdAt W p c0) (h : mayB c0 = true) (hm : MemAt W qm (memL c0 c0.layers.toNat xs1 k)) (h4 : (memL c0 c0.layers.toNat xs1 k).length ≤ 4) => through_any p c0 qm (memL c0 c0.layers.toNat xs1 k) k a n cap zs W hp h hm h4 (by
    have hF : fromM (memL c0 c0.layers.toNat xs1 k) c0.layers.toNat = memL c0 c0.layers.toNat xs1 k := by unfold fromM; rw [if_pos (memL_len _ _ _ _)]
    rw [hF]; exact memL_even _ _ _ _)
  clear ga1
  generalize hL : c0.layers.toNat = L at *
  have HLL := hid hL
  clear hL
  obtain ⟨s, v, d, l, tt, h⟩ := c0
  unfold CfV at HNy HNn hwA
  simp only at HK HNy HNn HLy hwA HLL
  unfold CfV
  simp only
  obtain ⟨i0, hi, hz0, hz1, hz2⟩ := info_parts Try.infoS
  go_enter Try.func3, Try.ntmps3
  go_wp2_with fail
  rw [← hwA, ← hwB]
  refine HF.out.mono ?_
  rintro e w' ⟨b, rfl, hfar, rfl⟩
  rename World => wB
  have HV := HBB
  clear hwA hwB HF HBB hsz
  cases b with
  | true =>
    have HW0 := hid (HB0.out.trans (HV.out.mono HB0.out.size))
    clear HK HX HXs HNy HNn HLy HT HTo hfar
    go_wp2_with fail
    refine (alive10_any _).mono ?_
    rintro e wz ⟨rfl, hb⟩
    have HZ := hid (HW0.out.trans (hb.mono HW0.out.size))
    clear hb
    go_wp2
    go_ret
    exact ⟨rfl, HZ.out⟩
  | false =>
  have HNF := hid (hfar rfl)
  clear hfar
  by_cases h6 : 6 < l1
  · have HW0 := hid (HB0.out.trans (HV.out.mono HB0.out.size))
    clear HK HX HXs HNy HNn HLy HT HTo HNF
    go_wp2_with fail
    refine (alive10_any _).mono ?_
    rintro e wz ⟨rfl, hb⟩
    have HZ := hid (HW0.out.trans (hb.mono HW0.out.size))
    clear hb
    go_wp2
    go_ret
    exact ⟨rfl, HZ.out⟩
  have h6' : l1 ≤ 6 := by omega
  clear h6
  have HS40 : Hid (∀ k, k < l1 → (hs1[k]?.getD (none, 0, 0)).2.1 ≤ 40) := fun k hk => ((HNF.out.2 0 (by simp)).2 k hk)
  clear HNF
  obtain ⟨x0, x1, x2, x3, x4, x5⟩ := HK.out _ HV.out
  cases hc : mayB ⟨s, v, d, l, tt, h⟩ with
  | false =>
    have hN := HNn.out wB hc
    clear HX HXs HNy HNn HLy HT HTo hc HS40
    go_wp2_with fail
    refine hN.mono ?_
    rintro e w4 ⟨rfl, hb⟩
    have HW0 := hid (HB0.out.trans ((HV.out.trans (hb.mono HV.out.size)).mono HB0.out.size))
    clear hN hb x0 x1 x2 x3 x4 x5 HK
    go_wp2_with fail
    refine (alive10_any _).mono ?_
    rintro e wz ⟨rfl, hb⟩
    have HZ := hid (HW0.out.trans (hb.mono HW0.out.size))
    clear hb
    go_wp2
    go_ret
    exact ⟨rfl, HZ.out⟩
  | true =>
  have hN := HNy.out wB hc
  obtain ⟨_, _, _, _, hl1, hl4⟩ := HLy.out hc
  replace HT := hid fun p qm k a n cap W (hp : MdAt W p ⟨s, v, d, l, tt, h⟩) => HT.out p qm k a n cap W hp hc
  replace HTo := hid fun p qm k a n cap zs W (hp : MdAt W p ⟨s, v, d, l, tt, h⟩) => HTo.out p qm k a n cap zs W hp hc
  have hlL : l = (L : Int) := by have := HLL.out; omega
  subst hlL
  clear HNy HNn HLy hc HLL
  go_wp2_with fail
  refine hN.mono ?_
  rintro e w1 ⟨g, rfl, hg, hm, hb⟩
  have HMd : Hid (MdAt w1 (some ⟨g, 0, none⟩) ⟨s, v, d, (L : Int), tt, h⟩) := .inr ⟨g, rfl, hm⟩
  replace HV := hid (HV.out.trans (hb.mono HV.out.size))
  clear hN hb hg hm x0 x1 x2 x3 x4 x5
  obtain ⟨x0, x1, x2, x3, x4, x5⟩ := HK.out _ HV.out
  have hN2 := anew_nat L w1 (by omega)
  go_wp2_with fail
  refine hN2.mono ?_
  rintro e w2 ⟨B0, g0, ps0, rfl, _, _, hM, hb⟩
  replace HMd := hid (HMd.out.below hb)
  replace HV := hid (HV.out.trans (hb.mono HV.out.size))
  have HC0 : Hid (CutAt w2 ⟨s, v, d, (L : Int), tt, h⟩ L xs1 0 (.pointer (some ⟨B0, 0, none⟩)) (.slice none 0 0) w2) := ⟨B0, [], rfl, .inr ⟨B0, g0, ps0, rfl, hM⟩, RowsI.nil _ _, Below.refl _ _⟩
  replace HMd := hid fun W (hw : Below w2.heap.size w2 W) => HMd.out.below hw
  replace HV := hid fun W (hw : Below w2.heap.size w2 W) => HV.out.trans (hw.mono HV.out.size)
  clear hb hM hN2 x0 x1 x2 x3 x4 x5
  go_wp2_with fail
  go_loopw [9, 10, 43] (fun u o i W => ∃ k : Nat, k ≤ l1 ∧ i = .int .i64 k ∧ Hid (CutAt w2 ⟨s, v, d, (L : Int), tt, h⟩ L xs1 k u o W)) (fun _ _ i _ => l1 - (intOf i).toNat)
  case atStart => exact ⟨0, Nat.zero_le _, rfl, HC0⟩
  case round =>
  obtain ⟨k, hk, rfl, HC⟩ := hrel
  rename World => wr
  clear HC0
  by_cases hlt : k < l1
  · obtain ⟨B, hs, rfl, hMm, hO, hw⟩ := HC.out
    have HO := hid hO
    have HWr := hid hw
    have q1 : (k : Int) < (l1 : Int) := by omega
    obtain ⟨b1, o1, rfl, cx⟩ := (HX.out wr (HV.out _ hw)).cell k hlt
    have h40 := HS40.out k hlt
    have hC := HT.out (some ⟨g, 0, none⟩) (some ⟨B, 0, none⟩) k _ _ _ wr (HMd.out _ hw) hMm (by omega) (HXs.out k wr hlt (HV.out _ hw)) (by omega)
    have HXl : Hid ((xs1[k]?.getD []).length ≤ 40) := by unfold Hid; rw [(HXs.out k wr hlt (HV.out _ hw)).size]; exact h40
    clear HX HXs HT HTo HMd HV HS40 HC hMm hO hw HK
    generalize hs1[k]?.getD (none, 0, 0) = y at *
    obtain ⟨y1, y2, y3⟩ := y
    simp only at cx hC h40
    go_wp2_with fail
    refine hC.mono ?_
    rintro e w3 ⟨p1, n1, d1, B1, g1, ps1, rfl, hR, hI, hM, hFr, hb⟩
    have HR := hid hR
    have HI := hid hI
    have HM := hid hM
    have HFr := hid hFr
    have HB := hid hb
    have hn1 : n1 ≤ 1000 := by rw [← hR.size]; exact Nat.le_trans (thrX_len _ _ _ _) (Nat.le_trans HXl.out (by omega))
    have HAl : Hid (∀ o, Below w3.heap.size w3 (w3.alloc o)) := fun o => (Below.refl _ _).alloc (Nat.le_refl _) _
    have HOb := hid (HO.out.below hb)
    have HLs : Hid (w2.heap.size ≤ w3.heap.size) := Nat.le_trans HWr.out.size hb.size
    have HCe : Hid ((w3.alloc (.cells #[.slice p1 n1 d1] 34)).cell? ⟨w3.heap.size, 0, none⟩ = some (.slice p1 n1 d1)) := by unfold Hid; rw [cell_of_row _ _ _ _ _ _ (heap_alloc_new w3 _)]; rfl
    clear hC hR hI hM hFr hb cx HXl
    go_wp2_with (at_builtin; refine append_rowO _ rfl (.tmp 54) (.tmp 56) 25 rfl w2.heap.size i0 Try.underlying25 hi hz0 hz1 hz2 _ k hs _ rfl (HOb.out.below (HAl.out _)) (by omega) w3.heap.size (p1, n1, d1) (madeL ⟨s, v, d, (L : Int), tt, h⟩ L xs1 k) rfl HCe.out (HR.out.below (HAl.out _)) (HI.out.below (HAl.out _)) hn1 (Nat.le_trans HLs.out (by simp)) ?_; intro v' w4 hO4 hg4)
    have HCn := hid (CutAt.step HO.out HWr.out HM.out HFr.out HB.out hg4 hO4)
    clear hO4 hg4 HO HWr HM HFr HB HOb HLs HCe HR HI HAl
    go_wp2_with fail
    go_round
    case rel => exact ⟨k + 1, by omega, by go_num, HCn⟩
    case measure => simp [intOf]; omega
  obtain rfl : l1 = k := by omega
  obtain ⟨B, hs, rfl, hMm, hO, hw⟩ := HC.out
  obtain ⟨oa, oc, rfl, hOt⟩ := hO.tbl
  have HMm := hid hMm
  have HOt := hid hOt
  have HWr := hid hw
  clear HC hMm hO hw hlt hk hOt hi hz0 hz1 hz2
  obtain ⟨m, hm⟩ : ∃ m, cutN n2 l1 = m := ⟨_, rfl⟩
  obtain ⟨x, hx⟩ : ∃ x : Int, (if n2 < 0 then 0 else n2) = x := ⟨_, rfl⟩
  have hml : m ≤ l1 := by unfold cutN at hm; omega
  have hx2 : (if 0 < n2 then n2 else 0) = x := by rw [← hx]; split <;> split <;> omega
  have hA : (if (l1 : Int) < x then (l1 : Int) else x) = (m : Int) := by
    unfold cutN at hm
    rw [← hx]
    split <;> split at * <;> omega
  have hE : Even (memL ⟨s, v, d, (L : Int), tt, h⟩ L xs1 l1) l1 := memL_even _ _ _ _
  have HLn : Hid (∀ k, (memL ⟨s, v, d, (L : Int), tt, h⟩ L xs1 k).length = L) := fun k => memL_len _ _ _ _
  have hCut := cut_any (some ⟨B, 0, none⟩) _ n2 l1 wr HMm.out (by rw [HLn.out]; omega) hE (by omega) (fun h => by rw [HLn.out] at h; omega)
  rw [hm, memL_cut _ _ _ hml] at hCut
  clear hm hE
  go_wp2_with fail
  refine hCut.mono ?_
  rintro e wc ⟨B2, g2, ps2, rfl, _, _, hM, hb⟩
  have HMc : Hid (MemAt wc (some ⟨B2, 0, none⟩) (memL ⟨s, v, d, (L : Int), tt, h⟩ L xs1 m)) := .inr ⟨B2, g2, ps2, rfl, hM⟩
  replace HMm := hid (HMm.out.below hb)
  replace HOt := hid (HOt.out.below hb)
  replace HWr := hid (HWr.out.trans (hb.mono HWr.out.size))
  clear hCut hb hM
  have HAt := hid fun k => (memL_at ⟨s, v, d, (L : Int), tt, h⟩ L xs1 k (j := 0) (by omega)).1
  have HLen := hid fun W (hw : Below wc.heap.size wc W) => len_any (some ⟨B2, 0, none⟩) _ m W (HMc.out.below hw) (fun h => by rw [HLn.out] at h; omega) (fun _ => HAt.out m) (by rw [HLn.out]; omega)
  have HLay := hid fun W (hw : Below wc.heap.size wc W) => layers_any (some ⟨B2, 0, none⟩) _ W (HMc.out.below hw)
  rw [HLn.out] at HLay
  have HKc := hid fun W (hw : Below wc.heap.size wc W) => (HK.out W (HV.out W (HWr.out.trans (hw.mono HWr.out.size)))).2.2.2.1
  have HD : Hid (Below wc.heap.size wc wc.drew) := (Below.refl _ _).drew
  clear HK HAt
  go_wp2_with fail
  go_region_held3 (fun W : World => W.cell? ⟨w.heap.size, 3, none⟩ = some (.int .i64 (L : Int))) (first | (with_reducible exact HKc.out _ (Below.refl _ _)) | (with_reducible exact HKc.out _ HD.out))
    (first
      | (go_at_call 11; (with_reducible refine (HLen.out _ HD.out).mono ?_); rintro e z1 ⟨rfl, rfl⟩)
      | (go_at_call 12; (with_reducible refine (HLay.out _ HD.out).mono ?_); rintro e z2 ⟨rfl, rfl⟩))
  replace HMm := hid (HMm.out.below HD.out)
  replace HMc := hid (HMc.out.below HD.out)
  replace HOt := hid (HOt.out.below HD.out)
  replace HWr := hid (HWr.out.trans (HD.out.mono HWr.out.size))
  generalize hwd : wc.drew = wd at *
  clear hwd HLay HKc HD
  replace HLen := hid fun W (hw : Below wd.heap.size wd W) => len_any (some ⟨B2, 0, none⟩) _ m W (HMc.out.below hw) (fun h => by rw [HLn.out] at h; omega) (fun _ => (memL_at ⟨s, v, d, (L : Int), tt, h⟩ L xs1 m (j := 0) (by omega)).1) (by rw [HLn.out]; omega)
  have HM0 : Hid (MemAt wd (some ⟨B2, 0, none⟩) (memL ⟨s, v, d, (L : Int), tt, h⟩ L xs1 m)) := HMc
  clear HMc hx hx2 hA
  go_wp2_with fail
  go_loopw [17, 18] (fun u i W => ∃ k : Nat, m ≤ k ∧ k ≤ l1 ∧ i = .int .i64 k ∧ Hid (∃ B : Nat, u = .pointer (some ⟨B, 0, none⟩) ∧ MemAt W (some ⟨B, 0, none⟩) (memL ⟨s, v, d, (L : Int), tt, h⟩ L xs1 k)) ∧ Hid (Below wd.heap.size wd W)) (fun _ i _ => l1 - (intOf i).toNat)
  case atStart => exact ⟨m, Nat.le_refl _, hml, rfl, ⟨B2, rfl, HM0.out⟩, Below.refl _ _⟩
  case round =>
  obtain ⟨k, hmk, hk, rfl, HMk, HWd⟩ := hrel
  rename World => wz
  clear HM0
  by_cases hlt : k < l1
  · obtain ⟨B3, rfl, hM3⟩ := HMk.out
    have HM3 := hid hM3
    have hw2 := HWr.out.trans (HWd.out.mono HWr.out.size)
    have HW2 := hid hw2
    have q0 : (0 : Int) < (l1 : Int) := by omega
    have q1 : (k : Int) < (l1 : Int) := by omega
    obtain ⟨b1, o1, rfl, cx⟩ := (HX.out wz (HV.out _ hw2)).cell k hlt
    obtain ⟨b1', o1', e1, cx0⟩ := (HX.out wz (HV.out _ hw2)).cell 0 (by omega)
    cases e1
    rw [Nat.add_zero] at cx0
    obtain ⟨b2, o2, rfl, co⟩ := (HOt.out.rd.below HWd.out).cell k hlt
    have HRo := hid ((HOt.out.below HWd.out).rows k hlt)
    rw [tblK_at _ hlt] at HRo
    have r3 := HOt.out.rd.room
    have m3 := HOt.out.rd.most
    have h40 := HS40.out k hlt
    have h400 := HS40.out 0 (by omega)
    have HX0 := hid fun W (hw : Below wz.heap.size wz W) => HXs.out 0 W (by omega) (HV.out W (HW2.out.trans (hw.mono HW2.out.size)))
    have HXk := hid fun W (hw : Below wz.heap.size wz W) => HXs.out k W hlt (HV.out W (HW2.out.trans (hw.mono HW2.out.size)))
    have HMz := hid fun W (hw : Below wz.heap.size wz W) => HMd.out W (HW2.out.trans (hw.mono HW2.out.size))
    have hC0 := HTo.out (some ⟨g, 0, none⟩) (some ⟨B3, 0, none⟩) k _ _ _ _ wz (HMz.out _ (Below.refl _ _)) HM3.out (by rw [HLn.out]; omega) (by omega) (HX0.out _ (Below.refl _ _)) (by omega)
    have HC := hid fun W (hw : Below wz.heap.size wz W) => HT.out (some ⟨g, 0, none⟩) (some ⟨B3, 0, none⟩) k _ _ _ W (HMz.out _ hw) (HM3.out.below hw) (by omega) (HXk.out _ hw) (by omega)
    have HXl : Hid ((xs1[k]?.getD []).length ≤ 40) := by unfold Hid; rw [(HXk.out _ (Below.refl _ _)).size]; exact h40
    have HKx : Hid (∀ W : World, Below wz.heap.size wz W → W.cell? ⟨b1, o1 + k, none⟩ = some (.slice (hs1[k]?.getD (none, 0, 0)).1 (hs1[k]?.getD (none, 0, 0)).2.1 (hs1[k]?.getD (none, 0, 0)).2.2) ∧ W.cell? ⟨b2, o2 + k, none⟩ = some (.slice (hs[k]?.getD (none, 0, 0)).1 (hs[k]?.getD (none, 0, 0)).2.1 (hs[k]?.getD (none, 0, 0)).2.2)) := fun W hw => ⟨cell_later_of cx hw, cell_later_of co hw⟩
    clear HX HXs HT HTo HMd HV HS40 HMk hM3 hw2 HX0 HXk HMz HM3 HOt HLen HMm cx co
    generalize hs1[k]?.getD (none, 0, 0) = y at *
    generalize hs1[0]?.getD (none, 0, 0) = y0 at *
    generalize hs[k]?.getD (none, 0, 0) = z at *
    obtain ⟨y1, y2, y3⟩ := y
    obtain ⟨y4, y5, y6⟩ := y0
    obtain ⟨z1, z2, z3⟩ := z
    simp only at cx0 HKx hC0 HC h40 h400 HRo
    go_wp2_with fail
    refine hC0.mono ?_
    rintro e w5 ⟨p1, n1, d1, B4, g4, ps4, rfl, _, _, _, _, hb⟩
    have HY := hid hb
    obtain ⟨cx, co⟩ := HKx.out _ hb
    clear hC0 hb cx0
    go_wp2_with fail
    refine (HC.out _ HY.out).mono ?_
    rintro e w6 ⟨p2, n2', d2, B5, g5, ps5, rfl, hR, _, hM, _, hb⟩
    have HR := hid hR
    have HM5 : Hid (MemAt w6 (some ⟨B5, 0, none⟩) (memL ⟨s, v, d, (L : Int), tt, h⟩ L xs1 (k + 1))) := .inr ⟨B5, g5, ps5, rfl, hM⟩
    have hn2 : n2' ≤ 1000 := by rw [← hR.size]; exact Nat.le_trans (thrX_len _ _ _ _) (Nat.le_trans HXl.out (by omega))
    replace HY := hid (HY.out.trans (hb.mono HY.out.size))
    clear hb hR hM HC cx co
    obtain ⟨cx, co⟩ := HKx.out _ HY.out
    clear HKx cx
    go_wp2_with fail
    refine (same_h p2 z1 n2' z2 d2 z3 _ _ HR.out (HRo.out.below HY.out) hn2).mono ?_
    rintro e w7 ⟨rfl, hb⟩
    replace HM5 := hid (HM5.out.below hb)
    replace HY := hid (HY.out.trans (hb.mono HY.out.size))
    have HWn := hid (HWd.out.trans (HY.out.mono HWd.out.size))
    clear hb co HR HRo HY HWd HXl
    go_wp2_with fail
    go_round
    case rel => exact ⟨k + 1, by omega, by omega, by go_num, ⟨B5, rfl, HM5.out⟩, HWn⟩
    case measure => simp [intOf]; omega
  obtain rfl : l1 = k := by omega
  obtain ⟨B3, rfl, hM3⟩ := HMk.out
  have HM3 := hid hM3
  replace HMm := hid (HMm.out.below HWd.out)
  clear HX HXs HT HTo HMd HS40 HMk hM3 HOt hlt hk
  have hw2 := hid (HB0.out.trans ((HV.out _ (HWr.out.trans (HWd.out.mono HWr.out.size))).mono HB0.out.size))
  have HE := hid (memL_even ⟨s, v, d, (L : Int), tt, h⟩ L xs1 l1)
  clear HV HWr HB0
  go_wp2_with fail
  refine (msame_yes (some ⟨B3, 0, none⟩) (some ⟨B, 0, none⟩) _ l1 _ HM3.out HMm.out HE.out (by omega) (by rw [HLn.out]; omega)).mono ?_
  rintro e w5 ⟨rfl, hb⟩
  have HW0 := hid (hw2.out.trans (hb.mono hw2.out.size))
  have HLe := hid (HLen.out _ (HWd.out.trans (hb.mono HWd.out.size)))
  clear hb HM3 HMm HE hw2 HLen HWd HLn
  go_wp2_with fail
  refine HLe.out.mono ?_
  rintro e w' ⟨rfl, rfl⟩
  rename World => w5
  clear HLe
  go_wp2_with fail
  refine (alive10_any _).mono ?_
  rintro e wz ⟨rfl, hb⟩
  have HZ := hid (HW0.out.trans (hb.mono HW0.out.size))
  clear hb
  go_wp2
  go_ret
  exact ⟨rfl, HZ.out⟩

/-! ### The row's step -/
set_option maxRecDepth 1000000 in
theorem lifted (os : Os) (started : os.Started) (H : Type) (enc : TypeId × Value → H) :
    ReturnsInHanded {} Try.checked os 3 .any (Rows.attnCutsSpec.pre6 enc Try.prog Try.f3 Rows.attnCutsRow.domain false) (Rows.attnCutsSpec.post enc Try.prog Try.f3 false true false false) := by
  refine returnsInHanded_of_change (C := Try.checked) own started (by kernel_rfl) Try.func3
    (ChangeSpec.witness6 (enc := enc) (C := Try.checked) false ⟨#[], #[.agg #[.int .u64 0, .int .i64 0, .int .i64 0, .int .i64 0, .int .i64 0, .int .i64 0], .slice none 0 0, .int .i64 0], []⟩ 8 (by kernel_rfl) (by kernel_rfl) (by kernel_rfl) (by kernel_rfl)) ?_
  intro W base args ds gs before hval0 hW hcnd _
  have hval : ∀ (j : Nat) t v, Try.f3.params[j]? = some t → args[j]? = some v → Value.okWide Try.prog W .any base t v := hval0
  have hW' := hW
  obtain ⟨p, q, hA0, hV, rfl, hfz, hnd⟩ := hW
  have hA : DataW.TrodAll enc Try.prog W 0 (fun _ => true) true Try.f3.params.toList args.toList ds p := hA0
  rw [Try.params3] at hA hval
  obtain ⟨v0, vs0, d0, ds0, p0, q0, hargs, rfl, rfl, h0, r0⟩ := trodAll_cons hA
  obtain ⟨v1, vs1, d1, ds1, p1, q1, rfl, rfl, rfl, h1, r1⟩ := trodAll_cons r0
  obtain ⟨v2, vs2, d2, ds2, p2, q2, rfl, rfl, rfl, h2, r2⟩ := trodAll_cons r1
  obtain ⟨rfl, rfl, rfl⟩ := trodAll_nil r2
  obtain rfl : args = #[v0, v1, v2] := by cases args; simp_all
  obtain ⟨rfl, rfl⟩ := trodVars_none hV
  have k0 := h0
  have lt0 : ∀ x ∈ p0, x.block < W.heap.size := by obtain ⟨m, hm⟩ := k0; exact DataW.trod_lt m _ _ _ hm
  obtain ⟨c0, rfl⟩ := conf_open (hval 0 24 v0 rfl rfl) h0
  have k1 := h1
  have lt1 : ∀ x ∈ p1, x.block < W.heap.size := by obtain ⟨m, hm⟩ := k1; exact DataW.trod_lt m _ _ _ hm
  obtain ⟨a1, l1, c1, hs1, xs1, rfl, ga1⟩ := rows_open (hval 1 25 v1 rfl rfl) h1
  have k2 := h2
  have lt2 : ∀ x ∈ p2, x.block < W.heap.size := by obtain ⟨m, hm⟩ := k2; exact DataW.trod_lt m _ _ _ hm
  obtain ⟨n2, rfl⟩ := num_open (hval 2 3 v2 rfl rfl) h2
  clear hA0 hval0
  refine (walk c0 a1 l1 c1 hs1 xs1 n2 W ga1).mono fun e W' ⟨he, bel⟩ => ?_
  subst he
  exact ⟨_, rfl, _, _, _, [], _, [], hW', trodAll_mk1 (shut_bool Try.underlying4 _), (trodAll_cons_mk (Below.trod laidOut (by kernel_rfl) (of_decide_eq_true (by kernel_rfl)) k0 bel lt0) (trodAll_cons_mk (Below.trod laidOut (by kernel_rfl) (of_decide_eq_true (by kernel_rfl)) k1 bel lt1) (trodAll_cons_mk (Below.trod laidOut (by kernel_rfl) (of_decide_eq_true (by kernel_rfl)) k2 bel lt2) trodAll_mk0))), rfl, bel.frame _, fun h => by cases h⟩

theorem over : Rows.attnCutsRow.holds Try.pinned (OpenSpec.ofChange Rows.attnCutsSpec) :=
  OpenClaim.holds_of_wide 3 Try.f3 rfl rfl rfl rfl rfl rfl rfl ⟨rfl, rfl, rfl, rfl, rfl⟩ rfl rfl rfl rfl rfl (by kernel_rfl) Try.func3 (by kernel_rfl)
    (of_decide_eq_true (by kernel_rfl)) (by unfold Func.isWrapper; first | (rw [if_pos (by decide +kernel)]; kernel_rfl) | (rw [if_neg (by decide +kernel)]; exact ⟨rfl, rfl⟩))
    (fun os started H enc _ => lifted os started H enc)

/-- The statement. -/
theorem proved : Rows.AttnCutsSaid := over
#print axioms proved
end Go.Proofs.Ytehmdlipacbpfaa.attnCuts
