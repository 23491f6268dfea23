/-
  The texts RStepY of this proof.
-/
import Derived.Test.YtjgggialnegddaaGreatPr22
set_option linter.unusedVariables false
set_option maxRecDepth 1000000
namespace Go.Proofs.YtjgggialnegddaaGreat
open Go.RowKit
theorem own_two {wS w2 w3 : World} {e1 e2 n1 n2 : Nat} {u v : Value} {xs ys : List Value} (h1 : w2.ownsRow wS.heap.size e1 1 u n1 xs) (h2 : w2.ownsRow wS.heap.size e2 1 v n2 ys) (hne : e2 ≠ e1) (hb : Below wS.heap.size wS w2) {o : Obj} (hg : (w2.alloc o).grownBy w3 u.ownBlock) :
  w3.ownsRow wS.heap.size e2 1 v n2 ys ∧ Below wS.heap.size wS w3 := by
 have ha : Below w2.heap.size w2 (w2.alloc o) := (Below.refl _ _).alloc (Nat.le_refl _) _
 have h1' := own_below h1 ha
 have h2' := own_below h2 ha
 have hb2 : Below wS.heap.size wS (w2.alloc o) := hb.trans (ha.mono hb.size)
 exact ⟨own_kept h2' h1' hne hg, hb2.grown hg hb2.size fun g hg => (h1'.lt g hg).1⟩
theorem new_cell (w : World) (u : Value) (T : TypeId) : (w.alloc (.cells #[u] T)).cell? ⟨w.heap.size, 0, none⟩ = some u := by rw [cell_of_row _ _ _ _ _ _ (heap_alloc_new w _)]; rfl
theorem take_hd {vhs : List Hd} {k : Nat} (h : k < vhs.length) : (vhs.take k).map hdV ++ [hdV (vhs[k]?.getD (none, 0, 0))] = (vhs.take (k + 1)).map hdV := by
 rw [List.take_succ_eq_append_getElem h, List.map_append]
 simp [h]
theorem rowK_vals (F : Nat → Int) (k : Nat) : (rowK F k).map (Value.int .i64) ++ [.int .i64 (F k)] = (rowK F (k + 1)).map (Value.int .i64) := by rw [← rowK_snoc, List.map_append]; rfl
def RAt (wS : World) (F : Nat → Int) (vhs : List Hd) (k : Nat) (u v : Value) (W : World) : Prop :=
 W.ownsRow wS.heap.size 2 1 u k ((rowK F k).map (Value.int .i64)) ∧ W.ownsRow wS.heap.size 131 1 v k ((vhs.take k).map hdV) ∧ Below wS.heap.size wS W
def RStp (w : World) (X K V : List Int) (e : Ending) (w' : World) : Prop := ∃ (a1 a2 a3 : Option Addr) (n1 n2 n3 c1 c2 c3 : Nat), e = .returned (.agg #[.slice a1 n1 c1, .slice a2 n2 c2, .slice a3 n3 c3]) ∧
 Reads .i64 w' a1 n1 c1 X ∧ Reads .i64 w' a2 n2 c2 K ∧ Reads .i64 w' a3 n3 c3 V ∧ BlI w' a1 ∧ BlI w' a2 ∧ BlI w' a3 ∧ Below w.heap.size w w'
theorem snoc_map (F : Nat → Int) (f : List Int → Int) (ks : List (List Int)) (y : List Int) {m : Nat} (hl : ks.length = m) (hF : F = fun k => f (ks[k]?.getD [])) : rowK F m ++ [f y] = (ks ++ [y]).map f := by
 rw [hF, map_rowK [] f ks hl, List.map_append]
 rfl
theorem three_set {W : World} {R : Nat} {x0 x1 x2 u0 u1 u2 : Value} {T : TypeId} (h : W.heap[R]? = some (.cells #[x0, x1, x2] T (0, 0))) : (((W.setCell ⟨R, 0, none⟩ u0).setCell ⟨R, 1, none⟩ u1).setCell ⟨R, 2, none⟩ u2).heap[R]? = some (.cells #[u0, u1, u2] T (0, 0)) := row_setCell (row_setCell (row_setCell h))
set_option maxHeartbeats 4000000 in
theorem rstep_any (c : Cf) (la : Int) (a : Option Addr) (n cap : Nat) (zs : List Int) (ka : Option Addr) (kn kc : Nat) (khs : List Hd) (ks : List (List Int)) (va : Option Addr) (vn vc : Nat) (vhs : List Hd) (vs : List (List Int)) (m : Nat) (w : World)
  (hc : mayB c = true) (hx : Reads .i64 w a n cap zs) (hn : n ≤ 1000) (hk : Tbl w ka kn kc khs ks) (hkl : ks.length = kn) (hkn : kn ≤ 900) (hv : Tbl w va vn vc vhs vs) (hvl : vs.length = vn) (hvn : vn ≤ 900) (hm : min kn vn = m) :
  Calls Tryz.prog 97 #[.agg (CfV c), .int .i64 la, .slice a n cap, .slice ka kn kc, .slice va vn vc] w fun e w' => RStp w (outL c la zs (ks.take m) (vs.take m)) (keyL c la zs) (valL c la zs) e w' := by
 obtain ⟨i0, hi, hz0, hz1, hz2⟩ := info_parts Tryz.info2
 obtain ⟨i1, hj, hy0, hy1, hy2⟩ := info_parts Tryz.infoS
 obtain ⟨wA, hwA⟩ : ∃ wA, wA = (w.alloc (.cells (CfV c) 24)).alloc (.cells #[.slice none 0 0, .slice none 0 0, .slice none 0 0] 166) := ⟨_, rfl⟩
 have HB0 : Hid (Below w.heap.size w wA) := by unfold Hid; rw [hwA]; exact ((Below.refl _ _).alloc (Nat.le_refl _) _).alloc (by simp) _
 have HK : Hid (∀ W : World, Below wA.heap.size wA W → W.cell? ⟨w.heap.size, 0, none⟩ = some (.int .u64 c.seed) ∧ W.cell? ⟨w.heap.size, 1, none⟩ = some (.int .i64 c.vocab) ∧ W.cell? ⟨w.heap.size, 2, none⟩ = some (.int .i64 c.dim) ∧ W.cell? ⟨w.heap.size, 3, none⟩ = some (.int .i64 c.layers) ∧ W.cell? ⟨w.heap.size, 4, none⟩ = some (.int .i64 c.top) ∧ W.cell? ⟨w.heap.size, 5, none⟩ = some (.int .i64 c.heat)) := by
  intro W hb
  have e1 : wA.heap[w.heap.size]? = some (.cells (CfV c) 24 (0, 0)) := by rw [hwA, Below.heap_alloc _ _ _ (by simp)]; exact heap_alloc_new w _
  exact Cf_cells (block_below e1 hb)
 have HRs : Hid (wA.heap[w.heap.size + 1]? = some (.cells #[.slice none 0 0, .slice none 0 0, .slice none 0 0] 166 (0, 0))) := by
  unfold Hid; rw [hwA]
  have := heap_alloc_new (w.alloc (.cells (CfV c) 24)) (.cells #[.slice none 0 0, .slice none 0 0, .slice none 0 0] 166)
  rw [World.size_alloc] at this
  exact this
 have HD := hid fun wh => tabL_len hc la wh
 have HR := hid fun wh W => rrows_h c la wh W hc
 have HX := hid fun W (hb : Below wA.heap.size wA W) => (hx.below HB0.out).below hb
 have HT1 := hid fun W (hb : Below wA.heap.size wA W) => ((hk.below HB0.out).below hb).cut (m := m) (by omega)
 have HT2 := hid fun W (hb : Below wA.heap.size wA W) => ((hv.below HB0.out).below hb).cut (m := m) (by omega)
 have HKl : Hid ((ks.take m).length = m) := by unfold Hid; simp; omega
 have HVl : Hid ((vs.take m).length = m) := by unfold Hid; simp; omega
 have HHl : Hid ((vhs.take m).length = m) := by unfold Hid; have := hv.rd.size; simp; omega
 have HS := hid hx.size
 have HNl := hid (normL_len zs)
 have q9 : kn ≤ kc := hk.rd.room
 have q8 : vn ≤ vc := hv.rd.room
 have q7 : kc ≤ 9223372036854775807 := hk.rd.most
 have q6 : vc ≤ 9223372036854775807 := hv.rd.most
 have hm9 : m ≤ 900 := by omega
 generalize hks : ks.take m = ks' at *
 generalize hvs : vs.take m = vs' at *
 generalize hkhs : khs.take m = khs' at *
 generalize hvhs : vhs.take m = vhs' at *
 have HOut : Hid (outL c la zs ks' vs' = addL (hidL c la zs ks' vs') (mulT (tabL c la 5) (reluL (mulT (tabL c la 4) (normL (hidL c la zs ks' vs')))))) := rfl
 have HHid : Hid (hidL c la zs ks' vs' = addL zs (mulT (tabL c la 3) (mixL (softL ((ks' ++ [keyL c la zs]).map (markZ c (qryL c la zs)))) (vs' ++ [valL c la zs])))) := rfl
 have HQe : Hid (qryL c la zs = mulT (tabL c la 0) (normL zs)) := rfl
 have HKe : Hid (keyL c la zs = mulT (tabL c la 1) (normL zs)) := rfl
 have HVe : Hid (valL c la zs = mulT (tabL c la 2) (normL zs)) := rfl
 obtain ⟨F, hF⟩ : ∃ F : Nat → Int, F = fun k => markZ c (qryL c la zs) (ks'[k]?.getD []) := ⟨_, rfl⟩
 have HFs := hid (snoc_map F (markZ c (qryL c la zs)) ks' (keyL c la zs) HKl.out hF)
 have HFe : Hid (∀ k, divZ (dotK (ks'[k]?.getD []) (qryL c la zs) (min (ks'[k]?.getD []).length (qryL c la zs).length)) (sqrtZ (fromZ c.dim)) = F k) := fun k => by rw [hF]; rfl
 have HFk : Hid (divZ (dotK (keyL c la zs) (qryL c la zs) (min (keyL c la zs).length (qryL c la zs).length)) (sqrtZ (fromZ c.dim)) = markZ c (qryL c la zs) (keyL c la zs)) := rfl
 clear hx hk hv hkl hvl hks hvs hkhs hvhs hF
 obtain ⟨s, vo, d, l, tt, h⟩ := c
 unfold CfV at HR hwA
 simp only at HK HR hwA HFe HFk
 unfold CfV
 simp only
 generalize hrt : sqrtZ (fromZ d) = rt at *
 have HRt := hid hrt
 clear hrt
 go_enter Tryz.func97, Tryz.ntmps97
 go_wp2_with fail
 rw [← hwA]
 refine (rnorm_h a n cap zs _ (HX.out _ (Below.refl _ _)) hn).mono ?_
 rintro e w1 ⟨na, nn, nc, rfl, hR, hb⟩
 have HV := hid hb
 have HN := hid hR
 have hnn : nn ≤ 1000 := by have := hR.size; have := HNl.out; have := HS.out; omega
 clear hR hb HNl hwA
 obtain ⟨x0, x1, x2, x3, x4, x5⟩ := HK.out _ HV.out
 -- the query
 go_wp2_with fail
 refine (HR.out 0 _).mono ?_
 rintro e w2 ⟨ta, tn, tc, ths, rfl, hT, htl, hb⟩
 replace HV := hid (HV.out.trans (hb.mono HV.out.size))
 replace HN := hid (HN.out.below hb)
 have HT := hid hT
 have HTl := hid htl
 have htn : tn ≤ 16 := by have := HD.out 0; omega
 clear hT hb htl x0 x1 x2 x3 x4 x5
 go_wp2_with fail
 refine (rmul_h ta na tn tc nn nc ths _ _ _ HT.out HTl.out HN.out (by omega) hnn).mono ?_
 rintro e w3 ⟨qa, qn, qc, rfl, hR, hI, hb⟩
 clear hI
 replace HV := hid (HV.out.trans (hb.mono HV.out.size))
 replace HN := hid (HN.out.below hb)
 have hqn : qn ≤ 1000 := by have := hR.size; rw [mulT_len] at this; have := HTl.out; omega
 rw [← HQe.out] at hR
 have HQ := hid hR
 clear hR hb HT HTl htn HQe
 obtain ⟨x0, x1, x2, x3, x4, x5⟩ := HK.out _ HV.out
 -- the key
 go_wp2_with fail
 refine (HR.out 1 _).mono ?_
 rintro e w4 ⟨ta, tn, tc, ths, rfl, hT, htl, hb⟩
 replace HV := hid (HV.out.trans (hb.mono HV.out.size))
 replace HN := hid (HN.out.below hb)
 replace HQ := hid (HQ.out.below hb)
 have HT := hid hT
 have HTl := hid htl
 have htn : tn ≤ 16 := by have := HD.out 1; omega
 clear hT hb htl x0 x1 x2 x3 x4 x5
 go_wp2_with fail
 refine (rmul_h ta na tn tc nn nc ths _ _ _ HT.out HTl.out HN.out (by omega) hnn).mono ?_
 rintro e w5 ⟨ya, yn, yc, rfl, hR, hI, hb⟩
 have HYI := hid hI
 clear hI
 replace HV := hid (HV.out.trans (hb.mono HV.out.size))
 replace HN := hid (HN.out.below hb)
 replace HQ := hid (HQ.out.below hb)
 have hyn : yn ≤ 1000 := by have := hR.size; rw [mulT_len] at this; have := HTl.out; omega
 rw [← HKe.out] at hR
 have HY := hid hR
 clear hR hb HT HTl htn HKe
 obtain ⟨x0, x1, x2, x3, x4, x5⟩ := HK.out _ HV.out
 -- the value
 go_wp2_with fail
 refine (HR.out 2 _).mono ?_
 rintro e w6 ⟨ta, tn, tc, ths, rfl, hT, htl, hb⟩
 replace HV := hid (HV.out.trans (hb.mono HV.out.size))
 replace HN := hid (HN.out.below hb)
 replace HQ := hid (HQ.out.below hb)
 replace HY := hid (HY.out.below hb)
 replace HYI := hid (HYI.out.below hb)
 have HT := hid hT
 have HTl := hid htl
 have htn : tn ≤ 16 := by have := HD.out 2; omega
 clear hT hb htl x0 x1 x2 x3 x4 x5
 go_wp2_with fail
 refine (rmul_h ta na tn tc nn nc ths _ _ _ HT.out HTl.out HN.out (by omega) hnn).mono ?_
 rintro e wS ⟨za, zn, zc, rfl, hR, hI, hb⟩
 have HZI := hid hI
 clear hI
 replace HV := hid (HV.out.trans (hb.mono HV.out.size))
 replace HQ := hid (HQ.out.below hb)
 replace HY := hid (HY.out.below hb)
 replace HYI := hid (HYI.out.below hb)
 have hzn : zn ≤ 16 := by have := hR.size; rw [mulT_len] at this; have := HTl.out; omega
 rw [← HVe.out] at hR
 have HZ := hid hR
 clear hR hb HT HTl htn HN HVe hnn
 obtain ⟨x0, x1, x2, x3, x4, x5⟩ := HK.out _ HV.out
 go_wp2_with fail
 refine (rfrom_any _ _).mono ?_
 rintro e w' ⟨rfl, rfl⟩
 rename World => wS
 go_wp2_with fail
 refine (rsqrt_any _ _).mono ?_
 rintro e w' ⟨rfl, rfl⟩
 rename World => wS
 rw [HRt.out]
 clear HRt x0 x1 x2 x3 x4 x5
 have HR0 : Hid (RAt wS F vhs' 0 (.slice none 0 0) (.slice none 0 0) wS) := ⟨World.ownsRow_nil _ _ _ _, World.ownsRow_nil _ _ _ _, Below.refl _ _⟩
 have HAl : Hid (∀ (W : World) (o : Obj), Below W.heap.size W (W.alloc o)) := fun W o => (Below.refl _ _).alloc (Nat.le_refl _) _
 go_wp2_with fail
 go_loopw [16, 17, 18] (fun u o i W => ∃ k : Nat, k ≤ m ∧ i = .int .i64 k ∧ Hid (RAt wS F vhs' k u o W)) (fun _ _ i _ => m - (intOf i).toNat)
 case atStart => exact ⟨0, Nat.zero_le _, rfl, HR0⟩
 case round =>
 obtain ⟨k, hk, rfl, HA⟩ := hrel
 rename World => wr
 clear HR0
 by_cases hlt : k < m
 ·obtain ⟨hO1, hO2, hW⟩ := HA.out
  have HO1 := hid hO1
  have HO2 := hid hO2
  have HW := hid hW
  have g1 : (k : Int) < (kn : Int) := by omega
  have g2 : (k : Int) < (vn : Int) := by omega
  have hWA := HV.out.trans (hW.mono HV.out.size)
  obtain ⟨b1, o1, rfl, c1⟩ := (HT1.out wr hWA).rd.cell k hlt
  obtain ⟨b2, o2, rfl, c2⟩ := (HT2.out wS HV.out).rd.cell k hlt
  have hC := rmark_h ⟨s, vo, d, l, tt, h⟩ _ _ _ _ _ _ _ _ wr (HQ.out.below hW) ((HT1.out wr hWA).rows k hlt) hqn ((HT1.out wr hWA).short k hlt)
  have HTk := hid (take_hd (vhs := vhs') (k := k) (by rw [HHl.out]; exact hlt))
  have HFn := hid (HFe.out k)
  have HFv := hid (rowK_vals F k)
  have HC2 := hid fun W (hb : Below wS.heap.size wS W) => cell_later_of c2 hb
  clear HA hO1 hO2 hW hWA HT1 HT2 HX HR HK HY HZ HYI HZI HQ HFe HFs HFk HHid HOut HRs
  generalize khs'[k]?.getD (none, 0, 0) = y at *
  generalize vhs'[k]?.getD (none, 0, 0) = z at *
  obtain ⟨y1, y2, y3⟩ := y
  obtain ⟨z1, z2, z3⟩ := z
  simp only at c1 c2 hC HC2
  go_wp2_with fail
  refine hC.mono ?_
  rintro e w2 ⟨rfl, hb⟩
  have HB2 := hid hb
  clear hC hb c1 c2
  go_wp2_with fail
  refine (rdiv_any _ _ _).mono ?_
  rintro e w' ⟨rfl, rfl⟩
  rename World => w2
  rw [HFn.out]
  clear HFn
  replace HO1 := hid (own_below HO1.out HB2.out)
  replace HO2 := hid (own_below HO2.out HB2.out)
  replace HW := hid (HW.out.trans (HB2.out.mono HW.out.size))
  have HLs : Hid (wS.heap.size ≤ w2.heap.size) := HW.out.size
  have HNc := hid fun W u T => new_cell W u T
  go_wp2_with (first
   | (at_builtin; refine append_one _ rfl (.tmp 54) (.tmp 63) 131 rfl wS.heap.size 2 i0 (.int .i64 0) 8 Tryz.underlying131 hi hz0 hz1 hz2 rfl (by omega) _ k _ rfl (own_below HO1.out (HAl.out _ _)) (by omega) w2.heap.size (.int .i64 (F k)) rfl rfl (HNc.out _ _ _) (Nat.le_trans HLs.out (HAl.out _ _).size) ?_; intro v1 w3 hO3 hg3; obtain ⟨hO4, hW3⟩ := own_two HO1.out HO2.out (by decide) HW.out hg3; have c2 := HC2.out _ hW3; have HO3 := hid hO3; have HO4 := hid hO4; have HW3 := hid hW3; have HLt : Hid (wS.heap.size ≤ w3.heap.size) := hW3.size; clear hO3 hO4 hW3 hg3)
   | (at_builtin; refine append_one _ rfl (.tmp 65) (.tmp 70) 132 rfl wS.heap.size 131 i1 (.slice none 0 0) 24 Tryz.underlying132 hj hy0 hy1 hy2 rfl (by omega) _ k _ rfl (own_below HO4.out (HAl.out _ _)) (by omega) w3.heap.size (hdV (z1, z2, z3)) rfl rfl (HNc.out _ _ _) (Nat.le_trans HLt.out (HAl.out _ _).size) ?_; intro v2 w4 hO5 hg4; obtain ⟨hO6, hW4⟩ := own_two HO4.out HO3.out (by decide) HW3.out hg4))
  have HRn : Hid (RAt wS F vhs' (k + 1) v1 v2 w4) := ⟨by rw [← HFv.out]; exact hO6, by rw [← HTk.out]; exact hO5, hW4⟩
  clear hO5 hO6 hW4 hg4 HO1 HO2 HW HO3 HO4 HW3 HLs HLt HNc HC2 c2 HTk HFv HB2
  go_wp2_with fail
  go_round
  case rel => exact ⟨k + 1, by omega, by go_num, HRn⟩
  case measure => simp [intOf]; omega
 obtain rfl : m = k := by omega
 obtain ⟨hO1, hO2, hW⟩ := HA.out
 have HO1 := hid hO1
 have HO2 := hid hO2
 have HW := hid hW
 have hC := rmark_h ⟨s, vo, d, l, tt, h⟩ _ _ _ _ _ _ _ _ wr (HQ.out.below hW) (HY.out.below hW) hqn hyn
 have HSl : Hid ((ks' ++ [keyL ⟨s, vo, d, l, tt, h⟩ la zs]).length = m + 1) := by unfold Hid; simp [HKl.out]
 have HTa : Hid ((vhs'.take m).map hdV ++ [hdV (za, zn, zc)] = (vhs' ++ [(za, zn, zc)]).map hdV) := by unfold Hid; rw [List.take_of_length_le (by rw [HHl.out]; omega), List.map_append]; rfl
 have HMa : Hid ((rowK F m).map (Value.int .i64) ++ [.int .i64 (markZ ⟨s, vo, d, l, tt, h⟩ (qryL ⟨s, vo, d, l, tt, h⟩ la zs) (keyL ⟨s, vo, d, l, tt, h⟩ la zs))] = ((ks' ++ [keyL ⟨s, vo, d, l, tt, h⟩ la zs]).map (markZ ⟨s, vo, d, l, tt, h⟩ (qryL ⟨s, vo, d, l, tt, h⟩ la zs))).map (Value.int .i64)) := by unfold Hid; rw [← HFs.out, List.map_append]; rfl
 have HVl2 : Hid ((vs' ++ [valL ⟨s, vo, d, l, tt, h⟩ la zs]).length = m + 1) := by unfold Hid; simp [HVl.out]
 clear HA hO1 hO2 hW HQ HFe HFs hlt hk HKl
 rcases Nat.lt_or_ge vn kn with hq | hq
 ·have g1 : (m : Int) < (kn : Int) := by omega
  have g2 : ¬ (m : Int) < (vn : Int) := by omega
  go_wp2_with fail
  refine hC.mono ?_
  rintro e w2 ⟨rfl, hb⟩
  have HB2 := hid hb
  clear hC hb
  go_wp2_with fail
  refine (rdiv_any _ _ _).mono ?_
  rintro e w' ⟨rfl, rfl⟩
  rename World => w2
  rw [HFk.out]
  clear HFk
  replace HO1 := hid (own_below HO1.out HB2.out)
  replace HO2 := hid (own_below HO2.out HB2.out)
  replace HW := hid (HW.out.trans (HB2.out.mono HW.out.size))
  have HLs : Hid (wS.heap.size ≤ w2.heap.size) := HW.out.size
  have HNc := hid fun W u T => new_cell W u T
  have HVn := hid HV.out
  generalize hmk : markZ ⟨s, vo, d, l, tt, h⟩ (qryL ⟨s, vo, d, l, tt, h⟩ la zs) (keyL ⟨s, vo, d, l, tt, h⟩ la zs) = mk at HMa ⊢
  clear hmk
  go_wp2_with (first
   | (at_builtin; refine append_one _ rfl (.tmp 72) (.tmp 78) 131 rfl wS.heap.size 2 i0 (.int .i64 0) 8 Tryz.underlying131 hi hz0 hz1 hz2 rfl (by omega) _ m _ rfl (own_below HO1.out (HAl.out _ _)) (by omega) w2.heap.size (.int .i64 mk) rfl rfl (HNc.out _ _ _) (Nat.le_trans HLs.out (HAl.out _ _).size) ?_; intro v1 w3 hO3 hg3; obtain ⟨hO4, hW3⟩ := own_two HO1.out HO2.out (by decide) HW.out hg3; have HO3 := hid hO3; have HO4 := hid hO4; have HW3 := hid hW3; have HLt : Hid (wS.heap.size ≤ w3.heap.size) := hW3.size; clear hO3 hO4 hW3 hg3)
   | (at_builtin; refine append_one _ rfl (.tmp 80) (.tmp 82) 132 rfl wS.heap.size 131 i1 (.slice none 0 0) 24 Tryz.underlying132 hj hy0 hy1 hy2 rfl (by omega) _ m _ rfl (own_below HO4.out (HAl.out _ _)) (by omega) w3.heap.size (hdV (za, zn, zc)) rfl rfl (HNc.out _ _ _) (Nat.le_trans HLt.out (HAl.out _ _).size) ?_; intro v2 w4 hO5 hg4; obtain ⟨hO6, hW4⟩ := own_two HO4.out HO3.out (by decide) HW3.out hg4; rw [HMa.out] at hO6; rw [HTa.out] at hO5; obtain ⟨ma, mc, rfl, hMr⟩ := Reads.own (k := .i64) hO6; obtain ⟨ag, ac, rfl, hAo⟩ := ownS_of' hO5 (by omega); obtain ⟨x0, x1, x2, x3, x4, x5⟩ := HK.out _ (HVn.out.trans (hW4.mono HVn.out.size))))
  have HM := hid hMr
  have HAt := hid (Tbl.snoc (b := za) (HT2.out w4 (HV.out.trans (hW4.mono HV.out.size))) HVl.out (HZ.out.below hW4) (by show zn ≤ 1000; omega) hAo.rd)
  have HU := hid (HV.out.trans (hW4.mono HV.out.size))
  replace HY := hid (HY.out.below hW4)
  replace HYI := hid (HYI.out.below hW4)
  replace HZ := hid (HZ.out.below hW4)
  replace HZI := hid (HZI.out.below hW4)
  clear hO5 hO6 hW4 hg4 hMr hAo HO1 HO2 HW HO3 HO4 HW3 HLs HLt HNc HVn HB2 HV HT1 HT2 HMa HTa HAl
  refine (HR.out 3 _).mono ?_
  rintro e w5 ⟨ta, tn, tc, ths, rfl, hT, htl, hb⟩
  have HT := hid hT
  have HTl := hid htl
  have htn : tn ≤ 16 := by have := HD.out 3; omega
  replace HM := hid (HM.out.below hb)
  replace HAt := hid (HAt.out.below hb)
  replace HY := hid (HY.out.below hb)
  replace HYI := hid (HYI.out.below hb)
  replace HZ := hid (HZ.out.below hb)
  replace HZI := hid (HZI.out.below hb)
  replace HU := hid (HU.out.trans (hb.mono HU.out.size))
  clear hT htl hb x0 x1 x2 x3 x4 x5
  go_wp2_with fail
  refine (rsoft_h _ _ _ _ _ HM.out (by omega)).mono ?_
  rintro e w6 ⟨sa, sn, sc, rfl, hR, hb⟩
  have hsn : sn ≤ 1000 := by have := hR.size; rw [softL_len, HM.out.size] at this; omega
  have HW := hid hR
  replace HT := hid (HT.out.below hb)
  replace HAt := hid (HAt.out.below hb)
  replace HY := hid (HY.out.below hb)
  replace HYI := hid (HYI.out.below hb)
  replace HZ := hid (HZ.out.below hb)
  replace HZI := hid (HZI.out.below hb)
  replace HU := hid (HU.out.trans (hb.mono HU.out.size))
  clear hR hb HM
  go_wp2_with fail
  refine (rmix_h _ _ _ _ _ _ _ _ _ _ HAt.out HVl2.out HW.out (by omega) hsn (by omega)).mono ?_
  rintro e w7 ⟨xa, xn, xc, rfl, hR, hb⟩
  have hxn : xn ≤ 1000 := by
   rw [← hR.size]
   refine mixK_bd (fun i hi => ?_) _
   have h1 := HAt.out.rows i (by rw [← HVl2.out]; exact hi)
   rw [h1.size]
   exact HAt.out.short i (by rw [← HVl2.out]; exact hi)
  have HMx := hid hR
  replace HT := hid (HT.out.below hb)
  replace HY := hid (HY.out.below hb)
  replace HYI := hid (HYI.out.below hb)
  replace HZ := hid (HZ.out.below hb)
  replace HZI := hid (HZI.out.below hb)
  replace HU := hid (HU.out.trans (hb.mono HU.out.size))
  clear hR hb HW HAt hsn HVl2 HVl
  go_wp2_with fail
  refine (rmul_h ta xa tn tc xn xc ths _ _ _ HT.out HTl.out HMx.out (by omega) hxn).mono ?_
  rintro e w8 ⟨oa, on, oc, rfl, hR, hI, hb⟩
  clear hI
  have hon : on ≤ 1000 := by have := hR.size; rw [mulT_len] at this; have := HTl.out; omega
  have HO := hid hR
  replace HY := hid (HY.out.below hb)
  replace HYI := hid (HYI.out.below hb)
  replace HZ := hid (HZ.out.below hb)
  replace HZI := hid (HZI.out.below hb)
  replace HU := hid (HU.out.trans (hb.mono HU.out.size))
  clear hR hb HT HTl htn HMx hxn
  go_wp2_with fail
  refine (radd_h a oa n cap on oc _ _ _ (HX.out _ HU.out) HO.out hn hon).mono ?_
  rintro e w9 ⟨ha, hhn, hhc, rfl, hR, hI, hb⟩
  clear hI
  have hhn1 : hhn ≤ 1000 := by have := hR.size; rw [addL_len] at this; have := HS.out; omega
  rw [← HHid.out] at hR
  have HH := hid hR
  replace HY := hid (HY.out.below hb)
  replace HYI := hid (HYI.out.below hb)
  replace HZ := hid (HZ.out.below hb)
  replace HZI := hid (HZI.out.below hb)
  replace HU := hid (HU.out.trans (hb.mono HU.out.size))
  clear hR hb HO hon HX HHid
  go_wp2_with fail
  refine (rnorm_h ha hhn hhc _ _ HH.out hhn1).mono ?_
  rintro e w10 ⟨ga, gn, gc, rfl, hR, hb⟩
  have hgn : gn ≤ 1000 := by have := hR.size; rw [normL_len, HH.out.size] at this; omega
  have HG := hid hR
  replace HH := hid (HH.out.below hb)
  replace HY := hid (HY.out.below hb)
  replace HYI := hid (HYI.out.below hb)
  replace HZ := hid (HZ.out.below hb)
  replace HZI := hid (HZI.out.below hb)
  replace HU := hid (HU.out.trans (hb.mono HU.out.size))
  clear hR hb
  have HKS : Hid (∀ (W : World) (u0 u1 u2 : Value), Below wA.heap.size wA W → (((W.setCell ⟨w.heap.size + 1, 0, none⟩ u0).setCell ⟨w.heap.size + 1, 1, none⟩ u1).setCell ⟨w.heap.size + 1, 2, none⟩ u2).cell? ⟨w.heap.size, 0, none⟩ = some (.int .u64 s) ∧ (((W.setCell ⟨w.heap.size + 1, 0, none⟩ u0).setCell ⟨w.heap.size + 1, 1, none⟩ u1).setCell ⟨w.heap.size + 1, 2, none⟩ u2).cell? ⟨w.heap.size, 1, none⟩ = some (.int .i64 vo) ∧ (((W.setCell ⟨w.heap.size + 1, 0, none⟩ u0).setCell ⟨w.heap.size + 1, 1, none⟩ u1).setCell ⟨w.heap.size + 1, 2, none⟩ u2).cell? ⟨w.heap.size, 2, none⟩ = some (.int .i64 d) ∧ (((W.setCell ⟨w.heap.size + 1, 0, none⟩ u0).setCell ⟨w.heap.size + 1, 1, none⟩ u1).setCell ⟨w.heap.size + 1, 2, none⟩ u2).cell? ⟨w.heap.size, 3, none⟩ = some (.int .i64 l) ∧ (((W.setCell ⟨w.heap.size + 1, 0, none⟩ u0).setCell ⟨w.heap.size + 1, 1, none⟩ u1).setCell ⟨w.heap.size + 1, 2, none⟩ u2).cell? ⟨w.heap.size, 4, none⟩ = some (.int .i64 tt) ∧ (((W.setCell ⟨w.heap.size + 1, 0, none⟩ u0).setCell ⟨w.heap.size + 1, 1, none⟩ u1).setCell ⟨w.heap.size + 1, 2, none⟩ u2).cell? ⟨w.heap.size, 5, none⟩ = some (.int .i64 h)) := fun W u0 u1 u2 hb => by
   have h1 := HK.out W hb
   have hk : ∀ j v, W.cell? ⟨w.heap.size, j, none⟩ = some v → (((W.setCell ⟨w.heap.size + 1, 0, none⟩ u0).setCell ⟨w.heap.size + 1, 1, none⟩ u1).setCell ⟨w.heap.size + 1, 2, none⟩ u2).cell? ⟨w.heap.size, j, none⟩ = some v := fun j v hv => by
    rw [World.cell?_of_block (w := W) (a := ⟨w.heap.size, j, none⟩)]
    ·exact hv
    ·show (((W.setCell ⟨w.heap.size + 1, 0, none⟩ u0).setCell ⟨w.heap.size + 1, 1, none⟩ u1).setCell ⟨w.heap.size + 1, 2, none⟩ u2).heap[w.heap.size]? = _
     rw [Below.heap_setCell _ _ _ _ (by show w.heap.size ≠ w.heap.size + 1; omega), Below.heap_setCell _ _ _ _ (by show w.heap.size ≠ w.heap.size + 1; omega), Below.heap_setCell _ _ _ _ (by show w.heap.size ≠ w.heap.size + 1; omega)]
   exact ⟨hk _ _ h1.1, hk _ _ h1.2.1, hk _ _ h1.2.2.1, hk _ _ h1.2.2.2.1, hk _ _ h1.2.2.2.2.1, hk _ _ h1.2.2.2.2.2⟩
  have HUd : Hid (Below wA.heap.size wA w10.drew) := HU.out.drew
  have HU0 := hid HU.out
  replace HU := HUd
  have HDr : Hid (Below w10.heap.size w10 w10.drew) := (Below.refl _ _).drew
  replace HH := hid (HH.out.below HDr.out)
  replace HY := hid (HY.out.below HDr.out)
  replace HYI := hid (HYI.out.below HDr.out)
  replace HZ := hid (HZ.out.below HDr.out)
  replace HZI := hid (HZI.out.below HDr.out)
  replace HG := hid (HG.out.below HDr.out)
  have hd5 := HD.out 5
  have hd4 := HD.out 4
  clear HUd HDr
  go_wp2_with fail
  go_region_held3 (fun W : World => W.cell? ⟨w.heap.size, 0, none⟩ = some (.int .u64 s) ∧ W.cell? ⟨w.heap.size, 1, none⟩ = some (.int .i64 vo) ∧ W.cell? ⟨w.heap.size, 2, none⟩ = some (.int .i64 d) ∧ W.cell? ⟨w.heap.size, 3, none⟩ = some (.int .i64 l) ∧ W.cell? ⟨w.heap.size, 4, none⟩ = some (.int .i64 tt) ∧ W.cell? ⟨w.heap.size, 5, none⟩ = some (.int .i64 h))
   (first | (with_reducible exact HK.out _ HU0.out) | (with_reducible exact HK.out _ HU.out) | (with_reducible exact HKS.out _ _ _ _ HU.out))
   (first
    | (go_at_call 132; (with_reducible refine (HR.out 5 _).mono ?_); rintro e z1 ⟨t5, n5, c5, hs5, rfl, hT, htl, hb⟩; have HT5 := hid hT; have HL5 := hid htl; replace HG := hid (HG.out.below hb); replace HH := hid (HH.out.below hb); replace HY := hid (HY.out.below hb); replace HYI := hid (HYI.out.below hb); replace HZ := hid (HZ.out.below hb); replace HZI := hid (HZI.out.below hb); replace HU := hid (HU.out.trans (hb.mono HU.out.size)); clear hT htl hb)
    | (go_at_call 132; (with_reducible refine (HR.out 4 _).mono ?_); rintro e z2 ⟨t4, n4, c4, hs4, rfl, hT, htl, hb⟩; have HT4 := hid hT; have HL4 := hid htl; replace HT5 := hid (HT5.out.below hb); replace HG := hid (HG.out.below hb); replace HH := hid (HH.out.below hb); replace HY := hid (HY.out.below hb); replace HYI := hid (HYI.out.below hb); replace HZ := hid (HZ.out.below hb); replace HZI := hid (HZI.out.below hb); replace HU := hid (HU.out.trans (hb.mono HU.out.size)); clear hT htl hb)
    | (go_at_call 131; (with_reducible refine (rmul_h t4 ga n4 c4 gn gc hs4 _ _ _ HT4.out HL4.out HG.out (by have := HL4.out; omega) hgn).mono ?_); rintro e z3 ⟨ua, un, uc, rfl, hR, hI, hb⟩; have hun : un ≤ 1000 := (by have := hR.size; rw [mulT_len] at this; omega); have HUp := hid hR; clear hI; replace HT5 := hid (HT5.out.below hb); replace HH := hid (HH.out.below hb); replace HY := hid (HY.out.below hb); replace HYI := hid (HYI.out.below hb); replace HZ := hid (HZ.out.below hb); replace HZI := hid (HZI.out.below hb); replace HU := hid (HU.out.trans (hb.mono HU.out.size)); clear hR hb)
    | (go_at_call 139; (with_reducible refine (rrelu_h ua un uc _ _ HUp.out hun).mono ?_); rintro e z4 ⟨ra, rn, rc, rfl, hR, hb⟩; have hrn : rn ≤ 1000 := (by have := hR.size; rw [reluL_len, mulT_len] at this; omega); have HRe := hid hR; replace HT5 := hid (HT5.out.below hb); replace HH := hid (HH.out.below hb); replace HY := hid (HY.out.below hb); replace HYI := hid (HYI.out.below hb); replace HZ := hid (HZ.out.below hb); replace HZI := hid (HZI.out.below hb); replace HU := hid (HU.out.trans (hb.mono HU.out.size)); clear hR hb)
    | (go_at_call 131; (with_reducible refine (rmul_h t5 ra n5 c5 rn rc hs5 _ _ _ HT5.out HL5.out HRe.out (by have := HL5.out; omega) hrn).mono ?_); rintro e z5 ⟨fa, fn, fc, rfl, hR, hI, hb⟩; have hfn : fn ≤ 1000 := (by have := hR.size; rw [mulT_len] at this; omega); have HFo := hid hR; clear hI; replace HH := hid (HH.out.below hb); replace HY := hid (HY.out.below hb); replace HYI := hid (HYI.out.below hb); replace HZ := hid (HZ.out.below hb); replace HZI := hid (HZI.out.below hb); replace HU := hid (HU.out.trans (hb.mono HU.out.size)); clear hR hb)
    | (go_at_call 71; (with_reducible refine (radd_h ha fa hhn hhc fn fc _ _ _ HH.out HFo.out hhn1 hfn).mono ?_); rintro e z6 ⟨ea, en, ec, rfl, hR, hI, hb⟩; rw [← HOut.out] at hR; have HE := hid hR; have HEI := hid hI; clear hI; replace HH := hid (HH.out.below hb); replace HY := hid (HY.out.below hb); replace HYI := hid (HYI.out.below hb); replace HZ := hid (HZ.out.below hb); replace HZI := hid (HZI.out.below hb); replace HU := hid (HU.out.trans (hb.mono HU.out.size)); clear hR hb; have HRb := hid (block_below HRs.out HU.out); have cr0 := cell_of_row _ _ 0 _ _ _ HRb.out; have cr1 := cell_of_row _ _ 1 _ _ _ HRb.out; have cr2 := cell_of_row _ _ 2 _ _ _ HRb.out; have fr0 := frozen_of_row _ _ 0 _ _ HRb.out; have fr1 := frozen_of_row _ _ 1 _ _ HRb.out; have fr2 := frozen_of_row _ _ 2 _ _ HRb.out))
  have HF : Hid (∀ s0 s1 s2 : Value, (((z6.setCell ⟨w.heap.size + 1, 0, none⟩ s0).setCell ⟨w.heap.size + 1, 1, none⟩ s1).setCell ⟨w.heap.size + 1, 2, none⟩ s2).heap[w.heap.size + 1]? = some (.cells #[s0, s1, s2] 166 (0, 0)) ∧ But [w.heap.size + 1] z6 (((z6.setCell ⟨w.heap.size + 1, 0, none⟩ s0).setCell ⟨w.heap.size + 1, 1, none⟩ s1).setCell ⟨w.heap.size + 1, 2, none⟩ s2) ∧ Kp 166 z6 (((z6.setCell ⟨w.heap.size + 1, 0, none⟩ s0).setCell ⟨w.heap.size + 1, 1, none⟩ s1).setCell ⟨w.heap.size + 1, 2, none⟩ s2)) := fun s0 s1 s2 =>
   ⟨three_set HRb.out, (((But.refl _ _).set (p := ⟨w.heap.size + 1, 0, none⟩) (List.mem_singleton.2 rfl) _).set (p := ⟨w.heap.size + 1, 1, none⟩) (List.mem_singleton.2 rfl) _).set (p := ⟨w.heap.size + 1, 2, none⟩) (List.mem_singleton.2 rfl) _, ((Kp.set HRb.out _).trans (Kp.set (row_setCell HRb.out) _)).trans (Kp.set (row_setCell (row_setCell HRb.out)) _)⟩
  obtain ⟨hF1, hF2, hF3⟩ := HF.out (.slice ea en ec) (.slice ya yn yc) (.slice za zn zc)
  generalize ((z6.setCell ⟨w.heap.size + 1, 0, none⟩ (.slice ea en ec)).setCell ⟨w.heap.size + 1, 1, none⟩ (.slice ya yn yc)).setCell ⟨w.heap.size + 1, 2, none⟩ (.slice za zn zc) = Wf at *
  have HE2 := hid (Reads.keep HE.out HEI.out hF3 (by decide))
  have HY2 := hid (Reads.keep HY.out HYI.out hF3 (by decide))
  have HZ2 := hid (Reads.keep HZ.out HZI.out hF3 (by decide))
  have HB2 : Hid (Below w.heap.size w Wf) := by
   have h1 : Below w.heap.size w z6 := HB0.out.trans (HU.out.mono HB0.out.size)
   exact h1.trans (hF2.to (fun s hs => by rw [List.mem_singleton.1 hs]; omega) h1.size)
  have f0 : Wf.cell? ⟨w.heap.size + 1, 0, none⟩ = some (.slice ea en ec) := by rw [cell_of_row _ _ _ _ _ _ hF1]; rfl
  have f1 : Wf.cell? ⟨w.heap.size + 1, 1, none⟩ = some (.slice ya yn yc) := by rw [cell_of_row _ _ _ _ _ _ hF1]; rfl
  have f2 : Wf.cell? ⟨w.heap.size + 1, 2, none⟩ = some (.slice za zn zc) := by rw [cell_of_row _ _ _ _ _ _ hF1]; rfl
  clear HF hF1 hF2 hF3 HEI HYI HZI HRb cr0 cr1 cr2 fr0 fr1 fr2 HE HY HZ HU HU0 HK HKS HT5 HT4 HL5 HL4 HUp HRe HFo HH HR HB0 HRs HOut
  go_wp2
  exact bodyPost_ret (v := .agg #[.slice ea en ec, .slice ya yn yc, .slice za zn zc]) (by simp [results, Tryz.results97, go_sem, f0, f1, f2]) rfl ⟨_, _, _, _, _, _, _, _, _, rfl, HE2.out.1, HY2.out.1, HZ2.out.1, HE2.out.2, HY2.out.2, HZ2.out.2, HB2.out⟩
 ·have g1 : ¬ (m : Int) < (kn : Int) := by omega
  go_wp2_with fail
  refine hC.mono ?_
  rintro e w2 ⟨rfl, hb⟩
  have HB2 := hid hb
  clear hC hb
  go_wp2_with fail
  refine (rdiv_any _ _ _).mono ?_
  rintro e w' ⟨rfl, rfl⟩
  rename World => w2
  rw [HFk.out]
  clear HFk
  replace HO1 := hid (own_below HO1.out HB2.out)
  replace HO2 := hid (own_below HO2.out HB2.out)
  replace HW := hid (HW.out.trans (HB2.out.mono HW.out.size))
  have HLs : Hid (wS.heap.size ≤ w2.heap.size) := HW.out.size
  have HNc := hid fun W u T => new_cell W u T
  have HVn := hid HV.out
  generalize hmk : markZ ⟨s, vo, d, l, tt, h⟩ (qryL ⟨s, vo, d, l, tt, h⟩ la zs) (keyL ⟨s, vo, d, l, tt, h⟩ la zs) = mk at HMa ⊢
  clear hmk
  go_wp2_with (first
   | (at_builtin; refine append_one _ rfl (.tmp 72) (.tmp 78) 131 rfl wS.heap.size 2 i0 (.int .i64 0) 8 Tryz.underlying131 hi hz0 hz1 hz2 rfl (by omega) _ m _ rfl (own_below HO1.out (HAl.out _ _)) (by omega) w2.heap.size (.int .i64 mk) rfl rfl (HNc.out _ _ _) (Nat.le_trans HLs.out (HAl.out _ _).size) ?_; intro v1 w3 hO3 hg3; obtain ⟨hO4, hW3⟩ := own_two HO1.out HO2.out (by decide) HW.out hg3; have HO3 := hid hO3; have HO4 := hid hO4; have HW3 := hid hW3; have HLt : Hid (wS.heap.size ≤ w3.heap.size) := hW3.size; clear hO3 hO4 hW3 hg3)
   | (at_builtin; refine append_one _ rfl (.tmp 80) (.tmp 82) 132 rfl wS.heap.size 131 i1 (.slice none 0 0) 24 Tryz.underlying132 hj hy0 hy1 hy2 rfl (by omega) _ m _ rfl (own_below HO4.out (HAl.out _ _)) (by omega) w3.heap.size (hdV (za, zn, zc)) rfl rfl (HNc.out _ _ _) (Nat.le_trans HLt.out (HAl.out _ _).size) ?_; intro v2 w4 hO5 hg4; obtain ⟨hO6, hW4⟩ := own_two HO4.out HO3.out (by decide) HW3.out hg4; rw [HMa.out] at hO6; rw [HTa.out] at hO5; obtain ⟨ma, mc, rfl, hMr⟩ := Reads.own (k := .i64) hO6; obtain ⟨ag, ac, rfl, hAo⟩ := ownS_of' hO5 (by omega); obtain ⟨x0, x1, x2, x3, x4, x5⟩ := HK.out _ (HVn.out.trans (hW4.mono HVn.out.size))))
  have HM := hid hMr
  have HAt := hid (Tbl.snoc (b := za) (HT2.out w4 (HV.out.trans (hW4.mono HV.out.size))) HVl.out (HZ.out.below hW4) (by show zn ≤ 1000; omega) hAo.rd)
  have HU := hid (HV.out.trans (hW4.mono HV.out.size))
  replace HY := hid (HY.out.below hW4)
  replace HYI := hid (HYI.out.below hW4)
  replace HZ := hid (HZ.out.below hW4)
  replace HZI := hid (HZI.out.below hW4)
  clear hO5 hO6 hW4 hg4 hMr hAo HO1 HO2 HW HO3 HO4 HW3 HLs HLt HNc HVn HB2 HV HT1 HT2 HMa HTa HAl
  refine (HR.out 3 _).mono ?_
  rintro e w5 ⟨ta, tn, tc, ths, rfl, hT, htl, hb⟩
  have HT := hid hT
  have HTl := hid htl
  have htn : tn ≤ 16 := by have := HD.out 3; omega
  replace HM := hid (HM.out.below hb)
  replace HAt := hid (HAt.out.below hb)
  replace HY := hid (HY.out.below hb)
  replace HYI := hid (HYI.out.below hb)
  replace HZ := hid (HZ.out.below hb)
  replace HZI := hid (HZI.out.below hb)
  replace HU := hid (HU.out.trans (hb.mono HU.out.size))
  clear hT htl hb x0 x1 x2 x3 x4 x5
  go_wp2_with fail
  refine (rsoft_h _ _ _ _ _ HM.out (by omega)).mono ?_
  rintro e w6 ⟨sa, sn, sc, rfl, hR, hb⟩
  have hsn : sn ≤ 1000 := by have := hR.size; rw [softL_len, HM.out.size] at this; omega
  have HW := hid hR
  replace HT := hid (HT.out.below hb)
  replace HAt := hid (HAt.out.below hb)
  replace HY := hid (HY.out.below hb)
  replace HYI := hid (HYI.out.below hb)
  replace HZ := hid (HZ.out.below hb)
  replace HZI := hid (HZI.out.below hb)
  replace HU := hid (HU.out.trans (hb.mono HU.out.size))
  clear hR hb HM
  go_wp2_with fail
  refine (rmix_h _ _ _ _ _ _ _ _ _ _ HAt.out HVl2.out HW.out (by omega) hsn (by omega)).mono ?_
  rintro e w7 ⟨xa, xn, xc, rfl, hR, hb⟩
  have hxn : xn ≤ 1000 := by
   rw [← hR.size]
   refine mixK_bd (fun i hi => ?_) _
   have h1 := HAt.out.rows i (by rw [← HVl2.out]; exact hi)
   rw [h1.size]
   exact HAt.out.short i (by rw [← HVl2.out]; exact hi)
  have HMx := hid hR
  replace HT := hid (HT.out.below hb)
  replace HY := hid (HY.out.below hb)
  replace HYI := hid (HYI.out.below hb)
  replace HZ := hid (HZ.out.below hb)
  replace HZI := hid (HZI.out.below hb)
  replace HU := hid (HU.out.trans (hb.mono HU.out.size))
  clear hR hb HW HAt hsn HVl2 HVl
  go_wp2_with fail
  refine (rmul_h ta xa tn tc xn xc ths _ _ _ HT.out HTl.out HMx.out (by omega) hxn).mono ?_
  rintro e w8 ⟨oa, on, oc, rfl, hR, hI, hb⟩
  clear hI
  have hon : on ≤ 1000 := by have := hR.size; rw [mulT_len] at this; have := HTl.out; omega
  have HO := hid hR
  replace HY := hid (HY.out.below hb)
  replace HYI := hid (HYI.out.below hb)
  replace HZ := hid (HZ.out.below hb)
  replace HZI := hid (HZI.out.below hb)
  replace HU := hid (HU.out.trans (hb.mono HU.out.size))
  clear hR hb HT HTl htn HMx hxn
  go_wp2_with fail
  refine (radd_h a oa n cap on oc _ _ _ (HX.out _ HU.out) HO.out hn hon).mono ?_
  rintro e w9 ⟨ha, hhn, hhc, rfl, hR, hI, hb⟩
  clear hI
  have hhn1 : hhn ≤ 1000 := by have := hR.size; rw [addL_len] at this; have := HS.out; omega
  rw [← HHid.out] at hR
  have HH := hid hR
  replace HY := hid (HY.out.below hb)
  replace HYI := hid (HYI.out.below hb)
  replace HZ := hid (HZ.out.below hb)
  replace HZI := hid (HZI.out.below hb)
  replace HU := hid (HU.out.trans (hb.mono HU.out.size))
  clear hR hb HO hon HX HHid
  go_wp2_with fail
  refine (rnorm_h ha hhn hhc _ _ HH.out hhn1).mono ?_
  rintro e w10 ⟨ga, gn, gc, rfl, hR, hb⟩
  have hgn : gn ≤ 1000 := by have := hR.size; rw [normL_len, HH.out.size] at this; omega
  have HG := hid hR
  replace HH := hid (HH.out.below hb)
  replace HY := hid (HY.out.below hb)
  replace HYI := hid (HYI.out.below hb)
  replace HZ := hid (HZ.out.below hb)
  replace HZI := hid (HZI.out.below hb)
  replace HU := hid (HU.out.trans (hb.mono HU.out.size))
  clear hR hb
  have HKS : Hid (∀ (W : World) (u0 u1 u2 : Value), Below wA.heap.size wA W → (((W.setCell ⟨w.heap.size + 1, 0, none⟩ u0).setCell ⟨w.heap.size + 1, 1, none⟩ u1).setCell ⟨w.heap.size + 1, 2, none⟩ u2).cell? ⟨w.heap.size, 0, none⟩ = some (.int .u64 s) ∧ (((W.setCell ⟨w.heap.size + 1, 0, none⟩ u0).setCell ⟨w.heap.size + 1, 1, none⟩ u1).setCell ⟨w.heap.size + 1, 2, none⟩ u2).cell? ⟨w.heap.size, 1, none⟩ = some (.int .i64 vo) ∧ (((W.setCell ⟨w.heap.size + 1, 0, none⟩ u0).setCell ⟨w.heap.size + 1, 1, none⟩ u1).setCell ⟨w.heap.size + 1, 2, none⟩ u2).cell? ⟨w.heap.size, 2, none⟩ = some (.int .i64 d) ∧ (((W.setCell ⟨w.heap.size + 1, 0, none⟩ u0).setCell ⟨w.heap.size + 1, 1, none⟩ u1).setCell ⟨w.heap.size + 1, 2, none⟩ u2).cell? ⟨w.heap.size, 3, none⟩ = some (.int .i64 l) ∧ (((W.setCell ⟨w.heap.size + 1, 0, none⟩ u0).setCell ⟨w.heap.size + 1, 1, none⟩ u1).setCell ⟨w.heap.size + 1, 2, none⟩ u2).cell? ⟨w.heap.size, 4, none⟩ = some (.int .i64 tt) ∧ (((W.setCell ⟨w.heap.size + 1, 0, none⟩ u0).setCell ⟨w.heap.size + 1, 1, none⟩ u1).setCell ⟨w.heap.size + 1, 2, none⟩ u2).cell? ⟨w.heap.size, 5, none⟩ = some (.int .i64 h)) := fun W u0 u1 u2 hb => by
   have h1 := HK.out W hb
   have hk : ∀ j v, W.cell? ⟨w.heap.size, j, none⟩ = some v → (((W.setCell ⟨w.heap.size + 1, 0, none⟩ u0).setCell ⟨w.heap.size + 1, 1, none⟩ u1).setCell ⟨w.heap.size + 1, 2, none⟩ u2).cell? ⟨w.heap.size, j, none⟩ = some v := fun j v hv => by
    rw [World.cell?_of_block (w := W) (a := ⟨w.heap.size, j, none⟩)]
    ·exact hv
    ·show (((W.setCell ⟨w.heap.size + 1, 0, none⟩ u0).setCell ⟨w.heap.size + 1, 1, none⟩ u1).setCell ⟨w.heap.size + 1, 2, none⟩ u2).heap[w.heap.size]? = _
     rw [Below.heap_setCell _ _ _ _ (by show w.heap.size ≠ w.heap.size + 1; omega), Below.heap_setCell _ _ _ _ (by show w.heap.size ≠ w.heap.size + 1; omega), Below.heap_setCell _ _ _ _ (by show w.heap.size ≠ w.heap.size + 1; omega)]
   exact ⟨hk _ _ h1.1, hk _ _ h1.2.1, hk _ _ h1.2.2.1, hk _ _ h1.2.2.2.1, hk _ _ h1.2.2.2.2.1, hk _ _ h1.2.2.2.2.2⟩
  have HUd : Hid (Below wA.heap.size wA w10.drew) := HU.out.drew
  have HU0 := hid HU.out
  replace HU := HUd
  have HDr : Hid (Below w10.heap.size w10 w10.drew) := (Below.refl _ _).drew
  replace HH := hid (HH.out.below HDr.out)
  replace HY := hid (HY.out.below HDr.out)
  replace HYI := hid (HYI.out.below HDr.out)
  replace HZ := hid (HZ.out.below HDr.out)
  replace HZI := hid (HZI.out.below HDr.out)
  replace HG := hid (HG.out.below HDr.out)
  have hd5 := HD.out 5
  have hd4 := HD.out 4
  clear HUd HDr
  go_wp2_with fail
  go_region_held3 (fun W : World => W.cell? ⟨w.heap.size, 0, none⟩ = some (.int .u64 s) ∧ W.cell? ⟨w.heap.size, 1, none⟩ = some (.int .i64 vo) ∧ W.cell? ⟨w.heap.size, 2, none⟩ = some (.int .i64 d) ∧ W.cell? ⟨w.heap.size, 3, none⟩ = some (.int .i64 l) ∧ W.cell? ⟨w.heap.size, 4, none⟩ = some (.int .i64 tt) ∧ W.cell? ⟨w.heap.size, 5, none⟩ = some (.int .i64 h))
   (first | (with_reducible exact HK.out _ HU0.out) | (with_reducible exact HK.out _ HU.out) | (with_reducible exact HKS.out _ _ _ _ HU.out))
   (first
    | (go_at_call 132; (with_reducible refine (HR.out 5 _).mono ?_); rintro e z1 ⟨t5, n5, c5, hs5, rfl, hT, htl, hb⟩; have HT5 := hid hT; have HL5 := hid htl; replace HG := hid (HG.out.below hb); replace HH := hid (HH.out.below hb); replace HY := hid (HY.out.below hb); replace HYI := hid (HYI.out.below hb); replace HZ := hid (HZ.out.below hb); replace HZI := hid (HZI.out.below hb); replace HU := hid (HU.out.trans (hb.mono HU.out.size)); clear hT htl hb)
    | (go_at_call 132; (with_reducible refine (HR.out 4 _).mono ?_); rintro e z2 ⟨t4, n4, c4, hs4, rfl, hT, htl, hb⟩; have HT4 := hid hT; have HL4 := hid htl; replace HT5 := hid (HT5.out.below hb); replace HG := hid (HG.out.below hb); replace HH := hid (HH.out.below hb); replace HY := hid (HY.out.below hb); replace HYI := hid (HYI.out.below hb); replace HZ := hid (HZ.out.below hb); replace HZI := hid (HZI.out.below hb); replace HU := hid (HU.out.trans (hb.mono HU.out.size)); clear hT htl hb)
    | (go_at_call 131; (with_reducible refine (rmul_h t4 ga n4 c4 gn gc hs4 _ _ _ HT4.out HL4.out HG.out (by have := HL4.out; omega) hgn).mono ?_); rintro e z3 ⟨ua, un, uc, rfl, hR, hI, hb⟩; have hun : un ≤ 1000 := (by have := hR.size; rw [mulT_len] at this; omega); have HUp := hid hR; clear hI; replace HT5 := hid (HT5.out.below hb); replace HH := hid (HH.out.below hb); replace HY := hid (HY.out.below hb); replace HYI := hid (HYI.out.below hb); replace HZ := hid (HZ.out.below hb); replace HZI := hid (HZI.out.below hb); replace HU := hid (HU.out.trans (hb.mono HU.out.size)); clear hR hb)
    | (go_at_call 139; (with_reducible refine (rrelu_h ua un uc _ _ HUp.out hun).mono ?_); rintro e z4 ⟨ra, rn, rc, rfl, hR, hb⟩; have hrn : rn ≤ 1000 := (by have := hR.size; rw [reluL_len, mulT_len] at this; omega); have HRe := hid hR; replace HT5 := hid (HT5.out.below hb); replace HH := hid (HH.out.below hb); replace HY := hid (HY.out.below hb); replace HYI := hid (HYI.out.below hb); replace HZ := hid (HZ.out.below hb); replace HZI := hid (HZI.out.below hb); replace HU := hid (HU.out.trans (hb.mono HU.out.size)); clear hR hb)
    | (go_at_call 131; (with_reducible refine (rmul_h t5 ra n5 c5 rn rc hs5 _ _ _ HT5.out HL5.out HRe.out (by have := HL5.out; omega) hrn).mono ?_); rintro e z5 ⟨fa, fn, fc, rfl, hR, hI, hb⟩; have hfn : fn ≤ 1000 := (by have := hR.size; rw [mulT_len] at this; omega); have HFo := hid hR; clear hI; replace HH := hid (HH.out.below hb); replace HY := hid (HY.out.below hb); replace HYI := hid (HYI.out.below hb); replace HZ := hid (HZ.out.below hb); replace HZI := hid (HZI.out.below hb); replace HU := hid (HU.out.trans (hb.mono HU.out.size)); clear hR hb)
    | (go_at_call 71; (with_reducible refine (radd_h ha fa hhn hhc fn fc _ _ _ HH.out HFo.out hhn1 hfn).mono ?_); rintro e z6 ⟨ea, en, ec, rfl, hR, hI, hb⟩; rw [← HOut.out] at hR; have HE := hid hR; have HEI := hid hI; clear hI; replace HH := hid (HH.out.below hb); replace HY := hid (HY.out.below hb); replace HYI := hid (HYI.out.below hb); replace HZ := hid (HZ.out.below hb); replace HZI := hid (HZI.out.below hb); replace HU := hid (HU.out.trans (hb.mono HU.out.size)); clear hR hb; have HRb := hid (block_below HRs.out HU.out); have cr0 := cell_of_row _ _ 0 _ _ _ HRb.out; have cr1 := cell_of_row _ _ 1 _ _ _ HRb.out; have cr2 := cell_of_row _ _ 2 _ _ _ HRb.out; have fr0 := frozen_of_row _ _ 0 _ _ HRb.out; have fr1 := frozen_of_row _ _ 1 _ _ HRb.out; have fr2 := frozen_of_row _ _ 2 _ _ HRb.out))
  have HF : Hid (∀ s0 s1 s2 : Value, (((z6.setCell ⟨w.heap.size + 1, 0, none⟩ s0).setCell ⟨w.heap.size + 1, 1, none⟩ s1).setCell ⟨w.heap.size + 1, 2, none⟩ s2).heap[w.heap.size + 1]? = some (.cells #[s0, s1, s2] 166 (0, 0)) ∧ But [w.heap.size + 1] z6 (((z6.setCell ⟨w.heap.size + 1, 0, none⟩ s0).setCell ⟨w.heap.size + 1, 1, none⟩ s1).setCell ⟨w.heap.size + 1, 2, none⟩ s2) ∧ Kp 166 z6 (((z6.setCell ⟨w.heap.size + 1, 0, none⟩ s0).setCell ⟨w.heap.size + 1, 1, none⟩ s1).setCell ⟨w.heap.size + 1, 2, none⟩ s2)) := fun s0 s1 s2 =>
   ⟨three_set HRb.out, (((But.refl _ _).set (p := ⟨w.heap.size + 1, 0, none⟩) (List.mem_singleton.2 rfl) _).set (p := ⟨w.heap.size + 1, 1, none⟩) (List.mem_singleton.2 rfl) _).set (p := ⟨w.heap.size + 1, 2, none⟩) (List.mem_singleton.2 rfl) _, ((Kp.set HRb.out _).trans (Kp.set (row_setCell HRb.out) _)).trans (Kp.set (row_setCell (row_setCell HRb.out)) _)⟩
  obtain ⟨hF1, hF2, hF3⟩ := HF.out (.slice ea en ec) (.slice ya yn yc) (.slice za zn zc)
  generalize ((z6.setCell ⟨w.heap.size + 1, 0, none⟩ (.slice ea en ec)).setCell ⟨w.heap.size + 1, 1, none⟩ (.slice ya yn yc)).setCell ⟨w.heap.size + 1, 2, none⟩ (.slice za zn zc) = Wf at *
  have HE2 := hid (Reads.keep HE.out HEI.out hF3 (by decide))
  have HY2 := hid (Reads.keep HY.out HYI.out hF3 (by decide))
  have HZ2 := hid (Reads.keep HZ.out HZI.out hF3 (by decide))
  have HB2 : Hid (Below w.heap.size w Wf) := by
   have h1 : Below w.heap.size w z6 := HB0.out.trans (HU.out.mono HB0.out.size)
   exact h1.trans (hF2.to (fun s hs => by rw [List.mem_singleton.1 hs]; omega) h1.size)
  have f0 : Wf.cell? ⟨w.heap.size + 1, 0, none⟩ = some (.slice ea en ec) := by rw [cell_of_row _ _ _ _ _ _ hF1]; rfl
  have f1 : Wf.cell? ⟨w.heap.size + 1, 1, none⟩ = some (.slice ya yn yc) := by rw [cell_of_row _ _ _ _ _ _ hF1]; rfl
  have f2 : Wf.cell? ⟨w.heap.size + 1, 2, none⟩ = some (.slice za zn zc) := by rw [cell_of_row _ _ _ _ _ _ hF1]; rfl
  clear HF hF1 hF2 hF3 HEI HYI HZI HRb cr0 cr1 cr2 fr0 fr1 fr2 HE HY HZ HU HU0 HK HKS HT5 HT4 HL5 HL4 HUp HRe HFo HH HR HB0 HRs HOut
  go_wp2
  exact bodyPost_ret (v := .agg #[.slice ea en ec, .slice ya yn yc, .slice za zn zc]) (by simp [results, Tryz.results97, go_sem, f0, f1, f2]) rfl ⟨_, _, _, _, _, _, _, _, _, rfl, HE2.out.1, HY2.out.1, HZ2.out.1, HE2.out.2, HY2.out.2, HZ2.out.2, HB2.out⟩
end Go.Proofs.YtjgggialnegddaaGreat
