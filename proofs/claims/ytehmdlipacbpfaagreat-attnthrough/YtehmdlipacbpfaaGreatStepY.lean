/-
  Contract: Step of a layer that is there.
-/
import Derived.Test.YtehmdlipacbpfaaGreatSteps
namespace Go.Proofs.YtehmdlipacbpfaaGreat
open Go.RowKit
set_option linter.unusedVariables false
set_option maxRecDepth 1000000

set_option maxHeartbeats 2000000 in
theorem step_yes (p : Option Addr) (c : Cf) (la : Int) (a : Option Addr) (n cap : Nat) (zs : List Int) (ka : Option Addr) (kn kc : Nat) (khs : List Hd) (ks : List (List Int)) (va : Option Addr) (vn vc : Nat) (vhs : List Hd) (vs : List (List Int)) (m : Nat) (w : World)
    (hp : MdAt w p c) (hc : mayB c = true) (l0 : 0 ≤ la) (l1 : la < c.layers) (hx : Reads .i64 w a n cap zs) (hn : n ≤ 1000) (hk : Tbl w ka kn kc khs ks) (hkl : ks.length = kn) (hkn : kn ≤ 900) (hv : Tbl w va vn vc vhs vs) (hvl : vs.length = vn) (hvn : vn ≤ 900) (hm : min kn vn = m) :
    Calls Tryz.prog 8 #[.pointer p, .int .i64 la, .slice a n cap, .slice ka kn kc, .slice va vn vc] w fun e w' => Stp w (outL c la zs (ks.take m) (vs.take m)) (keyL c la zs) (valL c la zs) e w' := by
  have hC := config_any p c w hp
  have HD := hid fun wh => tabL_len hc la wh
  have HR := hid fun wh W (hb : Below w.heap.size w W) => rows_h p c la wh W (hp.below hb) hc
  have HMk := hid fun b lb cb ys a n cap hs ls W (hb : Below w.heap.size w W) => marks_any p c b lb cb ys a n cap hs ls W (hp.below hb)
  have HFw := hid fun a n cap zs W (hb : Below w.heap.size w W) => forward_h p c la a n cap zs W (hp.below hb) hc
  have HX := hid fun W (hb : Below w.heap.size w W) => hx.below hb
  have HK := hid fun W (hb : Below w.heap.size w W) => (hk.below hb).cut (m := m) (by omega)
  have HVs := hid fun W (hb : Below w.heap.size w W) => (hv.below hb).cut (m := m) (by omega)
  have HKl : Hid ((ks.take m).length = m) := by unfold Hid; simp; omega
  have HVl : Hid ((vs.take m).length = m) := by unfold Hid; simp; omega
  have HS := hid hx.size
  have r1 : m ≤ kc := by have := hk.rd.room; omega
  have r2 : m ≤ vc := by have := hv.rd.room; omega
  have hmin : (if vn < kn then (vn : Int) else (kn : Int)) = (m : Int) := by split <;> omega
  have hm9 : m ≤ 900 := by omega
  have HNl := hid (normL_len zs)
  generalize hks : ks.take m = ks' at *
  generalize hvs : vs.take m = vs' at *
  have HOut : Hid (outL c la zs ks' vs' = addL (hidL c la zs ks' vs') (fwdL c la (hidL c la zs ks' vs'))) := rfl
  have HHid : Hid (hidL c la zs ks' vs' = addL zs (mulT (tabL c la 3) (mixL (softL ((ks' ++ [keyL c la zs]).map (markZ c (qryL c la zs)))) (vs' ++ [valL c la zs])))) := rfl
  have HQe : Hid (qryL c la zs = mulT (tabL c la 0) (normL zs)) := rfl
  have HKe : Hid (keyL c la zs = mulT (tabL c la 1) (normL zs)) := rfl
  have HVe : Hid (valL c la zs = mulT (tabL c la 2) (normL zs)) := rfl
  clear hp hx hk hv hkl hvl hks hvs hm
  obtain ⟨s, vo, d, l, tt, h⟩ := c
  have hfd := fld_layers s vo d l tt h
  unfold CfV at hC
  simp only at hC l1
  go_enter Tryz.func8, Tryz.ntmps8
  go_wp2_with fail
  refine hC.mono ?_
  rintro e w1 ⟨rfl, hb⟩
  have HV := hid hb
  clear hb hC
  go_wp2_with fail
  refine (norm_h a n cap zs _ (HX.out _ HV.out) hn).mono ?_
  rintro e w2 ⟨na, nn, nc, rfl, hR, hI, hb⟩
  replace HV := hid (HV.out.trans (hb.mono HV.out.size))
  have HN := hid hR
  have hnn : nn ≤ 1000 := by have := hR.size; have := HNl.out; have := HS.out; omega
  clear hR hI hb HNl hfd
  -- the query
  go_wp2_with fail
  refine (HR.out 0 _ HV.out).mono ?_
  rintro e w3 ⟨ta, tn, tc, ths, rfl, hT, htl, hb⟩
  replace HV := hid (HV.out.trans (hb.mono HV.out.size))
  replace HN := hid (HN.out.below hb)
  have HT := hid hT
  have HTl := hid htl
  have htn : tn ≤ 16 := by have := HD.out 0; omega
  clear hT hb htl
  go_wp2_with fail
  refine (mul_h ta na tn tc nn nc ths _ _ _ HT.out HTl.out HN.out (by omega) hnn).mono ?_
  rintro e w4 ⟨qa, qn, qc, rfl, hR, hI, hb⟩
  replace HV := hid (HV.out.trans (hb.mono HV.out.size))
  replace HN := hid (HN.out.below hb)
  have hqn : qn ≤ 1000 := by have := hR.size; rw [mulT_len] at this; have := HTl.out; omega
  rw [← HQe.out] at hR
  have HQ := hid hR
  clear hR hI hb HT HTl htn HQe
  -- the key
  go_wp2_with fail
  refine (HR.out 1 _ HV.out).mono ?_
  rintro e w5 ⟨ta, tn, tc, ths, rfl, hT, htl, hb⟩
  replace HV := hid (HV.out.trans (hb.mono HV.out.size))
  replace HN := hid (HN.out.below hb)
  replace HQ := hid (HQ.out.below hb)
  have HT := hid hT
  have HTl := hid htl
  have htn : tn ≤ 16 := by have := HD.out 1; omega
  clear hT hb htl
  go_wp2_with fail
  refine (mul_h ta na tn tc nn nc ths _ _ _ HT.out HTl.out HN.out (by omega) hnn).mono ?_
  rintro e w6 ⟨ya, yn, yc, rfl, hR, hI, hb⟩
  replace HV := hid (HV.out.trans (hb.mono HV.out.size))
  replace HN := hid (HN.out.below hb)
  replace HQ := hid (HQ.out.below hb)
  have hyn : yn ≤ 1000 := by have := hR.size; rw [mulT_len] at this; have := HTl.out; omega
  rw [← HKe.out] at hR
  have HY := hid hR
  have HYI := hid hI
  clear hR hI hb HT HTl htn HKe
  -- the value
  go_wp2_with fail
  refine (HR.out 2 _ HV.out).mono ?_
  rintro e w7 ⟨ta, tn, tc, ths, rfl, hT, htl, hb⟩
  replace HV := hid (HV.out.trans (hb.mono HV.out.size))
  replace HN := hid (HN.out.below hb)
  replace HQ := hid (HQ.out.below hb)
  replace HY := hid (HY.out.below hb)
  replace HYI := hid (HYI.out.below hb)
  have HT := hid hT
  have HTl := hid htl
  have htn : tn ≤ 16 := by have := HD.out 2; omega
  clear hT hb htl
  go_wp2_with fail
  refine (mul_h ta na tn tc nn nc ths _ _ _ HT.out HTl.out HN.out (by omega) hnn).mono ?_
  rintro e w8 ⟨za, zn, zc, rfl, hR, hI, hb⟩
  replace HV := hid (HV.out.trans (hb.mono HV.out.size))
  replace HQ := hid (HQ.out.below hb)
  replace HY := hid (HY.out.below hb)
  replace HYI := hid (HYI.out.below hb)
  have hzn : zn ≤ 16 := by have := hR.size; rw [mulT_len] at this; have := HTl.out; omega
  rw [← HVe.out] at hR
  have HZ := hid hR
  have HZI := hid hI
  clear hR hI hb HT HTl htn HN HVe hnn
  -- the marks
  go_wp2_with fail
  refine (behind_any ka m kc _ _ ya yn yc _ _ (HK.out _ HV.out) HKl.out (by omega) HY.out hyn).mono ?_
  rintro e w9 ⟨bg, bc, rfl, hT, hb⟩
  replace HV := hid (HV.out.trans (hb.mono HV.out.size))
  replace HQ := hid (HQ.out.below hb)
  replace HY := hid (HY.out.below hb)
  replace HYI := hid (HYI.out.below hb)
  replace HZ := hid (HZ.out.below hb)
  replace HZI := hid (HZI.out.below hb)
  have HT := hid hT
  clear hT hb HK
  go_wp2_with fail
  refine (HMk.out qa qn qc _ _ _ _ _ _ _ HV.out HQ.out hqn HT.out (by rw [List.length_append, HKl.out]; rfl) (by omega)).mono ?_
  rintro e w10 ⟨mg, mc, rfl, hO, hb⟩
  replace HV := hid (HV.out.trans (hb.mono HV.out.size))
  replace HY := hid (HY.out.below hb)
  replace HYI := hid (HYI.out.below hb)
  replace HZ := hid (HZ.out.below hb)
  replace HZI := hid (HZI.out.below hb)
  have HM := hid hO.reads
  clear hO hb HT HQ HMk
  go_wp2_with fail
  refine (soft_h _ _ _ _ _ HM.out (by omega)).mono ?_
  rintro e w11 ⟨sa, sn, sc, rfl, hR, hI, hb⟩
  replace HV := hid (HV.out.trans (hb.mono HV.out.size))
  replace HY := hid (HY.out.below hb)
  replace HYI := hid (HYI.out.below hb)
  replace HZ := hid (HZ.out.below hb)
  replace HZI := hid (HZI.out.below hb)
  have hsn : sn ≤ 1000 := by have := hR.size; rw [softL_len, HM.out.size] at this; omega
  have HW := hid hR
  clear hR hI hb HM
  -- the mix
  go_wp2_with fail
  refine (behind_any va m vc _ _ za zn zc _ _ (HVs.out _ HV.out) HVl.out (by omega) HZ.out (by omega)).mono ?_
  rintro e w12 ⟨bg, bc, rfl, hT, hb⟩
  replace HV := hid (HV.out.trans (hb.mono HV.out.size))
  replace HY := hid (HY.out.below hb)
  replace HYI := hid (HYI.out.below hb)
  replace HZ := hid (HZ.out.below hb)
  replace HZI := hid (HZI.out.below hb)
  replace HW := hid (HW.out.below hb)
  have HT := hid hT
  clear hT hb HVs
  have HTl : Hid ((vs' ++ [valL ⟨s, vo, d, l, tt, h⟩ la zs]).length = m + 1) := by unfold Hid; rw [List.length_append, HVl.out]; rfl
  go_wp2_with fail
  refine (mix_h _ _ _ _ _ _ _ _ _ _ HT.out HTl.out HW.out (by omega) hsn (by omega)).mono ?_
  rintro e w13 ⟨xa, xn, xc, rfl, hR, hI, hb⟩
  replace HV := hid (HV.out.trans (hb.mono HV.out.size))
  replace HY := hid (HY.out.below hb)
  replace HYI := hid (HYI.out.below hb)
  replace HZ := hid (HZ.out.below hb)
  replace HZI := hid (HZI.out.below hb)
  have hxn : xn ≤ 1000 := by
    rw [← hR.size]
    refine mixK_bd (fun i hi => ?_) _
    have h1 := HT.out.rows i (by rw [← HTl.out]; exact hi)
    rw [h1.size]
    exact HT.out.short i (by rw [← HTl.out]; exact hi)
  have HMx := hid hR
  clear hR hI hb HT HTl HW hsn
  go_wp2_with fail
  refine (HR.out 3 _ HV.out).mono ?_
  rintro e w14 ⟨ta, tn, tc, ths, rfl, hT, htl, hb⟩
  replace HV := hid (HV.out.trans (hb.mono HV.out.size))
  replace HY := hid (HY.out.below hb)
  replace HYI := hid (HYI.out.below hb)
  replace HZ := hid (HZ.out.below hb)
  replace HZI := hid (HZI.out.below hb)
  replace HMx := hid (HMx.out.below hb)
  have HT := hid hT
  have HTl := hid htl
  have htn : tn ≤ 16 := by have := HD.out 3; omega
  clear hT hb htl HR
  go_wp2_with fail
  refine (mul_h ta xa tn tc xn xc ths _ _ _ HT.out HTl.out HMx.out (by omega) hxn).mono ?_
  rintro e w15 ⟨oa, on, oc, rfl, hR, hI, hb⟩
  replace HV := hid (HV.out.trans (hb.mono HV.out.size))
  replace HY := hid (HY.out.below hb)
  replace HYI := hid (HYI.out.below hb)
  replace HZ := hid (HZ.out.below hb)
  replace HZI := hid (HZI.out.below hb)
  have hon : on ≤ 1000 := by have := hR.size; rw [mulT_len] at this; have := HTl.out; omega
  have HO := hid hR
  clear hR hI hb HT HTl htn HMx hxn
  go_wp2_with fail
  refine (add_h a oa n cap on oc _ _ _ (HX.out _ HV.out) HO.out hn hon).mono ?_
  rintro e w16 ⟨ha, hhn, hhc, rfl, hR, hI, hb⟩
  replace HV := hid (HV.out.trans (hb.mono HV.out.size))
  replace HY := hid (HY.out.below hb)
  replace HYI := hid (HYI.out.below hb)
  replace HZ := hid (HZ.out.below hb)
  replace HZI := hid (HZI.out.below hb)
  have hhn1 : hhn ≤ 1000 := by have := hR.size; rw [addL_len] at this; have := HS.out; omega
  rw [← HHid.out] at hR
  have HH := hid hR
  clear hR hI hb HO hon HX HHid
  go_wp2_with fail
  refine (HFw.out ha hhn hhc _ _ HV.out HH.out hhn1).mono ?_
  rintro e w17 ⟨fa, fn, fc, rfl, hR, hI, hb⟩
  replace HV := hid (HV.out.trans (hb.mono HV.out.size))
  replace HY := hid (HY.out.below hb)
  replace HYI := hid (HYI.out.below hb)
  replace HZ := hid (HZ.out.below hb)
  replace HZI := hid (HZI.out.below hb)
  replace HH := hid (HH.out.below hb)
  have hfn : fn ≤ 1000 := by
    rw [← hR.size]
    show (mulT _ _).length ≤ 1000
    rw [mulT_len]
    have := HD.out 5
    omega
  have HF := hid hR
  clear hR hI hb HFw
  go_wp2_with fail
  refine (add_h ha fa hhn hhc fn fc _ _ _ HH.out HF.out hhn1 hfn).mono ?_
  rintro e w18 ⟨ra, rn, rc, rfl, hR, hI, hb⟩
  replace HV := hid (HV.out.trans (hb.mono HV.out.size))
  replace HY := hid (HY.out.below hb)
  replace HYI := hid (HYI.out.below hb)
  replace HZ := hid (HZ.out.below hb)
  replace HZI := hid (HZI.out.below hb)
  rw [← HOut.out] at hR
  have HA := hid hR
  have HAI := hid hI
  clear hR hI hb HH HF
  go_wp2
  go_ret3
  exact ⟨_, _, _, _, _, _, _, _, _, rfl, HA.out, HY.out, HZ.out, HAI.out, HYI.out, HZI.out, HV.out⟩
end Go.Proofs.YtehmdlipacbpfaaGreat
