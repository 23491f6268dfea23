/-
  Contract: alive of layer 10 is true.
-/
import Derived.Test.YtehmdlipacbpfaaGreatAFars
namespace Go.Proofs.YtehmdlipacbpfaaGreat
open Go.RowKit
set_option linter.unusedVariables false
set_option maxRecDepth 1000000

theorem tokL_dim {c : Cf} {t : Int} (t0 : 0 ≤ t) (t1 : t < c.vocab) : (tokL c t).length = c.dim.toNat := by unfold tokL; rw [if_pos ⟨t0, t1⟩, rowK_len]
theorem madeL_dim {c : Cf} (hc : mayB c = true) (xs : List (List Int)) (k : Nat) (hx : (xs[k]?.getD []).length = c.dim.toNat) : (madeL c c.layers.toNat xs k).length = c.dim.toNat := by
  have := may_parts hc
  exact thrX_dim _ hx _ (by omega)
set_option maxHeartbeats 4000000 in
theorem alive10_any (w : World) : Calls Tryz.prog 6 #[] w fun e w' => e = .returned (.bool true) ∧ Below w.heap.size w w' := by
  obtain ⟨C, hC⟩ : ∃ C : Cf, C = ⟨5, 4, 2, 2, 1, 0⟩ := ⟨_, rfl⟩
  have hc : mayB C = true := by rw [hC]; exact may_small
  have hl : C.layers.toNat = 2 := by rw [hC]; rfl
  have hd : C.dim.toNat = 2 := by rw [hC]; rfl
  have hv : C.vocab = 4 := by rw [hC]
  obtain ⟨xs, hxs⟩ : ∃ xs, xs = [tokL C 1, tokL C 2] := ⟨_, rfl⟩
  have HS := hid fun W => small_any W
  rw [← hC] at HS
  have HN := hid fun W => new_yes C W hc
  have HT1 := hid fun g W (h : MdAt W (some ⟨g, 0, none⟩) C) => token_g (some ⟨g, 0, none⟩) C 1 W h hc
  have HT2 := hid fun g W (h : MdAt W (some ⟨g, 0, none⟩) C) => token_g (some ⟨g, 0, none⟩) C 2 W h hc
  rw [show (tokL C 1).length = 2 by rw [tokL_dim (by omega) (by omega), hd]] at HT1
  rw [show (tokL C 2).length = 2 by rw [tokL_dim (by omega) (by omega), hd]] at HT2
  have HA := hid fun W => anew_any 2 W
  rw [show clampL 2 = 2 by decide] at HA
  have e0 : xs[0]?.getD [] = tokL C 1 := by rw [hxs]; rfl
  have e1 : xs[1]?.getD [] = tokL C 2 := by rw [hxs]; rfl
  have HR1 := hid fun g B a n cap W (h1 : MdAt W (some ⟨g, 0, none⟩) C) (h2 : MemAt W (some ⟨B, 0, none⟩) (memL C C.layers.toNat xs 0)) (h3 : Reads .i64 W a n cap (tokL C 1)) (h4 : n ≤ 1000) => through_mem (some ⟨g, 0, none⟩) C (some ⟨B, 0, none⟩) xs 0 a n cap W h1 hc h2 (by omega) (by rw [e0]; exact h3) h4
  have HR2 := hid fun g B a n cap W (h1 : MdAt W (some ⟨g, 0, none⟩) C) (h2 : MemAt W (some ⟨B, 0, none⟩) (memL C C.layers.toNat xs 1)) (h3 : Reads .i64 W a n cap (tokL C 2)) (h4 : n ≤ 1000) => through_mem (some ⟨g, 0, none⟩) C (some ⟨B, 0, none⟩) xs 1 a n cap W h1 hc h2 (by omega) (by rw [e1]; exact h3) h4
  have HX1 : Hid ((madeL C C.layers.toNat xs 0).length = 2) := by unfold Hid; rw [madeL_dim hc xs 0 (by rw [e0, tokL_dim (by omega) (by omega)]), hd]
  have HX2 : Hid ((madeL C C.layers.toNat xs 1).length = 2) := by unfold Hid; rw [madeL_dim hc xs 1 (by rw [e1, tokL_dim (by omega) (by omega)]), hd]
  rw [hl] at HR1 HR2 HX1 HX2
  have HE := hid fun k => memL_even C 2 xs k
  have HL := hid fun k => memL_len C 2 xs k
  have HAt := hid fun k => (memL_at C 2 xs k (j := 0) (by omega)).1
  have HCt : Hid (cutM (memL C 2 xs 2) (cutN 1 2) = memL C 2 xs 1) := by unfold Hid; rw [show cutN 1 2 = 1 by decide]; exact memL_cut C 2 xs (by omega)
  have HM0 : Hid (memL C 2 xs 0 = noneM 2) := rfl
  clear hC hc hl hd hv hxs e0 e1
  obtain ⟨s, v, d, l, tt, h⟩ := C
  unfold CfV at HS HN
  simp only at HS HN
  go_enter Tryz.func6, Tryz.ntmps6
  go_wp2_with fail
  refine (HS.out _).mono ?_
  rintro e w1 ⟨rfl, hb⟩
  have HV := hid hb
  clear hb HS
  go_wp2_with fail
  refine (HN.out _).mono ?_
  rintro e w2 ⟨g, rfl, hg, hm, hb⟩
  have HMd : Hid (MdAt w2 (some ⟨g, 0, none⟩) ⟨s, v, d, l, tt, h⟩) := .inr ⟨g, rfl, hm⟩
  replace HV := hid (HV.out.trans (hb.mono HV.out.size))
  clear hb hg hm HN
  go_wp2_with fail
  refine (HA.out _).mono ?_
  rintro e w3 ⟨B0, g0, ps0, rfl, _, _, hM, hb⟩
  have HQ : Hid (MemAt w3 (some ⟨B0, 0, none⟩) (memL ⟨s, v, d, l, tt, h⟩ 2 xs 0)) := .inr ⟨B0, g0, ps0, rfl, hM⟩
  replace HMd := hid (HMd.out.below hb)
  replace HV := hid (HV.out.trans (hb.mono HV.out.size))
  clear hb hM HA HM0
  go_wp2_with fail
  refine (HT1.out g _ HMd.out).mono ?_
  rintro e w4 ⟨u, rfl, hO, hb⟩
  obtain ⟨a1, c1, rfl, hR⟩ := Reads.own (k := .i64) hO
  have HR := hid hR
  replace HMd := hid (HMd.out.below hb)
  replace HQ := hid (HQ.out.below hb)
  replace HV := hid (HV.out.trans (hb.mono HV.out.size))
  clear hb hO hR HT1
  go_wp2_with fail
  refine (HR1.out g B0 a1 2 c1 _ HMd.out HQ.out HR.out (by omega)).mono ?_
  rintro e w5 ⟨a2, n2, c2, B1, g1, ps1, rfl, hR, _, hM, _, hb⟩
  obtain rfl : n2 = 2 := by rw [← hR.size]; exact HX1.out
  have HC1 : Hid (MemAt w5 (some ⟨B1, 0, none⟩) (memL ⟨s, v, d, l, tt, h⟩ 2 xs 1)) := .inr ⟨B1, g1, ps1, rfl, hM⟩
  replace HMd := hid (HMd.out.below hb)
  replace HV := hid (HV.out.trans (hb.mono HV.out.size))
  clear hb hR hM HR HQ HR1 HX1
  go_wp2_with fail
  refine (HT2.out g _ HMd.out).mono ?_
  rintro e w6 ⟨u, rfl, hO, hb⟩
  obtain ⟨a3, c3, rfl, hR⟩ := Reads.own (k := .i64) hO
  have HR := hid hR
  replace HMd := hid (HMd.out.below hb)
  replace HC1 := hid (HC1.out.below hb)
  replace HV := hid (HV.out.trans (hb.mono HV.out.size))
  clear hb hO hR HT2
  go_wp2_with fail
  refine (HR2.out g B1 a3 2 c3 _ HMd.out HC1.out HR.out (by omega)).mono ?_
  rintro e w7 ⟨a4, n4, c4, B2, g2, ps2, rfl, hR, _, hM, _, hb⟩
  obtain rfl : n4 = 2 := by rw [← hR.size]; exact HX2.out
  have HC2 : Hid (MemAt w7 (some ⟨B2, 0, none⟩) (memL ⟨s, v, d, l, tt, h⟩ 2 xs 2)) := .inr ⟨B2, g2, ps2, rfl, hM⟩
  replace HC1 := hid (HC1.out.below hb)
  replace HV := hid (HV.out.trans (hb.mono HV.out.size))
  clear hb hR hM HR HMd HR2 HX2
  have hK1 := hid (len_any (some ⟨B1, 0, none⟩) _ 1 w7 HC1.out (fun h => by rw [HL.out] at h; omega) (fun _ => HAt.out 1) (by rw [HL.out]; omega))
  have hK2 := hid (len_any (some ⟨B2, 0, none⟩) _ 2 w7 HC2.out (fun h => by rw [HL.out] at h; omega) (fun _ => HAt.out 2) (by rw [HL.out]; omega))
  have hK3 := hid (layers_any (some ⟨B2, 0, none⟩) _ w7 HC2.out)
  have hK4 := hid (cut_any (some ⟨B2, 0, none⟩) _ 1 2 w7 HC2.out (by rw [HL.out]; omega) (HE.out 2) (by omega) (fun h => by rw [HL.out] at h; omega))
  rw [HL.out] at hK3
  rw [HCt.out] at hK4
  go_wp2_with fail
  refine hK1.out.mono ?_
  rintro e w' ⟨rfl, rfl⟩
  rename World => w7
  clear hK1
  go_wp2_with fail
  refine hK2.out.mono ?_
  rintro e w' ⟨rfl, rfl⟩
  rename World => w7
  clear hK2
  go_wp2_with fail
  refine hK3.out.mono ?_
  rintro e w' ⟨rfl, rfl⟩
  rename World => w7
  clear hK3
  go_wp2_with fail
  refine hK4.out.mono ?_
  rintro e w8 ⟨B3, g3, ps3, rfl, _, _, hM, hb⟩
  have HC3 : Hid (MemAt w8 (some ⟨B3, 0, none⟩) (memL ⟨s, v, d, l, tt, h⟩ 2 xs 1)) := .inr ⟨B3, g3, ps3, rfl, hM⟩
  replace HC1 := hid (HC1.out.below hb)
  replace HC2 := hid (HC2.out.below hb)
  replace HV := hid (HV.out.trans (hb.mono HV.out.size))
  clear hb hM hK4
  go_wp2_with fail
  refine (msame_yes (some ⟨B3, 0, none⟩) (some ⟨B1, 0, none⟩) _ 1 _ HC3.out HC1.out (HE.out 1) (by omega) (by rw [HL.out]; omega)).mono ?_
  rintro e w9 ⟨rfl, hb⟩
  replace HC1 := hid (HC1.out.below hb)
  replace HC2 := hid (HC2.out.below hb)
  replace HV := hid (HV.out.trans (hb.mono HV.out.size))
  clear hb HC3
  go_wp2_with fail
  refine (msame_no (some ⟨B2, 0, none⟩) (some ⟨B1, 0, none⟩) _ _ _ HC2.out HC1.out (by rw [HL.out, HL.out]) (by rw [HL.out]; omega) (by rw [HAt.out, HAt.out]; omega) (by rw [HAt.out]; omega) (by rw [HAt.out]; omega) (by rw [HL.out]; omega)).mono ?_
  rintro e w10 ⟨rfl, hb⟩
  replace HV := hid (HV.out.trans (hb.mono HV.out.size))
  clear hb HC1 HC2 HE HL HAt HCt
  go_wp2
  go_ret
  exact ⟨rfl, HV.out⟩
end Go.Proofs.YtehmdlipacbpfaaGreat
