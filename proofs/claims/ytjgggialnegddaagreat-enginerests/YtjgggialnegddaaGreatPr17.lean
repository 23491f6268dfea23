/-
  The texts Downs of this proof.
-/
import Derived.Test.YtjgggialnegddaaGreatPr16
set_option linter.unusedVariables false
set_option maxRecDepth 1000000
namespace Go.Proofs.YtjgggialnegddaaGreat
open Go.RowKit
theorem kids {n c i : Nat} (h0 : 0 < i) (hi : i < n) (hp : (i - 1) / 2 = c) : i = 2 * c + 1 ∨ i = 2 * c + 2 := by omega
set_option maxHeartbeats 4000000 in
theorem down_any (base B g cap n : Nat) (ms : List Mk) (w : World) (h : HpAt base B g cap ms w) (hn1 : ms.length = n + 1) (hn : ms.length ≤ 1001) (hU : DownAt ms n 0) :
  Calls Tryz.prog 214 #[hv B, .int .i64 0, .int .i64 n] w fun e w' => (∃ b, e = .returned (.bool b)) ∧ (∃ ns, ns.Perm ms ∧ gx ns n = gx ms n ∧ HeapN ns n ∧ HpAt base B g cap ns w') ∧ But [B, g] w w' := by
 have H := hid h
 have HU := hid hU
 have l0 : n < ms.length := by omega
 have l1 : ms.length ≤ n + 1 := by omega
 clear h hU hn1
 go_enter Tryz.func214, Tryz.ntmps214
 go_wp2_with fail
 go_loopw [7] (fun i W => ∃ (c : Nat) (ns : List Mk), i = .int .i64 c ∧ c ≤ n ∧ n < ns.length ∧ ns.length ≤ n + 1 ∧ Hid (ns.Perm ms) ∧ Hid (gx ns n = gx ms n) ∧ Hid (DownAt ns n c) ∧ Hid (HpAt base B g cap ns W) ∧ Hid (But [B, g] w W)) (fun i _ => n - (intOf i).toNat)
 case atStart => exact ⟨0, ms, rfl, by omega, by omega, by omega, List.Perm.refl _, rfl, HU, H, But.refl _ _⟩
 case round =>
  obtain ⟨c, ns, rfl, hc, hnl, hnm, HP, HG, HD, HH, HB⟩ := hrel
  clear H HU
  have hl : ns.length ≤ 1001 := by omega
  obtain ⟨j1, hj1⟩ : ∃ j : Nat, 2 * (c : Int) + 1 = (j : Int) := ⟨2 * c + 1, by omega⟩
  have e1 : 2 * c + 1 = j1 := by omega
  by_cases ha : j1 < n
  ·obtain ⟨j2, hj2⟩ : ∃ j : Nat, (j1 : Int) + 1 = (j : Int) := ⟨j1 + 1, by omega⟩
   have e2 : j1 + 1 = j2 := by omega
   have q1 : ¬ (n : Int) ≤ (j1 : Int) := by omega
   have q2 : ¬ (j1 : Int) < 0 := by omega
   by_cases hb : j2 < n
   ·have q3 : (j2 : Int) < (n : Int) := by omega
    have hm1 := meth_less B wr _ (cell_of_one HH.out.var)
    have hL1 := HH.out.less j2 j1 (by omega) (by omega) hl
    by_cases hx : ltM (gx ns j2) (gx ns j1)
    ·have hbb : belowB (gx ns j2) (gx ns j1) = true := belowB_yes hx
     have HM : Hid (∀ i, 0 < i → i < n → (i - 1) / 2 = c → leM (gx ns j2) (gx ns i)) := by
      intro i i0 hi hip
      rcases kids i0 hi hip with rfl | rfl
      ·rw [e1]; exact leM_of_lt hx
      ·rw [show 2 * c + 2 = j2 by omega]; exact leM_refl _
     rw [hbb] at hL1
     clear hx hbb HH
     go_wp2_with fail
     refine hL1.mono ?_
     rintro e w1 ⟨rfl, hH1, hB1⟩
     have HB1 := hid (HB.out.trans hB1)
     clear hB1 hL1 hm1
     have hm2 := meth_less B w1 _ (cell_of_one hH1.var)
     have hL2 := hH1.less j2 c (by omega) (by omega) hl
     by_cases hy : ltM (gx ns j2) (gx ns c)
     ·have hbb : belowB (gx ns j2) (gx ns c) = true := belowB_yes hy
      have HS : Hid (DownAt (swp ns c j2) n j2) := HD.out.step (by omega) (by omega) (by omega) (by omega) HM.out hy
      have HPS : Hid ((swp ns c j2).Perm ms) := (swp_perm (by omega) (by omega)).trans HP.out
      have HGS : Hid (gx (swp ns c j2) n = gx ms n) := by
       unfold Hid
       rw [gx_swp (by omega) (by omega), if_neg (by omega), if_neg (by omega)]
       exact HG.out
      rw [hbb] at hL2
      clear hy hbb hH1
      go_wp2_with fail
      refine hL2.mono ?_
      rintro e w2 ⟨rfl, hH2, hB2⟩
      have hms := meth_swap B w2 _ (cell_of_one hH2.var)
      have hS := hH2.swap c j2 (by omega) (by omega) hl
      have HB2 := hid (HB1.out.trans hB2)
      clear hH2 hB2 hL2 hm2
      go_wp2_with fail
      refine hS.mono ?_
      rintro e w3 ⟨rfl, hH3, hB3⟩
      have HH3 := hid hH3
      have HB3 := hid (HB2.out.trans hB3)
      clear hH3 hB3 hS hms
      go_wp2_with fail
      go_round
      case rel => exact ⟨j2, swp ns c j2, rfl, by omega, by rw [swp_len]; omega, by rw [swp_len]; omega, HPS, HGS, HS, HH3, HB3⟩
      case measure => simp [intOf]; omega
     ·have hbb : belowB (gx ns j2) (gx ns c) = false := belowB_no hy
      have HE : Hid (HeapN ns n) := HD.out.done (fun i i0 hi hip => leM_trans hy (HM.out i i0 hi hip))
      rw [hbb] at hL2
      clear hy hbb hH1
      go_wp2_with fail
      refine hL2.mono ?_
      rintro e w2 ⟨rfl, hH2, hB2⟩
      have HH2 := hid hH2
      have HB2 := hid (HB1.out.trans hB2)
      clear hH2 hB2 hL2 hm2
      go_wp2
      go_ret
      exact ⟨⟨_, rfl⟩, ⟨ns, HP.out, HG.out, HE.out, HH2.out⟩, HB2.out⟩
    ·have hbb : belowB (gx ns j2) (gx ns j1) = false := belowB_no hx
     have HM : Hid (∀ i, 0 < i → i < n → (i - 1) / 2 = c → leM (gx ns j1) (gx ns i)) := by
      intro i i0 hi hip
      rcases kids i0 hi hip with rfl | rfl
      ·rw [e1]; exact leM_refl _
      ·rw [show 2 * c + 2 = j2 by omega]; exact hx
     rw [hbb] at hL1
     clear hx hbb HH
     go_wp2_with fail
     refine hL1.mono ?_
     rintro e w1 ⟨rfl, hH1, hB1⟩
     have HB1 := hid (HB.out.trans hB1)
     clear hB1 hL1 hm1
     have hm2 := meth_less B w1 _ (cell_of_one hH1.var)
     have hL2 := hH1.less j1 c (by omega) (by omega) hl
     by_cases hy : ltM (gx ns j1) (gx ns c)
     ·have hbb : belowB (gx ns j1) (gx ns c) = true := belowB_yes hy
      have HS : Hid (DownAt (swp ns c j1) n j1) := HD.out.step (by omega) (by omega) (by omega) (by omega) HM.out hy
      have HPS : Hid ((swp ns c j1).Perm ms) := (swp_perm (by omega) (by omega)).trans HP.out
      have HGS : Hid (gx (swp ns c j1) n = gx ms n) := by
       unfold Hid
       rw [gx_swp (by omega) (by omega), if_neg (by omega), if_neg (by omega)]
       exact HG.out
      rw [hbb] at hL2
      clear hy hbb hH1
      go_wp2_with fail
      refine hL2.mono ?_
      rintro e w2 ⟨rfl, hH2, hB2⟩
      have hms := meth_swap B w2 _ (cell_of_one hH2.var)
      have hS := hH2.swap c j1 (by omega) (by omega) hl
      have HB2 := hid (HB1.out.trans hB2)
      clear hH2 hB2 hL2 hm2
      go_wp2_with fail
      refine hS.mono ?_
      rintro e w3 ⟨rfl, hH3, hB3⟩
      have HH3 := hid hH3
      have HB3 := hid (HB2.out.trans hB3)
      clear hH3 hB3 hS hms
      go_wp2_with fail
      go_round
      case rel => exact ⟨j1, swp ns c j1, rfl, by omega, by rw [swp_len]; omega, by rw [swp_len]; omega, HPS, HGS, HS, HH3, HB3⟩
      case measure => simp [intOf]; omega
     ·have hbb : belowB (gx ns j1) (gx ns c) = false := belowB_no hy
      have HE : Hid (HeapN ns n) := HD.out.done (fun i i0 hi hip => leM_trans hy (HM.out i i0 hi hip))
      rw [hbb] at hL2
      clear hy hbb hH1
      go_wp2_with fail
      refine hL2.mono ?_
      rintro e w2 ⟨rfl, hH2, hB2⟩
      have HH2 := hid hH2
      have HB2 := hid (HB1.out.trans hB2)
      clear hH2 hB2 hL2 hm2
      go_wp2
      go_ret
      exact ⟨⟨_, rfl⟩, ⟨ns, HP.out, HG.out, HE.out, HH2.out⟩, HB2.out⟩
   ·have q3 : ¬ (j2 : Int) < (n : Int) := by omega
    have HM : Hid (∀ i, 0 < i → i < n → (i - 1) / 2 = c → leM (gx ns j1) (gx ns i)) := by
     intro i i0 hi hip
     rcases kids i0 hi hip with rfl | rfl
     ·rw [e1]; exact leM_refl _
     ·omega
    have hH1 := HH.out
    have HB1 := hid HB.out
    obtain ⟨w1, hw1⟩ : ∃ w1, w1 = wr := ⟨_, rfl⟩
    subst hw1
    clear HH
    have hm2 := meth_less B w1 _ (cell_of_one hH1.var)
    have hL2 := hH1.less j1 c (by omega) (by omega) hl
    by_cases hy : ltM (gx ns j1) (gx ns c)
    ·have hbb : belowB (gx ns j1) (gx ns c) = true := belowB_yes hy
     have HS : Hid (DownAt (swp ns c j1) n j1) := HD.out.step (by omega) (by omega) (by omega) (by omega) HM.out hy
     have HPS : Hid ((swp ns c j1).Perm ms) := (swp_perm (by omega) (by omega)).trans HP.out
     have HGS : Hid (gx (swp ns c j1) n = gx ms n) := by
      unfold Hid
      rw [gx_swp (by omega) (by omega), if_neg (by omega), if_neg (by omega)]
      exact HG.out
     rw [hbb] at hL2
     clear hy hbb hH1
     go_wp2_with fail
     refine hL2.mono ?_
     rintro e w2 ⟨rfl, hH2, hB2⟩
     have hms := meth_swap B w2 _ (cell_of_one hH2.var)
     have hS := hH2.swap c j1 (by omega) (by omega) hl
     have HB2 := hid (HB1.out.trans hB2)
     clear hH2 hB2 hL2 hm2
     go_wp2_with fail
     refine hS.mono ?_
     rintro e w3 ⟨rfl, hH3, hB3⟩
     have HH3 := hid hH3
     have HB3 := hid (HB2.out.trans hB3)
     clear hH3 hB3 hS hms
     go_wp2_with fail
     go_round
     case rel => exact ⟨j1, swp ns c j1, rfl, by omega, by rw [swp_len]; omega, by rw [swp_len]; omega, HPS, HGS, HS, HH3, HB3⟩
     case measure => simp [intOf]; omega
    ·have hbb : belowB (gx ns j1) (gx ns c) = false := belowB_no hy
     have HE : Hid (HeapN ns n) := HD.out.done (fun i i0 hi hip => leM_trans hy (HM.out i i0 hi hip))
     rw [hbb] at hL2
     clear hy hbb hH1
     go_wp2_with fail
     refine hL2.mono ?_
     rintro e w2 ⟨rfl, hH2, hB2⟩
     have HH2 := hid hH2
     have HB2 := hid (HB1.out.trans hB2)
     clear hH2 hB2 hL2 hm2
     go_wp2
     go_ret
     exact ⟨⟨_, rfl⟩, ⟨ns, HP.out, HG.out, HE.out, HH2.out⟩, HB2.out⟩
  ·have q1 : (n : Int) ≤ (j1 : Int) := by omega
   have HE : Hid (HeapN ns n) := HD.out.done (fun i i0 hi hip => by rcases kids i0 hi hip with rfl | rfl <;> omega)
   go_wp2
   go_ret
   exact ⟨⟨_, rfl⟩, ⟨ns, HP.out, HG.out, HE.out, HH.out⟩, HB.out⟩
end Go.Proofs.YtjgggialnegddaaGreat
