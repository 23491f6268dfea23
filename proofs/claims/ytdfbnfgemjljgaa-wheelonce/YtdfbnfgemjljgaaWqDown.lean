/-
  Contract: heap.down over a queue.
-/
import Derived.Test.YtdfbnfgemjljgaaWqUp
namespace Go.Proofs.Ytdfbnfgemjljgaa
open Go.RowKit
set_option linter.unusedVariables false
set_option maxRecDepth 1000000

set_option maxHeartbeats 4000000 in
theorem wdown_any (B : Nat) (T last : Int) (M g cap n i0 : Nat) (ms : List Qe) (w : World) (h : WqAt B T last M g cap ms w) (hi0 : i0 ≤ n) (hn1 : ms.length = n + 1) (hn : ms.length ≤ 5000) (hU : MidQ ms n i0) :
    Calls Try.prog 32 #[hq B 2, .int .i64 i0, .int .i64 n] w fun e w' => ∃ c : Nat, e = .returned (.bool (decide (i0 < c))) ∧ ∃ ns, ns.Perm ms ∧ gq ns n = gq ms n ∧ ((i0 < c → HeapQ ns n) ∧ (¬ i0 < c → ns = ms ∧ UpQ ms n i0)) ∧ WqAt B T last M g cap ns w' ∧ Fb (frQ g ms) w w' := by
  have H := hid h
  have HU : Hid (DwnS ms ms n i0 i0) := DwnS.start hU
  have l0 : n < ms.length := by omega
  have l1 : ms.length ≤ n + 1 := by omega
  clear h hU hn1
  go_enter Try.func32, Try.ntmps32
  go_wp2_with fail
  go_loopw [7] (fun i W => ∃ (c : Nat) (ns : List Qe), i = .int .i64 c ∧ c ≤ n ∧ n < ns.length ∧ ns.length ≤ n + 1 ∧ Hid (ns.Perm ms) ∧ Hid (gq ns n = gq ms n) ∧ Hid (DwnS ms ns n i0 c) ∧ Hid (WqAt B T last M g cap ns W) ∧ Hid (Fb (frQ g ms) w W)) (fun i _ => n - (intOf i).toNat)
  case atStart => exact ⟨i0, ms, rfl, by omega, by omega, by omega, List.Perm.refl _, rfl, HU, H, Fb.refl _ _⟩
  case round =>
    obtain ⟨c, ns, rfl, hc, hnl, hnm, HP, HG, HD, HH, HB⟩ := hrel
    clear H HU
    have hl : ns.length ≤ 5000 := by omega
    obtain ⟨j1, hj1⟩ : ∃ j : Nat, 2 * (c : Int) + 1 = (j : Int) := ⟨2 * c + 1, by omega⟩
    have e1 : 2 * c + 1 = j1 := by omega
    by_cases ha : j1 < n
    · obtain ⟨j2, hj2⟩ : ∃ j : Nat, (j1 : Int) + 1 = (j : Int) := ⟨j1 + 1, by omega⟩
      have e2 : j1 + 1 = j2 := by omega
      have q1 : ¬ (n : Int) ≤ (j1 : Int) := by omega
      have q2 : ¬ (j1 : Int) < 0 := by omega
      by_cases hb : j2 < n
      · have q3 : (j2 : Int) < (n : Int) := by omega
        have hm1 := methI_less B 2 wr _ HH.out.cell
        have hL1 := HH.out.less j2 j1 (by omega) (by omega) hl
        by_cases hx : ltQ (gq ns j2) (gq ns j1)
        · have hbb : ltb (gq ns j2) (gq ns j1) = true := ltb_yes hx
          have HM : Hid (∀ i, 0 < i → i < n → (i - 1) / 2 = c → leQ (gq ns j2) (gq ns i)) := by
            intro i i0 hi hip
            rcases kidsQ i0 hi hip with rfl | rfl
            · rw [e1]; exact leQ_of_lt hx
            · rw [show 2 * c + 2 = j2 by omega]; exact leQ_refl _
          rw [hbb] at hL1
          clear hx hbb HH
          go_wp2_with fail
          refine hL1.mono ?_
          rintro e w1 ⟨rfl, hH1, hB1⟩
          have HB1 := hid (HB.out.tr (hB1.mono fun x hx => (frQ.perm HP.out x).1 hx))
          clear hB1 hL1 hm1
          have hm2 := methI_less B 2 w1 _ hH1.cell
          have hL2 := hH1.less j2 c (by omega) (by omega) hl
          by_cases hy : ltQ (gq ns j2) (gq ns c)
          · have hbb : ltb (gq ns j2) (gq ns c) = true := ltb_yes hy
            have HS : Hid (DwnS ms (swq ns c j2) n i0 j2) := HD.out.step (by omega) (by omega) (by omega) (by omega) HM.out hy
            have HPS : Hid ((swq ns c j2).Perm ms) := (swq_perm (by omega) (by omega)).trans HP.out
            have HGS : Hid (gq (swq ns c j2) n = gq ms n) := by
              unfold Hid
              rw [gq_swq (by omega) (by omega), if_neg (by omega), if_neg (by omega)]
              exact HG.out
            rw [hbb] at hL2
            clear hy hbb hH1
            go_wp2_with fail
            refine hL2.mono ?_
            rintro e w2 ⟨rfl, hH2, hB2⟩
            have hms := methI_swap B 2 w2 _ hH2.cell
            have hS := hH2.swap c j2 (by omega) (by omega) hl
            have HB2 := hid (HB1.out.tr (hB2.mono fun x hx => (frQ.perm HP.out x).1 hx))
            clear hH2 hB2 hL2 hm2
            go_wp2_with fail
            refine hS.mono ?_
            rintro e w3 ⟨rfl, hH3, hB3⟩
            have HH3 := hid hH3
            have HB3 := hid (HB2.out.tr (hB3.mono fun x hx => (frQ.perm HP.out x).1 hx))
            clear hH3 hB3 hS hms
            go_wp2_with fail
            go_round
            case rel => exact ⟨j2, swq ns c j2, rfl, by omega, by rw [swq_len]; omega, by rw [swq_len]; omega, HPS, HGS, HS, HH3, HB3⟩
            case measure => simp [intOf]; omega
          · have hbb : ltb (gq ns j2) (gq ns c) = false := ltb_no hy
            have HE : Hid ((i0 < c → HeapQ ns n) ∧ (¬ i0 < c → ns = ms ∧ UpQ ms n i0)) := HD.out.done (fun i i0 hi hip => leQ_trans hy (HM.out i i0 hi hip))
            rw [hbb] at hL2
            clear hy hbb hH1
            go_wp2_with fail
            refine hL2.mono ?_
            rintro e w2 ⟨rfl, hH2, hB2⟩
            have HH2 := hid hH2
            have HB2 := hid (HB1.out.tr (hB2.mono fun x hx => (frQ.perm HP.out x).1 hx))
            clear hH2 hB2 hL2 hm2
            go_wp2
            go_ret
            exact ⟨c, rfl, ns, HP.out, HG.out, HE.out, HH2.out, HB2.out⟩
        · have hbb : ltb (gq ns j2) (gq ns j1) = false := ltb_no hx
          have HM : Hid (∀ i, 0 < i → i < n → (i - 1) / 2 = c → leQ (gq ns j1) (gq ns i)) := by
            intro i i0 hi hip
            rcases kidsQ i0 hi hip with rfl | rfl
            · rw [e1]; exact leQ_refl _
            · rw [show 2 * c + 2 = j2 by omega]; exact hx
          rw [hbb] at hL1
          clear hx hbb HH
          go_wp2_with fail
          refine hL1.mono ?_
          rintro e w1 ⟨rfl, hH1, hB1⟩
          have HB1 := hid (HB.out.tr (hB1.mono fun x hx => (frQ.perm HP.out x).1 hx))
          clear hB1 hL1 hm1
          have hm2 := methI_less B 2 w1 _ hH1.cell
          have hL2 := hH1.less j1 c (by omega) (by omega) hl
          by_cases hy : ltQ (gq ns j1) (gq ns c)
          · have hbb : ltb (gq ns j1) (gq ns c) = true := ltb_yes hy
            have HS : Hid (DwnS ms (swq ns c j1) n i0 j1) := HD.out.step (by omega) (by omega) (by omega) (by omega) HM.out hy
            have HPS : Hid ((swq ns c j1).Perm ms) := (swq_perm (by omega) (by omega)).trans HP.out
            have HGS : Hid (gq (swq ns c j1) n = gq ms n) := by
              unfold Hid
              rw [gq_swq (by omega) (by omega), if_neg (by omega), if_neg (by omega)]
              exact HG.out
            rw [hbb] at hL2
            clear hy hbb hH1
            go_wp2_with fail
            refine hL2.mono ?_
            rintro e w2 ⟨rfl, hH2, hB2⟩
            have hms := methI_swap B 2 w2 _ hH2.cell
            have hS := hH2.swap c j1 (by omega) (by omega) hl
            have HB2 := hid (HB1.out.tr (hB2.mono fun x hx => (frQ.perm HP.out x).1 hx))
            clear hH2 hB2 hL2 hm2
            go_wp2_with fail
            refine hS.mono ?_
            rintro e w3 ⟨rfl, hH3, hB3⟩
            have HH3 := hid hH3
            have HB3 := hid (HB2.out.tr (hB3.mono fun x hx => (frQ.perm HP.out x).1 hx))
            clear hH3 hB3 hS hms
            go_wp2_with fail
            go_round
            case rel => exact ⟨j1, swq ns c j1, rfl, by omega, by rw [swq_len]; omega, by rw [swq_len]; omega, HPS, HGS, HS, HH3, HB3⟩
            case measure => simp [intOf]; omega
          · have hbb : ltb (gq ns j1) (gq ns c) = false := ltb_no hy
            have HE : Hid ((i0 < c → HeapQ ns n) ∧ (¬ i0 < c → ns = ms ∧ UpQ ms n i0)) := HD.out.done (fun i i0 hi hip => leQ_trans hy (HM.out i i0 hi hip))
            rw [hbb] at hL2
            clear hy hbb hH1
            go_wp2_with fail
            refine hL2.mono ?_
            rintro e w2 ⟨rfl, hH2, hB2⟩
            have HH2 := hid hH2
            have HB2 := hid (HB1.out.tr (hB2.mono fun x hx => (frQ.perm HP.out x).1 hx))
            clear hH2 hB2 hL2 hm2
            go_wp2
            go_ret
            exact ⟨c, rfl, ns, HP.out, HG.out, HE.out, HH2.out, HB2.out⟩
      · have q3 : ¬ (j2 : Int) < (n : Int) := by omega
        have HM : Hid (∀ i, 0 < i → i < n → (i - 1) / 2 = c → leQ (gq ns j1) (gq ns i)) := by
          intro i i0 hi hip
          rcases kidsQ i0 hi hip with rfl | rfl
          · rw [e1]; exact leQ_refl _
          · omega
        have hH1 := HH.out
        have HB1 := hid HB.out
        obtain ⟨w1, hw1⟩ : ∃ w1, w1 = wr := ⟨_, rfl⟩
        subst hw1
        clear HH
        have hm2 := methI_less B 2 w1 _ hH1.cell
        have hL2 := hH1.less j1 c (by omega) (by omega) hl
        by_cases hy : ltQ (gq ns j1) (gq ns c)
        · have hbb : ltb (gq ns j1) (gq ns c) = true := ltb_yes hy
          have HS : Hid (DwnS ms (swq ns c j1) n i0 j1) := HD.out.step (by omega) (by omega) (by omega) (by omega) HM.out hy
          have HPS : Hid ((swq ns c j1).Perm ms) := (swq_perm (by omega) (by omega)).trans HP.out
          have HGS : Hid (gq (swq ns c j1) n = gq ms n) := by
            unfold Hid
            rw [gq_swq (by omega) (by omega), if_neg (by omega), if_neg (by omega)]
            exact HG.out
          rw [hbb] at hL2
          clear hy hbb hH1
          go_wp2_with fail
          refine hL2.mono ?_
          rintro e w2 ⟨rfl, hH2, hB2⟩
          have hms := methI_swap B 2 w2 _ hH2.cell
          have hS := hH2.swap c j1 (by omega) (by omega) hl
          have HB2 := hid (HB1.out.tr (hB2.mono fun x hx => (frQ.perm HP.out x).1 hx))
          clear hH2 hB2 hL2 hm2
          go_wp2_with fail
          refine hS.mono ?_
          rintro e w3 ⟨rfl, hH3, hB3⟩
          have HH3 := hid hH3
          have HB3 := hid (HB2.out.tr (hB3.mono fun x hx => (frQ.perm HP.out x).1 hx))
          clear hH3 hB3 hS hms
          go_wp2_with fail
          go_round
          case rel => exact ⟨j1, swq ns c j1, rfl, by omega, by rw [swq_len]; omega, by rw [swq_len]; omega, HPS, HGS, HS, HH3, HB3⟩
          case measure => simp [intOf]; omega
        · have hbb : ltb (gq ns j1) (gq ns c) = false := ltb_no hy
          have HE : Hid ((i0 < c → HeapQ ns n) ∧ (¬ i0 < c → ns = ms ∧ UpQ ms n i0)) := HD.out.done (fun i i0 hi hip => leQ_trans hy (HM.out i i0 hi hip))
          rw [hbb] at hL2
          clear hy hbb hH1
          go_wp2_with fail
          refine hL2.mono ?_
          rintro e w2 ⟨rfl, hH2, hB2⟩
          have HH2 := hid hH2
          have HB2 := hid (HB1.out.tr (hB2.mono fun x hx => (frQ.perm HP.out x).1 hx))
          clear hH2 hB2 hL2 hm2
          go_wp2
          go_ret
          exact ⟨c, rfl, ns, HP.out, HG.out, HE.out, HH2.out, HB2.out⟩
    · have q1 : (n : Int) ≤ (j1 : Int) := by omega
      have HE : Hid ((i0 < c → HeapQ ns n) ∧ (¬ i0 < c → ns = ms ∧ UpQ ms n i0)) := HD.out.done (fun i i0 hi hip => by rcases kidsQ i0 hi hip with rfl | rfl <;> omega)
      go_wp2
      go_ret
      exact ⟨c, rfl, ns, HP.out, HG.out, HE.out, HH.out, HB.out⟩
end Go.Proofs.Ytdfbnfgemjljgaa
