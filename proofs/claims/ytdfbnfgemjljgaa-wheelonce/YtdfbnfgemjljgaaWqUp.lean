/-
  Contract: heap.up over a queue.
-/
import Derived.Test.YtdfbnfgemjljgaaWqOps
namespace Go.Proofs.Ytdfbnfgemjljgaa
open Go.RowKit
set_option linter.unusedVariables false
set_option maxRecDepth 1000000

set_option maxHeartbeats 1000000 in
theorem wup_any (B : Nat) (T last : Int) (M g cap n : Nat) (ms : List Qe) (j : Nat) (w : World) (h : WqAt B T last M g cap ms w) (hj : j < n) (hnl : n ≤ ms.length) (hn : ms.length ≤ 5000) (hU : UpQ ms n j) :
    Calls Try.prog 34 #[hq B 2, .int .i64 j] w fun e w' => e = .returned (.tuple #[]) ∧ (∃ ns, ns.Perm ms ∧ (∀ k, n ≤ k → gq ns k = gq ms k) ∧ HeapQ ns n ∧ WqAt B T last M g cap ns w') ∧ Fb (frQ g ms) w w' := by
  have H := hid h
  have HU := hid hU
  clear h hU
  go_enter Try.func34, Try.ntmps34
  go_wp2_with fail
  go_loopw [1] (fun i W => ∃ (k : Nat) (ns : List Qe), i = .int .i64 k ∧ k < n ∧ Hid (ns.Perm ms ∧ ∀ k, n ≤ k → gq ns k = gq ms k) ∧ Hid (UpQ ns n k) ∧ Hid (WqAt B T last M g cap ns W) ∧ Hid (Fb (frQ g ms) w W)) (fun i _ => (intOf i).toNat)
  case atStart => exact ⟨j, ms, rfl, hj, ⟨List.Perm.refl _, fun _ _ => rfl⟩, HU, H, Fb.refl _ _⟩
  case round =>
    obtain ⟨k, ns, rfl, hk, HP, HUk, HH, HB⟩ := hrel
    have hl : ns.length ≤ 5000 := by have := HP.out.1.length_eq; omega
    have hnl2 : n ≤ ns.length := by have := HP.out.1.length_eq; omega
    have hkl : k < ns.length := by omega
    by_cases h0 : k = 0
    · subst h0
      have HD : Hid (HeapQ ns n) := HUk.out.done (fun h => absurd h (by omega))
      go_wp2
      go_end0
      exact ⟨rfl, ⟨ns, HP.out.1, HP.out.2, HD.out, HH.out⟩, HB.out⟩
    · obtain ⟨p, hp⟩ : ∃ p : Nat, ((k : Int) - 1) / 2 = (p : Int) := ⟨(k - 1) / 2, by omega⟩
      have hp' : (k - 1) / 2 = p := by omega
      have hne : ¬ (p : Int) = (k : Int) := by omega
      have hne' : ((p : Int) == (k : Int)) = false := by simpa using hne
      have hml := methI_less B 2 wr _ HH.out.cell
      have hL := HH.out.less k p hkl (by omega) hl
      by_cases hb : ltQ (gq ns k) (gq ns p)
      · have hbb : ltb (gq ns k) (gq ns p) = true := ltb_yes hb
        have HS : Hid (UpQ (swq ns p k) n p) := by
          have := HUk.out.step (by omega) hk (by omega) (by rw [hp']; exact hb)
          rw [hp'] at this
          exact this
        have HPS : Hid ((swq ns p k).Perm ms ∧ ∀ m, n ≤ m → gq (swq ns p k) m = gq ms m) := ⟨(swq_perm (by omega) hkl).trans HP.out.1, fun m hm => by rw [gq_swq (by omega) hkl, if_neg (by omega), if_neg (by omega)]; exact HP.out.2 m hm⟩
        rw [hbb] at hL
        clear hb hbb HH
        go_wp2_with fail
        refine hL.mono ?_
        rintro e w2 ⟨rfl, hH2, hB2⟩
        have hms := methI_swap B 2 w2 _ hH2.cell
        have hS := hH2.swap p k (by omega) hkl hl
        have HB2 := hid (HB.out.tr (hB2.mono fun x hx => (frQ.perm HP.out.1 x).1 hx))
        clear hH2 hB2 hL hml
        go_wp2_with fail
        refine hS.mono ?_
        rintro e w3 ⟨rfl, hH3, hB3⟩
        have HH3 := hid hH3
        have HB3 := hid (HB2.out.tr (hB3.mono fun x hx => (frQ.perm HP.out.1 x).1 hx))
        clear hH3 hB3 hS hms
        go_wp2_with fail
        go_round
        case rel => exact ⟨p, swq ns p k, rfl, by omega, HPS, HS, HH3, HB3⟩
        case measure => simp [intOf]; omega
      · have hbb : ltb (gq ns k) (gq ns p) = false := ltb_no hb
        have HD : Hid (HeapQ ns n) := HUk.out.done (fun _ => by rw [hp']; exact hb)
        rw [hbb] at hL
        clear hb hbb HH
        go_wp2_with fail
        refine hL.mono ?_
        rintro e w2 ⟨rfl, hH2, hB2⟩
        have HH2 := hid hH2
        have HB2 := hid (HB.out.tr (hB2.mono fun x hx => (frQ.perm HP.out.1 x).1 hx))
        clear hH2 hB2 hL hml
        go_wp2
        go_end0
        exact ⟨rfl, ⟨ns, HP.out.1, HP.out.2, HD.out, HH2.out⟩, HB2.out⟩
end Go.Proofs.Ytdfbnfgemjljgaa
