/-
  Contract: heap.up over a heap of ints.
-/
import Derived.Test.YtdmakboapchhnaaHiOps
namespace Go.Proofs.Ytdmakboapchhnaa
open Go.RowKit
set_option linter.unusedVariables false
set_option maxRecDepth 1000000

set_option maxHeartbeats 1000000 in
theorem qup_any (B o g cap : Nat) (cs : Array Value) (Tb : TypeId) (ms : List Int) (j : Nat) (w : World) (h : HqAt B o g cap cs Tb ms w) (hj : j < ms.length) (hn : ms.length ≤ 1001) (hU : UpI ms ms.length j) :
    Calls Try.prog 28 #[hq B o, .int .i64 j] w fun e w' => e = .returned (.tuple #[]) ∧ (∃ ns, ns.Perm ms ∧ HeapI ns ns.length ∧ HqAt B o g cap cs Tb ns w') ∧ Fb (at2 B g) w w' := by
  have H := hid h
  have HU := hid hU
  clear h hU
  go_enter Try.func28, Try.ntmps28
  go_wp2_with fail
  go_loopw [1] (fun i W => ∃ (k : Nat) (ns : List Int), i = .int .i64 k ∧ k < ns.length ∧ Hid (ns.Perm ms) ∧ Hid (UpI ns ns.length k) ∧ Hid (HqAt B o g cap cs Tb ns W) ∧ Hid (Fb (at2 B g) w W)) (fun i _ => (intOf i).toNat)
  case atStart => exact ⟨j, ms, rfl, hj, List.Perm.refl _, HU, H, Fb.refl _ _⟩
  case round =>
    obtain ⟨k, ns, rfl, hk, HP, HUk, HH, HB⟩ := hrel
    have hl : ns.length ≤ 1001 := by have := HP.out.length_eq; omega
    by_cases h0 : k = 0
    · subst h0
      have HD : Hid (HeapI ns ns.length) := HUk.out.done (fun h => absurd h (by omega))
      go_wp2
      go_end0
      exact ⟨rfl, ⟨ns, HP.out, HD.out, HH.out⟩, HB.out⟩
    · obtain ⟨p, hp⟩ : ∃ p : Nat, ((k : Int) - 1) / 2 = (p : Int) := ⟨(k - 1) / 2, by omega⟩
      have hp' : (k - 1) / 2 = p := by omega
      have hne : ¬ (p : Int) = (k : Int) := by omega
      have hne' : ((p : Int) == (k : Int)) = false := by simpa using hne
      have hml := methI_less B o wr _ HH.out.cell
      have hL := HH.out.less k p hk (by omega) hl
      by_cases hb : ltI (gi ns k) (gi ns p)
      · have hbb : decide (gi ns k < gi ns p) = true := decide_eq_true hb
        have HS : Hid (UpI (swi ns p k) (swi ns p k).length p) := by
          have := HUk.out.step (by omega) hk (Nat.le_refl _) (by rw [hp']; exact hb)
          rw [hp'] at this
          rw [swi_len]
          exact this
        have HPS : Hid ((swi ns p k).Perm ms) := (swi_perm (by omega) hk).trans HP.out
        rw [hbb] at hL
        clear hb hbb HH
        go_wp2_with fail
        refine hL.mono ?_
        rintro e w2 ⟨rfl, hH2, hB2⟩
        have hms := methI_swap B o w2 _ hH2.cell
        have hS := hH2.swap p k (by omega) hk hl
        have HB2 := hid (HB.out.tr hB2)
        clear hH2 hB2 hL hml
        go_wp2_with fail
        refine hS.mono ?_
        rintro e w3 ⟨rfl, hH3, hB3⟩
        have HH3 := hid hH3
        have HB3 := hid (HB2.out.tr hB3)
        clear hH3 hB3 hS hms
        go_wp2_with fail
        go_round
        case rel => exact ⟨p, swi ns p k, rfl, by rw [swi_len]; omega, HPS, HS, HH3, HB3⟩
        case measure => simp [intOf]; omega
      · have hbb : decide (gi ns k < gi ns p) = false := decide_eq_false hb
        have HD : Hid (HeapI ns ns.length) := HUk.out.done (fun _ => by rw [hp']; exact hb)
        rw [hbb] at hL
        clear hb hbb HH
        go_wp2_with fail
        refine hL.mono ?_
        rintro e w2 ⟨rfl, hH2, hB2⟩
        have HH2 := hid hH2
        have HB2 := hid (HB.out.tr hB2)
        clear hH2 hB2 hL hml
        go_wp2
        go_end0
        exact ⟨rfl, ⟨ns, HP.out, HD.out, HH2.out⟩, HB2.out⟩
end Go.Proofs.Ytdmakboapchhnaa
