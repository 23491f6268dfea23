/-
  Contract: the statements' own probe (alive) hands back true.
-/
import Derived.Test.YtlcfjhlchpeedaaNMath
import Derived.Test.YtlcfjhlchpeedaaOnes
namespace Go.Proofs.Ytlcfjhlchpeedaa
open Go.RowKit
open M
set_option linter.unusedVariables false
set_option maxRecDepth 1000000

/-- A Stop of the stream 5. -/
def stop5 : Mg := ⟨3, 5, 0, 0, 0, 0, 0, 0, 0, 0, [], []⟩
theorem stop5_fits : Fits stop5 := by constructor <;> simp [stop5]
theorem stop5_load : loadF stop5 = [3, 5] := by
  have h1 : loadF stop5 = encsZ [3, 5] := rfl
  rw [h1, encsZ_cons, encsZ_cons, encZ_small (by omega) (by omega), encZ_small (by omega) (by omega)]
  rfl
theorem stop5_may : mayA stop5 = true := by decide

set_option maxHeartbeats 4000000 in
theorem alive_any (w : World) : Calls Try.prog 9 #[] w fun e w' => e = .returned (.bool true) ∧ Below w.heap.size w w' := by
  have hL := load_any stop5 ⟨none, 0, 0⟩ ⟨none, 0, 0⟩ w ⟨Reads.nil _ _, Reads.nil _ _, Nat.zero_le _, Nat.zero_le _⟩ stop5_fits
  have HRL := hid (read_load stop5_may stop5_fits)
  unfold LoadOut MV at hL
  rw [stop5_load, stop5_may, show ([3, 5] : List Int).length = 2 from rfl] at hL
  rw [stop5_load] at HRL
  simp only [stop5] at hL
  go_enter Try.func9, Try.ntmps9
  go_wp2_with fail
  refine hL.mono ?_
  rintro x w1 (⟨_, ⟨v1, rfl, how1⟩, hb1⟩ | ⟨h, _⟩)
  · obtain ⟨a1, c1, rfl, hr1⟩ := Reads.own how1
    have hR := read_any a1 _ c1 _ w1 hr1 (bytes_lit rfl) (by simp)
    rw [HRL.out] at hR
    unfold ReadOut MV at hR
    simp only [stop5] at hR
    have HRD := hid hr1
    have HB1 := hid hb1
    clear hL how1 hr1 hb1
    go_wp2_with fail
    refine hR.mono ?_
    rintro x w2 ⟨p, q, rfl, hin, hb2, _⟩
    have HB2 := hid (HB1.out.trans (hb2.mono HB1.out.size))
    have hr3 := HRD.out.below hb2
    clear hR hin HRD HB1
    have cv := fun o => (hr3.below ((Below.refl _ _).alloc (Nat.le_refl _) o)).conv (P := Try.prog) 30 9 5 Try.underlying30 Try.underlying5 Try.underlying9
    rw [show strOfNums [3, 5] = ⟨#[3, 5]⟩ from rfl] at cv
    clear hr3 hb2
    go_wp2
    go_ret
    exact ⟨rfl, HB2.out.alloc HB2.out.size _⟩
  · cases h

end Go.Proofs.Ytlcfjhlchpeedaa
