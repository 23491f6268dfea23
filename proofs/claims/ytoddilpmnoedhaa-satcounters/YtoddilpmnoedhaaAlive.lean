/-
  Contract: the statements' own probe (alive) hands back true, and nothing that was there in memory turns.
-/
import Derived.Test.YtoddilpmnoedhaaMuls
import Derived.Test.YtoddilpmnoedhaaCounts
namespace Go.Proofs.Ytoddilpmnoedhaa
open Go.RowKit
open M
set_option linter.unusedVariables false

set_option maxHeartbeats 400000 in
theorem alive_any (w : World) : Calls Try.prog 12 #[] w fun e w' => e = .returned (.bool true) ∧ Below w.heap.size w w' := by
  have hA := add_any 9223372036854775807 1 w (by omega) (by omega) (by omega) (by omega)
  rw [clamp_hi (by omega)] at hA
  have hM := mul_any (-4611686018427387904) 4 w (by omega) (by omega) (by omega) (by omega)
  rw [clamp_lo (by omega)] at hM
  have hS := sub_any 5 3 w (by omega) (by omega) (by omega) (by omega)
  rw [clamp_in (by omega) (by omega)] at hS
  have hU := fun w => up_any 0 3 9 w (by omega) (by omega) (by omega) (by omega) (by omega)
  rw [show upV 0 3 9 = 3 from by decide] at hU
  go_enter Try.func12, Try.ntmps12
  go_wp2_with fail
  refine hA.mono ?_
  rintro e w' ⟨rfl, rfl⟩
  go_wp2_with fail
  refine hM.mono ?_
  rintro e w' ⟨rfl, rfl⟩
  go_wp2_with fail
  refine hS.mono ?_
  rintro e w' ⟨rfl, rfl⟩
  clear hA hM hS
  go_wp2_with fail
  refine (new_any _ _).mono ?_
  rintro e w1 ⟨rfl, b1⟩
  go_wp2_with fail
  refine (hU _).mono ?_
  rintro e w2 ⟨rfl, b2⟩
  go_wp2_with fail
  refine (n_any _ _ _).mono ?_
  rintro e w3 ⟨rfl, b3⟩
  go_wp2
  go_ret
  exact ⟨rfl, (b1.trans (b2.mono b1.size)).trans (b3.mono (Nat.le_trans b1.size b2.size))⟩

end Go.Proofs.Ytoddilpmnoedhaa
