/-
  Contracts: sat.Add, sat.Sub and the document's Add and Sub hand back the whole sum or difference, held within the bounds of int64; for all numbers of int64; the world stays as it is.
-/
import Derived.Test.YtoddilpmnoedhaaChecked
import Derived.Test.YtoddilpmnoedhaaMath
import Derived.WalkKit
import Derived.ProofKit
namespace Go.Proofs.Ytoddilpmnoedhaa
open Go.RowKit
open M

theorem ret_int {k : IntKind} {a b : Int} (h : a = b) : Ending.returned (.int k a) = .returned (.int k b) := by rw [h]
theorem ret_bool {a b : Bool} (h : a = b) : Ending.returned (.bool a) = .returned (.bool b) := by rw [h]

set_option maxHeartbeats 400000 in
theorem add_any (a b : Int) (w : World) (a1 : -9223372036854775808 ≤ a) (a2 : a ≤ 9223372036854775807) (b1 : -9223372036854775808 ≤ b) (b2 : b ≤ 9223372036854775807) :
    Calls Try.prog 8 #[.int .i64 a, .int .i64 b] w fun e w' => e = .returned (.int .i64 (clamp (a + b))) ∧ w' = w := by
  rcases (by omega : (0 < b ∧ 9223372036854775807 - b < a) ∨ (0 < b ∧ a ≤ 9223372036854775807 - b) ∨ (b < 0 ∧ a < -9223372036854775808 - b) ∨ (b < 0 ∧ -9223372036854775808 - b ≤ a) ∨ b = 0) with ⟨h1, h2⟩ | ⟨h1, h2⟩ | ⟨h1, h2⟩ | ⟨h1, h2⟩ | h
  case' inr.inr.inr.inr => subst h
  all_goals
    go_enter Try.func8, Try.ntmps8
    go_wp2
    go_ret
    refine ⟨ret_int ?_, rfl⟩
    first | (rw [clamp_hi (by omega)]; done) | (rw [clamp_lo (by omega)]; done) | (rw [clamp_in (by omega) (by omega)]; done) | (rw [clamp_in (by omega) (by omega)]; omega)

set_option maxHeartbeats 400000 in
theorem radd_any (a b : Int) (w : World) (a1 : -9223372036854775808 ≤ a) (a2 : a ≤ 9223372036854775807) (b1 : -9223372036854775808 ≤ b) (b2 : b ≤ 9223372036854775807) :
    Calls Try.prog 9 #[.int .i64 a, .int .i64 b] w fun e w' => e = .returned (.int .i64 (clamp (a + b))) ∧ w' = w := by
  rcases (by omega : (0 < b ∧ 9223372036854775807 - b < a) ∨ (0 < b ∧ a ≤ 9223372036854775807 - b) ∨ (b < 0 ∧ a < -9223372036854775808 - b) ∨ (b < 0 ∧ -9223372036854775808 - b ≤ a) ∨ b = 0) with ⟨h1, h2⟩ | ⟨h1, h2⟩ | ⟨h1, h2⟩ | ⟨h1, h2⟩ | h
  case' inr.inr.inr.inr => subst h
  all_goals
    go_enter Try.func9, Try.ntmps9
    go_wp2
    go_ret
    refine ⟨ret_int ?_, rfl⟩
    first | (rw [clamp_hi (by omega)]; done) | (rw [clamp_lo (by omega)]; done) | (rw [clamp_in (by omega) (by omega)]; done) | (rw [clamp_in (by omega) (by omega)]; omega)

set_option maxHeartbeats 400000 in
theorem sub_any (a b : Int) (w : World) (a1 : -9223372036854775808 ≤ a) (a2 : a ≤ 9223372036854775807) (b1 : -9223372036854775808 ≤ b) (b2 : b ≤ 9223372036854775807) :
    Calls Try.prog 10 #[.int .i64 a, .int .i64 b] w fun e w' => e = .returned (.int .i64 (clamp (a - b))) ∧ w' = w := by
  rcases (by omega : (b < 0 ∧ 9223372036854775807 + b < a) ∨ (b < 0 ∧ a ≤ 9223372036854775807 + b) ∨ (0 < b ∧ a < -9223372036854775808 + b) ∨ (0 < b ∧ -9223372036854775808 + b ≤ a) ∨ b = 0) with ⟨h1, h2⟩ | ⟨h1, h2⟩ | ⟨h1, h2⟩ | ⟨h1, h2⟩ | h
  case' inr.inr.inr.inr => subst h
  all_goals
    go_enter Try.func10, Try.ntmps10
    go_wp2
    go_ret
    refine ⟨ret_int ?_, rfl⟩
    first | (rw [clamp_hi (by omega)]; done) | (rw [clamp_lo (by omega)]; done) | (rw [clamp_in (by omega) (by omega)]; done) | (rw [clamp_in (by omega) (by omega)]; omega)

set_option maxHeartbeats 400000 in
theorem rsub_any (a b : Int) (w : World) (a1 : -9223372036854775808 ≤ a) (a2 : a ≤ 9223372036854775807) (b1 : -9223372036854775808 ≤ b) (b2 : b ≤ 9223372036854775807) :
    Calls Try.prog 11 #[.int .i64 a, .int .i64 b] w fun e w' => e = .returned (.int .i64 (clamp (a - b))) ∧ w' = w := by
  rcases (by omega : (b < 0 ∧ 9223372036854775807 + b < a) ∨ (b < 0 ∧ a ≤ 9223372036854775807 + b) ∨ (0 < b ∧ a < -9223372036854775808 + b) ∨ (0 < b ∧ -9223372036854775808 + b ≤ a) ∨ b = 0) with ⟨h1, h2⟩ | ⟨h1, h2⟩ | ⟨h1, h2⟩ | ⟨h1, h2⟩ | h
  case' inr.inr.inr.inr => subst h
  all_goals
    go_enter Try.func11, Try.ntmps11
    go_wp2
    go_ret
    refine ⟨ret_int ?_, rfl⟩
    first | (rw [clamp_hi (by omega)]; done) | (rw [clamp_lo (by omega)]; done) | (rw [clamp_in (by omega) (by omega)]; done) | (rw [clamp_in (by omega) (by omega)]; omega)

end Go.Proofs.Ytoddilpmnoedhaa
