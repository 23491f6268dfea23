/-
  Contracts: sat.Mul and the document's Mul hand back the whole product, held within the bounds of int64; for all numbers of int64; the world stays as it is.
-/
import Derived.Test.YtoddilpmnoedhaaAdds
namespace Go.Proofs.Ytoddilpmnoedhaa
open Go.RowKit
open M
set_option linter.unusedVariables false

theorem div_pp (a b : Int) (hb : 0 < b) : decide (9223372036854775807 / b < a) = decide (9223372036854775807 < a * b) := by
  rw [decide_eq_decide]; exact Int.ediv_lt_iff_lt_mul hb

theorem div_nn (a b : Int) (hb : b < 0) : decide (a < wrap64 (Int.tdiv 9223372036854775807 b)) = decide (9223372036854775807 < a * b) := by
  rw [decide_eq_decide]
  have e : Int.tdiv 9223372036854775807 b = -(9223372036854775807 / (-b)) := by
    rw [← Int.tdiv_eq_ediv_of_nonneg (by omega), Int.tdiv_neg, Int.neg_neg]
  have hq := @Int.ediv_lt_iff_lt_mul 9223372036854775807 (-a) (-b) (by omega)
  have h0 : 0 ≤ (9223372036854775807 : Int) / (-b) := Int.ediv_nonneg (by omega) (by omega)
  have h1 : (9223372036854775807 : Int) / (-b) ≤ 9223372036854775807 := Int.ediv_le_self _ (by omega)
  rw [Int.neg_mul_neg] at hq
  rw [e, IntWalk.wrap64_in _ (by omega)]
  omega

theorem div_pn (a b : Int) (ha : 0 < a) : decide (b < wrap64 (-Int.tdiv 9223372036854775808 a)) = decide (a * b < -9223372036854775808) := by
  rw [decide_eq_decide]
  have e : Int.tdiv 9223372036854775808 a = 9223372036854775808 / a := Int.tdiv_eq_ediv_of_nonneg (by omega)
  have hq := @Int.ediv_lt_iff_lt_mul 9223372036854775808 (-b) a ha
  have h0 : 0 ≤ (9223372036854775808 : Int) / a := Int.ediv_nonneg (by omega) (by omega)
  have h1 : (9223372036854775808 : Int) / a ≤ 9223372036854775808 := Int.ediv_le_self _ (by omega)
  have h2 : -b * a = -(a * b) := by rw [Int.neg_mul, Int.mul_comm]
  rw [h2] at hq
  rw [e, IntWalk.wrap64_in _ (by omega)]
  omega

theorem mul_sign (a b : Int) : (0 < a → 0 < b → 0 < a * b) ∧ (a < 0 → b < 0 → 0 < a * b) ∧ (0 < a → b < 0 → a * b < 0) ∧ (a < 0 → 0 < b → a * b < 0) :=
  ⟨Int.mul_pos, Int.mul_pos_of_neg_of_neg, Int.mul_neg_of_pos_of_neg, Int.mul_neg_of_neg_of_pos⟩

set_option maxHeartbeats 400000 in
theorem above_any (a b : Int) (w : World) (a1 : -9223372036854775808 ≤ a) (a2 : a ≤ 9223372036854775807) (b1 : -9223372036854775808 ≤ b) (b2 : b ≤ 9223372036854775807) :
    Calls Try.prog 24 #[.int .i64 a, .int .i64 b] w fun e w' => e = .returned (.bool (decide (9223372036854775807 < a * b))) ∧ w' = w := by
  rcases (by omega : (0 < a ∧ 0 < b) ∨ (a < 0 ∧ b < 0) ∨ (0 < a ∧ b ≤ 0) ∨ (a < 0 ∧ 0 ≤ b) ∨ a = 0) with ⟨h1, h2⟩ | ⟨h1, h2⟩ | ⟨h1, h2⟩ | ⟨h1, h2⟩ | rfl
  all_goals
    go_enter Try.func24, Try.ntmps24
    go_wp2
    go_ret
    refine ⟨ret_bool ?_, rfl⟩
  · exact div_pp a b h2
  · exact div_nn a b h2
  · exact (decide_eq_false (by have := Int.mul_nonpos_of_nonneg_of_nonpos (Int.le_of_lt h1) h2; omega)).symm
  · exact (decide_eq_false (by have := Int.mul_nonpos_of_nonpos_of_nonneg (Int.le_of_lt h1) h2; omega)).symm
  · exact (decide_eq_false (by omega)).symm

set_option maxHeartbeats 400000 in
theorem below_any (a b : Int) (w : World) (a1 : -9223372036854775808 ≤ a) (a2 : a ≤ 9223372036854775807) (b1 : -9223372036854775808 ≤ b) (b2 : b ≤ 9223372036854775807) :
    Calls Try.prog 25 #[.int .i64 a, .int .i64 b] w fun e w' => e = .returned (.bool (decide (a * b < -9223372036854775808))) ∧ w' = w := by
  rcases (by omega : (0 < a ∧ b < 0) ∨ (a < 0 ∧ 0 < b) ∨ (0 < a ∧ 0 ≤ b) ∨ (a < 0 ∧ b ≤ 0) ∨ a = 0) with ⟨h1, h2⟩ | ⟨h1, h2⟩ | ⟨h1, h2⟩ | ⟨h1, h2⟩ | rfl
  all_goals
    go_enter Try.func25, Try.ntmps25
    go_wp2
    go_ret
    refine ⟨ret_bool ?_, rfl⟩
  · exact div_pn a b h1
  · rw [Int.mul_comm]; exact div_pn b a h2
  · exact (decide_eq_false (by have := Int.mul_nonneg (Int.le_of_lt h1) h2; omega)).symm
  · exact (decide_eq_false (by have := Int.mul_nonneg_of_nonpos_of_nonpos (Int.le_of_lt h1) h2; omega)).symm
  · exact (decide_eq_false (by omega)).symm

set_option maxHeartbeats 400000 in
theorem mul_any (a b : Int) (w : World) (a1 : -9223372036854775808 ≤ a) (a2 : a ≤ 9223372036854775807) (b1 : -9223372036854775808 ≤ b) (b2 : b ≤ 9223372036854775807) :
    Calls Try.prog 13 #[.int .i64 a, .int .i64 b] w fun e w' => e = .returned (.int .i64 (clamp (a * b))) ∧ w' = w := by
  have hA := above_any a b w a1 a2 b1 b2
  have hB := below_any a b w a1 a2 b1 b2
  rcases (by omega : (9223372036854775807 < a * b) ∨ (a * b < -9223372036854775808) ∨ (-9223372036854775808 ≤ a * b ∧ a * b ≤ 9223372036854775807)) with h | h | ⟨h, h'⟩
  · rw [decide_eq_true h] at hA
    go_enter Try.func13, Try.ntmps13
    go_wp2_with (go_at_call 24; refine hA.mono ?_; rintro e w' ⟨rfl, rfl⟩)
    go_ret
    exact ⟨ret_int (clamp_hi (by omega)).symm, rfl⟩
  · rw [decide_eq_false (by omega)] at hA
    rw [decide_eq_true h] at hB
    go_enter Try.func13, Try.ntmps13
    go_wp2_with (first | (go_at_call 24; refine hA.mono ?_; rintro e w' ⟨rfl, rfl⟩) | (go_at_call 25; refine hB.mono ?_; rintro e w' ⟨rfl, rfl⟩))
    go_ret
    exact ⟨ret_int (clamp_lo (by omega)).symm, rfl⟩
  · rw [decide_eq_false (by omega)] at hA
    rw [decide_eq_false (by omega)] at hB
    go_enter Try.func13, Try.ntmps13
    go_wp2_with (first | (go_at_call 24; refine hA.mono ?_; rintro e w' ⟨rfl, rfl⟩) | (go_at_call 25; refine hB.mono ?_; rintro e w' ⟨rfl, rfl⟩))
    go_ret
    exact ⟨ret_int (clamp_in (by omega) (by omega)).symm, rfl⟩

set_option maxHeartbeats 400000 in
theorem size_neg (a : Int) (w : World) (a1 : a < 0) (a2 : -9223372036854775808 ≤ a) :
    Calls Try.prog 26 #[.int .i64 a] w fun e w' => e = .returned (.int .u64 (-a)) ∧ w' = w := by
  go_enter Try.func26, Try.ntmps26
  go_wp2
  go_ret
  exact ⟨ret_int (by omega), rfl⟩

set_option maxHeartbeats 400000 in
theorem size_pos (a : Int) (w : World) (a1 : 0 ≤ a) (a2 : a ≤ 9223372036854775807) :
    Calls Try.prog 26 #[.int .i64 a] w fun e w' => e = .returned (.int .u64 a) ∧ w' = w := by
  go_enter Try.func26, Try.ntmps26
  go_wp2
  go_ret
  exact ⟨ret_int rfl, rfl⟩


set_option maxHeartbeats 400000 in
theorem rmul_same (a b x y : Int) (w : World) (hA : Calls Try.prog 26 #[.int .i64 a] w fun e w' => e = .returned (.int .u64 x) ∧ w' = w) (hB : Calls Try.prog 26 #[.int .i64 b] w fun e w' => e = .returned (.int .u64 y) ∧ w' = w)
    (x1 : 0 < x) (x2 : x ≤ 9223372036854775808) (y1 : 0 < y) (y2 : y ≤ 9223372036854775808) (e1 : (a == 0) = false) (e2 : (b == 0) = false) (hd : (!(decide (a < 0) == decide (b < 0))) = false) :
    Calls Try.prog 14 #[.int .i64 a, .int .i64 b] w fun e w' => e = .returned (.int .i64 (clamp (x * y))) ∧ w' = w := by
  have hp := Int.mul_pos x1 y1
  have hq := @Int.ediv_lt_iff_lt_mul 9223372036854775807 x y y1
  by_cases h : 9223372036854775807 / y < x
  · have h2 := hq.mp h
    clear hq
    go_enter Try.func14, Try.ntmps14
    go_wp2_with fail
    refine hA.mono ?_
    rintro e w' ⟨rfl, rfl⟩
    go_wp2_with fail
    refine hB.mono ?_
    rintro e w' ⟨rfl, rfl⟩
    go_wp2
    go_ret
    exact ⟨ret_int (clamp_hi (by omega)).symm, rfl⟩
  · have h2 : x * y ≤ 9223372036854775807 := by omega
    clear hq
    go_enter Try.func14, Try.ntmps14
    go_wp2_with fail
    refine hA.mono ?_
    rintro e w' ⟨rfl, rfl⟩
    go_wp2_with fail
    refine hB.mono ?_
    rintro e w' ⟨rfl, rfl⟩
    go_wp2
    go_ret
    exact ⟨ret_int (clamp_in (by omega) (by omega)).symm, rfl⟩

set_option maxHeartbeats 400000 in
theorem rmul_diff (a b x y : Int) (w : World) (hA : Calls Try.prog 26 #[.int .i64 a] w fun e w' => e = .returned (.int .u64 x) ∧ w' = w) (hB : Calls Try.prog 26 #[.int .i64 b] w fun e w' => e = .returned (.int .u64 y) ∧ w' = w)
    (x1 : 0 < x) (x2 : x ≤ 9223372036854775808) (y1 : 0 < y) (y2 : y ≤ 9223372036854775808) (e1 : (a == 0) = false) (e2 : (b == 0) = false) (hd : (!(decide (a < 0) == decide (b < 0))) = true) :
    Calls Try.prog 14 #[.int .i64 a, .int .i64 b] w fun e w' => e = .returned (.int .i64 (clamp (-(x * y)))) ∧ w' = w := by
  have hp := Int.mul_pos x1 y1
  have hq := @Int.ediv_lt_iff_lt_mul 9223372036854775808 x y y1
  by_cases h : 9223372036854775808 / y < x
  · have h2 := hq.mp h
    clear hq
    go_enter Try.func14, Try.ntmps14
    go_wp2_with fail
    refine hA.mono ?_
    rintro e w' ⟨rfl, rfl⟩
    go_wp2_with fail
    refine hB.mono ?_
    rintro e w' ⟨rfl, rfl⟩
    go_wp2
    go_ret
    exact ⟨ret_int (clamp_lo (by omega)).symm, rfl⟩
  · have h2 : x * y ≤ 9223372036854775808 := by omega
    clear hq
    go_enter Try.func14, Try.ntmps14
    go_wp2_with fail
    refine hA.mono ?_
    rintro e w' ⟨rfl, rfl⟩
    go_wp2_with fail
    refine hB.mono ?_
    rintro e w' ⟨rfl, rfl⟩
    go_wp2
    go_ret
    exact ⟨ret_int (by rw [clamp_in (by omega) (by omega)]; omega), rfl⟩

set_option maxHeartbeats 400000 in
theorem rmul_zero (a b : Int) (w : World) (h : a = 0 ∨ b = 0) :
    Calls Try.prog 14 #[.int .i64 a, .int .i64 b] w fun e w' => e = .returned (.int .i64 (clamp (a * b))) ∧ w' = w := by
  by_cases ha : a = 0
  · subst ha
    go_enter Try.func14, Try.ntmps14
    go_wp2
    go_ret
    exact ⟨ret_int (by simp [clamp]), rfl⟩
  · have hb : b = 0 := by omega
    subst hb
    have e1 : (a == 0) = false := by simpa using ha
    clear h
    go_enter Try.func14, Try.ntmps14
    go_wp2
    go_ret
    exact ⟨ret_int (by simp [clamp]), rfl⟩

theorem rmul_any (a b : Int) (w : World) (a1 : -9223372036854775808 ≤ a) (a2 : a ≤ 9223372036854775807) (b1 : -9223372036854775808 ≤ b) (b2 : b ≤ 9223372036854775807) :
    Calls Try.prog 14 #[.int .i64 a, .int .i64 b] w fun e w' => e = .returned (.int .i64 (clamp (a * b))) ∧ w' = w := by
  by_cases hz : a = 0 ∨ b = 0
  · exact rmul_zero a b w hz
  have e1 : (a == 0) = false := by simp; omega
  have e2 : (b == 0) = false := by simp; omega
  rcases (by omega : (0 < a ∧ 0 < b) ∨ (a < 0 ∧ b < 0) ∨ (0 < a ∧ b < 0) ∨ (a < 0 ∧ 0 < b)) with ⟨h1, h2⟩ | ⟨h1, h2⟩ | ⟨h1, h2⟩ | ⟨h1, h2⟩
  · exact rmul_same a b a b w (size_pos a w (by omega) a2) (size_pos b w (by omega) b2) h1 (by omega) h2 (by omega) e1 e2 (by rw [decide_eq_false (by omega), decide_eq_false (by omega)]; rfl)
  · have h := rmul_same a b (-a) (-b) w (size_neg a w h1 a1) (size_neg b w h2 b1) (by omega) (by omega) (by omega) (by omega) e1 e2 (by rw [decide_eq_true h1, decide_eq_true h2]; rfl)
    rw [Int.neg_mul_neg] at h
    exact h
  · have h := rmul_diff a b a (-b) w (size_pos a w (by omega) a2) (size_neg b w h2 b1) h1 (by omega) (by omega) (by omega) e1 e2 (by rw [decide_eq_false (by omega), decide_eq_true h2]; rfl)
    rw [Int.mul_neg, Int.neg_neg] at h
    exact h
  · have h := rmul_diff a b (-a) b w (size_neg a w h1 a1) (size_pos b w (by omega) b2) (by omega) (by omega) h2 (by omega) e1 e2 (by rw [decide_eq_true h1, decide_eq_false (by omega)]; rfl)
    rw [Int.neg_mul, Int.neg_neg] at h
    exact h

end Go.Proofs.Ytoddilpmnoedhaa
