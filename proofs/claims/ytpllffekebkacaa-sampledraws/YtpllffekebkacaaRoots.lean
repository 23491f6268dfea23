/-
  Contracts: the square root, of the program and of the document, hands back sqrtZ.
-/
import Derived.Test.YtpllffekebkacaaExps
namespace Go.Proofs.Ytpllffekebkacaa
open Go.RowKit
set_option linter.unusedVariables false
set_option maxRecDepth 1000000

theorem rootB_yes {n s : Int} {j : Nat} (h : (s + 2 ^ j) * (s + 2 ^ j) ≤ n) : rootB n (j + 1) s = rootB n j (s + 2 ^ j) := by rw [rootB, if_pos h]
theorem rootB_no {n s : Int} {j : Nat} (h : ¬ (s + 2 ^ j) * (s + 2 ^ j) ≤ n) : rootB n (j + 1) s = rootB n j s := by rw [rootB, if_neg h]
theorem sq_bd {s m : Int} (s0 : 0 ≤ s) (s1 : s ≤ 16777216) (m0 : 0 ≤ m) (m1 : m ≤ 2147483648) : 0 ≤ (s + m) * (s + m) ∧ (s + m) * (s + m) ≤ 2164260864 * 2164260864 :=
  ⟨Int.mul_nonneg (by omega) (by omega), Int.mul_le_mul (by omega) (by omega) (by omega) (by omega)⟩
set_option maxHeartbeats 1000000 in
theorem sqrt_any (x : Int) (w : World) :
    Calls Try.prog 63 #[.int .i64 x] w fun e w' => e = .returned (.int .i64 (sqrtZ x)) ∧ w' = w := by
  have x0 := wi_0 x
  have x1 := wi_1 x
  by_cases hx : x ≤ 0
  · have HZ : Hid (0 = sqrtZ x) := by
      by_cases h0 : wi x < 0
      · rw [sqrtZ_neg h0]; exact rfl
      · have := wi_le hx
        rw [show wi 0 = 0 from rfl] at this
        have e : wi x = 0 := by omega
        unfold sqrtZ; rw [e]; exact (by decide : (0 : Int) = rootB (0 * 65536) 24 0)
    go_enter Try.func63, Try.ntmps63
    go_wp2
    go_ret
    exact ⟨ret_int HZ, rfl⟩
  · obtain ⟨n, hn⟩ : ∃ n, wi x * 65536 = n := ⟨_, rfl⟩
    have n1 : n < 281474976710656 := by omega
    have HZ : Hid (rootB n 24 0 = sqrtZ x) := by unfold sqrtZ; rw [hn]; exact rfl
    go_enter Try.func63, Try.ntmps63
    go_wp2_with fail
    refine (within_any _ _).mono ?_
    rintro e w' ⟨rfl, rfl⟩
    go_wp2
    go_loop [4, 5] (fun v i => ∃ (s : Int) (j : Nat), v = .int .i64 s ∧ i = .int .i64 ((j : Int) - 1) ∧ j ≤ 24 ∧ 0 ≤ s ∧ s ≤ 16777216 ∧ Hid (rootB n j s = sqrtZ x)) (fun _ i => (intOf i + 1).toNat)
    case atStart => exact ⟨_, 24, rfl, rfl, by omega, by omega, by omega, HZ⟩
    case round =>
      obtain ⟨s, j, rfl, rfl, hj, s0, s1, HR⟩ := hrel
      rcases j with _ | j
      · go_wp2
        go_ret
        exact ⟨ret_int HR, rfl⟩
      · obtain ⟨m, hm⟩ : ∃ m : Int, 2 ^ j = m := ⟨_, rfl⟩
        have m0 : 0 < m := by rw [← hm]; exact two_pos _
        have m1 : m ≤ 8388608 := by rw [← hm]; exact two_le (n := 23) (by omega)
        have B := sq_bd s0 s1 (by omega) (show m ≤ 2147483648 by omega)
        have b0 := B.1
        have b1 := B.2
        clear B
        by_cases hq : (s + m) * (s + m) ≤ n
        · have HN : Hid (rootB n j (s + m) = sqrtZ x) := by rw [← HR.out, rootB_yes (by rw [hm]; exact hq), hm]; exact rfl
          have := sq_small hq n1
          go_wp2
          go_round
          case rel => exact ⟨_, j, rfl, by go_num, by omega, by omega, by omega, HN⟩
          case measure => simp [intOf]
        · have HN : Hid (rootB n j s = sqrtZ x) := by rw [← HR.out, rootB_no (by rw [hm]; exact hq)]; exact rfl
          go_wp2
          go_round
          case rel => exact ⟨_, j, rfl, by go_num, by omega, by omega, by omega, HN⟩
          case measure => simp [intOf]
end Go.Proofs.Ytpllffekebkacaa
