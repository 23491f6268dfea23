/-
  Contracts: the bounds, sums, products, quotients, whole numbers and whole parts, of the program and of the document.
-/
import Derived.Test.YtecaklehaioohaaMath
namespace Go.Proofs.Ytecaklehaioohaa
open Go.RowKit
set_option linter.unusedVariables false
set_option maxRecDepth 1000000

theorem satwithin_any (n : Int) (w : World) :
    Calls Try.prog 44 #[.int .i64 n, .int .i64 (-2147483648), .int .i64 2147483647] w fun e w' => e = .returned (.int .i64 (wi n)) ∧ w' = w := by
  by_cases h0 : n < -2147483648
  · go_enter Try.func44, Try.ntmps44
    go_wp2
    go_ret
    exact ⟨ret_int (by unfold wi; rw [if_pos h0]), rfl⟩
  · by_cases h1 : n > 2147483647
    · go_enter Try.func44, Try.ntmps44
      go_wp2
      go_ret
      exact ⟨ret_int (by unfold wi; rw [if_neg (by omega), if_pos (by omega)]), rfl⟩
    · go_enter Try.func44, Try.ntmps44
      go_wp2
      go_ret
      exact ⟨ret_int (by unfold wi; rw [if_neg (by omega), if_neg (by omega)]), rfl⟩
theorem between_any (n : Int) (w : World) :
    Calls Try.prog 42 #[.int .i64 n, .int .i64 (-2147483648), .int .i64 2147483647] w fun e w' => e = .returned (.int .i64 (wi n)) ∧ w' = w := by
  go_enter Try.func42, Try.ntmps42
  go_wp2_with fail
  refine (satwithin_any _ _).mono ?_
  rintro e w' ⟨rfl, rfl⟩
  go_wp2
  go_ret
  exact ⟨rfl, rfl⟩
theorem within_any (n : Int) (w : World) : Calls Try.prog 38 #[.int .i64 n] w fun e w' => e = .returned (.int .i64 (wi n)) ∧ w' = w := by
  go_enter Try.func38, Try.ntmps38
  go_wp2_with fail
  refine (between_any _ _).mono ?_
  rintro e w' ⟨rfl, rfl⟩
  go_wp2
  go_ret
  exact ⟨rfl, rfl⟩
theorem rwithin_any (n : Int) (w : World) : Calls Try.prog 32 #[.int .i64 n] w fun e w' => e = .returned (.int .i64 (wi n)) ∧ w' = w := by
  by_cases h0 : n < -2147483648
  · go_enter Try.func32, Try.ntmps32
    go_wp2
    go_ret
    exact ⟨ret_int (by unfold wi; rw [if_pos h0]), rfl⟩
  · by_cases h1 : n > 2147483647
    · go_enter Try.func32, Try.ntmps32
      go_wp2
      go_ret
      exact ⟨ret_int (by unfold wi; rw [if_neg (by omega), if_pos (by omega)]), rfl⟩
    · go_enter Try.func32, Try.ntmps32
      go_wp2
      go_ret
      exact ⟨ret_int (by unfold wi; rw [if_neg (by omega), if_neg (by omega)]), rfl⟩
theorem mul_any (a b : Int) (w : World) : Calls Try.prog 31 #[.int .i64 a, .int .i64 b] w fun e w' => e = .returned (.int .i64 (mulZ a b)) ∧ w' = w := by
  have p := prod_bd a b
  have p0 := p.1
  have p1 := p.2
  clear p
  go_enter Try.func31, Try.ntmps31
  go_wp2_with fail
  refine (within_any _ _).mono ?_
  rintro e w' ⟨rfl, rfl⟩
  go_wp2_with fail
  refine (within_any _ _).mono ?_
  rintro e w' ⟨rfl, rfl⟩
  go_wp2_with fail
  refine (within_any _ _).mono ?_
  rintro e w' ⟨rfl, rfl⟩
  go_wp2
  go_ret
  exact ⟨rfl, rfl⟩
theorem wi_big {n : Int} (h : 2147483647 ≤ n) : wi n = 2147483647 := by unfold wi; split <;> (try split) <;> omega
theorem wi_low {n : Int} (h : n ≤ -2147483648) : wi n = -2147483648 := by unfold wi; split <;> (try split) <;> omega
theorem from_hi {n : Int} (h : n > 65536) : wi (65536 * 65536) = fromZ n := by
  have := wi_le (show 65536 ≤ n by omega)
  rw [show wi 65536 = 65536 from rfl] at this
  rw [fromZ, wi_big (by omega), wi_big (by omega)]
theorem from_lo {n : Int} (h : n < -65536) : wi (-65536 * 65536) = fromZ n := by
  have := wi_le (show n ≤ -65536 by omega)
  rw [show wi (-65536) = -65536 from rfl] at this
  rw [fromZ, wi_low (by omega), wi_low (by omega)]
theorem rby_any (n d : Int) (w : World) (n0 : -4611686018427387904 ≤ n) (n1 : n ≤ 4611686018427387904) (hd : 0 < d) :
    Calls Try.prog 33 #[.int .i64 n, .int .i64 d] w fun e w' => e = .returned (.int .i64 (n / d)) ∧ w' = w := by
  have HQ := hid (quo_pos (n := n) hd)
  have HB := hid (tdiv_bd n d (m := 4611686018427387904) n0 n1)
  by_cases h : n.tmod d < 0
  · have hn : n < 0 := ((tmod_neg_iff hd).mp h).2
    go_enter Try.func33, Try.ntmps33
    go_wp2
    go_ret
    refine ⟨ret_int ?_, rfl⟩
    unfold Hid at HQ HB
    rw [if_pos h] at HQ
    rw [← HQ]
    generalize n.tdiv d = q at *
    unfold wrap64
    omega
  · by_cases hn : n < 0
    · go_enter Try.func33, Try.ntmps33
      go_wp2
      go_ret
      refine ⟨ret_int ?_, rfl⟩
      unfold Hid at HQ HB
      rw [if_neg (by omega)] at HQ
      rw [← HQ]
    · have h2 : 0 ≤ n % d := Int.emod_nonneg n (by omega)
      go_enter Try.func33, Try.ntmps33
      go_wp2
      go_ret
      exact ⟨rfl, rfl⟩
theorem rmul_any (a b : Int) (w : World) : Calls Try.prog 26 #[.int .i64 a, .int .i64 b] w fun e w' => e = .returned (.int .i64 (mulZ a b)) ∧ w' = w := by
  have p := prod_bd a b
  have p0 := p.1
  have p1 := p.2
  clear p
  go_enter Try.func26, Try.ntmps26
  go_wp2_with fail
  refine (rwithin_any _ _).mono ?_
  rintro e w' ⟨rfl, rfl⟩
  go_wp2_with fail
  refine (rwithin_any _ _).mono ?_
  rintro e w' ⟨rfl, rfl⟩
  go_wp2_with fail
  refine (rby_any _ _ _ p0 p1 (by omega)).mono ?_
  rintro e w' ⟨rfl, rfl⟩
  go_wp2_with fail
  refine (rwithin_any _ _).mono ?_
  rintro e w' ⟨rfl, rfl⟩
  go_wp2
  go_ret
  exact ⟨rfl, rfl⟩
end Go.Proofs.Ytecaklehaioohaa
