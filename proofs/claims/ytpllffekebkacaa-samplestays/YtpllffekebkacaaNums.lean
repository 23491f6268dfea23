/-
  Contracts: the bounds, sums, products, quotients, whole numbers and whole parts, of the program and of the document.
-/
import Derived.Test.YtpllffekebkacaaMath
namespace Go.Proofs.Ytpllffekebkacaa
open Go.RowKit
set_option linter.unusedVariables false
set_option maxRecDepth 1000000

theorem satwithin_any (n : Int) (w : World) :
    Calls Try.prog 89 #[.int .i64 n, .int .i64 (-2147483648), .int .i64 2147483647] w fun e w' => e = .returned (.int .i64 (wi n)) ∧ w' = w := by
  by_cases h0 : n < -2147483648
  · go_enter Try.func89, Try.ntmps89
    go_wp2
    go_ret
    exact ⟨ret_int (by unfold wi; rw [if_pos h0]), rfl⟩
  · by_cases h1 : n > 2147483647
    · go_enter Try.func89, Try.ntmps89
      go_wp2
      go_ret
      exact ⟨ret_int (by unfold wi; rw [if_neg (by omega), if_pos (by omega)]), rfl⟩
    · go_enter Try.func89, Try.ntmps89
      go_wp2
      go_ret
      exact ⟨ret_int (by unfold wi; rw [if_neg (by omega), if_neg (by omega)]), rfl⟩
theorem between_any (n : Int) (w : World) :
    Calls Try.prog 75 #[.int .i64 n, .int .i64 (-2147483648), .int .i64 2147483647] w fun e w' => e = .returned (.int .i64 (wi n)) ∧ w' = w := by
  go_enter Try.func75, Try.ntmps75
  go_wp2_with fail
  refine (satwithin_any _ _).mono ?_
  rintro e w' ⟨rfl, rfl⟩
  go_wp2
  go_ret
  exact ⟨rfl, rfl⟩
theorem within_any (n : Int) (w : World) : Calls Try.prog 46 #[.int .i64 n] w fun e w' => e = .returned (.int .i64 (wi n)) ∧ w' = w := by
  go_enter Try.func46, Try.ntmps46
  go_wp2_with fail
  refine (between_any _ _).mono ?_
  rintro e w' ⟨rfl, rfl⟩
  go_wp2
  go_ret
  exact ⟨rfl, rfl⟩
theorem rwithin_any (n : Int) (w : World) : Calls Try.prog 49 #[.int .i64 n] w fun e w' => e = .returned (.int .i64 (wi n)) ∧ w' = w := by
  by_cases h0 : n < -2147483648
  · go_enter Try.func49, Try.ntmps49
    go_wp2
    go_ret
    exact ⟨ret_int (by unfold wi; rw [if_pos h0]), rfl⟩
  · by_cases h1 : n > 2147483647
    · go_enter Try.func49, Try.ntmps49
      go_wp2
      go_ret
      exact ⟨ret_int (by unfold wi; rw [if_neg (by omega), if_pos (by omega)]), rfl⟩
    · go_enter Try.func49, Try.ntmps49
      go_wp2
      go_ret
      exact ⟨ret_int (by unfold wi; rw [if_neg (by omega), if_neg (by omega)]), rfl⟩
theorem add_any (a b : Int) (w : World) : Calls Try.prog 55 #[.int .i64 a, .int .i64 b] w fun e w' => e = .returned (.int .i64 (addZ a b)) ∧ w' = w := by
  have a0 := wi_0 a
  have a1 := wi_1 a
  have b0 := wi_0 b
  have b1 := wi_1 b
  go_enter Try.func55, Try.ntmps55
  go_wp2_with fail
  refine (within_any _ _).mono ?_
  rintro e w' ⟨rfl, rfl⟩
  go_wp2_with fail
  refine (within_any _ _).mono ?_
  rintro e w' ⟨rfl, rfl⟩
  go_wp2_with fail
  refine (within_any _ _).mono ?_
  rintro e w' ⟨rfl, rfl⟩
  go_wp2
  go_ret
  exact ⟨rfl, rfl⟩
theorem mul_any (a b : Int) (w : World) : Calls Try.prog 23 #[.int .i64 a, .int .i64 b] w fun e w' => e = .returned (.int .i64 (mulZ a b)) ∧ w' = w := by
  have p := prod_bd a b
  have p0 := p.1
  have p1 := p.2
  clear p
  go_enter Try.func23, Try.ntmps23
  go_wp2_with fail
  refine (within_any _ _).mono ?_
  rintro e w' ⟨rfl, rfl⟩
  go_wp2_with fail
  refine (within_any _ _).mono ?_
  rintro e w' ⟨rfl, rfl⟩
  go_wp2_with fail
  refine (within_any _ _).mono ?_
  rintro e w' ⟨rfl, rfl⟩
  go_wp2
  go_ret
  exact ⟨rfl, rfl⟩
theorem by_any (a b : Int) (w : World) (n0 : -4611686018427387904 ≤ a) (n1 : a ≤ 4611686018427387904) (hb : b ≠ 0) :
    Calls Try.prog 52 #[.int .i64 a, .int .i64 b] w fun e w' => e = .returned (.int .i64 (byZ a b)) ∧ w' = w := by
  have HB := hid (tdiv_bd a b (m := 4611686018427387904) n0 n1)
  by_cases ha : a < 0
  · by_cases h : a.tmod b = 0
    · have HQ := hid (quo_0 hb h)
      go_enter Try.func52, Try.ntmps52
      go_wp2
      go_ret
      refine ⟨ret_int ?_, rfl⟩
      unfold Hid at HQ HB
      rw [← HQ]
      generalize a.tdiv b = q at *
      unfold wrap64
      omega
    · by_cases hb' : b < 0
      · have HQ := hid (quo_like (a := a) hb (by omega))
        go_enter Try.func52, Try.ntmps52
        go_wp2
        go_ret
        refine ⟨ret_int ?_, rfl⟩
        unfold Hid at HQ HB
        rw [← HQ]
        generalize a.tdiv b = q at *
        unfold wrap64
        omega
      · have HQ := hid (quo_unlike hb h (by omega))
        go_enter Try.func52, Try.ntmps52
        go_wp2
        go_ret
        refine ⟨ret_int ?_, rfl⟩
        unfold Hid at HQ HB
        rw [← HQ]
        generalize a.tdiv b = q at *
        unfold wrap64
        omega
  · have e2 : a.tmod b = a % b := Int.tmod_eq_emod_of_nonneg (by omega)
    by_cases hb' : b < 0
    · by_cases h : a % b = 0
      · have HQ := hid (quo_0 hb (by rw [e2]; exact h))
        clear e2
        go_enter Try.func52, Try.ntmps52
        go_wp2
        go_ret
        refine ⟨ret_int ?_, rfl⟩
        unfold Hid at HQ HB
        rw [← HQ]
        generalize a.tdiv b = q at *
        unfold wrap64
        omega
      · have HQ := hid (quo_unlike hb (by rw [e2]; exact h) (by omega))
        clear e2
        go_enter Try.func52, Try.ntmps52
        go_wp2
        go_ret
        refine ⟨ret_int ?_, rfl⟩
        unfold Hid at HQ HB
        rw [← HQ]
        generalize a.tdiv b = q at *
        unfold wrap64
        omega
    · have HQ : Hid (a / b = byZ a b) := by unfold byZ; rw [if_neg hb']; exact rfl
      clear e2
      by_cases h : a % b = 0
      · go_enter Try.func52, Try.ntmps52
        go_wp2
        go_ret
        exact ⟨ret_int HQ, rfl⟩
      · go_enter Try.func52, Try.ntmps52
        go_wp2
        go_ret
        exact ⟨ret_int HQ, rfl⟩
theorem far_any (a : Int) (w : World) : Calls Try.prog 51 #[.int .i64 a] w fun e w' => e = .returned (.int .i64 (farZ a)) ∧ w' = w := by
  by_cases h0 : a > 0
  · go_enter Try.func51, Try.ntmps51
    go_wp2
    go_ret
    exact ⟨ret_int (by unfold farZ; rw [if_pos (by omega)]), rfl⟩
  · by_cases h1 : a < 0
    · go_enter Try.func51, Try.ntmps51
      go_wp2
      go_ret
      exact ⟨ret_int (by unfold farZ; rw [if_neg (by omega), if_pos (by omega)]), rfl⟩
    · go_enter Try.func51, Try.ntmps51
      go_wp2
      go_ret
      exact ⟨ret_int (by unfold farZ; rw [if_neg (by omega), if_neg (by omega)]), rfl⟩
theorem from_any (n : Int) (w : World) : Calls Try.prog 24 #[.int .i64 n] w fun e w' => e = .returned (.int .i64 (fromZ n)) ∧ w' = w := by
  have p0 := wi_0 n
  have p1 := wi_1 n
  go_enter Try.func24, Try.ntmps24
  go_wp2_with fail
  refine (within_any _ _).mono ?_
  rintro e w' ⟨rfl, rfl⟩
  go_wp2_with fail
  refine (within_any _ _).mono ?_
  rintro e w' ⟨rfl, rfl⟩
  go_wp2
  go_ret
  exact ⟨rfl, rfl⟩
theorem wi_big {n : Int} (h : 2147483647 ≤ n) : wi n = 2147483647 := by unfold wi; split <;> (try split) <;> omega
theorem wi_low {n : Int} (h : n ≤ -2147483648) : wi n = -2147483648 := by unfold wi; split <;> (try split) <;> omega
theorem from_hi {n : Int} (h : n > 65536) : wi (65536 * 65536) = fromZ n := by
  have := wi_le (show 65536 ≤ n by omega)
  rw [show wi 65536 = 65536 from rfl] at this
  rw [fromZ, wi_big (by omega), wi_big (by omega)]
theorem from_lo {n : Int} (h : n < -65536) : wi (-65536 * 65536) = fromZ n := by
  have := wi_le (show n ≤ -65536 by omega)
  rw [show wi (-65536) = -65536 from rfl] at this
  rw [fromZ, wi_low (by omega), wi_low (by omega)]
theorem div_any (a b : Int) (w : World) : Calls Try.prog 22 #[.int .i64 a, .int .i64 b] w fun e w' => e = .returned (.int .i64 (divZ a b)) ∧ w' = w := by
  have a0 := wi_0 a
  have a1 := wi_1 a
  by_cases hb : wi b = 0
  · have HQ : Hid (farZ (wi a) = divZ a b) := by unfold divZ; rw [if_pos hb]; exact rfl
    go_enter Try.func22, Try.ntmps22
    go_wp2_with fail
    refine (within_any _ _).mono ?_
    rintro e w' ⟨rfl, rfl⟩
    go_wp2_with fail
    refine (within_any _ _).mono ?_
    rintro e w' ⟨rfl, rfl⟩
    go_wp2_with fail
    refine (far_any _ _).mono ?_
    rintro e w' ⟨rfl, rfl⟩
    go_wp2
    go_ret
    exact ⟨ret_int HQ, rfl⟩
  · have HQ : Hid (wi (byZ (wi a * 65536) (wi b)) = divZ a b) := by unfold divZ; rw [if_neg hb]; exact rfl
    go_enter Try.func22, Try.ntmps22
    go_wp2_with fail
    refine (within_any _ _).mono ?_
    rintro e w' ⟨rfl, rfl⟩
    go_wp2_with fail
    refine (within_any _ _).mono ?_
    rintro e w' ⟨rfl, rfl⟩
    go_wp2_with fail
    refine (by_any _ _ _ (by omega) (by omega) hb).mono ?_
    rintro e w' ⟨rfl, rfl⟩
    go_wp2_with fail
    refine (within_any _ _).mono ?_
    rintro e w' ⟨rfl, rfl⟩
    go_wp2
    go_ret
    exact ⟨ret_int HQ, rfl⟩
theorem rby_any (n d : Int) (w : World) (n0 : -4611686018427387904 ≤ n) (n1 : n ≤ 4611686018427387904) (hd : 0 < d) :
    Calls Try.prog 58 #[.int .i64 n, .int .i64 d] w fun e w' => e = .returned (.int .i64 (n / d)) ∧ w' = w := by
  have HQ := hid (quo_pos (n := n) hd)
  have HB := hid (tdiv_bd n d (m := 4611686018427387904) n0 n1)
  by_cases h : n.tmod d < 0
  · have hn : n < 0 := ((tmod_neg_iff hd).mp h).2
    go_enter Try.func58, Try.ntmps58
    go_wp2
    go_ret
    refine ⟨ret_int ?_, rfl⟩
    unfold Hid at HQ HB
    rw [if_pos h] at HQ
    rw [← HQ]
    generalize n.tdiv d = q at *
    unfold wrap64
    omega
  · by_cases hn : n < 0
    · go_enter Try.func58, Try.ntmps58
      go_wp2
      go_ret
      refine ⟨ret_int ?_, rfl⟩
      unfold Hid at HQ HB
      rw [if_neg (by omega)] at HQ
      rw [← HQ]
    · have h2 : 0 ≤ n % d := Int.emod_nonneg n (by omega)
      go_enter Try.func58, Try.ntmps58
      go_wp2
      go_ret
      exact ⟨rfl, rfl⟩
theorem radd_any (a b : Int) (w : World) : Calls Try.prog 32 #[.int .i64 a, .int .i64 b] w fun e w' => e = .returned (.int .i64 (addZ a b)) ∧ w' = w := by
  have a0 := wi_0 a
  have a1 := wi_1 a
  have b0 := wi_0 b
  have b1 := wi_1 b
  go_enter Try.func32, Try.ntmps32
  go_wp2_with fail
  refine (rwithin_any _ _).mono ?_
  rintro e w' ⟨rfl, rfl⟩
  go_wp2_with fail
  refine (rwithin_any _ _).mono ?_
  rintro e w' ⟨rfl, rfl⟩
  go_wp2_with fail
  refine (rwithin_any _ _).mono ?_
  rintro e w' ⟨rfl, rfl⟩
  go_wp2
  go_ret
  exact ⟨rfl, rfl⟩
theorem rmul_any (a b : Int) (w : World) : Calls Try.prog 29 #[.int .i64 a, .int .i64 b] w fun e w' => e = .returned (.int .i64 (mulZ a b)) ∧ w' = w := by
  have p := prod_bd a b
  have p0 := p.1
  have p1 := p.2
  clear p
  go_enter Try.func29, Try.ntmps29
  go_wp2_with fail
  refine (rwithin_any _ _).mono ?_
  rintro e w' ⟨rfl, rfl⟩
  go_wp2_with fail
  refine (rwithin_any _ _).mono ?_
  rintro e w' ⟨rfl, rfl⟩
  go_wp2_with fail
  refine (rby_any _ _ _ p0 p1 (by omega)).mono ?_
  rintro e w' ⟨rfl, rfl⟩
  go_wp2_with fail
  refine (rwithin_any _ _).mono ?_
  rintro e w' ⟨rfl, rfl⟩
  go_wp2
  go_ret
  exact ⟨rfl, rfl⟩
end Go.Proofs.Ytpllffekebkacaa
