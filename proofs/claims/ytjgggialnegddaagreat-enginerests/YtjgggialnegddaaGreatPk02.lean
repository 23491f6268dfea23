/-
  Nums: Contracts: the bounds, sums, products, quotients, whole numbers and whole parts, of the program and of the document.
  Exps: Contracts: the power of e, of the program and of the document, hands back expZ.
  Roots: Contracts: the square root, of the program and of the document, hands back sqrtZ.
  Eachs: A frame that says which blocks a callee may have turned (But), and contracts: count, each (with whatever function it is handed).
  Boths: Contracts: eachOfBoth (with whatever function it is handed), Dot: the product of two vectors, dotL.
  Mades: A row of numbers that the call owns (OwnK); contracts: madeOf (with whatever function it is handed), Scale, Relu.
  Scales: Contracts: Scale, Relu, and what stands on madeOf alone.
  Pairs: Contracts: madeOfBoth (with whatever function it is handed), Add.
  Softs: Contracts: Norm and Soft.
  Tables: Tables (Tbl); contracts: each and madeOf over a table, Mul: of each row its product with a vector.
-/
import Derived.Test.YtjgggialnegddaaGreatPk01
import Derived.Laws.Shifts
import Derived.Handy
import Derived.Laws.OwnMore
import Derived.OwnWalk
import Derived.OneCell
import Derived.Deep.RegionHeld3
import Derived.Shelf.Abstract
import Derived.Deep.AppendLies
import Derived.Deep.RegionLaw
namespace Go.Proofs.YtjgggialnegddaaGreat
open Go.RowKit
set_option linter.unusedVariables false
set_option maxRecDepth 1000000

theorem satwithin_any (n : Int) (w : World) :
    Calls Tryz.prog 243 #[.int .i64 n, .int .i64 (-2147483648), .int .i64 2147483647] w fun e w' => e = .returned (.int .i64 (wi n)) ∧ w' = w := by
  by_cases h0 : n < -2147483648
  · go_enter Tryz.func243, Tryz.ntmps243
    go_wp2
    go_ret
    exact ⟨ret_int (by unfold wi; rw [if_pos h0]), rfl⟩
  · by_cases h1 : n > 2147483647
    · go_enter Tryz.func243, Tryz.ntmps243
      go_wp2
      go_ret
      exact ⟨ret_int (by unfold wi; rw [if_neg (by omega), if_pos (by omega)]), rfl⟩
    · go_enter Tryz.func243, Tryz.ntmps243
      go_wp2
      go_ret
      exact ⟨ret_int (by unfold wi; rw [if_neg (by omega), if_neg (by omega)]), rfl⟩
theorem between_any (n : Int) (w : World) :
    Calls Tryz.prog 229 #[.int .i64 n, .int .i64 (-2147483648), .int .i64 2147483647] w fun e w' => e = .returned (.int .i64 (wi n)) ∧ w' = w := by
  go_enter Tryz.func229, Tryz.ntmps229
  go_wp2_with fail
  refine (satwithin_any _ _).mono ?_
  rintro e w' ⟨rfl, rfl⟩
  go_wp2
  go_ret
  exact ⟨rfl, rfl⟩
theorem within_any (n : Int) (w : World) : Calls Tryz.prog 205 #[.int .i64 n] w fun e w' => e = .returned (.int .i64 (wi n)) ∧ w' = w := by
  go_enter Tryz.func205, Tryz.ntmps205
  go_wp2_with fail
  refine (between_any _ _).mono ?_
  rintro e w' ⟨rfl, rfl⟩
  go_wp2
  go_ret
  exact ⟨rfl, rfl⟩
theorem rwithin_any (n : Int) (w : World) : Calls Tryz.prog 141 #[.int .i64 n] w fun e w' => e = .returned (.int .i64 (wi n)) ∧ w' = w := by
  by_cases h0 : n < -2147483648
  · go_enter Tryz.func141, Tryz.ntmps141
    go_wp2
    go_ret
    exact ⟨ret_int (by unfold wi; rw [if_pos h0]), rfl⟩
  · by_cases h1 : n > 2147483647
    · go_enter Tryz.func141, Tryz.ntmps141
      go_wp2
      go_ret
      exact ⟨ret_int (by unfold wi; rw [if_neg (by omega), if_pos (by omega)]), rfl⟩
    · go_enter Tryz.func141, Tryz.ntmps141
      go_wp2
      go_ret
      exact ⟨ret_int (by unfold wi; rw [if_neg (by omega), if_neg (by omega)]), rfl⟩
theorem add_any (a b : Int) (w : World) : Calls Tryz.prog 178 #[.int .i64 a, .int .i64 b] w fun e w' => e = .returned (.int .i64 (addZ a b)) ∧ w' = w := by
  have a0 := wi_0 a
  have a1 := wi_1 a
  have b0 := wi_0 b
  have b1 := wi_1 b
  go_enter Tryz.func178, Tryz.ntmps178
  go_wp2_with fail
  refine (within_any _ _).mono ?_
  rintro e w' ⟨rfl, rfl⟩
  go_wp2_with fail
  refine (within_any _ _).mono ?_
  rintro e w' ⟨rfl, rfl⟩
  go_wp2_with fail
  refine (within_any _ _).mono ?_
  rintro e w' ⟨rfl, rfl⟩
  go_wp2
  go_ret
  exact ⟨rfl, rfl⟩
theorem mul_any (a b : Int) (w : World) : Calls Tryz.prog 195 #[.int .i64 a, .int .i64 b] w fun e w' => e = .returned (.int .i64 (mulZ a b)) ∧ w' = w := by
  have p := prod_bd a b
  have p0 := p.1
  have p1 := p.2
  clear p
  go_enter Tryz.func195, Tryz.ntmps195
  go_wp2_with fail
  refine (within_any _ _).mono ?_
  rintro e w' ⟨rfl, rfl⟩
  go_wp2_with fail
  refine (within_any _ _).mono ?_
  rintro e w' ⟨rfl, rfl⟩
  go_wp2_with fail
  refine (within_any _ _).mono ?_
  rintro e w' ⟨rfl, rfl⟩
  go_wp2
  go_ret
  exact ⟨rfl, rfl⟩
theorem by_any (a b : Int) (w : World) (n0 : -4611686018427387904 ≤ a) (n1 : a ≤ 4611686018427387904) (hb : b ≠ 0) :
    Calls Tryz.prog 219 #[.int .i64 a, .int .i64 b] w fun e w' => e = .returned (.int .i64 (byZ a b)) ∧ w' = w := by
  have HB := hid (tdiv_bd a b (m := 4611686018427387904) n0 n1)
  by_cases ha : a < 0
  · by_cases h : a.tmod b = 0
    · have HQ := hid (quo_0 hb h)
      go_enter Tryz.func219, Tryz.ntmps219
      go_wp2
      go_ret
      refine ⟨ret_int ?_, rfl⟩
      unfold Hid at HQ HB
      rw [← HQ]
      generalize a.tdiv b = q at *
      unfold wrap64
      omega
    · by_cases hb' : b < 0
      · have HQ := hid (quo_like (a := a) hb (by omega))
        go_enter Tryz.func219, Tryz.ntmps219
        go_wp2
        go_ret
        refine ⟨ret_int ?_, rfl⟩
        unfold Hid at HQ HB
        rw [← HQ]
        generalize a.tdiv b = q at *
        unfold wrap64
        omega
      · have HQ := hid (quo_unlike hb h (by omega))
        go_enter Tryz.func219, Tryz.ntmps219
        go_wp2
        go_ret
        refine ⟨ret_int ?_, rfl⟩
        unfold Hid at HQ HB
        rw [← HQ]
        generalize a.tdiv b = q at *
        unfold wrap64
        omega
  · have e2 : a.tmod b = a % b := Int.tmod_eq_emod_of_nonneg (by omega)
    by_cases hb' : b < 0
    · by_cases h : a % b = 0
      · have HQ := hid (quo_0 hb (by rw [e2]; exact h))
        clear e2
        go_enter Tryz.func219, Tryz.ntmps219
        go_wp2
        go_ret
        refine ⟨ret_int ?_, rfl⟩
        unfold Hid at HQ HB
        rw [← HQ]
        generalize a.tdiv b = q at *
        unfold wrap64
        omega
      · have HQ := hid (quo_unlike hb (by rw [e2]; exact h) (by omega))
        clear e2
        go_enter Tryz.func219, Tryz.ntmps219
        go_wp2
        go_ret
        refine ⟨ret_int ?_, rfl⟩
        unfold Hid at HQ HB
        rw [← HQ]
        generalize a.tdiv b = q at *
        unfold wrap64
        omega
    · have HQ : Hid (a / b = byZ a b) := by unfold byZ; rw [if_neg hb']; exact rfl
      clear e2
      by_cases h : a % b = 0
      · go_enter Tryz.func219, Tryz.ntmps219
        go_wp2
        go_ret
        exact ⟨ret_int HQ, rfl⟩
      · go_enter Tryz.func219, Tryz.ntmps219
        go_wp2
        go_ret
        exact ⟨ret_int HQ, rfl⟩
theorem far_any (a : Int) (w : World) : Calls Tryz.prog 218 #[.int .i64 a] w fun e w' => e = .returned (.int .i64 (farZ a)) ∧ w' = w := by
  by_cases h0 : a > 0
  · go_enter Tryz.func218, Tryz.ntmps218
    go_wp2
    go_ret
    exact ⟨ret_int (by unfold farZ; rw [if_pos (by omega)]), rfl⟩
  · by_cases h1 : a < 0
    · go_enter Tryz.func218, Tryz.ntmps218
      go_wp2
      go_ret
      exact ⟨ret_int (by unfold farZ; rw [if_neg (by omega), if_pos (by omega)]), rfl⟩
    · go_enter Tryz.func218, Tryz.ntmps218
      go_wp2
      go_ret
      exact ⟨ret_int (by unfold farZ; rw [if_neg (by omega), if_neg (by omega)]), rfl⟩
theorem from_any (n : Int) (w : World) : Calls Tryz.prog 196 #[.int .i64 n] w fun e w' => e = .returned (.int .i64 (fromZ n)) ∧ w' = w := by
  have p0 := wi_0 n
  have p1 := wi_1 n
  go_enter Tryz.func196, Tryz.ntmps196
  go_wp2_with fail
  refine (within_any _ _).mono ?_
  rintro e w' ⟨rfl, rfl⟩
  go_wp2_with fail
  refine (within_any _ _).mono ?_
  rintro e w' ⟨rfl, rfl⟩
  go_wp2
  go_ret
  exact ⟨rfl, rfl⟩
theorem wi_big {n : Int} (h : 2147483647 ≤ n) : wi n = 2147483647 := by unfold wi; split <;> (try split) <;> omega
theorem wi_low {n : Int} (h : n ≤ -2147483648) : wi n = -2147483648 := by unfold wi; split <;> (try split) <;> omega
theorem from_hi {n : Int} (h : n > 65536) : wi (65536 * 65536) = fromZ n := by
  have := wi_le (show 65536 ≤ n by omega)
  rw [show wi 65536 = 65536 from rfl] at this
  rw [fromZ, wi_big (by omega), wi_big (by omega)]
theorem from_lo {n : Int} (h : n < -65536) : wi (-65536 * 65536) = fromZ n := by
  have := wi_le (show n ≤ -65536 by omega)
  rw [show wi (-65536) = -65536 from rfl] at this
  rw [fromZ, wi_low (by omega), wi_low (by omega)]
theorem div_any (a b : Int) (w : World) : Calls Tryz.prog 194 #[.int .i64 a, .int .i64 b] w fun e w' => e = .returned (.int .i64 (divZ a b)) ∧ w' = w := by
  have a0 := wi_0 a
  have a1 := wi_1 a
  by_cases hb : wi b = 0
  · have HQ : Hid (farZ (wi a) = divZ a b) := by unfold divZ; rw [if_pos hb]; exact rfl
    go_enter Tryz.func194, Tryz.ntmps194
    go_wp2_with fail
    refine (within_any _ _).mono ?_
    rintro e w' ⟨rfl, rfl⟩
    go_wp2_with fail
    refine (within_any _ _).mono ?_
    rintro e w' ⟨rfl, rfl⟩
    go_wp2_with fail
    refine (far_any _ _).mono ?_
    rintro e w' ⟨rfl, rfl⟩
    go_wp2
    go_ret
    exact ⟨ret_int HQ, rfl⟩
  · have HQ : Hid (wi (byZ (wi a * 65536) (wi b)) = divZ a b) := by unfold divZ; rw [if_neg hb]; exact rfl
    go_enter Tryz.func194, Tryz.ntmps194
    go_wp2_with fail
    refine (within_any _ _).mono ?_
    rintro e w' ⟨rfl, rfl⟩
    go_wp2_with fail
    refine (within_any _ _).mono ?_
    rintro e w' ⟨rfl, rfl⟩
    go_wp2_with fail
    refine (by_any _ _ _ (by omega) (by omega) hb).mono ?_
    rintro e w' ⟨rfl, rfl⟩
    go_wp2_with fail
    refine (within_any _ _).mono ?_
    rintro e w' ⟨rfl, rfl⟩
    go_wp2
    go_ret
    exact ⟨ret_int HQ, rfl⟩
theorem rby_any (n d : Int) (w : World) (n0 : -4611686018427387904 ≤ n) (n1 : n ≤ 4611686018427387904) (hd : 0 < d) :
    Calls Tryz.prog 143 #[.int .i64 n, .int .i64 d] w fun e w' => e = .returned (.int .i64 (n / d)) ∧ w' = w := by
  have HQ := hid (quo_pos (n := n) hd)
  have HB := hid (tdiv_bd n d (m := 4611686018427387904) n0 n1)
  by_cases h : n.tmod d < 0
  · have hn : n < 0 := ((tmod_neg_iff hd).mp h).2
    go_enter Tryz.func143, Tryz.ntmps143
    go_wp2
    go_ret
    refine ⟨ret_int ?_, rfl⟩
    unfold Hid at HQ HB
    rw [if_pos h] at HQ
    rw [← HQ]
    generalize n.tdiv d = q at *
    unfold wrap64
    omega
  · by_cases hn : n < 0
    · go_enter Tryz.func143, Tryz.ntmps143
      go_wp2
      go_ret
      refine ⟨ret_int ?_, rfl⟩
      unfold Hid at HQ HB
      rw [if_neg (by omega)] at HQ
      rw [← HQ]
    · have h2 : 0 ≤ n % d := Int.emod_nonneg n (by omega)
      go_enter Tryz.func143, Tryz.ntmps143
      go_wp2
      go_ret
      exact ⟨rfl, rfl⟩
theorem radd_any (a b : Int) (w : World) : Calls Tryz.prog 99 #[.int .i64 a, .int .i64 b] w fun e w' => e = .returned (.int .i64 (addZ a b)) ∧ w' = w := by
  have a0 := wi_0 a
  have a1 := wi_1 a
  have b0 := wi_0 b
  have b1 := wi_1 b
  go_enter Tryz.func99, Tryz.ntmps99
  go_wp2_with fail
  refine (rwithin_any _ _).mono ?_
  rintro e w' ⟨rfl, rfl⟩
  go_wp2_with fail
  refine (rwithin_any _ _).mono ?_
  rintro e w' ⟨rfl, rfl⟩
  go_wp2_with fail
  refine (rwithin_any _ _).mono ?_
  rintro e w' ⟨rfl, rfl⟩
  go_wp2
  go_ret
  exact ⟨rfl, rfl⟩
theorem rmul_any (a b : Int) (w : World) : Calls Tryz.prog 101 #[.int .i64 a, .int .i64 b] w fun e w' => e = .returned (.int .i64 (mulZ a b)) ∧ w' = w := by
  have p := prod_bd a b
  have p0 := p.1
  have p1 := p.2
  clear p
  go_enter Tryz.func101, Tryz.ntmps101
  go_wp2_with fail
  refine (rwithin_any _ _).mono ?_
  rintro e w' ⟨rfl, rfl⟩
  go_wp2_with fail
  refine (rwithin_any _ _).mono ?_
  rintro e w' ⟨rfl, rfl⟩
  go_wp2_with fail
  refine (rby_any _ _ _ p0 p1 (by omega)).mono ?_
  rintro e w' ⟨rfl, rfl⟩
  go_wp2_with fail
  refine (rwithin_any _ _).mono ?_
  rintro e w' ⟨rfl, rfl⟩
  go_wp2
  go_ret
  exact ⟨rfl, rfl⟩
end Go.Proofs.YtjgggialnegddaaGreat
namespace Go.Proofs.YtjgggialnegddaaGreat
open Go.RowKit
set_option linter.unusedVariables false
set_option maxRecDepth 1000000

theorem part_any (f : Int) (w : World) (f0 : 0 ≤ f) (f1 : f < 65536) :
    Calls Tryz.prog 248 #[.int .i64 f] w fun e w' => e = .returned (.int .i64 (pw f)) ∧ w' = w := by
  have p := part_bd f0 f1
  have p0 := p.1
  have p1 := p.2
  clear p
  go_enter Tryz.func248, Tryz.ntmps248
  go_wp2
  go_ret
  exact ⟨rfl, rfl⟩
theorem shr_far {p : Int} (p0 : 0 ≤ p) (p1 : p ≤ 131072) (n : Nat) : p / 2 ^ min n IntKind.i64.bits = p / 2 ^ n := by
  by_cases h : n ≤ 64
  · rw [Nat.min_eq_left (show n ≤ IntKind.i64.bits from h)]
  · rw [lift_far p0 p1 (n := n) (by omega), lift_far p0 p1]
    rw [Nat.min_eq_right (show IntKind.i64.bits ≤ n from Nat.le_of_lt (Nat.lt_of_not_le h))]
    decide
theorem shl_in {p k : Int} (p0 : 0 ≤ p) (p1 : p ≤ 131072) (hk : k < 16) : wrap64 (p * 2 ^ k.toNat) = p * 2 ^ k.toNat := by
  have h1 := two_le (show k.toNat ≤ 15 by omega)
  have h2 := two_pos k.toNat
  have h3 : 0 ≤ p * 2 ^ k.toNat := Int.mul_nonneg p0 (by omega)
  have h4 : p * 2 ^ k.toNat ≤ 131072 * 2 ^ 15 := Int.mul_le_mul p1 h1 (by omega) (by omega)
  exact IntWalk.wrap64_in _ (by omega)
/-- What a power hangs on. -/
theorem exp_parts (x : Int) : ∃ y k f : Int, wi x * 94548 / 65536 = y ∧ y / 65536 = k ∧ y - k * 65536 = f ∧ -47275 ≤ k ∧ k ≤ 47275 ∧ -3098500000 ≤ y ∧ y ≤ 3098500000 ∧ 0 ≤ f ∧ f < 65536 ∧ Hid (expZ x = liftZ (pw f) k) := by
  have x0 := wi_0 x
  have x1 := wi_1 x
  refine ⟨_, _, _, rfl, rfl, rfl, by omega, by omega, by omega, by omega, by omega, by omega, ?_⟩
  unfold expZ
  rw [show wi x * 94548 / 65536 % 65536 = wi x * 94548 / 65536 - wi x * 94548 / 65536 / 65536 * 65536 by omega]
  exact rfl
theorem exp_any (x : Int) (w : World) :
    Calls Tryz.prog 235 #[.int .i64 x] w fun e w' => e = .returned (.int .i64 (expZ x)) ∧ w' = w := by
  have x0 := wi_0 x
  have x1 := wi_1 x
  obtain ⟨y, k, f, hy, hk, hf, k0, k1, y0, y1, f0, f1, HE⟩ := exp_parts x
  have p := pw_bd f0 f1
  have p0 := p.1
  have p1 := p.2
  clear p
  by_cases h16 : k ≥ 16
  · have HL : Hid (liftZ (pw f) k = 2147483647) := by unfold liftZ; rw [if_pos h16]; exact rfl
    go_enter Tryz.func235, Tryz.ntmps235
    go_wp2_with fail
    refine (within_any _ _).mono ?_
    rintro e w' ⟨rfl, rfl⟩
    go_wp2_with fail
    refine (part_any _ _ f0 f1).mono ?_
    rintro e w' ⟨rfl, rfl⟩
    go_wp2
    go_ret
    exact ⟨ret_int (HE.trans HL).symm, rfl⟩
  · by_cases h0 : k < 0
    · have HL : Hid (liftZ (pw f) k = pw f / 2 ^ (-k).toNat) := by unfold liftZ; rw [if_neg h16, if_pos h0]; exact rfl
      have HS : Op.shift .shr .i64 (pw f) .u64 (-k) = pure (.int .i64 (pw f / 2 ^ (-k).toNat)) := by rw [shift_shr_any _ _ _ _ (by omega), shr_far (by omega) p1]
      go_enter Tryz.func235, Tryz.ntmps235
      go_wp2_with fail
      refine (within_any _ _).mono ?_
      rintro e w' ⟨rfl, rfl⟩
      go_wp2_with fail
      refine (part_any _ _ f0 f1).mono ?_
      rintro e w' ⟨rfl, rfl⟩
      go_wp2
      go_ret
      refine ⟨ret_int ?_, rfl⟩
      refine Eq.trans ?_ (HE.trans HL).symm
      exact rfl
    · have HL : Hid (liftZ (pw f) k = wi (pw f * 2 ^ k.toNat)) := by unfold liftZ; rw [if_neg h16, if_neg h0]; exact rfl
      go_enter Tryz.func235, Tryz.ntmps235
      go_wp2_with fail
      refine (within_any _ _).mono ?_
      rintro e w' ⟨rfl, rfl⟩
      go_wp2_with fail
      refine (part_any _ _ f0 f1).mono ?_
      rintro e w' ⟨rfl, rfl⟩
      go_wp2_with fail
      refine (within_any _ _).mono ?_
      rintro e w' ⟨rfl, rfl⟩
      go_wp2
      go_ret
      refine ⟨ret_int ?_, rfl⟩
      refine Eq.trans ?_ (HE.trans HL).symm
      exact congrArg wi (shl_in (by omega) p1 (by omega))
end Go.Proofs.YtjgggialnegddaaGreat
namespace Go.Proofs.YtjgggialnegddaaGreat
open Go.RowKit
set_option linter.unusedVariables false
set_option maxRecDepth 1000000

theorem rootB_yes {n s : Int} {j : Nat} (h : (s + 2 ^ j) * (s + 2 ^ j) ≤ n) : rootB n (j + 1) s = rootB n j (s + 2 ^ j) := by rw [rootB, if_pos h]
theorem rootB_no {n s : Int} {j : Nat} (h : ¬ (s + 2 ^ j) * (s + 2 ^ j) ≤ n) : rootB n (j + 1) s = rootB n j s := by rw [rootB, if_neg h]
theorem sq_bd {s m : Int} (s0 : 0 ≤ s) (s1 : s ≤ 16777216) (m0 : 0 ≤ m) (m1 : m ≤ 2147483648) : 0 ≤ (s + m) * (s + m) ∧ (s + m) * (s + m) ≤ 2164260864 * 2164260864 :=
  ⟨Int.mul_nonneg (by omega) (by omega), Int.mul_le_mul (by omega) (by omega) (by omega) (by omega)⟩
set_option maxHeartbeats 1000000 in
theorem sqrt_any (x : Int) (w : World) :
    Calls Tryz.prog 224 #[.int .i64 x] w fun e w' => e = .returned (.int .i64 (sqrtZ x)) ∧ w' = w := by
  have x0 := wi_0 x
  have x1 := wi_1 x
  by_cases hx : x ≤ 0
  · have HZ : Hid (0 = sqrtZ x) := by
      by_cases h0 : wi x < 0
      · rw [sqrtZ_neg h0]; exact rfl
      · have := wi_le hx
        rw [show wi 0 = 0 from rfl] at this
        have e : wi x = 0 := by omega
        unfold sqrtZ; rw [e]; exact (by decide : (0 : Int) = rootB (0 * 65536) 24 0)
    go_enter Tryz.func224, Tryz.ntmps224
    go_wp2
    go_ret
    exact ⟨ret_int HZ, rfl⟩
  · obtain ⟨n, hn⟩ : ∃ n, wi x * 65536 = n := ⟨_, rfl⟩
    have n1 : n < 281474976710656 := by omega
    have HZ : Hid (rootB n 24 0 = sqrtZ x) := by unfold sqrtZ; rw [hn]; exact rfl
    go_enter Tryz.func224, Tryz.ntmps224
    go_wp2_with fail
    refine (within_any _ _).mono ?_
    rintro e w' ⟨rfl, rfl⟩
    go_wp2
    go_loop [4, 5] (fun v i => ∃ (s : Int) (j : Nat), v = .int .i64 s ∧ i = .int .i64 ((j : Int) - 1) ∧ j ≤ 24 ∧ 0 ≤ s ∧ s ≤ 16777216 ∧ Hid (rootB n j s = sqrtZ x)) (fun _ i => (intOf i + 1).toNat)
    case atStart => exact ⟨_, 24, rfl, rfl, by omega, by omega, by omega, HZ⟩
    case round =>
      obtain ⟨s, j, rfl, rfl, hj, s0, s1, HR⟩ := hrel
      rcases j with _ | j
      · go_wp2
        go_ret
        exact ⟨ret_int HR, rfl⟩
      · obtain ⟨m, hm⟩ : ∃ m : Int, 2 ^ j = m := ⟨_, rfl⟩
        have m0 : 0 < m := by rw [← hm]; exact two_pos _
        have m1 : m ≤ 8388608 := by rw [← hm]; exact two_le (n := 23) (by omega)
        have B := sq_bd s0 s1 (by omega) (show m ≤ 2147483648 by omega)
        have b0 := B.1
        have b1 := B.2
        clear B
        by_cases hq : (s + m) * (s + m) ≤ n
        · have HN : Hid (rootB n j (s + m) = sqrtZ x) := by rw [← HR.out, rootB_yes (by rw [hm]; exact hq), hm]; exact rfl
          have := sq_small hq n1
          go_wp2
          go_round
          case rel => exact ⟨_, j, rfl, by go_num, by omega, by omega, by omega, HN⟩
          case measure => simp [intOf]
        · have HN : Hid (rootB n j s = sqrtZ x) := by rw [← HR.out, rootB_no (by rw [hm]; exact hq)]; exact rfl
          go_wp2
          go_round
          case rel => exact ⟨_, j, rfl, by go_num, by omega, by omega, by omega, HN⟩
          case measure => simp [intOf]
end Go.Proofs.YtjgggialnegddaaGreat
namespace Go.Proofs.YtjgggialnegddaaGreat
open Go.RowKit
set_option linter.unusedVariables false
set_option maxRecDepth 1000000

theorem count_any (a : Option Addr) (len cap : Nat) (w : World) (hlen : len ≤ 1000) :
    Calls Tryz.prog 202 #[.slice a len cap] w fun e w' => e = .returned (.int .i64 len) ∧ w' = w := by
  go_enter Tryz.func202, Tryz.ntmps202
  go_wp2
  go_ret
  exact ⟨rfl, rfl⟩

theorem each_any (fn : Nat) (caps : Array Value) (a : Option Addr) (len cap : Nat) (zs : List Int) (w : World) (hlen : len ≤ 1000) (I : Nat → World → Prop)
    (hE : ∀ args w, (callFunc fn args).run Tryz.prog w = .ok (.enter fn args) w) (hR : ∀ k wr, I k wr → Reads .i64 wr a len cap zs) (h0 : I 0 w)
    (hS : ∀ k wr, k < len → I k wr → Calls Tryz.prog fn (#[.int .i64 (k : Int), .int .i64 (zs[k]?.getD 0)] ++ caps) wr fun e w' => e = .returned (.tuple #[]) ∧ I (k + 1) w') :
    Calls Tryz.prog 215 #[.slice a len cap, .func (.func fn) #[] caps] w fun e w' => e = .returned (.tuple #[]) ∧ I len w' := by
  have hr0 := hR 0 w h0
  have hroom := hr0.room
  have hmost := hr0.most
  have hbare := hr0.bare
  clear hr0
  have H0 := hid h0
  have HR := hid hR
  have HS := hid hS
  clear h0 hR hS
  go_enter Tryz.func215, Tryz.ntmps215
  cases a with
  | none =>
    obtain ⟨rfl, rfl⟩ := hbare rfl
    go_wp2_with fail
    refine (count_any _ _ _ _ (by omega)).mono ?_
    rintro e w' ⟨rfl, rfl⟩
    go_wp2_with fail
    go_loopw [11] (fun i wr => ∃ k : Nat, k = 0 ∧ i = .int .i64 k ∧ Hid (I k wr)) (fun i _ => 0 - (intOf i).toNat)
    case atStart => exact ⟨0, rfl, rfl, H0⟩
    case round =>
      obtain ⟨k, rfl, rfl, HI⟩ := hrel
      go_wp2
      go_end0
      exact ⟨rfl, HI.out⟩
  | some ad =>
    clear hbare
    go_wp2_with fail
    refine (count_any _ _ _ _ (by omega)).mono ?_
    rintro e w' ⟨rfl, rfl⟩
    go_wp2_with fail
    go_loopw [11] (fun i wr => ∃ k : Nat, k ≤ len ∧ i = .int .i64 k ∧ Hid (I k wr)) (fun i _ => len - (intOf i).toNat)
    case atStart => exact ⟨0, Nat.zero_le _, rfl, H0⟩
    case round =>
      obtain ⟨k, hk, rfl, HI⟩ := hrel
      by_cases hlt : k < len
      · obtain ⟨b, off, hab, hc⟩ := (HR.out k wr HI.out).cell k hlt
        cases hab
        have hC := HS.out k wr hlt HI.out
        generalize zs[k]?.getD 0 = z at *
        go_wp2_with fail
        refine hC.mono ?_
        rintro e w2 ⟨rfl, hI2⟩
        have HI2 := hid hI2
        clear hI2 hC
        go_wp2_with fail
        go_round
        case rel => exact ⟨k + 1, by omega, by go_num, HI2⟩
        case measure => simp [intOf]; omega
      · obtain rfl : k = len := by omega
        go_wp2
        go_end0
        exact ⟨rfl, HI.out⟩
end Go.Proofs.YtjgggialnegddaaGreat
namespace Go.Proofs.YtjgggialnegddaaGreat
open Go.RowKit
set_option linter.unusedVariables false
set_option maxRecDepth 1000000

theorem both1_any (fn : Nat) (caps : Array Value) (hE : ∀ args w, (callFunc fn args).run Tryz.prog w = .ok (.enter fn args) w) (S : List Nat) (k : Nat) (x : Int) (Bd Bb : Nat) (b : Option Addr) (lb cb : Nat) (bs : List Int) (wr : World)
    (hd : wr.heap[Bd]? = some (.cells #[.func (.func fn) #[] caps] 260 (0, 0))) (hb : wr.heap[Bb]? = some (.cells #[.slice b lb cb] 131 (0, 0)))
    (hr : Reads .i64 wr b lb cb bs) (hk : k < lb) (hdS : Bd ∉ S) (hbS : Bb ∉ S) (hrS : Off S b lb) (J : World → Prop)
    (hC : Calls Tryz.prog fn (#[.int .i64 x, .int .i64 (bs[k]?.getD 0)] ++ caps) wr.drew fun e w' => e = .returned (.tuple #[]) ∧ J w' ∧ But S wr w') :
    Calls Tryz.prog 228 #[.int .i64 k, .int .i64 x, .pointer (some ⟨Bd, 0, none⟩), .pointer (some ⟨Bb, 0, none⟩)] wr fun e w' => e = .returned (.tuple #[]) ∧ J w' ∧ But S wr w' := by
  have cd := cell_of_one hd
  have cq := cell_of_one hb
  obtain ⟨bb, off, rfl, ce⟩ := hr.cell k hk
  have hroom := hr.room
  have hmost := hr.most
  have HrS := hid (hrS (by omega) _ rfl)
  have HK : Hid (∀ W, But S wr W → W.cell? ⟨Bd, 0, none⟩ = some (.func (.func fn) #[] caps) ∧ W.cell? ⟨Bb, 0, none⟩ = some (.slice (some ⟨bb, off, none⟩) lb cb) ∧ W.cell? ⟨bb, off + k, none⟩ = some (.int .i64 (bs[k]?.getD 0))) :=
    fun W h => ⟨h.cell cd hdS, h.cell cq hbS, h.cell ce HrS.out⟩
  clear hr hd hb hdS hbS hrS HrS
  generalize bs[k]?.getD 0 = y at *
  go_enter Tryz.func228, Tryz.ntmps228
  go_wp2_with fail
  go_region_held3 (fun W : World => W.cell? ⟨Bd, 0, none⟩ = some (.func (.func fn) #[] caps) ∧ W.cell? ⟨Bb, 0, none⟩ = some (.slice (some ⟨bb, off, none⟩) lb cb) ∧ W.cell? ⟨bb, off + k, none⟩ = some (.int .i64 y)) (first | exact ⟨cd, cq, ce⟩ | assumption | exact HK.out _ hB) (first | (refine hC.mono ?_; rintro e w2 ⟨rfl, hJ, hB⟩))
  clear HK cd cq ce
  go_wp2
  go_end0
  exact ⟨rfl, hJ, hB⟩

set_option maxHeartbeats 1000000 in
theorem both_any (fn : Nat) (caps : Array Value) (hE : ∀ args w, (callFunc fn args).run Tryz.prog w = .ok (.enter fn args) w) (S : List Nat) (a b : Option Addr) (la ca lb cb : Nat) (xs ys : List Int) (w : World)
    (ha : Reads .i64 w a la ca xs) (hb : Reads .i64 w b lb cb ys) (hla : la ≤ 1000) (hlb : lb ≤ 1000) (hS : ∀ s ∈ S, s < w.heap.size) (haS : Off S a la) (hbS : Off S b lb)
    (I : Nat → World → Prop) (h0 : I 0 w) (hI : ∀ k W W', I k W → Below W.heap.size W W' → I k W')
    (hC : ∀ k wr, k < la → k < lb → I k wr → Calls Tryz.prog fn (#[.int .i64 (xs[k]?.getD 0), .int .i64 (ys[k]?.getD 0)] ++ caps) wr fun e w' => e = .returned (.tuple #[]) ∧ I (k + 1) w' ∧ But S wr w') :
    Calls Tryz.prog 203 #[.slice a la ca, .slice b lb cb, .func (.func fn) #[] caps] w fun e w' => e = .returned (.tuple #[]) ∧ I (min la lb) w' ∧ But S w w' := by
  obtain ⟨w2, hw2⟩ : ∃ w2, w2 = (w.alloc (.cells #[.slice b lb cb] 131)).alloc (.cells #[.func (.func fn) #[] caps] 260) := ⟨_, rfl⟩
  have hbel : Below w.heap.size w w2 := by rw [hw2]; exact ((Below.refl _ _).alloc (Nat.le_refl _) _).alloc (by simp) _
  have hB1 : w2.heap[w.heap.size]? = some (.cells #[.slice b lb cb] 131 (0, 0)) := by
    rw [hw2, Below.heap_alloc _ _ _ (by simp)]; exact heap_alloc_new w _
  have hB2 : w2.heap[w.heap.size + 1]? = some (.cells #[.func (.func fn) #[] caps] 260 (0, 0)) := by
    have := heap_alloc_new (w.alloc (.cells #[.slice b lb cb] 131)) (.cells #[.func (.func fn) #[] caps] 260)
    rw [hw2]
    simpa using this
  have HE : Hid (Calls Tryz.prog 215 #[.slice a (min la lb) ca, .func (.func 228) #[] #[.pointer (some ⟨w.heap.size + 1, 0, none⟩), .pointer (some ⟨w.heap.size, 0, none⟩)]] w2 fun e w' => e = .returned (.tuple #[]) ∧ (I (min la lb) w' ∧ But S w2 w')) := by
    refine each_any 228 _ a (min la lb) ca (xs.take (min la lb)) w2 (by omega) (fun k W => I k W ∧ But S w2 W) (enters_of Tryz.func228 (by kernel_rfl) rfl) ?_ ⟨hI 0 _ _ h0 hbel, But.refl _ _⟩ ?_
    · rintro k wr ⟨_, hk⟩
      exact ((ha.below hbel).cut (Nat.min_le_left _ _)).but hk (fun h => haS (by omega))
    · rintro k wr hk ⟨hi, hbt⟩
      rw [List.getElem?_take_of_lt hk]
      have h1 : w.heap.size + 1 ∉ S := fun h => by have := hS _ h; omega
      have h2 : w.heap.size ∉ S := fun h => by have := hS _ h; omega
      have hdr : Below wr.heap.size wr wr.drew := (Below.refl _ _).drew
      refine (both1_any fn caps hE S k _ (w.heap.size + 1) w.heap.size b lb cb ys wr (hbt.one hB2 h1) (hbt.one hB1 h2) ((hb.below hbel).but hbt hbS) (by omega) h1 h2 hbS (I (k + 1)) ?_).mono ?_
      · exact (hC k wr.drew (by omega) (by omega) (hI _ _ _ hi hdr)).mono fun e w' ⟨e1, e2, e3⟩ => ⟨e1, e2, (But.of hdr).trans e3⟩
      · rintro e w' ⟨e1, e2, e3⟩
        exact ⟨e1, e2, hbt.trans e3⟩
  have HF : Hid (∀ w', But S w2 w' → But S w w') := fun w' h => (But.of hbel).trans h
  have ra := ha.room
  have rm := ha.most
  have rb := hb.room
  have rc := hb.most
  have bare := ha.bare
  have cq := cell_of_one hB1
  clear hbel hB1 hB2 hC hI h0 haS hbS hS ha hb
  subst hw2
  go_enter Tryz.func203, Tryz.ntmps203
  rcases Nat.lt_or_ge lb la with hl | hl
  · rw [Nat.min_eq_right (by omega)] at HE ⊢
    cases a with
    | none => obtain ⟨rfl, rfl⟩ := bare rfl; omega
    | some ad =>
      clear bare
      go_wp2_with fail
      refine HE.out.mono ?_
      rintro e w' ⟨rfl, hI, hB⟩
      have HI := hid hI
      have HB := hid (HF.out w' hB)
      clear hI hB HE HF cq
      go_wp2
      go_end0
      exact ⟨rfl, HI.out, HB.out⟩
  · rw [Nat.min_eq_left (by omega)] at HE ⊢
    cases a with
    | none =>
      obtain ⟨rfl, rfl⟩ := bare rfl
      clear bare
      go_wp2_with fail
      refine HE.out.mono ?_
      rintro e w' ⟨rfl, hI, hB⟩
      have HI := hid hI
      have HB := hid (HF.out w' hB)
      clear hI hB HE HF cq
      go_wp2
      go_end0
      exact ⟨rfl, HI.out, HB.out⟩
    | some ad =>
      clear bare
      go_wp2_with fail
      refine HE.out.mono ?_
      rintro e w' ⟨rfl, hI, hB⟩
      have HI := hid hI
      have HB := hid (HF.out w' hB)
      clear hI hB HE HF cq
      go_wp2
      go_end0
      exact ⟨rfl, HI.out, HB.out⟩

/-- The product of the first k places. -/
def dotK (xs ys : List Int) : Nat → Int
  | 0 => 0
  | k + 1 => addZ (dotK xs ys k) (mulZ (xs[k]?.getD 0) (ys[k]?.getD 0))

theorem dot1_any (x y s : Int) (B : Nat) (w : World) (hB : w.heap[B]? = some (.cells #[.int .i64 s] 2 (0, 0))) :
    Calls Tryz.prog 227 #[.int .i64 x, .int .i64 y, .pointer (some ⟨B, 0, none⟩)] w fun e w' => e = .returned (.tuple #[]) ∧ w'.heap[B]? = some (.cells #[.int .i64 (addZ s (mulZ x y))] 2 (0, 0)) ∧ But [B] w w' := by
  have cs := cell_of_one hB
  have fs := free_of_one hB
  have HO := hid (one_setCell (u := .int .i64 (addZ s (mulZ x y))) hB)
  clear hB
  go_enter Tryz.func227, Tryz.ntmps227
  go_wp2_with fail
  go_region_with (first | (go_at_call 195; refine (mul_any _ _ _).mono ?_; rintro e w' ⟨rfl, rfl⟩) | (go_at_call 178; refine (add_any _ _ _).mono ?_; rintro e w' ⟨rfl, rfl⟩))
  all_goals
    go_wp2
    go_end0
    exact ⟨rfl, HO.out, ((But.refl _ _).set (p := ⟨B, 0, none⟩) (List.mem_singleton.2 rfl) _).drew⟩

/-- The variable of a literal: B, a block of one number of the call that began in w. -/
def SumAt (w : World) (B : Nat) (s : Int) (W : World) : Prop := W.heap[B]? = some (.cells #[.int .i64 s] 2 (0, 0)) ∧ Below w.heap.size w W
theorem SumAt.below {w : World} {B : Nat} {s : Int} {W W' : World} (h : SumAt w B s W) (hb : Below W.heap.size W W') : SumAt w B s W' :=
  ⟨(hb.block B (lt_of_block h.1)).trans h.1, h.2.trans (hb.mono h.2.size)⟩
theorem SumAt.new (w : World) (s : Int) : SumAt w w.heap.size s (w.alloc (.cells #[.int .i64 s] 2)) := ⟨heap_alloc_new w _, (Below.refl _ _).alloc (Nat.le_refl _) _⟩
theorem dot_any (a b : Option Addr) (la ca lb cb : Nat) (xs ys : List Int) (w : World) (ha : Reads .i64 w a la ca xs) (hb : Reads .i64 w b lb cb ys) (hla : la ≤ 1000) (hlb : lb ≤ 1000) :
    Calls Tryz.prog 201 #[.slice a la ca, .slice b lb cb] w fun e w' => e = .returned (.int .i64 (dotK xs ys (min la lb))) ∧ Below w.heap.size w w' := by
  have hn := SumAt.new w 0
  have HE : Hid (Calls Tryz.prog 203 #[.slice a la ca, .slice b lb cb, .func (.func 227) #[] #[.pointer (some ⟨w.heap.size, 0, none⟩)]] (w.alloc (.cells #[.int .i64 0] 2)) fun e w' => e = .returned (.tuple #[]) ∧ SumAt w w.heap.size (dotK xs ys (min la lb)) w') := by
    have hS : ∀ s ∈ [w.heap.size], w.heap.size ≤ s := fun s hs => by rw [List.mem_singleton.1 hs]; exact Nat.le_refl _
    refine (both_any 227 _ (enters_of Tryz.func227 (by kernel_rfl) rfl) [w.heap.size] a b la ca lb cb xs ys _ (ha.below hn.2) (hb.below hn.2) hla hlb (fun s hs => by rw [List.mem_singleton.1 hs]; simp) (ha.past hS) (hb.past hS)
      (fun k W => SumAt w w.heap.size (dotK xs ys k) W) hn (fun k W W' h hb => h.below hb) ?_).mono fun e w' h => ⟨h.1, h.2.1⟩
    intro k wr hk hk' hi
    exact (dot1_any _ _ _ w.heap.size wr hi.1).mono fun e w' ⟨h1, h2, h3⟩ => ⟨h1, ⟨h2, hi.2.trans (h3.to hS (by exact hi.2.size))⟩, h3⟩
  clear hn ha hb
  go_enter Tryz.func201, Tryz.ntmps201
  go_wp2_with fail
  refine HE.out.mono ?_
  rintro e w' ⟨rfl, hS⟩
  have cs := cell_of_one hS.1
  have HS := hid hS.2
  clear HE hS
  go_wp2
  go_ret
  exact ⟨rfl, HS.out⟩
end Go.Proofs.YtjgggialnegddaaGreat
namespace Go.Proofs.YtjgggialnegddaaGreat
open Go.RowKit
set_option linter.unusedVariables false
set_option maxRecDepth 1000000

theorem made1_any (fn : Nat) (caps : Array Value) (hE : ∀ args w, (callFunc fn args).run Tryz.prog w = .ok (.enter fn args) w) (k : Nat) (x y : Int) (Bo Bm base g m : Nat) (us : List Int) (wr : World) (hm : m ≤ 1000)
    (ho : wr.heap[Bo]? = some (.cells #[.func (.func fn) #[] caps] 208 (0, 0))) (hq : wr.heap[Bm]? = some (.cells #[.slice (some ⟨g, 0, none⟩) m m] 131 (0, 0)))
    (hO : OwnK 2 base g m m us wr) (hk : k < m) (hgo : Bo ≠ g) (hgm : Bm ≠ g)
    (hC : Calls Tryz.prog fn (#[.int .i64 x] ++ caps) wr.drew fun e w' => e = .returned (.int .i64 y) ∧ Below wr.heap.size wr w') :
    Calls Tryz.prog 242 #[.int .i64 k, .int .i64 x, .pointer (some ⟨Bo, 0, none⟩), .pointer (some ⟨Bm, 0, none⟩)] wr fun e w' => e = .returned (.tuple #[]) ∧ OwnK 2 base g m m (us.set k y) w' ∧ But [g] wr w' := by
  have cd := cell_of_one ho
  have cq := cell_of_one hq
  have HO := hid hO
  have HK : Hid (∀ W, But [g] wr W → W.cell? ⟨Bo, 0, none⟩ = some (.func (.func fn) #[] caps) ∧ W.cell? ⟨Bm, 0, none⟩ = some (.slice (some ⟨g, 0, none⟩) m m)) :=
    fun W h => ⟨h.cell cd (by simpa using hgo), h.cell cq (by simpa using hgm)⟩
  clear ho hq hO hgo hgm
  go_enter Tryz.func242, Tryz.ntmps242
  go_wp2_with fail
  go_region_held3 (fun W : World => W.cell? ⟨Bo, 0, none⟩ = some (.func (.func fn) #[] caps) ∧ W.cell? ⟨Bm, 0, none⟩ = some (.slice (some ⟨g, 0, none⟩) m m)) (first | exact ⟨cd, cq⟩ | assumption | exact HK.out _ (But.of hB) | exact HK.out _ ((But.of hB).set (p := ⟨g, k, none⟩) (List.mem_singleton.2 rfl) _)) (first | (refine hC.mono ?_; rintro e w2 ⟨rfl, hB⟩; have HO2 := hid (HO.out.stays hB); have ck := HO2.out.cell hk; have fk := HO2.out.frozen k))
  have HS : Hid (OwnK 2 base g m m (us.set k y) (w2.setCell ⟨g, k, none⟩ (.int .i64 y))) := HO2.out.set k y
  have HB : Hid (But [g] wr (w2.setCell ⟨g, k, none⟩ (.int .i64 y))) := (But.of hB).set (p := ⟨g, k, none⟩) (List.mem_singleton.2 rfl) _
  clear HK cd cq HO HO2 ck fk hB hC
  go_wp2
  go_end0
  exact ⟨rfl, HS.out, HB.out⟩

/-- What is made behind k rounds. -/
def madeK (f : Int → Int) (zs : List Int) (len k : Nat) : List Int := (zs.take k).map f ++ List.replicate (len - k) 0
theorem madeK_set {f : Int → Int} {zs : List Int} {k : Nat} (h : k < zs.length) : (madeK f zs zs.length k).set k (f (zs[k]?.getD 0)) = madeK f zs zs.length (k + 1) := by
  unfold madeK
  have hl : ((zs.take k).map f).length = k := by simp; omega
  rw [List.set_append_right _ _ (by omega), hl, Nat.sub_self, take_snoc h, List.map_append, List.append_assoc]
  congr 1
  rw [show zs.length - k = zs.length - (k + 1) + 1 by omega, List.replicate_succ]
  rfl
theorem madeK_all (f : Int → Int) (zs : List Int) : madeK f zs zs.length zs.length = zs.map f := by unfold madeK; simp

/-- What stands in memory between the rounds of madeOf: the function, the row, and the variable that holds it. -/
structure MadeAt (w : World) (fn : Nat) (caps : Array Value) (T : TypeId) (B len : Nat) (us : List Int) (W : World) : Prop where
  old : Below w.heap.size w W
  fun_ : W.heap[B]? = some (.cells #[.func (.func fn) #[] caps] T (0, 0))
  var : W.heap[B + 2]? = some (.cells #[.slice (some ⟨B + 1, 0, none⟩) len len] 131 (0, 0))
  own : OwnK 2 w.heap.size (B + 1) len len us W

theorem MadeAt.new (w : World) (fn : Nat) (caps : Array Value) (T : TypeId) (len : Nat) (hlen : len ≤ 1000) :
    MadeAt w fn caps T w.heap.size len (List.replicate len 0) (((w.alloc (.cells #[.func (.func fn) #[] caps] T)).alloc (.cells (madeCells #[.int .i64 0] len) 2)).alloc (.cells #[.slice (some ⟨w.heap.size + 1, 0, none⟩) len len] 131)) := by
  have h1 := own_made 2 (w.alloc (.cells #[.func (.func fn) #[] caps] T)) len (by omega)
  have e1 : (w.alloc (.cells #[.func (.func fn) #[] caps] T)).heap.size = w.heap.size + 1 := by simp
  rw [e1] at h1
  refine ⟨?_, ?_, ?_, ?_⟩
  · exact (((Below.refl _ _).alloc (Nat.le_refl _) _).alloc (by simp) _).alloc (by simp; omega) _
  · rw [Below.heap_alloc _ _ _ (by simp; omega), Below.heap_alloc _ _ _ (by simp)]
    exact heap_alloc_new w _
  · have := heap_alloc_new ((w.alloc (.cells #[.func (.func fn) #[] caps] T)).alloc (.cells (madeCells #[.int .i64 0] len) 2)) (.cells #[.slice (some ⟨w.heap.size + 1, 0, none⟩) len len] 131)
    simpa using this
  · exact (h1.low (by omega)).stays ((Below.refl _ _).alloc (Nat.le_refl _) _)

theorem madeEach_any (fn : Nat) (caps : Array Value) (hE : ∀ args w, (callFunc fn args).run Tryz.prog w = .ok (.enter fn args) w) (a : Option Addr) (len cap : Nat) (zs : List Int) (w W : World) (ha : Reads .i64 w a len cap zs) (hlen : len ≤ 1000) (f : Int → Int)
    (hC : ∀ x wr, Below w.heap.size w wr → Calls Tryz.prog fn (#[.int .i64 x] ++ caps) wr fun e w' => e = .returned (.int .i64 (f x)) ∧ Below wr.heap.size wr w')
    (h0 : MadeAt w fn caps 208 w.heap.size len (List.replicate len 0) W) :
    Calls Tryz.prog 215 #[.slice a len cap, .func (.func 242) #[] #[.pointer (some ⟨w.heap.size, 0, none⟩), .pointer (some ⟨w.heap.size + 2, 0, none⟩)]] W
      fun e w' => e = .returned (.tuple #[]) ∧ MadeAt w fn caps 208 w.heap.size len (zs.map f) w' := by
  have hz := ha.size
  subst hz
  refine (each_any 242 _ a zs.length cap zs W hlen (fun k W => MadeAt w fn caps 208 w.heap.size zs.length (madeK f zs zs.length k) W) (enters_of Tryz.func242 (by kernel_rfl) rfl) ?_ ?_ ?_).mono ?_
  · intro k wr hk
    exact ha.below hk.old
  · unfold madeK
    simpa using h0
  · intro k wr hk hI
    have hdr : Below wr.heap.size wr wr.drew := (Below.refl _ _).drew
    refine (made1_any fn caps hE k _ (f (zs[k]?.getD 0)) w.heap.size (w.heap.size + 2) w.heap.size (w.heap.size + 1) zs.length _ wr hlen hI.fun_ hI.var hI.own hk (by omega) (by omega) ?_).mono ?_
    · exact (hC _ _ (hI.old.trans (hdr.mono hI.old.size))).mono fun e w' ⟨h1, h2⟩ => ⟨h1, hdr.trans (h2.mono (Nat.le_refl _))⟩
    · rintro e w' ⟨h1, h2, h3⟩
      refine ⟨h1, ?_, h3.one hI.fun_ (by simp), h3.one hI.var (by simp), ?_⟩
      · exact hI.old.trans (h3.to (fun s hs => by rw [List.mem_singleton.1 hs]; omega) hI.old.size)
      · rw [← madeK_set hk]; exact h2
  · rintro e w' ⟨h1, h2⟩
    rw [madeK_all] at h2
    exact ⟨h1, h2⟩

theorem madeof_any (fn : Nat) (caps : Array Value) (hE : ∀ args w, (callFunc fn args).run Tryz.prog w = .ok (.enter fn args) w) (a : Option Addr) (len cap : Nat) (zs : List Int) (w : World) (ha : Reads .i64 w a len cap zs) (hlen : len ≤ 1000) (f : Int → Int)
    (hC : ∀ x wr, Below w.heap.size w wr → Calls Tryz.prog fn (#[.int .i64 x] ++ caps) wr fun e w' => e = .returned (.int .i64 (f x)) ∧ Below wr.heap.size wr w') :
    Calls Tryz.prog 225 #[.slice a len cap, .func (.func fn) #[] caps] w fun e w' => ∃ g, e = .returned (.slice (some ⟨g, 0, none⟩) len len) ∧ OwnK 2 w.heap.size g len len (zs.map f) w' ∧ Below w.heap.size w w' := by
  have HM := hid fun W => madeEach_any fn caps hE a len cap zs w W ha hlen f hC
  have hmk := make_ints (w.alloc (.cells #[.func (.func fn) #[] caps] 208)) len (by omega)
  clear ha hC
  go_enter Tryz.func225, Tryz.ntmps225
  go_wp2_with fail
  refine (count_any _ _ _ _ hlen).mono ?_
  rintro e w' ⟨rfl, rfl⟩
  go_wp2_with fail
  refine (HM.out _ (MadeAt.new _ _ _ _ _ hlen)).mono ?_
  rintro e w' ⟨rfl, h⟩
  have cv := cell_of_one h.var
  have HO := hid h.own
  have HB := hid h.old
  clear h HM hmk
  go_wp2
  go_ret
  exact ⟨_, rfl, HO.out, HB.out⟩
end Go.Proofs.YtjgggialnegddaaGreat
namespace Go.Proofs.YtjgggialnegddaaGreat
open Go.RowKit
set_option linter.unusedVariables false
set_option maxRecDepth 1000000

theorem relu1_any (n : Int) (w : World) :
    Calls Tryz.prog 249 #[.int .i64 n] w fun e w' => e = .returned (.int .i64 (max (wi n) 0)) ∧ w' = w := by
  rcases Int.lt_or_le (wi n) 0 with h | h
  · have HE : Hid (0 = max (wi n) 0) := by unfold Hid; omega
    go_enter Tryz.func249, Tryz.ntmps249
    go_wp2_with fail
    refine (within_any _ _).mono ?_
    rintro e w' ⟨rfl, rfl⟩
    go_wp2
    go_ret
    exact ⟨ret_int HE.out, rfl⟩
  · have HE : Hid (wi n = max (wi n) 0) := by unfold Hid; omega
    go_enter Tryz.func249, Tryz.ntmps249
    go_wp2_with fail
    refine (within_any _ _).mono ?_
    rintro e w' ⟨rfl, rfl⟩
    go_wp2
    go_ret
    exact ⟨ret_int HE.out, rfl⟩
theorem norm1_any (n b : Int) (B : Nat) (w : World) (hB : w.heap[B]? = some (.cells #[.int .i64 b] 2 (0, 0))) :
    Calls Tryz.prog 226 #[.int .i64 n, .pointer (some ⟨B, 0, none⟩)] w fun e w' => e = .returned (.int .i64 (divZ n b)) ∧ w' = w := by
  have cs := cell_of_one hB
  clear hB
  go_enter Tryz.func226, Tryz.ntmps226
  go_wp2_with fail
  refine (div_any _ _ _).mono ?_
  rintro e w' ⟨rfl, rfl⟩
  go_wp2
  go_ret
  exact ⟨rfl, rfl⟩
theorem soft3_any (n b : Int) (B : Nat) (w : World) (hB : w.heap[B]? = some (.cells #[.int .i64 b] 2 (0, 0))) :
    Calls Tryz.prog 237 #[.int .i64 n, .pointer (some ⟨B, 0, none⟩)] w fun e w' => e = .returned (.int .i64 (divZ n b)) ∧ w' = w := by
  have cs := cell_of_one hB
  clear hB
  go_enter Tryz.func237, Tryz.ntmps237
  go_wp2_with fail
  refine (div_any _ _ _).mono ?_
  rintro e w' ⟨rfl, rfl⟩
  go_wp2
  go_ret
  exact ⟨rfl, rfl⟩
theorem soft1_any (n b : Int) (b0 : -2147483648 ≤ b) (b1 : b ≤ 2147483647) (B : Nat) (w : World) (hB : w.heap[B]? = some (.cells #[.int .i64 b] 2 (0, 0))) :
    Calls Tryz.prog 234 #[.int .i64 n, .pointer (some ⟨B, 0, none⟩)] w fun e w' => e = .returned (.int .i64 (expZ (addZ n (-b)))) ∧ w' = w := by
  have cs := cell_of_one hB
  clear hB
  go_enter Tryz.func234, Tryz.ntmps234
  go_wp2_with fail
  refine (add_any _ _ _).mono ?_
  rintro e w' ⟨rfl, rfl⟩
  go_wp2_with fail
  refine (exp_any _ _).mono ?_
  rintro e w' ⟨rfl, rfl⟩
  go_wp2
  go_ret
  exact ⟨rfl, rfl⟩
theorem soft2_any (k : Nat) (p s : Int) (B : Nat) (w : World) (hB : w.heap[B]? = some (.cells #[.int .i64 s] 2 (0, 0))) :
    Calls Tryz.prog 236 #[.int .i64 k, .int .i64 p, .pointer (some ⟨B, 0, none⟩)] w fun e w' => e = .returned (.tuple #[]) ∧ w'.heap[B]? = some (.cells #[.int .i64 (addZ s p)] 2 (0, 0)) ∧ But [B] w w' := by
  have cs := cell_of_one hB
  have fs := free_of_one hB
  have HO := hid (one_setCell (u := .int .i64 (addZ s p)) hB)
  clear hB
  go_enter Tryz.func236, Tryz.ntmps236
  go_wp2_with fail
  refine (add_any _ _ _).mono ?_
  rintro e w' ⟨rfl, rfl⟩
  go_wp2
  go_end0
  exact ⟨rfl, HO.out, ((But.refl _ _).set (p := ⟨B, 0, none⟩) (List.mem_singleton.2 rfl) _)⟩

/-- The greatest of the first k, within the bounds; 0 of none. -/
def greatK (zs : List Int) : Nat → Int
  | 0 => 0
  | k + 1 => if k = 0 ∨ greatK zs k < wi (zs[k]?.getD 0) then wi (zs[k]?.getD 0) else greatK zs k
theorem greatK_bd (zs : List Int) (k : Nat) : -2147483648 ≤ greatK zs k ∧ greatK zs k ≤ 2147483647 := by
  induction k with
  | zero => simp [greatK]
  | succ k ih => unfold greatK; split; exact ⟨wi_0 _, wi_1 _⟩; exact ih
theorem great1_any (k : Nat) (n s : Int) (hk : k ≤ 1000) (B : Nat) (w : World) (hB : w.heap[B]? = some (.cells #[.int .i64 s] 2 (0, 0))) :
    Calls Tryz.prog 247 #[.int .i64 k, .int .i64 n, .pointer (some ⟨B, 0, none⟩)] w fun e w' => e = .returned (.tuple #[]) ∧ w'.heap[B]? = some (.cells #[.int .i64 (if k = 0 ∨ s < wi n then wi n else s)] 2 (0, 0)) ∧ But [B] w w' := by
  have cs := cell_of_one hB
  have fs := free_of_one hB
  by_cases h0 : k = 0
  · rw [if_pos (.inl h0)]
    have HO := hid (one_setCell (u := .int .i64 (wi n)) hB)
    clear hB
    subst h0
    go_enter Tryz.func247, Tryz.ntmps247
    go_wp2_with fail
    refine (within_any _ _).mono ?_
    rintro e w' ⟨rfl, rfl⟩
    go_wp2
    go_end0
    exact ⟨rfl, HO.out, ((But.refl _ _).set (p := ⟨B, 0, none⟩) (List.mem_singleton.2 rfl) _)⟩
  · by_cases h1 : s < wi n
    · rw [if_pos (.inr h1)]
      have HO := hid (one_setCell (u := .int .i64 (wi n)) hB)
      clear hB
      go_enter Tryz.func247, Tryz.ntmps247
      go_wp2_with fail
      refine (within_any _ _).mono ?_
      rintro e w' ⟨rfl, rfl⟩
      go_wp2
      go_end0
      exact ⟨rfl, HO.out, ((But.refl _ _).set (p := ⟨B, 0, none⟩) (List.mem_singleton.2 rfl) _)⟩
    · rw [if_neg (by omega)]
      have HO := hid hB
      have h2 : ¬ (k : Int) = 0 := by omega
      have h3 : wi n ≤ s := by omega
      have h4 : ((k : Int) == 0) = false := by simpa using h0
      clear hB h0 h1
      go_enter Tryz.func247, Tryz.ntmps247
      go_wp2_with fail
      refine (within_any _ _).mono ?_
      rintro e w' ⟨rfl, rfl⟩
      go_wp2
      go_end0
      exact ⟨rfl, HO.out, But.refl _ _⟩
theorem greatest_any (a : Option Addr) (len cap : Nat) (zs : List Int) (w : World) (ha : Reads .i64 w a len cap zs) (hlen : len ≤ 1000) :
    Calls Tryz.prog 233 #[.slice a len cap] w fun e w' => e = .returned (.int .i64 (greatK zs len)) ∧ Below w.heap.size w w' := by
  have hn := SumAt.new w 0
  have HE : Hid (Calls Tryz.prog 215 #[.slice a len cap, .func (.func 247) #[] #[.pointer (some ⟨w.heap.size, 0, none⟩)]] (w.alloc (.cells #[.int .i64 0] 2)) fun e w' => e = .returned (.tuple #[]) ∧ SumAt w w.heap.size (greatK zs len) w') := by
    refine each_any 247 _ a len cap zs _ hlen (fun k W => SumAt w w.heap.size (greatK zs k) W) (enters_of Tryz.func247 (by kernel_rfl) rfl) (fun k wr h => ha.below h.2) hn ?_
    intro k wr hk hi
    exact (great1_any k _ _ (by omega) w.heap.size wr hi.1).mono fun e w' ⟨h1, h2, h3⟩ => ⟨h1, h2, hi.2.trans (h3.to one_le hi.2.size)⟩
  clear hn ha
  go_enter Tryz.func233, Tryz.ntmps233
  go_wp2_with fail
  refine HE.out.mono ?_
  rintro e w' ⟨rfl, hS⟩
  have cs := cell_of_one hS.1
  have HS := hid hS.2
  clear HE hS
  go_wp2
  go_ret
  exact ⟨rfl, HS.out⟩

theorem relu_any (a : Option Addr) (len cap : Nat) (zs : List Int) (w : World) (ha : Reads .i64 w a len cap zs) (hlen : len ≤ 1000) :
    Calls Tryz.prog 240 #[.slice a len cap] w fun e w' => Made w len (zs.map (fun n => max (wi n) 0)) e w' := by
  have HE := hid (madeof_any 249 #[] (enters_of Tryz.func249 (by kernel_rfl) rfl) a len cap zs _ ha hlen (fun n => max (wi n) 0) fun x wr hb => (relu1_any x wr).mono fun e w' ⟨h1, h2⟩ => ⟨h1, by rw [h2]; exact Below.refl _ _⟩)
  clear ha
  go_enter Tryz.func240, Tryz.ntmps240
  go_wp2_with fail
  refine HE.out.mono ?_
  rintro e w' ⟨g, rfl, hO, hb⟩
  have HO := hid hO
  have HB := hid hb
  clear hO hb HE
  go_wp2
  go_ret
  exact ⟨_, _, rfl, HO.out, HB.out⟩
end Go.Proofs.YtjgggialnegddaaGreat
namespace Go.Proofs.YtjgggialnegddaaGreat
open Go.RowKit
set_option linter.unusedVariables false
set_option maxRecDepth 1000000

theorem pair1_end {Bm g base n cap : Nat} {us : List Int} {z : Int} {wr w3 : World} (hgm : Bm ≠ g) (hO3 : w3.ownsRow base 2 1 (.slice (some ⟨g, 0, none⟩) (n + 1) cap) (n + 1) (us.map (Value.int .i64) ++ [.int .i64 z]))
    (hq : w3.heap[Bm]? = some (.cells #[.slice (some ⟨g, 0, none⟩) n cap] 131 (0, 0))) (hG : But [g] wr w3) :
    OwnK 2 base g (n + 1) cap (us ++ [z]) (w3.setCell ⟨Bm, 0, none⟩ (.slice (some ⟨g, 0, none⟩) (n + 1) cap)) ∧
    (w3.setCell ⟨Bm, 0, none⟩ (.slice (some ⟨g, 0, none⟩) (n + 1) cap)).heap[Bm]? = some (.cells #[.slice (some ⟨g, 0, none⟩) (n + 1) cap] 131 (0, 0)) ∧
    But [Bm, g] wr (w3.setCell ⟨Bm, 0, none⟩ (.slice (some ⟨g, 0, none⟩) (n + 1) cap)) := by
  refine ⟨?_, one_setCell hq, (hG.mono (by simp)).set (p := ⟨Bm, 0, none⟩) (by simp) _⟩
  unfold OwnK
  rw [List.map_append]
  exact ownsRow_setCell_other hO3 (by simp [Value.ownBlock]; exact fun e => hgm e.symm) _

set_option maxHeartbeats 1000000 in
theorem pair1_any (fn : Nat) (caps : Array Value) (hE : ∀ args w, (callFunc fn args).run Tryz.prog w = .ok (.enter fn args) w) (x y z : Int) (Bm Bo base g n cap : Nat) (us : List Int) (wr : World) (hcap : cap ≤ 1000) (hn : n < cap)
    (ho : wr.heap[Bo]? = some (.cells #[.func (.func fn) #[] caps] 169 (0, 0))) (hq : wr.heap[Bm]? = some (.cells #[.slice (some ⟨g, 0, none⟩) n cap] 131 (0, 0)))
    (hO : OwnK 2 base g n cap us wr) (hgo : Bo ≠ g) (hgm : Bm ≠ g) (hom : Bo ≠ Bm)
    (hC : Calls Tryz.prog fn (#[.int .i64 x, .int .i64 y] ++ caps) wr.drew fun e w' => e = .returned (.int .i64 z) ∧ Below wr.heap.size wr w') :
    Calls Tryz.prog 204 #[.int .i64 x, .int .i64 y, .pointer (some ⟨Bm, 0, none⟩), .pointer (some ⟨Bo, 0, none⟩)] wr fun e w' => e = .returned (.tuple #[]) ∧ OwnK 2 base g (n + 1) cap (us ++ [z]) w' ∧
      w'.heap[Bm]? = some (.cells #[.slice (some ⟨g, 0, none⟩) (n + 1) cap] 131 (0, 0)) ∧ But [Bm, g] wr w' := by
  obtain ⟨i0, hi, hz0, hz1, hz2⟩ := info_parts Tryz.info2
  have cd := cell_of_one ho
  have cq := cell_of_one hq
  have HO := hid hO
  have HK : Hid (∀ W, But [g] wr W → W.cell? ⟨Bo, 0, none⟩ = some (.func (.func fn) #[] caps) ∧ W.cell? ⟨Bm, 0, none⟩ = some (.slice (some ⟨g, 0, none⟩) n cap)) :=
    fun W h => ⟨h.cell cd (by simpa using hgo), h.cell cq (by simpa using hgm)⟩
  have HF : Hid (∀ W, But [g] wr W → W.heap[Bm]? = some (.cells #[.slice (some ⟨g, 0, none⟩) n cap] 131 (0, 0))) := fun W h => h.one hq (by simpa using hgm)
  have HGM : Hid (Bm ≠ g) := hgm
  clear ho hq hO hgo hgm
  go_enter Tryz.func204, Tryz.ntmps204
  go_wp2_with fail
  go_region_law ((first | (refine step_call2 (by rfl) 10 (by rfl) (.tmp 7) (.tmp 8) (.tmp 9) 2 2 (by rfl) fn caps (by rfl) hE (.int .i64 x) (.int .i64 y) (by rfl) (by rfl) (.int .i64 z) (fun w' => Below wr.heap.size wr w') hC ?_; intro w2 hB; have cm2 := (HK.out _ (But.of hB)).2; have cm3 := (HK.out _ ((But.of hB).alloc (.cells #[.int .i64 z] 2))).2) | (refine step_append_fits (by rfl) 12 (by rfl) (.tmp 6) (.tmp 11) 131 (by rfl) base 2 i0 1 Tryz.underlying131 hi hz1 g n cap (us.map (Value.int .i64)) (by rfl) ((HO.out.stays hB).alloc _) ⟨w2.heap.size, 0, none⟩ 1 1 [.int .i64 z] (by rfl) rfl (news_one _ _ _ _) (one_cell _ _) (by omega) ?_; intro w3 hO3 hg; have HG := hid (but_grown ((But.of hB).alloc (.cells #[.int .i64 z] 2)) hg (List.mem_singleton.2 rfl)); have cm := (HK.out _ HG.out).2; have fm := free_of_one (HF.out _ HG.out))))
  all_goals
    have HE1 := hid (pair1_end HGM.out hO3 (HF.out _ HG.out) HG.out)
    clear hO3 hg HG cm fm cm2 cm3 hB HF HK cd cq HO hC hi hz0 hz1 hz2
    go_wp2
    go_end0
    exact ⟨rfl, HE1.out⟩

/-- What stands in memory between the rounds of madeOfBoth: the function, the row, and the variable that holds it. -/
structure PairAt (w : World) (fn : Nat) (caps : Array Value) (B cap n : Nat) (us : List Int) (W : World) : Prop where
  old : Below w.heap.size w W
  fun_ : W.heap[B]? = some (.cells #[.func (.func fn) #[] caps] 169 (0, 0))
  var : W.heap[B + 2]? = some (.cells #[.slice (some ⟨B + 1, 0, none⟩) n cap] 131 (0, 0))
  own : OwnK 2 w.heap.size (B + 1) n cap us W
theorem PairAt.below {w : World} {fn : Nat} {caps : Array Value} {B cap n : Nat} {us : List Int} {W W' : World} (h : PairAt w fn caps B cap n us W) (hb : Below W.heap.size W W') : PairAt w fn caps B cap n us W' :=
  ⟨h.old.trans (hb.mono h.old.size), (hb.block _ (lt_of_block h.fun_)).trans h.fun_, (hb.block _ (lt_of_block h.var)).trans h.var, h.own.stays hb⟩
theorem PairAt.new (w : World) (fn : Nat) (caps : Array Value) (m : Nat) (hm : m ≤ 1000) :
    PairAt w fn caps w.heap.size m 0 [] (((w.alloc (.cells #[.func (.func fn) #[] caps] 169)).alloc (.cells (madeCells #[.int .i64 0] m) 2)).alloc (.cells #[.slice (some ⟨w.heap.size + 1, 0, none⟩) 0 m] 131)) := by
  have h1 := own_room 2 (w.alloc (.cells #[.func (.func fn) #[] caps] 169)) m (by omega)
  have e1 : (w.alloc (.cells #[.func (.func fn) #[] caps] 169)).heap.size = w.heap.size + 1 := by simp
  rw [e1] at h1
  refine ⟨?_, ?_, ?_, ?_⟩
  · exact (((Below.refl _ _).alloc (Nat.le_refl _) _).alloc (by simp) _).alloc (by simp; omega) _
  · rw [Below.heap_alloc _ _ _ (by simp; omega), Below.heap_alloc _ _ _ (by simp)]
    exact heap_alloc_new w _
  · have := heap_alloc_new ((w.alloc (.cells #[.func (.func fn) #[] caps] 169)).alloc (.cells (madeCells #[.int .i64 0] m) 2)) (.cells #[.slice (some ⟨w.heap.size + 1, 0, none⟩) 0 m] 131)
    simpa using this
  · exact (h1.low (by omega)).stays ((Below.refl _ _).alloc (Nat.le_refl _) _)
/-- What is made of the first k places of both. -/
def pairK (f : Int → Int → Int) (xs ys : List Int) : Nat → List Int
  | 0 => []
  | k + 1 => pairK f xs ys k ++ [f (xs[k]?.getD 0) (ys[k]?.getD 0)]
theorem pairK_len (f : Int → Int → Int) (xs ys : List Int) (k : Nat) : (pairK f xs ys k).length = k := by
  induction k with
  | zero => rfl
  | succ k ih => simp [pairK, ih]

theorem pairEach_any (fn : Nat) (caps : Array Value) (hE : ∀ args w, (callFunc fn args).run Tryz.prog w = .ok (.enter fn args) w) (a b : Option Addr) (la ca lb cb : Nat) (xs ys : List Int) (w W : World) (ha : Reads .i64 w a la ca xs) (hb : Reads .i64 w b lb cb ys) (hla : la ≤ 1000) (hlb : lb ≤ 1000) (f : Int → Int → Int)
    (hC : ∀ x y wr, Below w.heap.size w wr → Calls Tryz.prog fn (#[.int .i64 x, .int .i64 y] ++ caps) wr fun e w' => e = .returned (.int .i64 (f x y)) ∧ Below wr.heap.size wr w')
    (h0 : PairAt w fn caps w.heap.size (min la lb) 0 [] W) :
    Calls Tryz.prog 203 #[.slice a la ca, .slice b lb cb, .func (.func 204) #[] #[.pointer (some ⟨w.heap.size + 2, 0, none⟩), .pointer (some ⟨w.heap.size, 0, none⟩)]] W
      fun e w' => e = .returned (.tuple #[]) ∧ PairAt w fn caps w.heap.size (min la lb) (min la lb) (pairK f xs ys (min la lb)) w' := by
  have hS : ∀ s ∈ [w.heap.size + 2, w.heap.size + 1], w.heap.size ≤ s := by simp
  refine (both_any 204 _ (enters_of Tryz.func204 (by kernel_rfl) rfl) [w.heap.size + 2, w.heap.size + 1] a b la ca lb cb xs ys W (ha.below h0.old) (hb.below h0.old) hla hlb ?_ (ha.past hS) (hb.past hS)
    (fun k W => PairAt w fn caps w.heap.size (min la lb) k (pairK f xs ys k) W) h0 (fun k W W' h hb => h.below hb) ?_).mono fun e w' h => ⟨h.1, h.2.1⟩
  · have h1 := lt_of_block h0.var
    intro s hs
    simp at hs
    omega
  · intro k wr hk hk' hI
    have hdr : Below wr.heap.size wr wr.drew := (Below.refl _ _).drew
    refine (pair1_any fn caps hE _ _ (f (xs[k]?.getD 0) (ys[k]?.getD 0)) (w.heap.size + 2) w.heap.size w.heap.size (w.heap.size + 1) k (min la lb) _ wr (by omega) (by omega) hI.fun_ hI.var hI.own (by omega) (by omega) (by omega) ?_).mono ?_
    · exact (hC _ _ _ (hI.old.trans (hdr.mono hI.old.size))).mono fun e w' ⟨h1, h2⟩ => ⟨h1, hdr.trans (h2.mono (Nat.le_refl _))⟩
    · rintro e w' ⟨h1, h2, h3, h4⟩
      exact ⟨h1, ⟨hI.old.trans (h4.to hS hI.old.size), h4.one hI.fun_ (by simp), h3, h2⟩, h4⟩

theorem madeofboth_any (fn : Nat) (caps : Array Value) (hE : ∀ args w, (callFunc fn args).run Tryz.prog w = .ok (.enter fn args) w) (a b : Option Addr) (la ca lb cb : Nat) (xs ys : List Int) (w : World) (ha : Reads .i64 w a la ca xs) (hb : Reads .i64 w b lb cb ys) (hla : la ≤ 1000) (hlb : lb ≤ 1000) (f : Int → Int → Int)
    (hC : ∀ x y wr, Below w.heap.size w wr → Calls Tryz.prog fn (#[.int .i64 x, .int .i64 y] ++ caps) wr fun e w' => e = .returned (.int .i64 (f x y)) ∧ Below wr.heap.size wr w') :
    Calls Tryz.prog 177 #[.slice a la ca, .slice b lb cb, .func (.func fn) #[] caps] w fun e w' => Made w (min la lb) (pairK f xs ys (min la lb)) e w' := by
  obtain ⟨m, hm⟩ : ∃ m, min la lb = m := ⟨_, rfl⟩
  have hm1 : m ≤ 1000 := by omega
  have HM := hid fun W => pairEach_any fn caps hE a b la ca lb cb xs ys w W ha hb hla hlb f hC
  rw [hm] at HM ⊢
  have hmk := make_room (w.alloc (.cells #[.func (.func fn) #[] caps] 169)) m (by omega)
  clear ha hb hC
  rcases Nat.lt_or_ge lb la with hl | hl
  · obtain rfl : lb = m := by omega
    clear hm
    go_enter Tryz.func177, Tryz.ntmps177
    go_wp2_with fail
    refine (count_any _ _ _ _ hla).mono ?_
    rintro e w' ⟨rfl, rfl⟩
    go_wp2_with fail
    refine (count_any _ _ _ _ hlb).mono ?_
    rintro e w' ⟨rfl, rfl⟩
    go_wp2_with fail
    refine (HM.out _ (PairAt.new _ _ _ _ hm1)).mono ?_
    rintro e w' ⟨rfl, h⟩
    have cv := cell_of_one h.var
    have HO := hid h.own
    have HB := hid h.old
    clear h HM hmk
    go_wp2
    go_ret
    exact ⟨_, _, rfl, HO.out, HB.out⟩
  · obtain rfl : la = m := by omega
    clear hm
    go_enter Tryz.func177, Tryz.ntmps177
    go_wp2_with fail
    refine (count_any _ _ _ _ hla).mono ?_
    rintro e w' ⟨rfl, rfl⟩
    go_wp2_with fail
    refine (count_any _ _ _ _ hlb).mono ?_
    rintro e w' ⟨rfl, rfl⟩
    go_wp2_with fail
    refine (HM.out _ (PairAt.new _ _ _ _ hm1)).mono ?_
    rintro e w' ⟨rfl, h⟩
    have cv := cell_of_one h.var
    have HO := hid h.own
    have HB := hid h.old
    clear h HM hmk
    go_wp2
    go_ret
    exact ⟨_, _, rfl, HO.out, HB.out⟩
theorem vadd_any (a b : Option Addr) (la ca lb cb : Nat) (xs ys : List Int) (w : World) (ha : Reads .i64 w a la ca xs) (hb : Reads .i64 w b lb cb ys) (hla : la ≤ 1000) (hlb : lb ≤ 1000) :
    Calls Tryz.prog 150 #[.slice a la ca, .slice b lb cb] w fun e w' => Made w (min la lb) (pairK addZ xs ys (min la lb)) e w' := by
  have HE := hid (madeofboth_any 178 #[] (enters_of Tryz.func178 (by kernel_rfl) rfl) a b la ca lb cb xs ys w ha hb hla hlb addZ fun x y wr hb => (add_any x y wr).mono fun e w' ⟨h1, h2⟩ => ⟨h1, by rw [h2]; exact Below.refl _ _⟩)
  clear ha hb
  go_enter Tryz.func150, Tryz.ntmps150
  go_wp2_with fail
  refine HE.out.mono ?_
  rintro e w' ⟨g, cap, rfl, hO, hb⟩
  have HO := hid hO
  have HB := hid hb
  clear hO hb HE
  go_wp2
  go_ret
  exact ⟨_, _, rfl, HO.out, HB.out⟩
end Go.Proofs.YtjgggialnegddaaGreat
namespace Go.Proofs.YtjgggialnegddaaGreat
open Go.RowKit
set_option linter.unusedVariables false
set_option maxRecDepth 1000000

/-- The sum of the first k, in order. -/
def sumK (ps : List Int) : Nat → Int
  | 0 => 0
  | k + 1 => addZ (sumK ps k) (ps[k]?.getD 0)
/-- What the places of a vector are divided by, that its length be 1. -/
def rootZ (zs : List Int) : Int := sqrtZ (addZ (divZ (dotK zs zs zs.length) (fromZ zs.length)) 1)
def normL (zs : List Int) : List Int := zs.map (divZ · (rootZ zs))
/-- The powers of which weights are made. -/
def powL (zs : List Int) : List Int := zs.map fun x => expZ (addZ x (-(greatK zs zs.length)))
def softL (zs : List Int) : List Int := (powL zs).map (divZ · (sumK (powL zs) zs.length))
theorem powL_len (zs : List Int) : (powL zs).length = zs.length := by simp [powL]

theorem norm_any (a : Option Addr) (len cap : Nat) (zs : List Int) (w : World) (ha : Reads .i64 w a len cap zs) (hlen : len ≤ 1000) :
    Calls Tryz.prog 200 #[.slice a len cap] w fun e w' => Made w len (normL zs) e w' := by
  have hz := ha.size
  subst hz
  have hD := dot_any a a _ cap _ cap zs zs w ha ha hlen hlen
  rw [Nat.min_self] at hD
  have HR : Hid (sqrtZ (addZ (divZ (dotK zs zs zs.length) (fromZ zs.length)) 1) = rootZ zs) := rfl
  have HE : Hid (∀ w1, Below w.heap.size w w1 → Calls Tryz.prog 225 #[.slice a zs.length cap, .func (.func 226) #[] #[.pointer (some ⟨w1.heap.size, 0, none⟩)]] (w1.alloc (.cells #[.int .i64 (rootZ zs)] 2))
      fun e w' => Made w zs.length (normL zs) e w') := by
    intro w1 hb1
    have hn := SumAt.new w1 (rootZ zs)
    have hsz : w.heap.size ≤ (w1.alloc (.cells #[.int .i64 (rootZ zs)] 2)).heap.size := by have := hb1.size; simp; omega
    refine (madeof_any 226 #[.pointer (some ⟨w1.heap.size, 0, none⟩)] (enters_of Tryz.func226 (by kernel_rfl) rfl) a zs.length cap zs _ ((ha.below hb1).below hn.2) hlen (divZ · (rootZ zs)) fun x wr hb => (norm1_any x (rootZ zs) w1.heap.size wr ((hb.block _ (lt_of_block hn.1)).trans hn.1)).mono fun e w' ⟨h1, h2⟩ => ⟨h1, by rw [h2]; exact Below.refl _ _⟩).mono ?_
    rintro e w' ⟨g, rfl, hO, hb⟩
    exact ⟨g, _, rfl, hO.low hsz, hb1.trans ((hn.2.mono hb1.size).trans (hb.mono hsz))⟩
  clear ha
  go_enter Tryz.func200, Tryz.ntmps200
  go_wp2_with fail
  refine hD.mono ?_
  rintro e w1 ⟨rfl, hb1⟩
  have hE := HE.out w1 hb1
  clear HE hD hb1
  go_wp2_with fail
  refine (count_any _ _ _ _ hlen).mono ?_
  rintro e w' ⟨rfl, rfl⟩
  go_wp2_with fail
  refine (from_any _ _).mono ?_
  rintro e w' ⟨rfl, rfl⟩
  go_wp2_with fail
  refine (div_any _ _ _).mono ?_
  rintro e w' ⟨rfl, rfl⟩
  go_wp2_with fail
  refine (add_any _ _ _).mono ?_
  rintro e w' ⟨rfl, rfl⟩
  go_wp2_with fail
  refine (sqrt_any _ _).mono ?_
  rintro e w' ⟨rfl, rfl⟩
  rw [HR.out]
  go_wp2_with fail
  refine hE.mono ?_
  rintro e w' ⟨g, cap', rfl, hO, hb⟩
  have HO := hid hO
  have HB := hid hb
  clear hO hb hE
  go_wp2
  go_ret
  exact ⟨_, _, rfl, HO.out, HB.out⟩

theorem soft_any (a : Option Addr) (len cap : Nat) (zs : List Int) (w : World) (ha : Reads .i64 w a len cap zs) (hlen : len ≤ 1000) :
    Calls Tryz.prog 209 #[.slice a len cap] w fun e w' => Made w len (softL zs) e w' := by
  have hz := ha.size
  subst hz
  have hG := greatest_any a _ cap zs w ha hlen
  have HE1 : Hid (∀ w1, Below w.heap.size w w1 → Calls Tryz.prog 225 #[.slice a zs.length cap, .func (.func 234) #[] #[.pointer (some ⟨w1.heap.size, 0, none⟩)]] (w1.alloc (.cells #[.int .i64 (greatK zs zs.length)] 2))
      fun e w' => ∃ g, e = .returned (.slice (some ⟨g, 0, none⟩) zs.length zs.length) ∧ OwnK 2 w.heap.size g zs.length zs.length (powL zs) w' ∧ Below w.heap.size w w') := by
    intro w1 hb1
    have hn := SumAt.new w1 (greatK zs zs.length)
    have hgb := greatK_bd zs zs.length
    have hsz : w.heap.size ≤ (w1.alloc (.cells #[.int .i64 (greatK zs zs.length)] 2)).heap.size := by have := hb1.size; simp; omega
    refine (madeof_any 234 #[.pointer (some ⟨w1.heap.size, 0, none⟩)] (enters_of Tryz.func234 (by kernel_rfl) rfl) a zs.length cap zs _ ((ha.below hb1).below hn.2) hlen (fun x => expZ (addZ x (-(greatK zs zs.length)))) fun x wr hb => (soft1_any x _ hgb.1 hgb.2 w1.heap.size wr ((hb.block _ (lt_of_block hn.1)).trans hn.1)).mono fun e w' ⟨h1, h2⟩ => ⟨h1, by rw [h2]; exact Below.refl _ _⟩).mono ?_
    rintro e w' ⟨g, rfl, hO, hb⟩
    exact ⟨g, rfl, hO.low hsz, hb1.trans ((hn.2.mono hb1.size).trans (hb.mono hsz))⟩
  have HE2 : Hid (∀ w2 g, OwnK 2 w.heap.size g zs.length zs.length (powL zs) w2 → Calls Tryz.prog 215 #[.slice (some ⟨g, 0, none⟩) zs.length zs.length, .func (.func 236) #[] #[.pointer (some ⟨w2.heap.size, 0, none⟩)]] (w2.alloc (.cells #[.int .i64 0] 2))
      fun e w' => e = .returned (.tuple #[]) ∧ SumAt w2 w2.heap.size (sumK (powL zs) zs.length) w') := by
    intro w2 g hO
    refine each_any 236 _ _ zs.length zs.length (powL zs) _ hlen (fun k W => SumAt w2 w2.heap.size (sumK (powL zs) k) W) (enters_of Tryz.func236 (by kernel_rfl) rfl) (fun k wr h => hO.reads.below h.2) (SumAt.new w2 0) ?_
    intro k wr hk hi
    exact (soft2_any k _ _ w2.heap.size wr hi.1).mono fun e w' ⟨h1, h2, h3⟩ => ⟨h1, h2, hi.2.trans (h3.to one_le hi.2.size)⟩
  have HE3 : Hid (∀ w2 w3 g, OwnK 2 w.heap.size g zs.length zs.length (powL zs) w2 → Below w.heap.size w w2 → SumAt w2 w2.heap.size (sumK (powL zs) zs.length) w3 → Calls Tryz.prog 225 #[.slice (some ⟨g, 0, none⟩) zs.length zs.length, .func (.func 237) #[] #[.pointer (some ⟨w2.heap.size, 0, none⟩)]] w3
      fun e w' => Made w zs.length (softL zs) e w') := by
    intro w2 w3 g hO hb2 hs
    have h23 : Below w.heap.size w w3 := hb2.trans (hs.2.mono hb2.size)
    refine (madeof_any 237 #[.pointer (some ⟨w2.heap.size, 0, none⟩)] (enters_of Tryz.func237 (by kernel_rfl) rfl) _ zs.length zs.length (powL zs) w3 (hO.reads.below hs.2) hlen (divZ · (sumK (powL zs) zs.length)) fun x wr hb => (soft3_any x _ w2.heap.size wr ((hb.block _ (lt_of_block hs.1)).trans hs.1)).mono fun e w' ⟨h1, h2⟩ => ⟨h1, by rw [h2]; exact Below.refl _ _⟩).mono ?_
    rintro e w' ⟨g', rfl, hO', hb⟩
    exact ⟨g', _, rfl, hO'.low h23.size, h23.trans (hb.mono h23.size)⟩
  clear ha
  go_enter Tryz.func209, Tryz.ntmps209
  go_wp2_with fail
  refine hG.mono ?_
  rintro e w1 ⟨rfl, hb1⟩
  have hE := HE1.out w1 hb1
  clear HE1 hG hb1
  generalize greatK zs zs.length = gr at *
  go_wp2_with fail
  refine hE.mono ?_
  rintro e w2 ⟨g, rfl, hO, hb2⟩
  have hE2 := HE2.out w2 g hO
  have HE4 := hid fun w3 h => HE3.out w2 w3 g hO hb2 h
  clear HE2 HE3 hE hO hb2
  go_wp2_with fail
  refine hE2.mono ?_
  rintro e w3 ⟨rfl, hs⟩
  have hE3 := HE4.out w3 hs
  clear HE4 hE2 hs
  go_wp2_with fail
  refine hE3.mono ?_
  rintro e w' ⟨g, cap', rfl, hO, hb⟩
  have HO := hid hO
  have HB := hid hb
  clear hO hb hE3
  go_wp2
  go_ret
  exact ⟨_, _, rfl, HO.out, HB.out⟩
theorem cell_al {w : World} {p : Addr} {v : Value} (h : w.cell? p = some v) (o : Obj) : (w.alloc o).cell? p = some v :=
  (((Below.refl w.heap.size w).alloc (Nat.le_refl _) o).cell (World.block_lt_of_cell? _ _ h)).trans h
end Go.Proofs.YtjgggialnegddaaGreat
namespace Go.Proofs.YtjgggialnegddaaGreat
open Go.RowKit
set_option linter.unusedVariables false
set_option maxRecDepth 1000000

theorem count2_any (a : Option Addr) (len cap : Nat) (w : World) (hlen : len ≤ 1000) :
    Calls Tryz.prog 244 #[.slice a len cap] w fun e w' => e = .returned (.int .i64 len) ∧ w' = w := by
  go_enter Tryz.func244, Tryz.ntmps244
  go_wp2
  go_ret
  exact ⟨rfl, rfl⟩
theorem each2_any (fn : Nat) (caps : Array Value) (a : Option Addr) (len cap : Nat) (hs : List Hd) (w : World) (hlen : len ≤ 1000) (I : Nat → World → Prop)
    (hE : ∀ args w, (callFunc fn args).run Tryz.prog w = .ok (.enter fn args) w) (hR : ∀ k wr, I k wr → Rd2 wr a len cap hs) (h0 : I 0 w)
    (hS : ∀ k wr, k < len → I k wr → Calls Tryz.prog fn (#[.int .i64 (k : Int), .slice (hs[k]?.getD (none, 0, 0)).1 (hs[k]?.getD (none, 0, 0)).2.1 (hs[k]?.getD (none, 0, 0)).2.2] ++ caps) wr fun e w' => e = .returned (.tuple #[]) ∧ I (k + 1) w') :
    Calls Tryz.prog 245 #[.slice a len cap, .func (.func fn) #[] caps] w fun e w' => e = .returned (.tuple #[]) ∧ I len w' := by
  have hr0 := hR 0 w h0
  have hroom := hr0.room
  have hmost := hr0.most
  have hbare := hr0.bare
  clear hr0
  have H0 := hid h0
  have HR := hid hR
  have HS := hid hS
  clear h0 hR hS
  go_enter Tryz.func245, Tryz.ntmps245
  cases a with
  | none =>
    obtain ⟨rfl, rfl⟩ := hbare rfl
    go_wp2_with fail
    refine (count2_any _ _ _ _ (by omega)).mono ?_
    rintro e w' ⟨rfl, rfl⟩
    go_wp2_with fail
    go_loopw [11] (fun i wr => ∃ k : Nat, k = 0 ∧ i = .int .i64 k ∧ Hid (I k wr)) (fun i _ => 0 - (intOf i).toNat)
    case atStart => exact ⟨0, rfl, rfl, H0⟩
    case round =>
      obtain ⟨k, rfl, rfl, HI⟩ := hrel
      go_wp2
      go_end0
      exact ⟨rfl, HI.out⟩
  | some ad =>
    clear hbare
    go_wp2_with fail
    refine (count2_any _ _ _ _ (by omega)).mono ?_
    rintro e w' ⟨rfl, rfl⟩
    go_wp2_with fail
    go_loopw [11] (fun i wr => ∃ k : Nat, k ≤ len ∧ i = .int .i64 k ∧ Hid (I k wr)) (fun i _ => len - (intOf i).toNat)
    case atStart => exact ⟨0, Nat.zero_le _, rfl, H0⟩
    case round =>
      obtain ⟨k, hk, rfl, HI⟩ := hrel
      by_cases hlt : k < len
      · obtain ⟨b, off, hab, hc⟩ := (HR.out k wr HI.out).cell k hlt
        cases hab
        have hC := HS.out k wr hlt HI.out
        generalize hs[k]?.getD (none, 0, 0) = z at *
        obtain ⟨z1, z2, z3⟩ := z
        simp only at hc hC
        go_wp2_with fail
        refine hC.mono ?_
        rintro e w2 ⟨rfl, hI2⟩
        have HI2 := hid hI2
        clear hI2 hC
        go_wp2_with fail
        go_round
        case rel => exact ⟨k + 1, by omega, by go_num, HI2⟩
        case measure => simp [intOf]; omega
      · obtain rfl : k = len := by omega
        go_wp2
        go_end0
        exact ⟨rfl, HI.out⟩

theorem made2_any (fn : Nat) (caps : Array Value) (hE : ∀ args w, (callFunc fn args).run Tryz.prog w = .ok (.enter fn args) w) (k : Nat) (x : Hd) (y : Int) (Bo Bm base g m : Nat) (us : List Int) (wr : World) (hm : m ≤ 1000)
    (ho : wr.heap[Bo]? = some (.cells #[.func (.func fn) #[] caps] 257 (0, 0))) (hq : wr.heap[Bm]? = some (.cells #[.slice (some ⟨g, 0, none⟩) m m] 131 (0, 0)))
    (hO : OwnK 2 base g m m us wr) (hk : k < m) (hgo : Bo ≠ g) (hgm : Bm ≠ g)
    (hC : Calls Tryz.prog fn (#[.slice x.1 x.2.1 x.2.2] ++ caps) wr.drew fun e w' => e = .returned (.int .i64 y) ∧ Below wr.heap.size wr w') :
    Calls Tryz.prog 246 #[.int .i64 k, .slice x.1 x.2.1 x.2.2, .pointer (some ⟨Bo, 0, none⟩), .pointer (some ⟨Bm, 0, none⟩)] wr fun e w' => e = .returned (.tuple #[]) ∧ OwnK 2 base g m m (us.set k y) w' ∧ But [g] wr w' := by
  obtain ⟨x1, x2, x3⟩ := x
  simp only at hC ⊢
  have cd := cell_of_one ho
  have cq := cell_of_one hq
  have HO := hid hO
  have HK : Hid (∀ W, But [g] wr W → W.cell? ⟨Bo, 0, none⟩ = some (.func (.func fn) #[] caps) ∧ W.cell? ⟨Bm, 0, none⟩ = some (.slice (some ⟨g, 0, none⟩) m m)) :=
    fun W h => ⟨h.cell cd (by simpa using hgo), h.cell cq (by simpa using hgm)⟩
  clear ho hq hO hgo hgm
  go_enter Tryz.func246, Tryz.ntmps246
  go_wp2_with fail
  go_region_held3 (fun W : World => W.cell? ⟨Bo, 0, none⟩ = some (.func (.func fn) #[] caps) ∧ W.cell? ⟨Bm, 0, none⟩ = some (.slice (some ⟨g, 0, none⟩) m m)) (first | exact ⟨cd, cq⟩ | assumption | exact HK.out _ (But.of hB) | exact HK.out _ ((But.of hB).set (p := ⟨g, k, none⟩) (List.mem_singleton.2 rfl) _)) (first | (refine hC.mono ?_; rintro e w2 ⟨rfl, hB⟩; have HO2 := hid (HO.out.stays hB); have ck := HO2.out.cell hk; have fk := HO2.out.frozen k))
  have HS : Hid (OwnK 2 base g m m (us.set k y) (w2.setCell ⟨g, k, none⟩ (.int .i64 y))) := HO2.out.set k y
  have HB : Hid (But [g] wr (w2.setCell ⟨g, k, none⟩ (.int .i64 y))) := (But.of hB).set (p := ⟨g, k, none⟩) (List.mem_singleton.2 rfl) _
  clear HK cd cq HO HO2 ck fk hB hC
  go_wp2
  go_end0
  exact ⟨rfl, HS.out, HB.out⟩

theorem madeof2_any (fn : Nat) (caps : Array Value) (hE : ∀ args w, (callFunc fn args).run Tryz.prog w = .ok (.enter fn args) w) (a : Option Addr) (len cap : Nat) (hs : List Hd) (w : World) (ha : Rd2 w a len cap hs) (hlen : len ≤ 1000) (f : Nat → Int)
    (hC : ∀ k wr, k < len → Below w.heap.size w wr → Calls Tryz.prog fn (#[.slice (hs[k]?.getD (none, 0, 0)).1 (hs[k]?.getD (none, 0, 0)).2.1 (hs[k]?.getD (none, 0, 0)).2.2] ++ caps) wr fun e w' => e = .returned (.int .i64 (f k)) ∧ Below wr.heap.size wr w') :
    Calls Tryz.prog 230 #[.slice a len cap, .func (.func fn) #[] caps] w fun e w' => Made w len (rowK f len) e w' := by
  have HM : Hid (∀ W, MadeAt w fn caps 257 w.heap.size len (List.replicate len 0) W → Calls Tryz.prog 245 #[.slice a len cap, .func (.func 246) #[] #[.pointer (some ⟨w.heap.size, 0, none⟩), .pointer (some ⟨w.heap.size + 2, 0, none⟩)]] W
      fun e w' => e = .returned (.tuple #[]) ∧ MadeAt w fn caps 257 w.heap.size len (rowK f len) w') := by
    intro W h0
    refine (each2_any 246 _ a len cap hs W hlen (fun k W => MadeAt w fn caps 257 w.heap.size len (rowK f k ++ List.replicate (len - k) 0) W) (enters_of Tryz.func246 (by kernel_rfl) rfl) ?_ ?_ ?_).mono ?_
    · intro k wr hk
      exact ha.below hk.old
    · exact h0
    · intro k wr hk hI
      have hdr : Below wr.heap.size wr wr.drew := (Below.refl _ _).drew
      refine (made2_any fn caps hE k _ (f k) w.heap.size (w.heap.size + 2) w.heap.size (w.heap.size + 1) len _ wr hlen hI.fun_ hI.var hI.own hk (by omega) (by omega) ?_).mono ?_
      · exact (hC k _ hk (hI.old.trans (hdr.mono hI.old.size))).mono fun e w' ⟨h1, h2⟩ => ⟨h1, hdr.trans (h2.mono (Nat.le_refl _))⟩
      · rintro e w' ⟨h1, h2, h3⟩
        refine ⟨h1, ?_, h3.one hI.fun_ (by simp), h3.one hI.var (by simp), ?_⟩
        · exact hI.old.trans (h3.to (fun s hs => by rw [List.mem_singleton.1 hs]; omega) hI.old.size)
        · rw [← rowK_set f hk]; exact h2
    · rintro e w' ⟨h1, h2⟩
      rw [Nat.sub_self, List.replicate_zero, List.append_nil] at h2
      exact ⟨h1, h2⟩
  have hmk := make_ints (w.alloc (.cells #[.func (.func fn) #[] caps] 257)) len (by omega)
  clear ha hC
  go_enter Tryz.func230, Tryz.ntmps230
  go_wp2_with fail
  refine (count2_any _ _ _ _ hlen).mono ?_
  rintro e w' ⟨rfl, rfl⟩
  go_wp2_with fail
  refine (HM.out _ (MadeAt.new _ _ _ _ _ hlen)).mono ?_
  rintro e w' ⟨rfl, h⟩
  have cv := cell_of_one h.var
  have HO := hid h.own
  have HB := hid h.old
  clear h HM hmk
  go_wp2
  go_ret
  exact ⟨_, _, rfl, HO.out, HB.out⟩

theorem mul1_any (a b : Option Addr) (la ca lb cb : Nat) (xs ys : List Int) (B : Nat) (w : World) (ha : Reads .i64 w a la ca xs) (hb : Reads .i64 w b lb cb ys) (hla : la ≤ 1000) (hlb : lb ≤ 1000)
    (hB : w.heap[B]? = some (.cells #[.slice b lb cb] 131 (0, 0))) :
    Calls Tryz.prog 231 #[.slice a la ca, .pointer (some ⟨B, 0, none⟩)] w fun e w' => e = .returned (.int .i64 (dotK xs ys (min la lb))) ∧ Below w.heap.size w w' := by
  have cs := cell_of_one hB
  have hD := dot_any a b la ca lb cb xs ys w ha hb hla hlb
  clear hB ha hb
  go_enter Tryz.func231, Tryz.ntmps231
  go_wp2_with fail
  refine hD.mono ?_
  rintro e w' ⟨rfl, hb⟩
  have HB := hid hb
  clear hb hD
  go_wp2
  go_ret
  exact ⟨rfl, HB.out⟩
/-- Of each row its product with a vector. -/
def mulF (xss : List (List Int)) (ys : List Int) (i : Nat) : Int := dotK (xss[i]?.getD []) ys (min (xss[i]?.getD []).length ys.length)
theorem vmul_any (a b : Option Addr) (la ca lb cb : Nat) (hs : List Hd) (xss : List (List Int)) (ys : List Int) (w : World) (ha : Tbl w a la ca hs xss) (hb : Reads .i64 w b lb cb ys) (hla : la ≤ 1000) (hlb : lb ≤ 1000) :
    Calls Tryz.prog 207 #[.slice a la ca, .slice b lb cb] w fun e w' => Made w la (rowK (mulF xss ys) la) e w' := by
  have hbl : Below w.heap.size w (w.alloc (.cells #[.slice b lb cb] 131)) := (Below.refl _ _).alloc (Nat.le_refl _) _
  have hnew := heap_alloc_new w (.cells #[.slice b lb cb] 131)
  have HE := hid (madeof2_any 231 #[.pointer (some ⟨w.heap.size, 0, none⟩)] (enters_of Tryz.func231 (by kernel_rfl) rfl) a la ca hs _ (ha.below hbl).rd hla (mulF xss ys) fun k wr hk hw => by
    have h1 := ((ha.below hbl).below hw).rows k hk
    have h2 := (hb.below hbl).below hw
    refine (mul1_any _ _ _ _ _ _ _ _ w.heap.size wr h1 h2 (ha.short k hk) hlb ((hw.block _ (by simp)).trans hnew)).mono ?_
    rintro e w' ⟨e1, e2⟩
    refine ⟨?_, e2⟩
    rw [e1]
    unfold mulF
    rw [h1.size, h2.size])
  have HS : Hid (w.heap.size ≤ (w.alloc (.cells #[.slice b lb cb] 131)).heap.size) := by unfold Hid; simp
  have HN := hid hbl
  clear hbl ha hb hnew
  go_enter Tryz.func207, Tryz.ntmps207
  go_wp2_with fail
  refine HE.out.mono ?_
  rintro e w' ⟨g, cap, rfl, hO, hb⟩
  have HO := hid (hO.low HS.out)
  have HB := hid (HN.out.trans (hb.mono HS.out))
  clear hO hb HE
  go_wp2
  go_ret
  exact ⟨_, _, rfl, HO.out, HB.out⟩
end Go.Proofs.YtjgggialnegddaaGreat
