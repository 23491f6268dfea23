/-
  Mathematics of the draws: a number mixed (mixZ) and the way back, the draw of a seed (atZ), the draw below a number (belowZ), the upper half of a product, a seed made of labels (deriveZ).
-/
import Derived.Test.YtaiojhigomdocaaMath
import Derived.Laws.Bits64
import Derived.Laws.Bits128
import Derived.Laws.BitsAllLaws
namespace Go.Proofs.Ytaiojhigomdocaa
open Go.RowKit
set_option linter.unusedVariables false
set_option maxRecDepth 1000000

/-- A number turned by itself gone to the right. -/
def sx (n k : Int) : Int := bits .xor .u64 n (n / k)
/-- A number modulo 2 ^ 64. -/
def wr (n : Int) : Int := IntKind.u64.wrap n
/-- A number mixed. -/
def mixZ (n : Int) : Int := sx (wr (sx (wr (sx n 1073741824 * 13787848793156543929)) 134217728 * 10723151780598845931)) 2147483648
/-- The draw n of a seed. -/
def atZ (s n : Int) : Int := mixZ (wr (s + wr (wr (n + 1) * 11400714819323198485)))
/-- The upper half of a product. -/
def upZ (a b : Int) : Int := a * b / 18446744073709551616
/-- The draw n of a seed, below a number. -/
def belowZ (s n m : Int) : Int := upZ (atZ s n) m
/-- A seed made of another one and labels. -/
def deriveZ (s : Int) (l : List Int) : Int := l.foldl atZ s

theorem wr_eq (n : Int) : wr n = n % 18446744073709551616 := IntKind.wrap_u64 n
theorem wr_0 (n : Int) : 0 ≤ wr n := by rw [wr_eq]; omega
theorem wr_1 (n : Int) : wr n ≤ 18446744073709551615 := by rw [wr_eq]; omega
theorem wr_in {n : Int} (h0 : 0 ≤ n) (h1 : n ≤ 18446744073709551615) : wr n = n := by rw [wr_eq]; omega

theorem div_0 {n k : Int} (h0 : 0 ≤ n) (k0 : 0 < k) : 0 ≤ n / k := Int.ediv_nonneg h0 (by omega)
theorem div_1 {n k : Int} (h0 : 0 ≤ n) (k0 : 0 < k) : n / k ≤ n := Int.ediv_le_self _ h0
theorem sx_nat {n k : Int} (h0 : 0 ≤ n) (h1 : n ≤ 18446744073709551615) (k0 : 0 < k) : sx n k = (n.toNat ^^^ (n / k).toNat : Nat) := by
  have := div_0 h0 k0
  have := div_1 h0 k0
  exact u64_xor _ _ h0 (by omega) (by omega) (by omega)
theorem xor_lt {a b : Nat} (ha : a < 18446744073709551616) (hb : b < 18446744073709551616) : a ^^^ b < 18446744073709551616 :=
  Nat.xor_lt_two_pow (n := 64) ha hb
theorem sx_bd {n k : Int} (h0 : 0 ≤ n) (h1 : n ≤ 18446744073709551615) (k0 : 0 < k) : 0 ≤ sx n k ∧ sx n k ≤ 18446744073709551615 := by
  have := div_0 h0 k0
  have := div_1 h0 k0
  rw [sx_nat h0 h1 k0]
  have := xor_lt (a := n.toNat) (b := (n / k).toNat) (by omega) (by omega)
  omega
theorem mix_bd (n : Int) : 0 ≤ mixZ n ∧ mixZ n ≤ 18446744073709551615 := sx_bd (wr_0 _) (wr_1 _) (by omega)
theorem at_bd (s n : Int) : 0 ≤ atZ s n ∧ atZ s n ≤ 18446744073709551615 := mix_bd _
theorem derive_bd {s : Int} (l : List Int) (h : 0 ≤ s ∧ s ≤ 18446744073709551615) : 0 ≤ deriveZ s l ∧ deriveZ s l ≤ 18446744073709551615 := by
  induction l generalizing s with
  | nil => exact h
  | cons x l ih => exact ih (at_bd s x)
theorem derive_snoc (s : Int) (l : List Int) (x : Int) : deriveZ s (l ++ [x]) = atZ (deriveZ s l) x := by unfold deriveZ; rw [List.foldl_append]; rfl

/-! ### The product's upper half -/
theorem and_low {a : Int} (h0 : 0 ≤ a) (h1 : a ≤ 18446744073709551615) : bits .and .u64 a 4294967295 = a % 4294967296 := by
  rw [u64_and _ _ h0 (by omega) (by omega) (by omega)]
  rw [show (4294967295 : Int).toNat = 2 ^ 32 - 1 from rfl, Nat.and_two_pow_sub_one_eq_mod]
  omega
theorem up_parts {p q r s : Int} (p0 : 0 ≤ p) (p1 : p ≤ 18446744065119617025) (q0 : 0 ≤ q) (q1 : q ≤ 18446744065119617025) (r0 : 0 ≤ r) (r1 : r ≤ 18446744065119617025) (s0 : 0 ≤ s) (s1 : s ≤ 18446744065119617025) :
    s + (q + p / 4294967296) / 4294967296 + ((q + p / 4294967296) % 4294967296 + r) / 4294967296 = (s * 18446744073709551616 + (q + r) * 4294967296 + p) / 18446744073709551616 := by
  omega
theorem half_bd {a b : Int} (a0 : 0 ≤ a) (a1 : a ≤ 4294967295) (b0 : 0 ≤ b) (b1 : b ≤ 4294967295) : 0 ≤ a * b ∧ a * b ≤ 18446744065119617025 :=
  ⟨Int.mul_nonneg a0 b0, Int.le_trans (Int.mul_le_mul a1 b1 b0 (by omega)) (by omega)⟩
theorem split_mul (a b : Int) : a * b = (a / 4294967296) * (b / 4294967296) * 18446744073709551616 + ((a / 4294967296) * (b % 4294967296) + (a % 4294967296) * (b / 4294967296)) * 4294967296 + (a % 4294967296) * (b % 4294967296) := by
  have ha : a = a / 4294967296 * 4294967296 + a % 4294967296 := by omega
  have hb : b = b / 4294967296 * 4294967296 + b % 4294967296 := by omega
  generalize a / 4294967296 = a1 at *
  generalize a % 4294967296 = a0 at *
  generalize b / 4294967296 = b1 at *
  generalize b % 4294967296 = b0 at *
  subst ha hb
  rw [Int.add_mul, Int.mul_add, Int.mul_add, Int.add_mul]
  have e1 : a1 * 4294967296 * (b1 * 4294967296) = a1 * b1 * 18446744073709551616 := by
    rw [Int.mul_assoc, Int.mul_left_comm 4294967296 b1, ← Int.mul_assoc]; rfl
  have e2 : a1 * 4294967296 * b0 = a1 * b0 * 4294967296 := by rw [Int.mul_assoc, Int.mul_comm 4294967296 b0, ← Int.mul_assoc]
  have e3 : a0 * (b1 * 4294967296) = a0 * b1 * 4294967296 := by rw [← Int.mul_assoc]
  rw [e1, e2, e3]
  omega
/-- The upper half, as it is reckoned of halves. -/
theorem up_eq {a b : Int} (a0 : 0 ≤ a) (a1 : a ≤ 18446744073709551615) (b0 : 0 ≤ b) (b1 : b ≤ 18446744073709551615) :
    wr (wr (wr (a / 4294967296 * (b / 4294967296)) + wr (wr (a / 4294967296 * (b % 4294967296)) + wr (a % 4294967296 * (b % 4294967296)) / 4294967296) / 4294967296) +
      wr (wr (wr (a / 4294967296 * (b % 4294967296)) + wr (a % 4294967296 * (b % 4294967296)) / 4294967296) % 4294967296 + wr (a % 4294967296 * (b / 4294967296))) / 4294967296) = upZ a b := by
  have P := half_bd (a := a % 4294967296) (b := b % 4294967296) (by omega) (by omega) (by omega) (by omega)
  have Q := half_bd (a := a / 4294967296) (b := b % 4294967296) (by omega) (by omega) (by omega) (by omega)
  have R := half_bd (a := a % 4294967296) (b := b / 4294967296) (by omega) (by omega) (by omega) (by omega)
  have S := half_bd (a := a / 4294967296) (b := b / 4294967296) (by omega) (by omega) (by omega) (by omega)
  unfold upZ
  rw [split_mul a b]
  generalize a / 4294967296 * (b / 4294967296) = s at *
  generalize a / 4294967296 * (b % 4294967296) = q at *
  generalize a % 4294967296 * (b / 4294967296) = r at *
  generalize a % 4294967296 * (b % 4294967296) = p at *
  rw [← up_parts P.1 P.2 Q.1 Q.2 R.1 R.2 S.1 S.2]
  rw [wr_in P.1 (by omega), wr_in Q.1 (by omega), wr_in R.1 (by omega), wr_in S.1 (by omega)]
  rw [wr_in (n := q + p / 4294967296) (by omega) (by omega)]
  rw [wr_in (n := (q + p / 4294967296) % 4294967296 + r) (by omega) (by omega)]
  rw [wr_in (n := s + (q + p / 4294967296) / 4294967296) (by omega) (by omega)]
  exact wr_in (by omega) (by omega)
theorem up_lt {a b : Int} (a0 : 0 ≤ a) (a1 : a ≤ 18446744073709551615) (b0 : 0 < b) : upZ a b < b := by
  unfold upZ
  refine Int.ediv_lt_of_lt_mul (by omega) ?_
  rw [Int.mul_comm b]
  exact Int.mul_lt_mul_of_pos_right (by omega) b0
theorem up_0 {a b : Int} (a0 : 0 ≤ a) (b0 : 0 ≤ b) : 0 ≤ upZ a b := Int.ediv_nonneg (Int.mul_nonneg a0 b0) (by omega)
theorem up_zero (a : Int) : upZ a 0 = 0 := by unfold upZ; simp
theorem below_bd (s n : Int) {m : Int} (m0 : 0 < m) : 0 ≤ belowZ s n m ∧ belowZ s n m < m := ⟨up_0 (at_bd _ _).1 (by omega), up_lt (at_bd _ _).1 (at_bd _ _).2 m0⟩

/-! ### The way back -/
end Go.Proofs.Ytaiojhigomdocaa
