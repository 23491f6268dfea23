/-
  Contracts: rand.Mix and the document's Mix hand back mixZ, the two At atZ, bits.Mul64 and the document's upper the upper half of the product, the two Below belowZ; alive is true.
-/
import Derived.Test.YtpllffekebkacaaDMath
namespace Go.Proofs.Ytpllffekebkacaa
open Go.RowKit
set_option linter.unusedVariables false
set_option maxRecDepth 1000000

theorem mix_any (n : Int) (w : World) (n0 : 0 ≤ n) (n1 : n ≤ 18446744073709551615) :
    Calls Try.prog 82 #[.int .u64 n] w fun e w' => e = .returned (.int .u64 (mixZ n)) ∧ w' = w := by
  go_enter Try.func82, Try.ntmps82
  go_wp2
  go_ret
  exact ⟨rfl, rfl⟩
theorem rmix_any (n : Int) (w : World) (n0 : 0 ≤ n) (n1 : n ≤ 18446744073709551615) :
    Calls Try.prog 84 #[.int .u64 n] w fun e w' => e = .returned (.int .u64 (mixZ n)) ∧ w' = w := by
  go_enter Try.func84, Try.ntmps84
  go_wp2
  go_ret
  exact ⟨rfl, rfl⟩
theorem at_any (s n : Int) (w : World) :
    Calls Try.prog 54 #[.int .u64 s, .int .u64 n] w fun e w' => e = .returned (.int .u64 (atZ s n)) ∧ w' = w := by
  go_enter Try.func54, Try.ntmps54
  go_wp2_with fail
  refine (mix_any _ _ (wr_0 _) (wr_1 _)).mono ?_
  rintro e w' ⟨rfl, rfl⟩
  go_wp2
  go_ret
  exact ⟨rfl, rfl⟩
theorem rat_any (s n : Int) (w : World) :
    Calls Try.prog 61 #[.int .u64 s, .int .u64 n] w fun e w' => e = .returned (.int .u64 (atZ s n)) ∧ w' = w := by
  go_enter Try.func61, Try.ntmps61
  go_wp2_with fail
  refine (rmix_any _ _ (wr_0 _) (wr_1 _)).mono ?_
  rintro e w' ⟨rfl, rfl⟩
  go_wp2
  go_ret
  exact ⟨rfl, rfl⟩
theorem mul64_any (a b : Int) (w : World) (a0 : 0 ≤ a) (a1 : a ≤ 18446744073709551615) (b0 : 0 ≤ b) (b1 : b ≤ 18446744073709551615) :
    Calls Try.prog 53 #[.int .u64 a, .int .u64 b] w fun e w' => e = .returned (.tuple #[.int .u64 (upZ a b), .int .u64 (wr (a * b))]) ∧ w' = w := by
  have HA : Hid (bits .and .u64 a 4294967295 = a % 4294967296) := and_low a0 a1
  have HB : Hid (bits .and .u64 b 4294967295 = b % 4294967296) := and_low b0 b1
  have HU := hid (up_eq a0 a1 b0 b1)
  have HT : Hid (bits .and .u64 (wr (wr (a / 4294967296 * (b % 4294967296)) + wr (a % 4294967296 * (b % 4294967296)) / 4294967296)) 4294967295 = wr (wr (a / 4294967296 * (b % 4294967296)) + wr (a % 4294967296 * (b % 4294967296)) / 4294967296) % 4294967296) := and_low (wr_0 _) (wr_1 _)
  go_enter Try.func53, Try.ntmps53
  go_wp2
  go_ret2
  refine ⟨?_, rfl⟩
  unfold Hid at HA HB HU HT
  unfold wr at HT HU
  rw [HA, HB, HT, HU]
  rfl
theorem tq (x : Int) : IntKind.u64.wrap ((IntKind.u64.wrap x).tdiv 4294967296) = IntKind.u64.wrap x / 4294967296 := by
  have h0 := wr_0 x
  have h1 := wr_1 x
  unfold wr at h0 h1
  rw [Int.tdiv_eq_ediv_of_nonneg h0]
  exact wr_in (by omega) (by omega)
theorem tr (x : Int) : (IntKind.u64.wrap x).tmod 4294967296 = IntKind.u64.wrap x % 4294967296 := Int.tmod_eq_emod_of_nonneg (wr_0 x)
theorem upper_any (a b : Int) (w : World) (a0 : 0 ≤ a) (a1 : a ≤ 18446744073709551615) (b0 : 0 ≤ b) (b1 : b ≤ 18446744073709551615) :
    Calls Try.prog 60 #[.int .u64 a, .int .u64 b] w fun e w' => e = .returned (.int .u64 (upZ a b)) ∧ w' = w.drew.drew := by
  have HU := hid (up_eq a0 a1 b0 b1)
  have c1 := wr_0 (wr (a / 4294967296 * (b % 4294967296)) + wr (a % 4294967296 * (b % 4294967296)) / 4294967296)
  have c2 := wr_0 (wr (wr (a / 4294967296 * (b % 4294967296)) + wr (a % 4294967296 * (b % 4294967296)) / 4294967296) % 4294967296 + wr (a % 4294967296 * (b / 4294967296)))
  have c3 := wr_0 (a % 4294967296 * (b % 4294967296))
  unfold wr at c1 c2 c3
  go_enter Try.func60, Try.ntmps60
  go_wp2_with fail
  go_region
  go_wp2_with fail
  go_region
  go_wp2
  go_ret
  refine ⟨?_, rfl⟩
  unfold Hid at HU
  unfold wr at HU
  rw [← HU]
  show Ending.returned (.int .u64 _) = _
  refine ret_int ?_
  simp only [tq, tr]
theorem dbelow_any (s n m : Int) (w : World) (m0 : 0 ≤ m) (m1 : m ≤ 18446744073709551615) :
    Calls Try.prog 25 #[.int .u64 s, .int .u64 n, .int .u64 m] w fun e w' => e = .returned (.int .u64 (belowZ s n m)) ∧ w' = w := by
  go_enter Try.func25, Try.ntmps25
  go_wp2_with fail
  refine (at_any _ _ _).mono ?_
  rintro e w' ⟨rfl, rfl⟩
  go_wp2_with fail
  refine (mul64_any _ _ _ (at_bd _ _).1 (at_bd _ _).2 m0 m1).mono ?_
  rintro e w' ⟨rfl, rfl⟩
  go_wp2
  go_ret
  exact ⟨rfl, rfl⟩
theorem rdbelow_any (s n m : Int) (w : World) (m0 : 0 ≤ m) (m1 : m ≤ 18446744073709551615) :
    Calls Try.prog 33 #[.int .u64 s, .int .u64 n, .int .u64 m] w fun e w' => e = .returned (.int .u64 (belowZ s n m)) ∧ w' = w.drew.drew := by
  go_enter Try.func33, Try.ntmps33
  go_wp2_with fail
  refine (rat_any _ _ _).mono ?_
  rintro e w' ⟨rfl, rfl⟩
  go_wp2_with fail
  refine (upper_any _ _ _ (at_bd _ _).1 (at_bd _ _).2 m0 m1).mono ?_
  rintro e w' ⟨rfl, rfl⟩
  go_wp2
  go_ret
  exact ⟨rfl, rfl⟩
end Go.Proofs.Ytpllffekebkacaa
