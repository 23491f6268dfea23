/-
  Contracts: rand.Mix and the document's Mix hand back mixZ, the two At atZ, bits.Mul64 and the document's upper the upper half of the product, the two Below belowZ; alive is true.
-/
import Derived.Test.YtehmdlipacbpfaaDMath
namespace Go.Proofs.Ytehmdlipacbpfaa
open Go.RowKit
set_option linter.unusedVariables false
set_option maxRecDepth 1000000

theorem mix_any (n : Int) (w : World) (n0 : 0 ≤ n) (n1 : n ≤ 18446744073709551615) :
    Calls Try.prog 81 #[.int .u64 n] w fun e w' => e = .returned (.int .u64 (mixZ n)) ∧ w' = w := by
  go_enter Try.func81, Try.ntmps81
  go_wp2
  go_ret
  exact ⟨rfl, rfl⟩
theorem at_any (s n : Int) (w : World) :
    Calls Try.prog 66 #[.int .u64 s, .int .u64 n] w fun e w' => e = .returned (.int .u64 (atZ s n)) ∧ w' = w := by
  go_enter Try.func66, Try.ntmps66
  go_wp2_with fail
  refine (mix_any _ _ (wr_0 _) (wr_1 _)).mono ?_
  rintro e w' ⟨rfl, rfl⟩
  go_wp2
  go_ret
  exact ⟨rfl, rfl⟩
theorem mul64_any (a b : Int) (w : World) (a0 : 0 ≤ a) (a1 : a ≤ 18446744073709551615) (b0 : 0 ≤ b) (b1 : b ≤ 18446744073709551615) :
    Calls Try.prog 67 #[.int .u64 a, .int .u64 b] w fun e w' => e = .returned (.tuple #[.int .u64 (upZ a b), .int .u64 (wr (a * b))]) ∧ w' = w := by
  have HA : Hid (bits .and .u64 a 4294967295 = a % 4294967296) := and_low a0 a1
  have HB : Hid (bits .and .u64 b 4294967295 = b % 4294967296) := and_low b0 b1
  have HU := hid (up_eq a0 a1 b0 b1)
  have HT : Hid (bits .and .u64 (wr (wr (a / 4294967296 * (b % 4294967296)) + wr (a % 4294967296 * (b % 4294967296)) / 4294967296)) 4294967295 = wr (wr (a / 4294967296 * (b % 4294967296)) + wr (a % 4294967296 * (b % 4294967296)) / 4294967296) % 4294967296) := and_low (wr_0 _) (wr_1 _)
  go_enter Try.func67, Try.ntmps67
  go_wp2
  go_ret2
  refine ⟨?_, rfl⟩
  unfold Hid at HA HB HU HT
  unfold wr at HT HU
  rw [HA, HB, HT, HU]
  rfl
theorem tq (x : Int) : IntKind.u64.wrap ((IntKind.u64.wrap x).tdiv 4294967296) = IntKind.u64.wrap x / 4294967296 := by
  have h0 := wr_0 x
  have h1 := wr_1 x
  unfold wr at h0 h1
  rw [Int.tdiv_eq_ediv_of_nonneg h0]
  exact wr_in (by omega) (by omega)
theorem tr (x : Int) : (IntKind.u64.wrap x).tmod 4294967296 = IntKind.u64.wrap x % 4294967296 := Int.tmod_eq_emod_of_nonneg (wr_0 x)
theorem dbelow_any (s n m : Int) (w : World) (m0 : 0 ≤ m) (m1 : m ≤ 18446744073709551615) :
    Calls Try.prog 41 #[.int .u64 s, .int .u64 n, .int .u64 m] w fun e w' => e = .returned (.int .u64 (belowZ s n m)) ∧ w' = w := by
  go_enter Try.func41, Try.ntmps41
  go_wp2_with fail
  refine (at_any _ _ _).mono ?_
  rintro e w' ⟨rfl, rfl⟩
  go_wp2_with fail
  refine (mul64_any _ _ _ (at_bd _ _).1 (at_bd _ _).2 m0 m1).mono ?_
  rintro e w' ⟨rfl, rfl⟩
  go_wp2
  go_ret
  exact ⟨rfl, rfl⟩
end Go.Proofs.Ytehmdlipacbpfaa
