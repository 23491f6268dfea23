/-
  Contracts: rand.Mix and the document's Mix hand back mixZ, the two At atZ, bits.Mul64 and the document's upper the upper half of the product, the two Below belowZ; alive is true.
-/
import Derived.Test.YtaiojhigomdocaaDMath
namespace Go.Proofs.Ytaiojhigomdocaa
open Go.RowKit
set_option linter.unusedVariables false
set_option maxRecDepth 1000000

theorem mix_any (n : Int) (w : World) (n0 : 0 ≤ n) (n1 : n ≤ 18446744073709551615) :
    Calls Try.prog 52 #[.int .u64 n] w fun e w' => e = .returned (.int .u64 (mixZ n)) ∧ w' = w := by
  go_enter Try.func52, Try.ntmps52
  go_wp2
  go_ret
  exact ⟨rfl, rfl⟩
theorem rmix_any (n : Int) (w : World) (n0 : 0 ≤ n) (n1 : n ≤ 18446744073709551615) :
    Calls Try.prog 49 #[.int .u64 n] w fun e w' => e = .returned (.int .u64 (mixZ n)) ∧ w' = w := by
  go_enter Try.func49, Try.ntmps49
  go_wp2
  go_ret
  exact ⟨rfl, rfl⟩
theorem at_any (s n : Int) (w : World) :
    Calls Try.prog 41 #[.int .u64 s, .int .u64 n] w fun e w' => e = .returned (.int .u64 (atZ s n)) ∧ w' = w := by
  go_enter Try.func41, Try.ntmps41
  go_wp2_with fail
  refine (mix_any _ _ (wr_0 _) (wr_1 _)).mono ?_
  rintro e w' ⟨rfl, rfl⟩
  go_wp2
  go_ret
  exact ⟨rfl, rfl⟩
theorem rat_any (s n : Int) (w : World) :
    Calls Try.prog 35 #[.int .u64 s, .int .u64 n] w fun e w' => e = .returned (.int .u64 (atZ s n)) ∧ w' = w := by
  go_enter Try.func35, Try.ntmps35
  go_wp2_with fail
  refine (rmix_any _ _ (wr_0 _) (wr_1 _)).mono ?_
  rintro e w' ⟨rfl, rfl⟩
  go_wp2
  go_ret
  exact ⟨rfl, rfl⟩
theorem tq (x : Int) : IntKind.u64.wrap ((IntKind.u64.wrap x).tdiv 4294967296) = IntKind.u64.wrap x / 4294967296 := by
  have h0 := wr_0 x
  have h1 := wr_1 x
  unfold wr at h0 h1
  rw [Int.tdiv_eq_ediv_of_nonneg h0]
  exact wr_in (by omega) (by omega)
theorem tr (x : Int) : (IntKind.u64.wrap x).tmod 4294967296 = IntKind.u64.wrap x % 4294967296 := Int.tmod_eq_emod_of_nonneg (wr_0 x)
end Go.Proofs.Ytaiojhigomdocaa
