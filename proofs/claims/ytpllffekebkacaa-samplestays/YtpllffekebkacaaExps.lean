/-
  Contracts: the power of e, of the program and of the document, hands back expZ.
-/
import Derived.Test.YtpllffekebkacaaNums
import Derived.Laws.Shifts
namespace Go.Proofs.Ytpllffekebkacaa
open Go.RowKit
set_option linter.unusedVariables false
set_option maxRecDepth 1000000

theorem part_any (f : Int) (w : World) (f0 : 0 ≤ f) (f1 : f < 65536) :
    Calls Try.prog 92 #[.int .i64 f] w fun e w' => e = .returned (.int .i64 (pw f)) ∧ w' = w := by
  have p := part_bd f0 f1
  have p0 := p.1
  have p1 := p.2
  clear p
  go_enter Try.func92, Try.ntmps92
  go_wp2
  go_ret
  exact ⟨rfl, rfl⟩
theorem shr_far {p : Int} (p0 : 0 ≤ p) (p1 : p ≤ 131072) (n : Nat) : p / 2 ^ min n IntKind.i64.bits = p / 2 ^ n := by
  by_cases h : n ≤ 64
  · rw [Nat.min_eq_left (show n ≤ IntKind.i64.bits from h)]
  · rw [lift_far p0 p1 (n := n) (by omega), lift_far p0 p1]
    rw [Nat.min_eq_right (show IntKind.i64.bits ≤ n from Nat.le_of_lt (Nat.lt_of_not_le h))]
    decide
theorem shl_in {p k : Int} (p0 : 0 ≤ p) (p1 : p ≤ 131072) (hk : k < 16) : wrap64 (p * 2 ^ k.toNat) = p * 2 ^ k.toNat := by
  have h1 := two_le (show k.toNat ≤ 15 by omega)
  have h2 := two_pos k.toNat
  have h3 : 0 ≤ p * 2 ^ k.toNat := Int.mul_nonneg p0 (by omega)
  have h4 : p * 2 ^ k.toNat ≤ 131072 * 2 ^ 15 := Int.mul_le_mul p1 h1 (by omega) (by omega)
  exact IntWalk.wrap64_in _ (by omega)
/-- What a power hangs on. -/
theorem exp_parts (x : Int) : ∃ y k f : Int, wi x * 94548 / 65536 = y ∧ y / 65536 = k ∧ y - k * 65536 = f ∧ -47275 ≤ k ∧ k ≤ 47275 ∧ -3098500000 ≤ y ∧ y ≤ 3098500000 ∧ 0 ≤ f ∧ f < 65536 ∧ Hid (expZ x = liftZ (pw f) k) := by
  have x0 := wi_0 x
  have x1 := wi_1 x
  refine ⟨_, _, _, rfl, rfl, rfl, by omega, by omega, by omega, by omega, by omega, by omega, ?_⟩
  unfold expZ
  rw [show wi x * 94548 / 65536 % 65536 = wi x * 94548 / 65536 - wi x * 94548 / 65536 / 65536 * 65536 by omega]
  exact rfl
theorem exp_any (x : Int) (w : World) :
    Calls Try.prog 79 #[.int .i64 x] w fun e w' => e = .returned (.int .i64 (expZ x)) ∧ w' = w := by
  have x0 := wi_0 x
  have x1 := wi_1 x
  obtain ⟨y, k, f, hy, hk, hf, k0, k1, y0, y1, f0, f1, HE⟩ := exp_parts x
  have p := pw_bd f0 f1
  have p0 := p.1
  have p1 := p.2
  clear p
  by_cases h16 : k ≥ 16
  · have HL : Hid (liftZ (pw f) k = 2147483647) := by unfold liftZ; rw [if_pos h16]; exact rfl
    go_enter Try.func79, Try.ntmps79
    go_wp2_with fail
    refine (within_any _ _).mono ?_
    rintro e w' ⟨rfl, rfl⟩
    go_wp2_with fail
    refine (part_any _ _ f0 f1).mono ?_
    rintro e w' ⟨rfl, rfl⟩
    go_wp2
    go_ret
    exact ⟨ret_int (HE.trans HL).symm, rfl⟩
  · by_cases h0 : k < 0
    · have HL : Hid (liftZ (pw f) k = pw f / 2 ^ (-k).toNat) := by unfold liftZ; rw [if_neg h16, if_pos h0]; exact rfl
      have HS : Op.shift .shr .i64 (pw f) .u64 (-k) = pure (.int .i64 (pw f / 2 ^ (-k).toNat)) := by rw [shift_shr_any _ _ _ _ (by omega), shr_far (by omega) p1]
      go_enter Try.func79, Try.ntmps79
      go_wp2_with fail
      refine (within_any _ _).mono ?_
      rintro e w' ⟨rfl, rfl⟩
      go_wp2_with fail
      refine (part_any _ _ f0 f1).mono ?_
      rintro e w' ⟨rfl, rfl⟩
      go_wp2
      go_ret
      refine ⟨ret_int ?_, rfl⟩
      refine Eq.trans ?_ (HE.trans HL).symm
      exact rfl
    · have HL : Hid (liftZ (pw f) k = wi (pw f * 2 ^ k.toNat)) := by unfold liftZ; rw [if_neg h16, if_neg h0]; exact rfl
      go_enter Try.func79, Try.ntmps79
      go_wp2_with fail
      refine (within_any _ _).mono ?_
      rintro e w' ⟨rfl, rfl⟩
      go_wp2_with fail
      refine (part_any _ _ f0 f1).mono ?_
      rintro e w' ⟨rfl, rfl⟩
      go_wp2_with fail
      refine (within_any _ _).mono ?_
      rintro e w' ⟨rfl, rfl⟩
      go_wp2
      go_ret
      refine ⟨ret_int ?_, rfl⟩
      refine Eq.trans ?_ (HE.trans HL).symm
      exact congrArg wi (shl_in (by omega) p1 (by omega))
end Go.Proofs.Ytpllffekebkacaa
