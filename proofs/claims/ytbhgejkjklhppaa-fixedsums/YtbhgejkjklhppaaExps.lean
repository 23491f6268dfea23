/-
  Contracts: the power of e, of the program and of the document, hands back expZ.
-/
import Derived.Test.YtbhgejkjklhppaaNums
import Derived.Laws.Shifts
namespace Go.Proofs.Ytbhgejkjklhppaa
open Go.RowKit
set_option linter.unusedVariables false
set_option maxRecDepth 1000000

theorem part_any (f : Int) (w : World) (f0 : 0 ≤ f) (f1 : f < 65536) :
    Calls Try.prog 30 #[.int .i64 f] w fun e w' => e = .returned (.int .i64 (pw f)) ∧ w' = w := by
  have p := part_bd f0 f1
  have p0 := p.1
  have p1 := p.2
  clear p
  go_enter Try.func30, Try.ntmps30
  go_wp2
  go_ret
  exact ⟨rfl, rfl⟩
theorem shr_far {p : Int} (p0 : 0 ≤ p) (p1 : p ≤ 131072) (n : Nat) : p / 2 ^ min n IntKind.i64.bits = p / 2 ^ n := by
  by_cases h : n ≤ 64
  · rw [Nat.min_eq_left (show n ≤ IntKind.i64.bits from h)]
  · rw [lift_far p0 p1 (n := n) (by omega), lift_far p0 p1]
    rw [Nat.min_eq_right (show IntKind.i64.bits ≤ n from Nat.le_of_lt (Nat.lt_of_not_le h))]
    decide
theorem shl_in {p k : Int} (p0 : 0 ≤ p) (p1 : p ≤ 131072) (hk : k < 16) : wrap64 (p * 2 ^ k.toNat) = p * 2 ^ k.toNat := by
  have h1 := two_le (show k.toNat ≤ 15 by omega)
  have h2 := two_pos k.toNat
  have h3 : 0 ≤ p * 2 ^ k.toNat := Int.mul_nonneg p0 (by omega)
  have h4 : p * 2 ^ k.toNat ≤ 131072 * 2 ^ 15 := Int.mul_le_mul p1 h1 (by omega) (by omega)
  exact IntWalk.wrap64_in _ (by omega)
/-- What a power hangs on. -/
theorem exp_parts (x : Int) : ∃ y k f : Int, wi x * 94548 / 65536 = y ∧ y / 65536 = k ∧ y - k * 65536 = f ∧ -47275 ≤ k ∧ k ≤ 47275 ∧ -3098500000 ≤ y ∧ y ≤ 3098500000 ∧ 0 ≤ f ∧ f < 65536 ∧ Hid (expZ x = liftZ (pw f) k) := by
  have x0 := wi_0 x
  have x1 := wi_1 x
  refine ⟨_, _, _, rfl, rfl, rfl, by omega, by omega, by omega, by omega, by omega, by omega, ?_⟩
  unfold expZ
  rw [show wi x * 94548 / 65536 % 65536 = wi x * 94548 / 65536 - wi x * 94548 / 65536 / 65536 * 65536 by omega]
  exact rfl
theorem exp_any (x : Int) (w : World) :
    Calls Try.prog 22 #[.int .i64 x] w fun e w' => e = .returned (.int .i64 (expZ x)) ∧ w' = w := by
  have x0 := wi_0 x
  have x1 := wi_1 x
  obtain ⟨y, k, f, hy, hk, hf, k0, k1, y0, y1, f0, f1, HE⟩ := exp_parts x
  have p := pw_bd f0 f1
  have p0 := p.1
  have p1 := p.2
  clear p
  by_cases h16 : k ≥ 16
  · have HL : Hid (liftZ (pw f) k = 2147483647) := by unfold liftZ; rw [if_pos h16]; exact rfl
    go_enter Try.func22, Try.ntmps22
    go_wp2_with fail
    refine (within_any _ _).mono ?_
    rintro e w' ⟨rfl, rfl⟩
    go_wp2_with fail
    refine (part_any _ _ f0 f1).mono ?_
    rintro e w' ⟨rfl, rfl⟩
    go_wp2
    go_ret
    exact ⟨ret_int (HE.trans HL).symm, rfl⟩
  · by_cases h0 : k < 0
    · have HL : Hid (liftZ (pw f) k = pw f / 2 ^ (-k).toNat) := by unfold liftZ; rw [if_neg h16, if_pos h0]; exact rfl
      have HS : Op.shift .shr .i64 (pw f) .u64 (-k) = pure (.int .i64 (pw f / 2 ^ (-k).toNat)) := by rw [shift_shr_any _ _ _ _ (by omega), shr_far (by omega) p1]
      go_enter Try.func22, Try.ntmps22
      go_wp2_with fail
      refine (within_any _ _).mono ?_
      rintro e w' ⟨rfl, rfl⟩
      go_wp2_with fail
      refine (part_any _ _ f0 f1).mono ?_
      rintro e w' ⟨rfl, rfl⟩
      go_wp2
      go_ret
      refine ⟨ret_int ?_, rfl⟩
      refine Eq.trans ?_ (HE.trans HL).symm
      exact rfl
    · have HL : Hid (liftZ (pw f) k = wi (pw f * 2 ^ k.toNat)) := by unfold liftZ; rw [if_neg h16, if_neg h0]; exact rfl
      go_enter Try.func22, Try.ntmps22
      go_wp2_with fail
      refine (within_any _ _).mono ?_
      rintro e w' ⟨rfl, rfl⟩
      go_wp2_with fail
      refine (part_any _ _ f0 f1).mono ?_
      rintro e w' ⟨rfl, rfl⟩
      go_wp2_with fail
      refine (within_any _ _).mono ?_
      rintro e w' ⟨rfl, rfl⟩
      go_wp2
      go_ret
      refine ⟨ret_int ?_, rfl⟩
      refine Eq.trans ?_ (HE.trans HL).symm
      exact congrArg wi (shl_in (by omega) p1 (by omega))
/-- The document's power of 2, by a loop. -/
theorem power_any (k : Int) (w : World) (k0 : 0 ≤ k) (k1 : k ≤ 47275) :
    Calls Try.prog 31 #[.int .i64 k] w fun e w' => e = .returned (.int .i64 (2 ^ min k.toNat 60)) ∧ w' = w := by
  go_enter Try.func31, Try.ntmps31
  go_wp2
  go_loop [3, 4] (fun v i => ∃ (n : Int) (j : Nat), v = .int .i64 n ∧ i = .int .i64 j ∧ (j : Int) ≤ k ∧ j ≤ 60 ∧ Hid (n = 2 ^ j)) (fun _ i => 60 - (intOf i).toNat)
  case atStart => exact ⟨_, 0, rfl, rfl, by omega, by omega, rfl⟩
  case round =>
    obtain ⟨n, j, rfl, rfl, hj, hj', HN⟩ := hrel
    by_cases h : (j : Int) < k
    · by_cases h' : j < 60
      · have n0 : 0 < n := by rw [HN.out]; exact two_pos j
        have n1 : n ≤ 576460752303423488 := by rw [HN.out]; exact two_le (show j ≤ 59 by omega)
        have HM : Hid (n * 2 = 2 ^ (j + 1)) := by rw [HN.out, Int.pow_succ]; exact rfl
        go_wp2
        go_round
        case rel => exact ⟨_, j + 1, rfl, by go_num, by omega, by omega, HM⟩
        case measure => simp [intOf]; omega
      · have HM : Hid (n = 2 ^ min k.toNat 60) := by rw [HN.out, show min k.toNat 60 = j by omega]; exact rfl
        go_wp2
        go_ret
        exact ⟨ret_int HM, rfl⟩
    · have HM : Hid (n = 2 ^ min k.toNat 60) := by rw [HN.out, show min k.toNat 60 = j by omega]; exact rfl
      go_wp2
      go_ret
      exact ⟨ret_int HM, rfl⟩
theorem rshr_far {p : Int} (p0 : 0 ≤ p) (p1 : p ≤ 131072) (n : Nat) : p / 2 ^ min n 60 = p / 2 ^ n := by
  by_cases h : n ≤ 60
  · rw [Nat.min_eq_left h]
  · rw [lift_far p0 p1 (n := n) (by omega), lift_far p0 p1 (by omega)]
theorem rexp_any (x : Int) (w : World) :
    Calls Try.prog 23 #[.int .i64 x] w fun e w' => e = .returned (.int .i64 (expZ x)) ∧ w' = w := by
  have x0 := wi_0 x
  have x1 := wi_1 x
  obtain ⟨y, k, f, hy, hk, hf, k0, k1, y0, y1, f0, f1, HE⟩ := exp_parts x
  have p := pw_bd f0 f1
  have p0 := p.1
  have p1 := p.2
  clear p
  have q := part_bd f0 f1
  have q0 := q.1
  have q1 := q.2
  clear q
  obtain ⟨p, hp⟩ : ∃ p, 65536 + f * (43691 + f * 21845 / 65536) / 65536 = p := ⟨_, rfl⟩
  have HP : pw f = p := hp
  rw [HP] at p0 p1 HE
  clear HP
  by_cases h16 : k ≥ 16
  · have HL : Hid (liftZ p k = 2147483647) := by unfold liftZ; rw [if_pos h16]; exact rfl
    go_enter Try.func23, Try.ntmps23
    go_wp2_with fail
    refine (rwithin_any _ _).mono ?_
    rintro e w' ⟨rfl, rfl⟩
    go_wp2_with fail
    refine (rby_any _ _ _ (by omega) (by omega) (by omega)).mono ?_
    rintro e w' ⟨rfl, rfl⟩
    rw [hy]
    go_wp2_with fail
    refine (rby_any _ _ _ (by omega) (by omega) (by omega)).mono ?_
    rintro e w' ⟨rfl, rfl⟩
    rw [hk]
    go_wp2_with fail
    refine (rby_any _ _ _ (by omega) (by omega) (by omega)).mono ?_
    rintro e w' ⟨rfl, rfl⟩
    go_wp2_with fail
    refine (rby_any _ _ _ (by omega) (by omega) (by omega)).mono ?_
    rintro e w' ⟨rfl, rfl⟩
    go_wp2
    go_ret
    exact ⟨ret_int (HE.trans HL).symm, rfl⟩
  · by_cases h0 : k < 0
    · have HL : Hid (p / 2 ^ min (-k).toNat 60 = liftZ p k) := by unfold liftZ; rw [if_neg h16, if_pos h0, rshr_far (by omega) p1]; exact rfl
      obtain ⟨m, hm⟩ : ∃ m : Int, 2 ^ min (-k).toNat 60 = m := ⟨_, rfl⟩
      have m0 : 0 < m := by rw [← hm]; exact two_pos _
      rw [hm] at HL
      go_enter Try.func23, Try.ntmps23
      go_wp2_with fail
      refine (rwithin_any _ _).mono ?_
      rintro e w' ⟨rfl, rfl⟩
      go_wp2_with fail
      refine (rby_any _ _ _ (by omega) (by omega) (by omega)).mono ?_
      rintro e w' ⟨rfl, rfl⟩
      rw [hy]
      go_wp2_with fail
      refine (rby_any _ _ _ (by omega) (by omega) (by omega)).mono ?_
      rintro e w' ⟨rfl, rfl⟩
      rw [hk]
      go_wp2_with fail
      refine (rby_any _ _ _ (by omega) (by omega) (by omega)).mono ?_
      rintro e w' ⟨rfl, rfl⟩
      go_wp2_with fail
      refine (rby_any _ _ _ (by omega) (by omega) (by omega)).mono ?_
      rintro e w' ⟨rfl, rfl⟩
      go_wp2_with fail
      refine (power_any _ _ (by omega) (by omega)).mono ?_
      rintro e w' ⟨rfl, rfl⟩
      rw [hm]
      go_wp2_with fail
      refine (rby_any _ _ _ (by omega) (by omega) m0).mono ?_
      rintro e w' ⟨rfl, rfl⟩
      go_wp2
      go_ret
      exact ⟨ret_int (HL.trans HE.out.symm), rfl⟩
    · have HL : Hid (wi (p * 2 ^ min k.toNat 60) = liftZ p k) := by unfold liftZ; rw [if_neg h16, if_neg h0, Nat.min_eq_left (by omega)]; exact rfl
      obtain ⟨m, hm⟩ : ∃ m : Int, 2 ^ min k.toNat 60 = m := ⟨_, rfl⟩
      have m0 : 0 < m := by rw [← hm]; exact two_pos _
      have m1 : m ≤ 32768 := by rw [← hm]; exact two_le (n := 15) (by omega)
      have b0 : 0 ≤ p * m := Int.mul_nonneg (by omega) (by omega)
      have b1 : p * m ≤ 131072 * 32768 := Int.mul_le_mul p1 m1 (by omega) (by omega)
      rw [hm] at HL
      go_enter Try.func23, Try.ntmps23
      go_wp2_with fail
      refine (rwithin_any _ _).mono ?_
      rintro e w' ⟨rfl, rfl⟩
      go_wp2_with fail
      refine (rby_any _ _ _ (by omega) (by omega) (by omega)).mono ?_
      rintro e w' ⟨rfl, rfl⟩
      rw [hy]
      go_wp2_with fail
      refine (rby_any _ _ _ (by omega) (by omega) (by omega)).mono ?_
      rintro e w' ⟨rfl, rfl⟩
      rw [hk]
      go_wp2_with fail
      refine (rby_any _ _ _ (by omega) (by omega) (by omega)).mono ?_
      rintro e w' ⟨rfl, rfl⟩
      go_wp2_with fail
      refine (rby_any _ _ _ (by omega) (by omega) (by omega)).mono ?_
      rintro e w' ⟨rfl, rfl⟩
      go_wp2_with fail
      refine (power_any _ _ (by omega) (by omega)).mono ?_
      rintro e w' ⟨rfl, rfl⟩
      rw [hm]
      go_wp2_with fail
      refine (rwithin_any _ _).mono ?_
      rintro e w' ⟨rfl, rfl⟩
      go_wp2
      go_ret
      exact ⟨ret_int (HL.trans HE.out.symm), rfl⟩
end Go.Proofs.Ytbhgejkjklhppaa
