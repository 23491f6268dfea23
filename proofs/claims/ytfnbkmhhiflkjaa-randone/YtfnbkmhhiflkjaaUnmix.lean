/-
  The way back: a number turned by itself gone to the right is told back by the document's unshift, the two numbers that are multiplied with are undone by what inverse hands back, and so Unmix undoes mixZ; no two numbers are mixed to one.
-/
import Derived.Test.YtfnbkmhhiflkjaaDraws
namespace Go.Proofs.Ytfnbkmhhiflkjaa
open Go.RowKit
set_option linter.unusedVariables false
set_option maxRecDepth 1000000

/-- What unshift has behind j rounds. -/
def unZ (y : Int) (k j : Nat) : Int := ((y.toNat ^^^ y.toNat >>> ((j + 1) * k) : Nat) : Int)
theorem div_toNat {y : Int} {k : Nat} (h0 : 0 ≤ y) : (y / ((2 ^ k : Nat) : Int)).toNat = y.toNat >>> k := by
  obtain ⟨Y, rfl⟩ := Int.eq_ofNat_of_zero_le h0
  rw [← Int.natCast_ediv, Int.toNat_natCast, Int.toNat_natCast, Nat.shiftRight_eq_div_pow]
theorem shr_lt {y k : Nat} (h : y < 18446744073709551616) : y >>> k < 18446744073709551616 := Nat.lt_of_le_of_lt (Nat.shiftRight_le _ _) h
theorem un_bd {y : Int} (k j : Nat) (h0 : 0 ≤ y) (h1 : y ≤ 18446744073709551615) : 0 ≤ unZ y k j ∧ unZ y k j ≤ 18446744073709551615 := by
  have := xor_lt (a := y.toNat) (b := y.toNat >>> ((j + 1) * k)) (by omega) (shr_lt (by omega))
  unfold unZ
  omega
theorem pow_pos' (k : Nat) : (0 : Int) < ((2 ^ k : Nat) : Int) := by have := Nat.two_pow_pos k; omega
theorem un_start {y : Int} {k : Nat} (h0 : 0 ≤ y) (h1 : y ≤ 18446744073709551615) : sx y ((2 ^ k : Nat) : Int) = unZ y k 0 := by
  rw [sx_nat h0 h1 (pow_pos' k), div_toNat h0, unZ, Nat.zero_add, Nat.one_mul]
theorem un_step {y : Int} {k j : Nat} (h0 : 0 ≤ y) (h1 : y ≤ 18446744073709551615) :
    bits .xor .u64 (sx y ((2 ^ k : Nat) : Int)) (unZ y k j / ((2 ^ k : Nat) : Int)) = unZ y k (j + 1) := by
  obtain ⟨s0, s1⟩ := sx_bd h0 h1 (pow_pos' k)
  obtain ⟨u0, u1⟩ := un_bd k j h0 h1
  have d0 := div_0 u0 (pow_pos' k)
  have d1 := div_1 u0 (pow_pos' k)
  rw [u64_xor _ _ s0 (by omega) d0 (by omega), div_toNat u0, un_start h0 h1]
  unfold unZ
  rw [Int.toNat_natCast, Int.toNat_natCast, Nat.shiftRight_xor_distrib, ← Nat.shiftRight_add]
  rw [show (j + 1) * k + k = (j + 1 + 1) * k from (Nat.succ_mul _ _).symm, Nat.zero_add, Nat.one_mul]
  rw [Nat.xor_assoc, ← Nat.xor_assoc (y.toNat >>> k), Nat.xor_self, Nat.zero_xor]
theorem un_end {y : Int} {k : Nat} (h0 : 0 ≤ y) (h1 : y ≤ 18446744073709551615) (hk : 64 ≤ 4 * k) : unZ y k 3 = y := by
  unfold unZ
  have : y.toNat >>> ((3 + 1) * k) = 0 := by
    rw [Nat.shiftRight_eq_div_pow]
    refine Nat.div_eq_of_lt (Nat.lt_of_lt_of_le ?_ (Nat.pow_le_pow_right (n := 2) (by omega) hk))
    show y.toNat < 18446744073709551616
    omega
  rw [this, Nat.xor_zero]
  omega

theorem p31 : ((2 ^ 31 : Nat) : Int) = 2147483648 := by decide +kernel
set_option maxHeartbeats 1000000 in
theorem un31_any (y : Int) (w : World) (h0 : 0 ≤ y) (h1 : y ≤ 18446744073709551615) :
    Calls Try.prog 29 #[.int .u64 (sx y 2147483648), .int .i64 31] w fun e w' => e = .returned (.int .u64 y) ∧ w' = w := by
  have HS : Hid (sx y 2147483648 = unZ y 31 0) := by unfold Hid; have := un_start (k := 31) h0 h1; rw [p31] at this; exact this
  have HN : ∀ j, Hid (bits .xor .u64 (sx y 2147483648) (unZ y 31 j / 2147483648) = unZ y 31 (j + 1)) := fun j => by unfold Hid; have := un_step (k := 31) (j := j) h0 h1; rw [p31] at this; exact this
  have HB : ∀ j, 0 ≤ unZ y 31 j := fun j => (un_bd 31 j h0 h1).1
  have HE : Hid (unZ y 31 3 = y) := un_end h0 h1 (by omega)
  generalize sx y 2147483648 = n at *
  clear h0 h1
  go_enter Try.func29, Try.ntmps29
  go_wp2_with fail
  go_loop [5, 6] (fun v i => ∃ (x : Int) (j : Nat), v = .int .u64 x ∧ i = .int .i64 (31 * j) ∧ j ≤ 3 ∧ Hid (x = unZ y 31 j)) (fun _ i => 93 - (intOf i).toNat)
  case atStart => exact ⟨_, 0, rfl, rfl, by omega, HS⟩
  case round =>
    obtain ⟨x, j, rfl, rfl, hj, HX⟩ := hrel
    have x0 : 0 ≤ x := by rw [HX.out]; exact HB j
    have HM : Hid (bits .xor .u64 n (x / 2147483648) = unZ y 31 (j + 1)) := by rw [HX.out]; exact HN j
    clear HN HB
    rcases (by omega : j < 3 ∨ j = 3) with h | rfl
    · go_wp2
      go_round
      case rel => exact ⟨_, j + 1, rfl, by go_num, by omega, HM⟩
      case measure => simp [intOf]; omega
    · go_wp2
      go_ret
      exact ⟨ret_int (HX.out.trans HE.out), rfl⟩
theorem p27 : ((2 ^ 27 : Nat) : Int) = 134217728 := by decide +kernel
set_option maxHeartbeats 1000000 in
theorem un27_any (y : Int) (w : World) (h0 : 0 ≤ y) (h1 : y ≤ 18446744073709551615) :
    Calls Try.prog 29 #[.int .u64 (sx y 134217728), .int .i64 27] w fun e w' => e = .returned (.int .u64 y) ∧ w' = w := by
  have HS : Hid (sx y 134217728 = unZ y 27 0) := by unfold Hid; have := un_start (k := 27) h0 h1; rw [p27] at this; exact this
  have HN : ∀ j, Hid (bits .xor .u64 (sx y 134217728) (unZ y 27 j / 134217728) = unZ y 27 (j + 1)) := fun j => by unfold Hid; have := un_step (k := 27) (j := j) h0 h1; rw [p27] at this; exact this
  have HB : ∀ j, 0 ≤ unZ y 27 j := fun j => (un_bd 27 j h0 h1).1
  have HE : Hid (unZ y 27 3 = y) := un_end h0 h1 (by omega)
  generalize sx y 134217728 = n at *
  clear h0 h1
  go_enter Try.func29, Try.ntmps29
  go_wp2_with fail
  go_loop [5, 6] (fun v i => ∃ (x : Int) (j : Nat), v = .int .u64 x ∧ i = .int .i64 (27 * j) ∧ j ≤ 3 ∧ Hid (x = unZ y 27 j)) (fun _ i => 81 - (intOf i).toNat)
  case atStart => exact ⟨_, 0, rfl, rfl, by omega, HS⟩
  case round =>
    obtain ⟨x, j, rfl, rfl, hj, HX⟩ := hrel
    have x0 : 0 ≤ x := by rw [HX.out]; exact HB j
    have HM : Hid (bits .xor .u64 n (x / 134217728) = unZ y 27 (j + 1)) := by rw [HX.out]; exact HN j
    clear HN HB
    rcases (by omega : j < 3 ∨ j = 3) with h | rfl
    · go_wp2
      go_round
      case rel => exact ⟨_, j + 1, rfl, by go_num, by omega, HM⟩
      case measure => simp [intOf]; omega
    · go_wp2
      go_ret
      exact ⟨ret_int (HX.out.trans HE.out), rfl⟩
theorem p30 : ((2 ^ 30 : Nat) : Int) = 1073741824 := by decide +kernel
set_option maxHeartbeats 1000000 in
theorem un30_any (y : Int) (w : World) (h0 : 0 ≤ y) (h1 : y ≤ 18446744073709551615) :
    Calls Try.prog 29 #[.int .u64 (sx y 1073741824), .int .i64 30] w fun e w' => e = .returned (.int .u64 y) ∧ w' = w := by
  have HS : Hid (sx y 1073741824 = unZ y 30 0) := by unfold Hid; have := un_start (k := 30) h0 h1; rw [p30] at this; exact this
  have HN : ∀ j, Hid (bits .xor .u64 (sx y 1073741824) (unZ y 30 j / 1073741824) = unZ y 30 (j + 1)) := fun j => by unfold Hid; have := un_step (k := 30) (j := j) h0 h1; rw [p30] at this; exact this
  have HB : ∀ j, 0 ≤ unZ y 30 j := fun j => (un_bd 30 j h0 h1).1
  have HE : Hid (unZ y 30 3 = y) := un_end h0 h1 (by omega)
  generalize sx y 1073741824 = n at *
  clear h0 h1
  go_enter Try.func29, Try.ntmps29
  go_wp2_with fail
  go_loop [5, 6] (fun v i => ∃ (x : Int) (j : Nat), v = .int .u64 x ∧ i = .int .i64 (30 * j) ∧ j ≤ 3 ∧ Hid (x = unZ y 30 j)) (fun _ i => 90 - (intOf i).toNat)
  case atStart => exact ⟨_, 0, rfl, rfl, by omega, HS⟩
  case round =>
    obtain ⟨x, j, rfl, rfl, hj, HX⟩ := hrel
    have x0 : 0 ≤ x := by rw [HX.out]; exact HB j
    have HM : Hid (bits .xor .u64 n (x / 1073741824) = unZ y 30 (j + 1)) := by rw [HX.out]; exact HN j
    clear HN HB
    rcases (by omega : j < 3 ∨ j = 3) with h | rfl
    · go_wp2
      go_round
      case rel => exact ⟨_, j + 1, rfl, by go_num, by omega, HM⟩
      case measure => simp [intOf]; omega
    · go_wp2
      go_ret
      exact ⟨ret_int (HX.out.trans HE.out), rfl⟩
theorem Calls.of_arg {P : Program} {f : Nat} {a b : Array Value} {w : World} {Q : Ending → World → Prop} (h : a = b) (c : Calls P f b w Q) : Calls P f a w Q := h ▸ c
/-- What inverse has behind j rounds. -/
def invZ (n : Int) : Nat → Int
  | 0 => n
  | j + 1 => wr (invZ n j * wr (2 - wr (n * invZ n j)))
theorem inverse_any (n : Int) (w : World) : Calls Try.prog 30 #[.int .u64 n] w fun e w' => e = .returned (.int .u64 (invZ n 6)) ∧ w' = w := by
  go_enter Try.func30, Try.ntmps30
  go_wp2_with fail
  go_loop [3, 4] (fun v i => ∃ (x : Int) (j : Nat), v = .int .u64 x ∧ i = .int .i64 j ∧ j ≤ 6 ∧ Hid (x = invZ n j)) (fun _ i => 6 - (intOf i).toNat)
  case atStart => exact ⟨_, 0, rfl, rfl, by omega, rfl⟩
  case round =>
    obtain ⟨x, j, rfl, rfl, hj, HX⟩ := hrel
    have HM : Hid (wr (x * wr (2 - wr (n * x))) = invZ n (j + 1)) := by rw [HX.out]; rfl
    rcases (by omega : j < 6 ∨ j = 6) with h | rfl
    · go_wp2
      go_round
      case rel => exact ⟨_, j + 1, rfl, by go_num, by omega, HM⟩
      case measure => simp [intOf]; omega
    · go_wp2
      go_ret
      exact ⟨ret_int HX.out, rfl⟩
theorem inv1 : invZ 13787848793156543929 6 = 10871156337175269513 := by decide +kernel
theorem inv2 : invZ 10723151780598845931 6 = 3573116690164977347 := by decide +kernel
theorem back2 {m : Int} (h0 : 0 ≤ m) (h1 : m ≤ 18446744073709551615) : wr (wr (m * 10723151780598845931) * 3573116690164977347) = m := by
  rw [wr_eq, wr_eq]; omega
theorem unmix_any (a : Int) (w : World) (h0 : 0 ≤ a) (h1 : a ≤ 18446744073709551615) :
    Calls Try.prog 20 #[.int .u64 (mixZ a)] w fun e w' => e = .returned (.int .u64 a) ∧ w' = w := by
  obtain ⟨p0, p1⟩ := sx_bd (k := 1073741824) h0 h1 (by omega)
  have H1 := hid (back1 p0 p1)
  have q0 := wr_0 (sx a 1073741824 * 13787848793156543929)
  have q1 := wr_1 (sx a 1073741824 * 13787848793156543929)
  have hU30 := un30_any a w h0 h1
  unfold mixZ
  generalize sx a 1073741824 = p at *
  have hU27 := un27_any _ w q0 q1
  obtain ⟨r0, r1⟩ := sx_bd (k := 134217728) q0 q1 (by omega)
  have H2 := hid (back2 r0 r1)
  have s0 := wr_0 (sx (wr (p * 13787848793156543929)) 134217728 * 10723151780598845931)
  have s1 := wr_1 (sx (wr (p * 13787848793156543929)) 134217728 * 10723151780598845931)
  have hU31 := un31_any _ w s0 s1
  go_enter Try.func20, Try.ntmps20
  go_wp2_with fail
  refine hU31.mono ?_
  rintro e w' ⟨rfl, rfl⟩
  go_wp2_with fail
  refine (inverse_any _ _).mono ?_
  rintro e w' ⟨rfl, rfl⟩
  rw [inv2]
  go_wp2_with fail
  refine (Calls.of_arg (by rw [show IntKind.u64.wrap _ = _ from H2.out]) hU27).mono ?_
  rintro e w' ⟨rfl, rfl⟩
  go_wp2_with fail
  refine (inverse_any _ _).mono ?_
  rintro e w' ⟨rfl, rfl⟩
  rw [inv1]
  go_wp2_with fail
  refine (Calls.of_arg (by rw [show IntKind.u64.wrap _ = _ from H1.out]) hU30).mono ?_
  rintro e w' ⟨rfl, rfl⟩
  go_wp2
  go_ret
  exact ⟨rfl, rfl⟩
theorem sx_inj {a b : Int} {k : Nat} (a0 : 0 ≤ a) (a1 : a ≤ 18446744073709551615) (b0 : 0 ≤ b) (b1 : b ≤ 18446744073709551615) (hk : 64 ≤ 4 * k) (h : sx a ((2 ^ k : Nat) : Int) = sx b ((2 ^ k : Nat) : Int)) : a = b := by
  have e0 : unZ a k 0 = unZ b k 0 := by rw [← un_start a0 a1, ← un_start b0 b1, h]
  have e1 : unZ a k 1 = unZ b k 1 := by rw [← un_step a0 a1, ← un_step b0 b1, h, e0]
  have e2 : unZ a k 2 = unZ b k 2 := by rw [← un_step a0 a1, ← un_step b0 b1, h, e1]
  have e3 : unZ a k 3 = unZ b k 3 := by rw [← un_step a0 a1, ← un_step b0 b1, h, e2]
  rwa [un_end a0 a1 hk, un_end b0 b1 hk] at e3
theorem mix_inj {a b : Int} (a0 : 0 ≤ a) (a1 : a ≤ 18446744073709551615) (b0 : 0 ≤ b) (b1 : b ≤ 18446744073709551615) (h : mixZ a = mixZ b) : a = b := by
  have P := sx_bd (k := 1073741824) a0 a1 (by omega)
  have Q := sx_bd (k := 1073741824) b0 b1 (by omega)
  have R := sx_bd (k := 134217728) (wr_0 (sx a 1073741824 * 13787848793156543929)) (wr_1 _) (by omega)
  have S := sx_bd (k := 134217728) (wr_0 (sx b 1073741824 * 13787848793156543929)) (wr_1 _) (by omega)
  unfold mixZ at h
  rw [← p31] at h
  have h1 := sx_inj (wr_0 _) (wr_1 _) (wr_0 _) (wr_1 _) (by omega) h
  have h2 : sx (wr (sx a 1073741824 * 13787848793156543929)) 134217728 = sx (wr (sx b 1073741824 * 13787848793156543929)) 134217728 := by
    rw [← back2 R.1 R.2, ← back2 S.1 S.2, h1]
  rw [← p27] at h2
  have h3 := sx_inj (wr_0 _) (wr_1 _) (wr_0 _) (wr_1 _) (by omega) h2
  have h4 : sx a 1073741824 = sx b 1073741824 := by
    rw [← back1 P.1 P.2, ← back1 Q.1 Q.2, h3]
  rw [← p30] at h4
  exact sx_inj a0 a1 b0 b1 (by omega) h4
theorem mix_one {a b : Int} (a0 : 0 ≤ a) (a1 : a ≤ 18446744073709551615) (b0 : 0 ≤ b) (b1 : b ≤ 18446744073709551615) : decide (mixZ a = mixZ b) = decide (a = b) := by
  by_cases h : a = b
  · subst h; simp
  · rw [decide_eq_false h, decide_eq_false fun e => h (mix_inj a0 a1 b0 b1 e)]
end Go.Proofs.Ytfnbkmhhiflkjaa
