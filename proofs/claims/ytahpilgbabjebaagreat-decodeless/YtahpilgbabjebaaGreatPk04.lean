/-
  RNums: Contracts of the document's numbers: sum, product, quotient, whole number, power of e, square root.
  RVecs: Contracts of the document's vectors: cut, both, Dot, Add, Scale, Relu.
  RVecs2: Contracts of the document's vectors: Scale, Relu, Norm, Soft.
  RTables: Contracts of the document's tables: Mul and Mix.
  RSofts: Contract: the document's Soft hands back softL.
  DMath: Mathematics of the draws: a number mixed (mixZ) and the way back, the draw of a seed (atZ), the draw below a number (belowZ), the upper half of a product, a seed made of labels (deriveZ).
  Draws: Contracts: rand.Mix and the document's Mix hand back mixZ, the two At atZ, bits.Mul64 and the document's upper the upper half of the product, the two Below belowZ; alive is true.
  Derives: Contracts: rand.Derive and the document's Derive hand back deriveZ.
-/
import Derived.Test.YtahpilgbabjebaaGreatPk01
import Derived.Test.YtahpilgbabjebaaGreatPk02
import Derived.Test.YtahpilgbabjebaaGreatPk03
import Derived.Laws.Bits64
import Derived.Laws.Bits128
import Derived.Laws.BitsAllLaws
namespace Go.Proofs.YtahpilgbabjebaaGreat
open Go.RowKit
set_option linter.unusedVariables false
set_option maxRecDepth 1000000

theorem rfrom_any (n : Int) (w : World) : Calls Tryz.prog 88 #[.int .i64 n] w fun e w' => e = .returned (.int .i64 (fromZ n)) ∧ w' = w := by
  by_cases h0 : n > 65536
  · have HQ := hid (from_hi h0)
    go_enter Tryz.func88, Tryz.ntmps88
    go_wp2_with fail
    refine (rwithin_any _ _).mono ?_
    rintro e w' ⟨rfl, rfl⟩
    go_wp2
    go_ret
    exact ⟨ret_int HQ, rfl⟩
  · by_cases h1 : n < -65536
    · have HQ := hid (from_lo h1)
      go_enter Tryz.func88, Tryz.ntmps88
      go_wp2_with fail
      refine (rwithin_any _ _).mono ?_
      rintro e w' ⟨rfl, rfl⟩
      go_wp2
      go_ret
      exact ⟨ret_int HQ, rfl⟩
    · have HQ : Hid (wi (n * 65536) = fromZ n) := by unfold fromZ; rw [wi_in (n := n) (by omega) (by omega)]; exact rfl
      go_enter Tryz.func88, Tryz.ntmps88
      go_wp2_with fail
      refine (rwithin_any _ _).mono ?_
      rintro e w' ⟨rfl, rfl⟩
      go_wp2
      go_ret
      exact ⟨ret_int HQ, rfl⟩
theorem rdiv_any (a b : Int) (w : World) : Calls Tryz.prog 89 #[.int .i64 a, .int .i64 b] w fun e w' => e = .returned (.int .i64 (divZ a b)) ∧ w' = w := by
  have a0 := wi_0 a
  have a1 := wi_1 a
  have b0 := wi_0 b
  have b1 := wi_1 b
  by_cases hb : wi b < 0
  · have HQ : Hid (wi (-(65536 * -wi a / wi b)) = divZ a b) := by unfold divZ byZ; rw [← Int.ediv_neg, if_neg (by omega), if_pos hb, show 65536 * -wi a = -(wi a * 65536) by omega]; exact rfl
    go_enter Tryz.func89, Tryz.ntmps89
    go_wp2_with fail
    refine (rwithin_any _ _).mono ?_
    rintro e w' ⟨rfl, rfl⟩
    go_wp2_with fail
    refine (rwithin_any _ _).mono ?_
    rintro e w' ⟨rfl, rfl⟩
    go_wp2_with fail
    refine (rby_any _ _ _ (by omega) (by omega) (by omega)).mono ?_
    rintro e w' ⟨rfl, rfl⟩
    go_wp2_with fail
    refine (rwithin_any _ _).mono ?_
    rintro e w' ⟨rfl, rfl⟩
    go_wp2
    go_ret
    exact ⟨ret_int HQ, rfl⟩
  · by_cases hb' : wi b = 0
    · have HQ : Hid (farZ (wi a) = divZ a b) := by unfold divZ; rw [if_pos hb']; exact rfl
      by_cases h0 : wi a > 0
      · have HF : Hid (farZ (wi a) = 2147483647) := by unfold farZ; rw [if_pos (by omega)]; exact rfl
        go_enter Tryz.func89, Tryz.ntmps89
        go_wp2_with fail
        refine (rwithin_any _ _).mono ?_
        rintro e w' ⟨rfl, rfl⟩
        go_wp2_with fail
        refine (rwithin_any _ _).mono ?_
        rintro e w' ⟨rfl, rfl⟩
        go_wp2
        go_ret
        exact ⟨ret_int (HF.symm.trans HQ), rfl⟩
      · by_cases h1 : wi a < 0
        · have HF : Hid (farZ (wi a) = -2147483648) := by unfold farZ; rw [if_neg (by omega), if_pos (by omega)]; exact rfl
          go_enter Tryz.func89, Tryz.ntmps89
          go_wp2_with fail
          refine (rwithin_any _ _).mono ?_
          rintro e w' ⟨rfl, rfl⟩
          go_wp2_with fail
          refine (rwithin_any _ _).mono ?_
          rintro e w' ⟨rfl, rfl⟩
          go_wp2
          go_ret
          exact ⟨ret_int (HF.symm.trans HQ), rfl⟩
        · have HF : Hid (farZ (wi a) = 0) := by unfold farZ; rw [if_neg (by omega), if_neg (by omega)]; exact rfl
          go_enter Tryz.func89, Tryz.ntmps89
          go_wp2_with fail
          refine (rwithin_any _ _).mono ?_
          rintro e w' ⟨rfl, rfl⟩
          go_wp2_with fail
          refine (rwithin_any _ _).mono ?_
          rintro e w' ⟨rfl, rfl⟩
          go_wp2
          go_ret
          exact ⟨ret_int (HF.symm.trans HQ), rfl⟩
    · have HQ : Hid (wi (65536 * wi a / wi b) = divZ a b) := by unfold divZ byZ; rw [if_neg (by omega), if_neg (by omega), Int.mul_comm 65536]; exact rfl
      go_enter Tryz.func89, Tryz.ntmps89
      go_wp2_with fail
      refine (rwithin_any _ _).mono ?_
      rintro e w' ⟨rfl, rfl⟩
      go_wp2_with fail
      refine (rwithin_any _ _).mono ?_
      rintro e w' ⟨rfl, rfl⟩
      go_wp2_with fail
      refine (rby_any _ _ _ (by omega) (by omega) (by omega)).mono ?_
      rintro e w' ⟨rfl, rfl⟩
      go_wp2_with fail
      refine (rwithin_any _ _).mono ?_
      rintro e w' ⟨rfl, rfl⟩
      go_wp2
      go_ret
      exact ⟨ret_int HQ, rfl⟩
theorem power_any (k : Int) (w : World) (k0 : 0 ≤ k) (k1 : k ≤ 47275) :
    Calls Tryz.prog 150 #[.int .i64 k] w fun e w' => e = .returned (.int .i64 (2 ^ min k.toNat 60)) ∧ w' = w := by
  go_enter Tryz.func150, Tryz.ntmps150
  go_wp2
  go_loop [3, 4] (fun v i => ∃ (n : Int) (j : Nat), v = .int .i64 n ∧ i = .int .i64 j ∧ (j : Int) ≤ k ∧ j ≤ 60 ∧ Hid (n = 2 ^ j)) (fun _ i => 60 - (intOf i).toNat)
  case atStart => exact ⟨_, 0, rfl, rfl, by omega, by omega, rfl⟩
  case round =>
    obtain ⟨n, j, rfl, rfl, hj, hj', HN⟩ := hrel
    by_cases h : (j : Int) < k
    · by_cases h' : j < 60
      · have n0 : 0 < n := by rw [HN.out]; exact two_pos j
        have n1 : n ≤ 576460752303423488 := by rw [HN.out]; exact two_le (show j ≤ 59 by omega)
        have HM : Hid (n * 2 = 2 ^ (j + 1)) := by rw [HN.out, Int.pow_succ]; exact rfl
        go_wp2
        go_round
        case rel => exact ⟨_, j + 1, rfl, by go_num, by omega, by omega, HM⟩
        case measure => simp [intOf]; omega
      · have HM : Hid (n = 2 ^ min k.toNat 60) := by rw [HN.out, show min k.toNat 60 = j by omega]; exact rfl
        go_wp2
        go_ret
        exact ⟨ret_int HM, rfl⟩
    · have HM : Hid (n = 2 ^ min k.toNat 60) := by rw [HN.out, show min k.toNat 60 = j by omega]; exact rfl
      go_wp2
      go_ret
      exact ⟨ret_int HM, rfl⟩
theorem rshr_far {p : Int} (p0 : 0 ≤ p) (p1 : p ≤ 131072) (n : Nat) : p / 2 ^ min n 60 = p / 2 ^ n := by
  by_cases h : n ≤ 60
  · rw [Nat.min_eq_left h]
  · rw [lift_far p0 p1 (n := n) (by omega), lift_far p0 p1 (by omega)]
theorem rexp_any (x : Int) (w : World) :
    Calls Tryz.prog 129 #[.int .i64 x] w fun e w' => e = .returned (.int .i64 (expZ x)) ∧ w' = w := by
  have x0 := wi_0 x
  have x1 := wi_1 x
  obtain ⟨y, k, f, hy, hk, hf, k0, k1, y0, y1, f0, f1, HE⟩ := exp_parts x
  have p := pw_bd f0 f1
  have p0 := p.1
  have p1 := p.2
  clear p
  have q := part_bd f0 f1
  have q0 := q.1
  have q1 := q.2
  clear q
  obtain ⟨p, hp⟩ : ∃ p, 65536 + f * (43691 + f * 21845 / 65536) / 65536 = p := ⟨_, rfl⟩
  have HP : pw f = p := hp
  rw [HP] at p0 p1 HE
  clear HP
  by_cases h16 : k ≥ 16
  · have HL : Hid (liftZ p k = 2147483647) := by unfold liftZ; rw [if_pos h16]; exact rfl
    go_enter Tryz.func129, Tryz.ntmps129
    go_wp2_with fail
    refine (rwithin_any _ _).mono ?_
    rintro e w' ⟨rfl, rfl⟩
    go_wp2_with fail
    refine (rby_any _ _ _ (by omega) (by omega) (by omega)).mono ?_
    rintro e w' ⟨rfl, rfl⟩
    rw [hy]
    go_wp2_with fail
    refine (rby_any _ _ _ (by omega) (by omega) (by omega)).mono ?_
    rintro e w' ⟨rfl, rfl⟩
    rw [hk]
    go_wp2_with fail
    refine (rby_any _ _ _ (by omega) (by omega) (by omega)).mono ?_
    rintro e w' ⟨rfl, rfl⟩
    go_wp2_with fail
    refine (rby_any _ _ _ (by omega) (by omega) (by omega)).mono ?_
    rintro e w' ⟨rfl, rfl⟩
    go_wp2
    go_ret
    exact ⟨ret_int (HE.trans HL).symm, rfl⟩
  · by_cases h0 : k < 0
    · have HL : Hid (p / 2 ^ min (-k).toNat 60 = liftZ p k) := by unfold liftZ; rw [if_neg h16, if_pos h0, rshr_far (by omega) p1]; exact rfl
      obtain ⟨m, hm⟩ : ∃ m : Int, 2 ^ min (-k).toNat 60 = m := ⟨_, rfl⟩
      have m0 : 0 < m := by rw [← hm]; exact two_pos _
      rw [hm] at HL
      go_enter Tryz.func129, Tryz.ntmps129
      go_wp2_with fail
      refine (rwithin_any _ _).mono ?_
      rintro e w' ⟨rfl, rfl⟩
      go_wp2_with fail
      refine (rby_any _ _ _ (by omega) (by omega) (by omega)).mono ?_
      rintro e w' ⟨rfl, rfl⟩
      rw [hy]
      go_wp2_with fail
      refine (rby_any _ _ _ (by omega) (by omega) (by omega)).mono ?_
      rintro e w' ⟨rfl, rfl⟩
      rw [hk]
      go_wp2_with fail
      refine (rby_any _ _ _ (by omega) (by omega) (by omega)).mono ?_
      rintro e w' ⟨rfl, rfl⟩
      go_wp2_with fail
      refine (rby_any _ _ _ (by omega) (by omega) (by omega)).mono ?_
      rintro e w' ⟨rfl, rfl⟩
      go_wp2_with fail
      refine (power_any _ _ (by omega) (by omega)).mono ?_
      rintro e w' ⟨rfl, rfl⟩
      rw [hm]
      go_wp2_with fail
      refine (rby_any _ _ _ (by omega) (by omega) m0).mono ?_
      rintro e w' ⟨rfl, rfl⟩
      go_wp2
      go_ret
      exact ⟨ret_int (HL.trans HE.out.symm), rfl⟩
    · have HL : Hid (wi (p * 2 ^ min k.toNat 60) = liftZ p k) := by unfold liftZ; rw [if_neg h16, if_neg h0, Nat.min_eq_left (by omega)]; exact rfl
      obtain ⟨m, hm⟩ : ∃ m : Int, 2 ^ min k.toNat 60 = m := ⟨_, rfl⟩
      have m0 : 0 < m := by rw [← hm]; exact two_pos _
      have m1 : m ≤ 32768 := by rw [← hm]; exact two_le (n := 15) (by omega)
      have b0 : 0 ≤ p * m := Int.mul_nonneg (by omega) (by omega)
      have b1 : p * m ≤ 131072 * 32768 := Int.mul_le_mul p1 m1 (by omega) (by omega)
      rw [hm] at HL
      go_enter Tryz.func129, Tryz.ntmps129
      go_wp2_with fail
      refine (rwithin_any _ _).mono ?_
      rintro e w' ⟨rfl, rfl⟩
      go_wp2_with fail
      refine (rby_any _ _ _ (by omega) (by omega) (by omega)).mono ?_
      rintro e w' ⟨rfl, rfl⟩
      rw [hy]
      go_wp2_with fail
      refine (rby_any _ _ _ (by omega) (by omega) (by omega)).mono ?_
      rintro e w' ⟨rfl, rfl⟩
      rw [hk]
      go_wp2_with fail
      refine (rby_any _ _ _ (by omega) (by omega) (by omega)).mono ?_
      rintro e w' ⟨rfl, rfl⟩
      go_wp2_with fail
      refine (rby_any _ _ _ (by omega) (by omega) (by omega)).mono ?_
      rintro e w' ⟨rfl, rfl⟩
      go_wp2_with fail
      refine (power_any _ _ (by omega) (by omega)).mono ?_
      rintro e w' ⟨rfl, rfl⟩
      rw [hm]
      go_wp2_with fail
      refine (rwithin_any _ _).mono ?_
      rintro e w' ⟨rfl, rfl⟩
      go_wp2
      go_ret
      exact ⟨ret_int (HL.trans HE.out.symm), rfl⟩
/-- The bit that is tried, if j are left. -/
def kZ : Nat → Int
  | 0 => 0
  | j + 1 => 2 ^ j
theorem kZ_half (j : Nat) {m : Int} (hm : 2 ^ j = m) : m / 2 = kZ j := by
  cases j with
  | zero => rw [← hm]; decide
  | succ j => rw [← hm, Int.pow_succ, kZ]; omega
theorem kZ_bd {j : Nat} (h : j ≤ 32) : 0 ≤ kZ j ∧ kZ j ≤ 2147483648 := by
  cases j with
  | zero => decide
  | succ j => exact ⟨Int.le_of_lt (two_pos j), two_le (n := 31) (by omega)⟩
set_option maxHeartbeats 1000000 in
theorem rsqrt_any (x : Int) (w : World) :
    Calls Tryz.prog 87 #[.int .i64 x] w fun e w' => e = .returned (.int .i64 (sqrtZ x)) ∧ w' = w := by
  have x0 := wi_0 x
  have x1 := wi_1 x
  obtain ⟨n, hn⟩ : ∃ n, 65536 * wi x = n := ⟨_, rfl⟩
  have n1 : n < 281474976710656 := by omega
  have HZ : Hid (rootB n 32 0 = sqrtZ x) := by rw [← sqrtZ_eq, ← hn, Int.mul_comm]; exact rfl
  go_enter Tryz.func87, Tryz.ntmps87
  go_wp2_with fail
  refine (rwithin_any _ _).mono ?_
  rintro e w' ⟨rfl, rfl⟩
  go_wp2
  go_loop [4, 5] (fun v i => ∃ (s k : Int) (j : Nat), v = .int .i64 s ∧ i = .int .i64 k ∧ Hid (k = kZ j) ∧ j ≤ 32 ∧ 0 ≤ s ∧ s ≤ 16777216 ∧ Hid (rootB n j s = sqrtZ x)) (fun _ i => (intOf i).toNat)
  case atStart => exact ⟨_, _, 32, rfl, rfl, (by decide : (2147483648 : Int) = kZ 32), by omega, by omega, by omega, HZ⟩
  case round =>
    obtain ⟨s, k, j, rfl, rfl, HK, hj, s0, s1, HR⟩ := hrel
    rcases j with _ | j
    · have hk : k = 0 := HK
      subst hk
      go_wp2
      go_ret
      exact ⟨ret_int HR, rfl⟩
    · have hm : (2 : Int) ^ j = k := HK.out.symm
      have m0 : 0 < k := by rw [← hm]; exact two_pos _
      have m1 : k ≤ 2147483648 := by rw [← hm]; exact two_le (n := 31) (by omega)
      have B := sq_bd s0 s1 (by omega) m1
      have b0 := B.1
      have b1 := B.2
      clear B
      have HH : Hid (k / 2 = kZ j) := kZ_half j hm
      by_cases hq : (s + k) * (s + k) ≤ n
      · have HN : Hid (rootB n j (s + k) = sqrtZ x) := by rw [← HR.out, rootB_yes (by rw [hm]; exact hq), hm]; exact rfl
        have := sq_small hq n1
        clear hm
        go_wp2
        go_round
        case rel => exact ⟨_, _, j, rfl, rfl, HH, by omega, by omega, by omega, HN⟩
        case measure => simp [intOf]; omega
      · have HN : Hid (rootB n j s = sqrtZ x) := by rw [← HR.out, rootB_no (by rw [hm]; exact hq)]; exact rfl
        clear hm
        go_wp2
        go_round
        case rel => exact ⟨_, _, j, rfl, rfl, HH, by omega, by omega, by omega, HN⟩
        case measure => simp [intOf]; omega
end Go.Proofs.YtahpilgbabjebaaGreat
namespace Go.Proofs.YtahpilgbabjebaaGreat
open Go.RowKit
set_option linter.unusedVariables false
set_option maxRecDepth 1000000

theorem rcut_any (a : Option Addr) (len cap : Nat) (xs : List Int) (w : World) (ha : Reads .i64 w a len cap xs) (hlen : len ≤ 1000) :
    Calls Tryz.prog 94 #[.slice a len cap] w fun e w' => e = .returned (.slice a len cap) ∧ w' = w := by
  have r := ha.room
  have m := ha.most
  cases a with
  | none =>
    obtain ⟨rfl, rfl⟩ := ha.bare rfl
    clear ha
    go_enter Tryz.func94, Tryz.ntmps94
    go_wp2
    go_ret
    exact ⟨rfl, rfl⟩
  | some ad =>
    clear ha
    go_enter Tryz.func94, Tryz.ntmps94
    go_wp2
    go_ret
    exact ⟨rfl, rfl⟩
theorem rboth_any (a b : Option Addr) (la ca lb cb m : Nat) (xs ys : List Int) (w : World) (ha : Reads .i64 w a la ca xs) (hb : Reads .i64 w b lb cb ys) (hla : la ≤ 1000) (hlb : lb ≤ 1000) (hm : min la lb = m) :
    Calls Tryz.prog 52 #[.slice a la ca, .slice b lb cb] w fun e w' => e = .returned (.int .i64 m) ∧ w' = w := by
  have h1 := rcut_any a la ca xs w ha hla
  have h2 := rcut_any b lb cb ys w hb hlb
  clear ha hb
  rcases Nat.lt_or_ge lb la with hl | hl
  · obtain rfl : lb = m := by omega
    clear hm
    go_enter Tryz.func52, Tryz.ntmps52
    go_wp2_with fail
    refine h1.mono ?_
    rintro e w' ⟨rfl, rfl⟩
    go_wp2_with fail
    refine h2.mono ?_
    rintro e w' ⟨rfl, rfl⟩
    go_wp2
    go_ret
    exact ⟨rfl, rfl⟩
  · obtain rfl : la = m := by omega
    clear hm
    go_enter Tryz.func52, Tryz.ntmps52
    go_wp2_with fail
    refine h1.mono ?_
    rintro e w' ⟨rfl, rfl⟩
    go_wp2_with fail
    refine h2.mono ?_
    rintro e w' ⟨rfl, rfl⟩
    go_wp2
    go_ret
    exact ⟨rfl, rfl⟩

set_option maxHeartbeats 1000000 in
theorem rvdot_any (a b : Option Addr) (la ca lb cb : Nat) (xs ys : List Int) (w : World) (ha : Reads .i64 w a la ca xs) (hb : Reads .i64 w b lb cb ys) (hla : la ≤ 1000) (hlb : lb ≤ 1000) :
    Calls Tryz.prog 90 #[.slice a la ca, .slice b lb cb] w fun e w' => e = .returned (.int .i64 (dotK xs ys (min la lb))) ∧ Below w.heap.size w w' := by
  obtain ⟨m, hm⟩ : ∃ m, min la lb = m := ⟨_, rfl⟩
  have hma : m ≤ la := by omega
  have hmb : m ≤ lb := by omega
  have HBo := hid fun W (h : Below w.heap.size w W) => rboth_any a b la ca lb cb m xs ys W (ha.below h) (hb.below h) hla hlb hm
  rw [hm]
  have HA := hid ha
  have HB := hid hb
  clear ha hb hm
  go_enter Tryz.func90, Tryz.ntmps90
  go_wp2_with fail
  go_loopw [5, 6] (fun n i W => ∃ k : Nat, k ≤ m ∧ n = .int .i64 (dotK xs ys k) ∧ i = .int .i64 k ∧ Hid (Below w.heap.size w W)) (fun _ i _ => m - (intOf i).toNat)
  case atStart => exact ⟨0, Nat.zero_le _, rfl, rfl, Below.refl _ _⟩
  case round =>
    obtain ⟨k, hk, rfl, rfl, HW⟩ := hrel
    have hBo := HBo.out wr HW.out
    by_cases hlt : k < m
    · obtain ⟨b1, o1, rfl, c1⟩ := (HA.out.below HW.out).cell k (by omega)
      obtain ⟨b2, o2, rfl, c2⟩ := (HB.out.below HW.out).cell k (by omega)
      have r1 := HA.out.room
      have r2 := HB.out.room
      have m1 := HA.out.most
      have m2 := HB.out.most
      have q1 : (k : Int) < (la : Int) := by omega
      have q2 : (k : Int) < (lb : Int) := by omega
      have q3 : k < la := by omega
      have q4 : k < lb := by omega
      have HE : Hid (addZ (dotK xs ys k) (mulZ (xs[k]?.getD 0) (ys[k]?.getD 0)) = dotK xs ys (k + 1)) := rfl
      clear HA HB HBo
      generalize xs[k]?.getD 0 = x at *
      generalize ys[k]?.getD 0 = y at *
      generalize dotK xs ys k = s at *
      go_wp2_with fail
      refine hBo.mono ?_
      rintro e w' ⟨rfl, rfl⟩
      clear hBo
      go_wp2_with fail
      go_region_held3 (fun W : World => W.cell? ⟨b1, o1 + k, none⟩ = some (.int .i64 x) ∧ W.cell? ⟨b2, o2 + k, none⟩ = some (.int .i64 y)) (first | exact ⟨c1, c2⟩ | assumption) (first | (go_at_call 55; refine (rmul_any _ _ _).mono ?_; rintro e w' ⟨rfl, rfl⟩) | (go_at_call 53; refine (radd_any _ _ _).mono ?_; rintro e w' ⟨rfl, rfl⟩))
      go_wp2_with fail
      go_round
      case rel => exact ⟨k + 1, by omega, by rw [HE.out], by go_num, HW.out.drew⟩
      case measure => simp [intOf]; omega
    · obtain rfl : k = m := by omega
      clear HA HB HBo
      go_wp2_with fail
      refine hBo.mono ?_
      rintro e w' ⟨rfl, rfl⟩
      clear hBo
      go_wp2
      go_ret
      exact ⟨rfl, HW.out⟩

/-- The call hands back a row of its own. -/
def OwnG (w : World) (n : Nat) (xs : List Int) (e : Ending) (w' : World) : Prop := ∃ v, e = .returned v ∧ w'.ownsRow w.heap.size 2 1 v n (xs.map (Value.int .i64)) ∧ Below w.heap.size w w'
theorem OwnG.gives {w w' : World} {n : Nat} {xs : List Int} {e : Ending} (h : OwnG w n xs e w') : Gives w n xs e w' := by
  obtain ⟨v, rfl, h1, h2⟩ := h
  exact gives_own h1 h2
set_option maxHeartbeats 1000000 in
theorem rvadd_own (a b : Option Addr) (la ca lb cb : Nat) (xs ys : List Int) (w : World) (ha : Reads .i64 w a la ca xs) (hb : Reads .i64 w b lb cb ys) (hla : la ≤ 1000) (hlb : lb ≤ 1000) :
    Calls Tryz.prog 35 #[.slice a la ca, .slice b lb cb] w fun e w' => OwnG w (min la lb) (pairK addZ xs ys (min la lb)) e w' := by
  obtain ⟨i0, hi, hz0, hz1, hz2⟩ := info_parts Tryz.info2
  obtain ⟨m, hm⟩ : ∃ m, min la lb = m := ⟨_, rfl⟩
  have hma : m ≤ la := by omega
  have hmb : m ≤ lb := by omega
  have HBo := hid fun W (h : Below w.heap.size w W) => rboth_any a b la ca lb cb m xs ys W (ha.below h) (hb.below h) hla hlb hm
  rw [hm]
  have HA := hid ha
  have HB := hid hb
  clear ha hb hm
  go_enter Tryz.func35, Tryz.ntmps35
  go_wp2_with fail
  go_loopw [5, 6] (fun u i W => ∃ k : Nat, k ≤ m ∧ i = .int .i64 k ∧ Hid (W.ownsRow w.heap.size 2 1 u k ((pairK addZ xs ys k).map (Value.int .i64))) ∧ Hid (Below w.heap.size w W)) (fun _ i _ => m - (intOf i).toNat)
  case atStart => exact ⟨0, Nat.zero_le _, rfl, World.ownsRow_nil _ _ _ _, Below.refl _ _⟩
  case round =>
    obtain ⟨k, hk, rfl, HO, HW⟩ := hrel
    have hBo := HBo.out wr HW.out
    by_cases hlt : k < m
    · obtain ⟨b1, o1, rfl, c1⟩ := (HA.out.below HW.out).cell k (by omega)
      obtain ⟨b2, o2, rfl, c2⟩ := (HB.out.below HW.out).cell k (by omega)
      have HK : Hid (∀ W, Below w.heap.size w W → W.cell? ⟨b1, o1 + k, none⟩ = some (.int .i64 (xs[k]?.getD 0)) ∧ W.cell? ⟨b2, o2 + k, none⟩ = some (.int .i64 (ys[k]?.getD 0))) := by
        intro W h
        obtain ⟨b, o, e, c⟩ := (HA.out.below h).cell k (by omega)
        obtain ⟨b', o', e', c'⟩ := (HB.out.below h).cell k (by omega)
        cases e
        cases e'
        exact ⟨c, c'⟩
      have r1 := HA.out.room
      have r2 := HB.out.room
      have m1 := HA.out.most
      have m2 := HB.out.most
      have q1 : (k : Int) < (la : Int) := by omega
      have q2 : (k : Int) < (lb : Int) := by omega
      have q3 : k < la := by omega
      have q4 : k < lb := by omega
      have HE : Hid (pairK addZ xs ys k ++ [addZ (xs[k]?.getD 0) (ys[k]?.getD 0)] = pairK addZ xs ys (k + 1)) := rfl
      have HS : Hid (w.heap.size ≤ wr.heap.size) := HW.out.size
      clear HA HB HBo
      generalize xs[k]?.getD 0 = x at *
      generalize ys[k]?.getD 0 = y at *
      generalize pairK addZ xs ys k = us at *
      go_wp2_with fail
      refine hBo.mono ?_
      rintro e w' ⟨rfl, rfl⟩
      clear hBo
      rename World => wr
      go_wp2_with fail
      go_region_held3 (fun W : World => W.cell? ⟨b1, o1 + k, none⟩ = some (.int .i64 x) ∧ W.cell? ⟨b2, o2 + k, none⟩ = some (.int .i64 y)) (first | exact ⟨c1, c2⟩ | assumption | exact HK.out _ (HW.out.alloc HS.out _) | exact HK.out _ (HW.out.drew.alloc HS.out _) | exact HK.out _ HB3.out) (first | (go_at_call 53; refine (radd_any _ _ _).mono ?_; rintro e w' ⟨rfl, rfl⟩) | (refine step_append_reads (by rfl) 25 (by rfl) (.tmp 14) (.tmp 24) 70 (by rfl) w.heap.size 2 i0 (.int .i64 0) 8 Tryz.underlying70 hi hz0 hz1 hz2 rfl .i64 _ k us (by rfl) (HO.out.alloc _) _ 1 1 [addZ x y] (by rfl) (Reads.oned _ _ _) (by omega) (by omega) (by omega) (Nat.le_trans HS.out (by simp)) ?_; intro v' w3 hO3 hb3; have HB3 := hid ((HW.out.alloc HS.out _).drew.trans hb3)))
      have HO3 : Hid (w3.ownsRow w.heap.size 2 1 v' (k + 1) ((pairK addZ xs ys (k + 1)).map (Value.int .i64))) := by rw [← HE.out]; exact hO3
      clear hO3 hb3 HK c1 c2
      go_wp2_with fail
      go_round
      case rel => exact ⟨k + 1, by omega, by go_num, HO3, HB3⟩
      case measure => simp [intOf]; omega
    · obtain rfl : k = m := by omega
      clear HA HB HBo
      go_wp2_with fail
      refine hBo.mono ?_
      rintro e w' ⟨rfl, rfl⟩
      clear hBo
      go_wp2
      go_ret
      exact ⟨_, rfl, HO.out, HW.out⟩
theorem rvadd_any (a b : Option Addr) (la ca lb cb : Nat) (xs ys : List Int) (w : World) (ha : Reads .i64 w a la ca xs) (hb : Reads .i64 w b lb cb ys) (hla : la ≤ 1000) (hlb : lb ≤ 1000) :
    Calls Tryz.prog 35 #[.slice a la ca, .slice b lb cb] w fun e w' => Gives w (min la lb) (pairK addZ xs ys (min la lb)) e w' := (rvadd_own a b la ca lb cb xs ys w ha hb hla hlb).mono fun e w' h => h.gives
end Go.Proofs.YtahpilgbabjebaaGreat
namespace Go.Proofs.YtahpilgbabjebaaGreat
open Go.RowKit
set_option linter.unusedVariables false
set_option maxRecDepth 1000000

theorem map_snoc {f : Int → Int} {zs : List Int} {k : Nat} (h : k < zs.length) : (zs.take k).map f ++ [f (zs[k]?.getD 0)] = (zs.take (k + 1)).map f := by
  rw [take_snoc h, List.map_append]; rfl
theorem map_all {f : Int → Int} {zs : List Int} {n : Nat} (h : zs.length = n) : (zs.take n).map f = zs.map f := by rw [List.take_of_length_le (by omega)]

set_option maxHeartbeats 1000000 in
theorem rvscale_any (a : Option Addr) (len cap : Nat) (zs : List Int) (by_ : Int) (w : World) (ha : Reads .i64 w a len cap zs) (hlen : len ≤ 1000) :
    Calls Tryz.prog 128 #[.slice a len cap, .int .i64 by_] w fun e w' => Gives w len (zs.map (mulZ · by_)) e w' := by
  obtain ⟨i0, hi, hz0, hz1, hz2⟩ := info_parts Tryz.info2
  have HBo := hid fun W (h : Below w.heap.size w W) => rcut_any a len cap zs W (ha.below h) hlen
  have HL : Hid (zs.length = len) := ha.size
  have HA := hid ha
  clear ha
  go_enter Tryz.func128, Tryz.ntmps128
  go_wp2_with fail
  go_loopw [5, 6] (fun u i W => ∃ k : Nat, k ≤ len ∧ i = .int .i64 k ∧ Hid (W.ownsRow w.heap.size 2 1 u k (((zs.take k).map (mulZ · by_)).map (Value.int .i64))) ∧ Hid (Below w.heap.size w W)) (fun _ i _ => len - (intOf i).toNat)
  case atStart => exact ⟨0, Nat.zero_le _, rfl, World.ownsRow_nil _ _ _ _, Below.refl _ _⟩
  case round =>
    obtain ⟨k, hk, rfl, HO, HW⟩ := hrel
    have hBo := HBo.out wr HW.out
    by_cases hlt : k < len
    · obtain ⟨b1, o1, rfl, c1⟩ := (HA.out.below HW.out).cell k (by omega)
      have r1 := HA.out.room
      have m1 := HA.out.most
      have HE := hid (map_snoc (f := (mulZ · by_)) (zs := zs) (k := k) (by have := HL.out; omega))
      have HS : Hid (w.heap.size ≤ wr.heap.size) := HW.out.size
      clear HA HBo
      generalize zs[k]?.getD 0 = x at *
      generalize (zs.take k).map (mulZ · by_) = us at *
      go_wp2_with fail
      refine hBo.mono ?_
      rintro e w' ⟨rfl, rfl⟩
      clear hBo
      rename World => wr
      go_wp2_with fail
      refine (rmul_any _ _ _).mono ?_
      rintro e w' ⟨rfl, rfl⟩
      rename World => wr
      go_wp2_with (at_builtin; refine append_any _ rfl (.tmp 14) (.tmp 21) 70 rfl w.heap.size 2 i0 (.int .i64 0) 8 Tryz.underlying70 hi hz0 hz1 hz2 rfl .i64 _ k us rfl (HO.out.alloc _) _ 1 1 [mulZ x by_] rfl (Reads.one _ _ _) (by omega) (by omega) (Nat.le_trans HS.out (by simp)) ?_; intro v' w3 hO3 hb3)
      have HB3 := hid ((HW.out.alloc HS.out _).trans hb3)
      have HO3 : Hid (w3.ownsRow w.heap.size 2 1 v' (k + 1) (((zs.take (k + 1)).map (mulZ · by_)).map (Value.int .i64))) := by rw [← HE.out]; exact hO3
      clear hO3 hb3
      go_round
      case rel => exact ⟨k + 1, by omega, by go_num, HO3, HB3⟩
      case measure => simp [intOf]; omega
    · obtain rfl : k = len := by omega
      have HE : Hid (wr.ownsRow w.heap.size 2 1 u5 k ((zs.map (mulZ · by_)).map (Value.int .i64))) := by rw [← map_all HL.out]; exact HO.out
      clear HA HBo
      go_wp2_with fail
      refine hBo.mono ?_
      rintro e w' ⟨rfl, rfl⟩
      clear hBo
      go_wp2
      go_ret
      exact gives_own HE.out HW.out

set_option maxHeartbeats 1000000 in
theorem rvrelu_any (a : Option Addr) (len cap : Nat) (zs : List Int) (w : World) (ha : Reads .i64 w a len cap zs) (hlen : len ≤ 1000) :
    Calls Tryz.prog 93 #[.slice a len cap] w fun e w' => Gives w len (zs.map (fun n => max (wi n) 0)) e w' := by
  obtain ⟨i0, hi, hz0, hz1, hz2⟩ := info_parts Tryz.info2
  have HBo := hid fun W (h : Below w.heap.size w W) => rcut_any a len cap zs W (ha.below h) hlen
  have HL : Hid (zs.length = len) := ha.size
  have HA := hid ha
  clear ha
  go_enter Tryz.func93, Tryz.ntmps93
  go_wp2_with fail
  go_loopw [3, 4] (fun u i W => ∃ k : Nat, k ≤ len ∧ i = .int .i64 k ∧ Hid (W.ownsRow w.heap.size 2 1 u k (((zs.take k).map (fun n => max (wi n) 0)).map (Value.int .i64))) ∧ Hid (Below w.heap.size w W)) (fun _ i _ => len - (intOf i).toNat)
  case atStart => exact ⟨0, Nat.zero_le _, rfl, World.ownsRow_nil _ _ _ _, Below.refl _ _⟩
  case round =>
    obtain ⟨k, hk, rfl, HO, HW⟩ := hrel
    have hBo := HBo.out wr HW.out
    by_cases hlt : k < len
    · obtain ⟨b1, o1, rfl, c1⟩ := (HA.out.below HW.out).cell k (by omega)
      have r1 := HA.out.room
      have m1 := HA.out.most
      have HE := hid (map_snoc (f := fun n => max (wi n) 0) (zs := zs) (k := k) (by have := HL.out; omega))
      have HS : Hid (w.heap.size ≤ wr.heap.size) := HW.out.size
      clear HA HBo
      generalize zs[k]?.getD 0 = x at *
      generalize (zs.take k).map (fun n => max (wi n) 0) = us at *
      rcases Int.lt_or_le (wi x) 0 with hx | hx
      · have HX : Hid (max (wi x) 0 = 0) := by unfold Hid; omega
        rw [HX.out] at HE
        go_wp2_with fail
        refine hBo.mono ?_
        rintro e w' ⟨rfl, rfl⟩
        clear hBo
        rename World => wr
        go_wp2_with fail
        refine (rwithin_any _ _).mono ?_
        rintro e w' ⟨rfl, rfl⟩
        rename World => wr
        go_wp2_with (at_builtin; refine append_any _ rfl (.tmp 12) (.tmp 19) 70 rfl w.heap.size 2 i0 (.int .i64 0) 8 Tryz.underlying70 hi hz0 hz1 hz2 rfl .i64 _ k us rfl (HO.out.alloc _) _ 1 1 [0] rfl (Reads.one _ _ _) (by omega) (by omega) (Nat.le_trans HS.out (by simp)) ?_; intro v' w3 hO3 hb3)
        have HB3 := hid ((HW.out.alloc HS.out _).trans hb3)
        have HO3 : Hid (w3.ownsRow w.heap.size 2 1 v' (k + 1) (((zs.take (k + 1)).map (fun n => max (wi n) 0)).map (Value.int .i64))) := by rw [← HE.out]; exact hO3
        clear hO3 hb3
        go_round
        case rel => exact ⟨k + 1, by omega, by go_num, HO3, HB3⟩
        case measure => simp [intOf]; omega
      · have HX : Hid (max (wi x) 0 = wi x) := by unfold Hid; omega
        rw [HX.out] at HE
        go_wp2_with fail
        refine hBo.mono ?_
        rintro e w' ⟨rfl, rfl⟩
        clear hBo
        rename World => wr
        go_wp2_with fail
        refine (rwithin_any _ _).mono ?_
        rintro e w' ⟨rfl, rfl⟩
        rename World => wr
        go_wp2_with (at_builtin; refine append_any _ rfl (.tmp 12) (.tmp 19) 70 rfl w.heap.size 2 i0 (.int .i64 0) 8 Tryz.underlying70 hi hz0 hz1 hz2 rfl .i64 _ k us rfl (HO.out.alloc _) _ 1 1 [wi x] rfl (Reads.one _ _ _) (by omega) (by omega) (Nat.le_trans HS.out (by simp)) ?_; intro v' w3 hO3 hb3)
        have HB3 := hid ((HW.out.alloc HS.out _).trans hb3)
        have HO3 : Hid (w3.ownsRow w.heap.size 2 1 v' (k + 1) (((zs.take (k + 1)).map (fun n => max (wi n) 0)).map (Value.int .i64))) := by rw [← HE.out]; exact hO3
        clear hO3 hb3
        go_round
        case rel => exact ⟨k + 1, by omega, by go_num, HO3, HB3⟩
        case measure => simp [intOf]; omega
    · obtain rfl : k = len := by omega
      have HE : Hid (wr.ownsRow w.heap.size 2 1 u3 k ((zs.map (fun n => max (wi n) 0)).map (Value.int .i64))) := by rw [← map_all HL.out]; exact HO.out
      clear HA HBo
      go_wp2_with fail
      refine hBo.mono ?_
      rintro e w' ⟨rfl, rfl⟩
      clear hBo
      go_wp2
      go_ret
      exact gives_own HE.out HW.out

set_option maxHeartbeats 2000000 in
theorem rvnorm_any (a : Option Addr) (len cap : Nat) (zs : List Int) (w : World) (ha : Reads .i64 w a len cap zs) (hlen : len ≤ 1000) :
    Calls Tryz.prog 84 #[.slice a len cap] w fun e w' => Gives w len (normL zs) e w' := by
  have hz := ha.size
  subst hz
  obtain ⟨i0, hi, hz0, hz1, hz2⟩ := info_parts Tryz.info2
  have hD := rvdot_any a a _ cap _ cap zs zs w ha ha hlen hlen
  rw [Nat.min_self] at hD
  have HBo := hid fun W (h : Below w.heap.size w W) => rcut_any a zs.length cap zs W (ha.below h) hlen
  have HA := hid ha
  obtain ⟨mm, hmm⟩ : ∃ mm, addZ (divZ (dotK zs zs zs.length) (fromZ zs.length)) 1 = mm := ⟨_, rfl⟩
  have HR : Hid (sqrtZ mm = rootZ zs) := by unfold rootZ; rw [hmm]; exact rfl
  have HMM := hid hmm
  clear ha hmm
  go_enter Tryz.func84, Tryz.ntmps84
  go_wp2_with fail
  refine hD.mono ?_
  rintro e w1 ⟨rfl, hb1⟩
  have hBo1 := HBo.out w1 hb1
  have HB1 := hid hb1
  clear hD hb1
  go_wp2_with fail
  refine hBo1.mono ?_
  rintro e w' ⟨rfl, rfl⟩
  clear hBo1
  rename World => w1
  go_wp2_with fail
  refine (rfrom_any _ _).mono ?_
  rintro e w' ⟨rfl, rfl⟩
  go_wp2_with fail
  refine (rdiv_any _ _ _).mono ?_
  rintro e w' ⟨rfl, rfl⟩
  go_wp2_with fail
  refine (radd_any _ _ _).mono ?_
  rintro e w' ⟨rfl, rfl⟩
  rw [HMM.out]
  rename World => w1
  go_wp2_with fail
  go_loopw [4, 5] (fun u i W => ∃ k : Nat, k ≤ zs.length ∧ i = .int .i64 k ∧ Hid (W.ownsRow w.heap.size 2 1 u k (((zs.take k).map (divZ · (rootZ zs))).map (Value.int .i64))) ∧ Hid (Below w.heap.size w W)) (fun _ i _ => zs.length - (intOf i).toNat)
  case atStart => exact ⟨0, Nat.zero_le _, rfl, World.ownsRow_nil _ _ _ _, HB1⟩
  case round =>
    obtain ⟨k, hk, rfl, HO, HW⟩ := hrel
    clear HB1
    rename World => wr
    have hBo := HBo.out wr HW.out
    by_cases hlt : k < zs.length
    · obtain ⟨b1, o1, rfl, c1⟩ := (HA.out.below HW.out).cell k (by omega)
      have HK : Hid (∀ W, Below w.heap.size w W → W.cell? ⟨b1, o1 + k, none⟩ = some (.int .i64 (zs[k]?.getD 0))) := by
        intro W h
        obtain ⟨b, o, e, c⟩ := (HA.out.below h).cell k (by omega)
        cases e
        exact c
      have r1 := HA.out.room
      have m1 := HA.out.most
      have q1 : (k : Int) < (zs.length : Int) := by omega
      have HE := hid (map_snoc (f := (divZ · (rootZ zs))) (zs := zs) (k := k) hlt)
      have HS : Hid (w.heap.size ≤ wr.heap.size) := HW.out.size
      clear HA HBo
      generalize zs[k]?.getD 0 = x at *
      generalize rootZ zs = rt at *
      generalize (zs.take k).map (divZ · rt) = us at *
      go_wp2_with fail
      refine hBo.mono ?_
      rintro e w' ⟨rfl, rfl⟩
      clear hBo
      rename World => wr
      go_wp2_with fail
      go_region_held3 (fun W : World => W.cell? ⟨b1, o1 + k, none⟩ = some (.int .i64 x)) (first | exact c1 | assumption | exact HK.out _ (HW.out.alloc HS.out _) | exact HK.out _ (HW.out.drew.alloc HS.out _) | exact HK.out _ HB3.out) (first | (go_at_call 87; refine (rsqrt_any _ _).mono ?_; rintro e w' ⟨rfl, rfl⟩; rw [HR.out]) | (go_at_call 89; refine (rdiv_any _ _ _).mono ?_; rintro e w' ⟨rfl, rfl⟩) | (refine step_append_reads (by rfl) 31 (by rfl) (.tmp 22) (.tmp 30) 70 (by rfl) w.heap.size 2 i0 (.int .i64 0) 8 Tryz.underlying70 hi hz0 hz1 hz2 rfl .i64 _ k us (by rfl) (HO.out.alloc _) _ 1 1 [divZ x rt] (by rfl) (Reads.oned _ _ _) (by omega) (by omega) (by omega) (Nat.le_trans HS.out (by simp)) ?_; intro v' w3 hO3 hb3; have HB3 := hid ((HW.out.alloc HS.out _).drew.trans hb3)))
      have HO3 : Hid (w3.ownsRow w.heap.size 2 1 v' (k + 1) (((zs.take (k + 1)).map (divZ · rt)).map (Value.int .i64))) := by rw [← HE.out]; exact hO3
      clear hO3 hb3 HK c1
      go_wp2_with fail
      go_round
      case rel => exact ⟨k + 1, by omega, by go_num, HO3, HB3⟩
      case measure => simp [intOf]; omega
    · obtain rfl : k = zs.length := by omega
      have HE : Hid (wr.ownsRow w.heap.size 2 1 u4 zs.length ((normL zs).map (Value.int .i64))) := by unfold normL; rw [← map_all rfl]; exact HO.out
      clear HA HBo
      go_wp2_with fail
      refine hBo.mono ?_
      rintro e w' ⟨rfl, rfl⟩
      clear hBo
      go_wp2
      go_ret
      exact gives_own HE.out HW.out
end Go.Proofs.YtahpilgbabjebaaGreat
namespace Go.Proofs.YtahpilgbabjebaaGreat
open Go.RowKit
set_option linter.unusedVariables false
set_option maxRecDepth 1000000

set_option maxHeartbeats 1000000 in
theorem rvmul_own (a b : Option Addr) (la ca lb cb : Nat) (hs : List Hd) (xss : List (List Int)) (ys : List Int) (w : World) (ha : Tbl w a la ca hs xss) (hb : Reads .i64 w b lb cb ys) (hla : la ≤ 1000) (hlb : lb ≤ 1000) :
    Calls Tryz.prog 85 #[.slice a la ca, .slice b lb cb] w fun e w' => OwnG w la (rowK (mulF xss ys) la) e w' := by
  obtain ⟨i0, hi, hz0, hz1, hz2⟩ := info_parts Tryz.info2
  have HC : Hid (∀ k W, k < la → Below w.heap.size w W → Calls Tryz.prog 90 #[.slice (hs[k]?.getD (none, 0, 0)).1 (hs[k]?.getD (none, 0, 0)).2.1 (hs[k]?.getD (none, 0, 0)).2.2, .slice b lb cb] W fun e w' => e = .returned (.int .i64 (mulF xss ys k)) ∧ Below W.heap.size W w') := by
    intro k W hk hW
    have h1 := (ha.below hW).rows k hk
    have h2 := hb.below hW
    refine (rvdot_any _ _ _ _ _ _ _ _ W h1 h2 (ha.short k hk) hlb).mono ?_
    rintro e w' ⟨e1, e2⟩
    refine ⟨?_, e2⟩
    rw [e1]
    unfold mulF
    rw [h1.size, h2.size]
  have HA := hid ha
  have r1 := ha.rd.room
  have m1 := ha.rd.most
  clear ha hb
  go_enter Tryz.func85, Tryz.ntmps85
  go_wp2_with fail
  go_loopw [5, 6] (fun u i W => ∃ k : Nat, k ≤ la ∧ i = .int .i64 k ∧ Hid (W.ownsRow w.heap.size 2 1 u k ((rowK (mulF xss ys) k).map (Value.int .i64))) ∧ Hid (Below w.heap.size w W)) (fun _ i _ => la - (intOf i).toNat)
  case atStart => exact ⟨0, Nat.zero_le _, rfl, World.ownsRow_nil _ _ _ _, Below.refl _ _⟩
  case round =>
    obtain ⟨k, hk, rfl, HO, HW⟩ := hrel
    by_cases hlt : k < la
    · obtain ⟨b1, o1, rfl, c1⟩ := (HA.out.rd.below HW.out).cell k hlt
      have hC := HC.out k wr hlt HW.out
      have q1 : (k : Int) < (la : Int) := by omega
      have q2 : (k : Int) < 4096 := by omega
      have HE := hid (rowK_snoc (mulF xss ys) k)
      clear HA HC
      generalize hs[k]?.getD (none, 0, 0) = z at *
      obtain ⟨z1, z2, z3⟩ := z
      simp only at c1 hC
      generalize mulF xss ys k = x at *
      generalize rowK (mulF xss ys) k = us at *
      go_wp2_with fail
      refine hC.mono ?_
      rintro e w2 ⟨rfl, hb2⟩
      have HO2 := hid (own_below HO.out hb2)
      have HW2 := hid (HW.out.trans (hb2.mono HW.out.size))
      have HS : Hid (w.heap.size ≤ w2.heap.size) := HW2.out.size
      clear hb2 hC c1 HO HW
      go_wp2_with (at_builtin; refine append_any _ rfl (.tmp 17) (.tmp 24) 70 rfl w.heap.size 2 i0 (.int .i64 0) 8 Tryz.underlying70 hi hz0 hz1 hz2 rfl .i64 _ k us rfl (HO2.out.alloc _) _ 1 1 [x] rfl (Reads.one _ _ _) (by omega) (by omega) (Nat.le_trans HS.out (by simp)) ?_; intro v' w3 hO3 hb3)
      have HB3 := hid ((HW2.out.alloc HS.out _).trans hb3)
      have HO3 : Hid (w3.ownsRow w.heap.size 2 1 v' (k + 1) ((rowK (mulF xss ys) (k + 1)).map (Value.int .i64))) := by rw [← HE.out]; exact hO3
      clear hO3 hb3
      go_round
      case rel => exact ⟨k + 1, by omega, by go_num, HO3, HB3⟩
      case measure => simp [intOf]; omega
    · obtain rfl : k = la := by omega
      clear HA HC
      go_wp2
      go_ret
      exact ⟨_, rfl, HO.out, HW.out⟩
theorem rvmul_any (a b : Option Addr) (la ca lb cb : Nat) (hs : List Hd) (xss : List (List Int)) (ys : List Int) (w : World) (ha : Tbl w a la ca hs xss) (hb : Reads .i64 w b lb cb ys) (hla : la ≤ 1000) (hlb : lb ≤ 1000) :
    Calls Tryz.prog 85 #[.slice a la ca, .slice b lb cb] w fun e w' => Gives w la (rowK (mulF xss ys) la) e w' := (rvmul_own a b la ca lb cb hs xss ys w ha hb hla hlb).mono fun e w' h => h.gives

theorem mix_step {us row : List Int} {b : Int} : ∀ n, n ≤ row.length → pairK addZ us (row.map (mulZ · b)) n = pairK (fun x y => addZ x (mulZ y b)) us row n := by
  intro n
  induction n with
  | zero => intro _; rfl
  | succ n ih =>
    intro h
    simp only [pairK]
    rw [ih (by omega), List.getElem?_map, List.getElem?_eq_getElem (by omega : n < row.length)]
    rfl
/-- A vector that reads as us, in a slot. -/
def VecAt (us : List Int) (u : Value) (W : World) : Prop := ∃ ad c, u = .slice ad us.length c ∧ Reads .i64 W ad us.length c us

set_option maxHeartbeats 2000000 in
theorem rvmix_any (a b : Option Addr) (la ca lb cb : Nat) (hs : List Hd) (xss : List (List Int)) (ws : List Int) (w : World) (ha : Tbl w a la ca hs xss) (hb : Reads .i64 w b lb cb ws) (hla : la ≤ 1000) (hlb : lb ≤ 1000) (h0 : 0 < la) :
    Calls Tryz.prog 91 #[.slice b lb cb, .slice a la ca] w fun e w' => Gives w (mixK ws xss (min lb la)).length (mixK ws xss (min lb la)) e w' := by
  obtain ⟨b0, o0, rfl, c0⟩ := ha.rd.cell 0 h0
  have hr0 := ha.rows 0 h0
  have hs0 := ha.short 0 h0
  have hcut := rcut_any _ _ _ _ w hr0 hs0
  have HL : Hid ((xss[0]?.getD []).length ≤ 1000) := by unfold Hid; rw [hr0.size]; exact hs0
  have HZ := hid hr0.size
  have HCut := hid fun W (h : Below w.heap.size w W) => rcut_any b lb cb ws W (hb.below h) hlb
  have HSc : Hid (∀ k W, k < la → k < lb → Below w.heap.size w W → Calls Tryz.prog 128 #[.slice (hs[k]?.getD (none, 0, 0)).1 (hs[k]?.getD (none, 0, 0)).2.1 (hs[k]?.getD (none, 0, 0)).2.2, .int .i64 (ws[k]?.getD 0)] W
      fun e w' => Gives W (xss[k]?.getD []).length ((xss[k]?.getD []).map (mulZ · (ws[k]?.getD 0))) e w') := by
    intro k W hk hk' hW
    have h1 := (ha.below hW).rows k hk
    have := rvscale_any _ _ _ _ (ws[k]?.getD 0) W h1 (ha.short k hk)
    rw [← h1.size] at this
    rw [← h1.size]
    exact this
  have HAd : Hid (∀ k W ad c ad2 c2, k < la → Reads .i64 W ad (mixK ws xss k).length c (mixK ws xss k) → Reads .i64 W ad2 (xss[k]?.getD []).length c2 ((xss[k]?.getD []).map (mulZ · (ws[k]?.getD 0))) → Calls Tryz.prog 35 #[.slice ad (mixK ws xss k).length c, .slice ad2 (xss[k]?.getD []).length c2] W
      fun e w' => ∃ u, e = .returned u ∧ VecAt (mixK ws xss (k + 1)) u w' ∧ Below W.heap.size W w') := by
    intro k W ad c ad2 c2 hk h1 h2
    have hl : (xss[k]?.getD []).length ≤ 1000 := by rw [(ha.rows k hk).size]; exact ha.short k hk
    refine (rvadd_any _ _ _ _ _ _ _ _ W h1 h2 (mixK_len HL.out k) hl).mono ?_
    rintro e w' ⟨a', c', e1, hr, hb'⟩
    have hmx : pairK addZ (mixK ws xss k) ((xss[k]?.getD []).map (mulZ · (ws[k]?.getD 0))) (min (mixK ws xss k).length (xss[k]?.getD []).length) = mixK ws xss (k + 1) := mix_step _ (Nat.min_le_right _ _)
    rw [hmx] at hr
    have hsz := hr.size
    rw [← hsz] at e1 hr
    exact ⟨_, e1, ⟨a', c', rfl, hr⟩, hb'⟩
  have HT := hid ha
  have HW0 := hid hb
  have r1 := hb.room
  have m1 := hb.most
  have r2 := ha.rd.room
  have m2 := ha.rd.most
  have qn : ((la : Int) == 0) = false := by simp; omega
  have q0 : (0 : Int) < (la : Int) := by omega
  rw [Nat.add_zero] at c0
  have HLs : Hid (∀ k, k < la → (xss[k]?.getD []).length = (hs[k]?.getD (none, 0, 0)).2.1) := fun k hk => (ha.rows k hk).size
  clear ha hb hr0
  generalize hz0 : hs[0]?.getD (none, 0, 0) = z at *
  obtain ⟨z1, z2, z3⟩ := z
  simp only at c0 hs0 HZ hcut
  have HM0 : Hid (mixK ws xss 0 = List.replicate z2 0) := by unfold mixK; rw [HZ.out]; exact rfl
  have hmk : ∀ W : World, (Instr.makeSlice 70 (.int .i64 (z2 : Int)) (.int .i64 (z2 : Int))).run Tryz.prog W = .ok (.slice (some ⟨W.heap.size, 0, none⟩) z2 z2) (W.alloc (.cells (madeCells #[.int .i64 0] z2) 2)) := fun W => make_ints W z2 (by omega)
  have HV0 : Hid (VecAt (mixK ws xss 0) (.slice (some ⟨w.heap.size, 0, none⟩) z2 z2) (w.alloc (.cells (madeCells #[.int .i64 0] z2) 2))) := by
    rw [HM0.out]
    exact ⟨_, z2, by rw [List.length_replicate], by rw [List.length_replicate]; exact (own_made 2 w z2 (by omega)).reads⟩
  have HB0 : Hid (Below w.heap.size w (w.alloc (.cells (madeCells #[.int .i64 0] z2) 2))) := (Below.refl _ _).alloc (Nat.le_refl _) _
  clear hz0 HZ
  go_enter Tryz.func91, Tryz.ntmps91
  go_wp2_with fail
  refine hcut.mono ?_
  rintro e w' ⟨rfl, rfl⟩
  clear hcut
  rename World => w
  go_wp2_with fail
  clear hmk c0
  go_loopw [5, 6] (fun u i W => ∃ k : Nat, k ≤ min lb la ∧ i = .int .i64 k ∧ Hid (VecAt (mixK ws xss k) u W) ∧ Hid (Below w.heap.size w W)) (fun _ i _ => min lb la - (intOf i).toNat)
  case atStart => exact ⟨0, Nat.zero_le _, rfl, HV0, HB0⟩
  case round =>
    obtain ⟨k, hk, rfl, HV, HW⟩ := hrel
    clear HV0 HB0
    rename World => wr
    have hcw := HCut.out wr HW.out
    by_cases hlt : k < min lb la
    · have hka : k < la := by omega
      have hkb : k < lb := by omega
      have q1 : (k : Int) < (la : Int) := by omega
      have q2 : (k : Int) < (lb : Int) := by omega
      obtain ⟨ad, c, rfl, hrd⟩ := HV.out
      obtain ⟨b2, o2, e2, d2⟩ := (HT.out.rd.below HW.out).cell k hka
      cases e2
      obtain ⟨b1, o1, rfl, d1⟩ := (HW0.out.below HW.out).cell k hkb
      have HSk := hid (HSc.out k wr.drew hka hkb HW.out.drew)
      have HAk := hid fun W ad2 c2 (h : Below wr.heap.size wr W) h2 => HAd.out k W ad c ad2 c2 hka (hrd.below h) h2
      have HK : Hid (∀ W, Below wr.heap.size wr W → W.cell? ⟨b0, o0 + k, none⟩ = some (.slice (hs[k]?.getD (none, 0, 0)).1 (hs[k]?.getD (none, 0, 0)).2.1 (hs[k]?.getD (none, 0, 0)).2.2) ∧ W.cell? ⟨b1, o1 + k, none⟩ = some (.int .i64 (ws[k]?.getD 0))) :=
        fun W h => ⟨(h.cell (World.block_lt_of_cell? _ _ d2)).trans d2, (h.cell (World.block_lt_of_cell? _ _ d1)).trans d1⟩
      have HLk := hid (HLs.out k hka)
      clear HSc HAd HT HW0 HCut HLs HV hrd
      generalize ws[k]?.getD 0 = wk at *
      generalize hs[k]?.getD (none, 0, 0) = y at *
      obtain ⟨y1, y2, y3⟩ := y
      simp only at d2 HSk HK HLk
      have hml := mixK_len (ws := ws) HL.out k
      generalize hM : (mixK ws xss k).length = M at *
      go_wp2_with fail
      refine hcw.mono ?_
      rintro e w' ⟨rfl, rfl⟩
      clear hcw hM
      rename World => wr
      go_wp2_with fail
      go_region_held3 (fun W : World => W.cell? ⟨b0, o0 + k, none⟩ = some (.slice y1 y2 y3) ∧ W.cell? ⟨b1, o1 + k, none⟩ = some (.int .i64 wk)) (first | exact ⟨d2, d1⟩ | assumption | exact HK.out _ HB5.out | exact HK.out _ HB4.out)
        (first | (go_at_call 128; refine HSk.out.mono ?_; rintro e w4 ⟨a4, c4, rfl, hr4, hb4⟩; have HB4 : Hid (Below wr.heap.size wr w4) := (Below.refl _ _).drew.trans (hb4.mono (Nat.le_refl _)); have hA4 := HAk.out w4 a4 c4 HB4.out hr4) | (go_at_call 35; refine hA4.mono ?_; rintro e w5 ⟨u5', rfl, hv5, hb5⟩; have HB5 : Hid (Below wr.heap.size wr w5) := HB4.out.trans (hb5.mono HB4.out.size)))
      have HV5 := hid hv5
      have HB6 := hid (HW.out.trans (HB5.out.mono HW.out.size))
      clear hv5 hb5 hA4 hr4 hb4 HB4 HB5 HK d1 d2 HSk HAk
      go_wp2_with fail
      go_round
      case rel => exact ⟨k + 1, by omega, by go_num, HV5, HB6⟩
      case measure => simp [intOf]; omega
    · have HE : Hid (∃ ad c, u5 = .slice ad (mixK ws xss (min lb la)).length c ∧ Reads .i64 wr ad (mixK ws xss (min lb la)).length c (mixK ws xss (min lb la))) := by
        have e : k = min lb la := by omega
        rw [← e]
        exact HV.out
      obtain ⟨ad, c, rfl, hrd⟩ := HE.out
      have HR := hid hrd
      have hkm : k = min lb la := by omega
      clear HSc HAd HT HW0 HCut HLs HV hrd HE HM0 HL
      rcases Nat.lt_or_ge lb la with hl | hl
      · obtain rfl : k = lb := by omega
        have q1 : (k : Int) < (la : Int) := by omega
        clear hkm hk hlt
        go_wp2_with fail
        refine hcw.mono ?_
        rintro e w' ⟨rfl, rfl⟩
        clear hcw
        go_wp2
        go_ret
        exact ⟨_, _, rfl, HR.out, HW.out⟩
      · obtain rfl : k = la := by omega
        clear hkm hk hlt hcw
        go_wp2
        go_ret
        exact ⟨_, _, rfl, HR.out, HW.out⟩
theorem rvmix_none (a b : Option Addr) (ca lb cb : Nat) (w : World) :
    Calls Tryz.prog 91 #[.slice b lb cb, .slice a 0 ca] w fun e w' => Gives w 0 [] e w' := by
  go_enter Tryz.func91, Tryz.ntmps91
  go_wp2
  go_ret
  exact ⟨_, _, rfl, Reads.nil _ _, Below.refl _ _⟩
end Go.Proofs.YtahpilgbabjebaaGreat
namespace Go.Proofs.YtahpilgbabjebaaGreat
open Go.RowKit
set_option linter.unusedVariables false
set_option maxRecDepth 1000000

/-- The greatest, as the document tells it: from the first on. -/
def maxK (zs : List Int) : Nat → Int
  | 0 => wi (zs[0]?.getD 0)
  | k + 1 => max (maxK zs k) (wi (zs[k]?.getD 0))
theorem maxK_great (zs : List Int) (k : Nat) : maxK zs (k + 1) = greatK zs (k + 1) := by
  induction k with
  | zero => simp [maxK, greatK]
  | succ k ih =>
    have e : greatK zs (k + 1 + 1) = if k + 1 = 0 ∨ greatK zs (k + 1) < wi (zs[k + 1]?.getD 0) then wi (zs[k + 1]?.getD 0) else greatK zs (k + 1) := rfl
    rw [maxK, ih, e]
    by_cases h : greatK zs (k + 1) < wi (zs[k + 1]?.getD 0)
    · rw [if_pos (.inr h)]; omega
    · rw [if_neg (by omega)]; omega
theorem maxK_bd (zs : List Int) (k : Nat) : -2147483648 ≤ maxK zs k ∧ maxK zs k ≤ 2147483647 := by
  induction k with
  | zero => exact ⟨wi_0 _, wi_1 _⟩
  | succ k ih =>
    have := wi_0 (zs[k]?.getD 0)
    have := wi_1 (zs[k]?.getD 0)
    simp only [maxK]
    omega
theorem sumK_take {ps : List Int} {n : Nat} : ∀ k, k ≤ n → sumK (ps.take n) k = sumK ps k := by
  intro k
  induction k with
  | zero => intro _; rfl
  | succ k ih =>
    intro h
    simp only [sumK]
    rw [ih (by omega), List.getElem?_take_of_lt (by omega)]
theorem map_at {f : Int → Int} {zs : List Int} {k : Nat} (h : k < zs.length) : ((zs.map f)[k]?).getD 0 = f (zs[k]?.getD 0) := by simp [h]
/-- What the third loop has turned. -/
def turnK (f : Int → Int) (ps : List Int) (k : Nat) : List Int := (ps.take k).map f ++ ps.drop k
theorem turnK_0 (f : Int → Int) (ps : List Int) : turnK f ps 0 = ps := by simp [turnK]
theorem turnK_all {f : Int → Int} {ps : List Int} {n : Nat} (h : ps.length = n) : turnK f ps n = ps.map f := by subst h; simp [turnK]
theorem turnK_at {f : Int → Int} {ps : List Int} {k : Nat} (h : k < ps.length) : (turnK f ps k)[k]?.getD 0 = ps[k]?.getD 0 := by
  unfold turnK
  rw [List.getElem?_append_right (by simp; omega)]
  simp
  rw [show k + (k - min k ps.length) = k by omega]
theorem turnK_set {f : Int → Int} {ps : List Int} {k : Nat} (h : k < ps.length) : (turnK f ps k).set k (f (ps[k]?.getD 0)) = turnK f ps (k + 1) := by
  unfold turnK
  have hl : ((ps.take k).map f).length = k := by simp; omega
  rw [List.set_append_right _ _ (by omega), hl, Nat.sub_self, take_snoc h, List.map_append, List.append_assoc]
  congr 1
  rw [List.drop_eq_getElem_cons h, List.set_cons_zero]
  rfl
/-- A row that is not nil lies in a block. -/
theorem own_block {t : TypeId} {base m : Nat} {v : Value} {xs : List Int} {w : World} (h : w.ownsRow base t 1 v m (xs.map (Value.int .i64))) (hm : 0 < m) : ∃ g cap, v = .slice (some ⟨g, 0, none⟩) m cap ∧ OwnK t base g m cap xs w := by
  rcases h.2 with ⟨h1, h2⟩ | ⟨g, cap, cur, rfl, r⟩
  · omega
  · exact ⟨g, cap, rfl, h⟩

set_option maxHeartbeats 2000000 in
theorem rvsoft_any (a : Option Addr) (len cap : Nat) (zs : List Int) (w : World) (ha : Reads .i64 w a len cap zs) (hlen : len ≤ 1000) :
    Calls Tryz.prog 92 #[.slice a len cap] w fun e w' => Gives w len (softL zs) e w' := by
  obtain ⟨i0, hi, hz0, hz1, hz2⟩ := info_parts Tryz.info2
  have hC := rcut_any a len cap zs w ha hlen
  have HL : Hid (zs.length = len) := ha.size
  have HA := hid ha
  by_cases h0 : len = 0
  · subst h0
    have hz : zs = [] := List.eq_nil_of_length_eq_zero HL.out
    subst hz
    clear HL HA ha
    go_enter Tryz.func92, Tryz.ntmps92
    go_wp2_with fail
    refine hC.mono ?_
    rintro e w' ⟨rfl, rfl⟩
    clear hC
    go_wp2
    go_ret
    exact ⟨none, 0, rfl, Reads.nil _ _, Below.refl _ _⟩
  · obtain ⟨b1, o1, rfl, c0⟩ := ha.cell 0 (by omega)
    have r1 := ha.room
    have m1 := ha.most
    have hne : ¬ (len : Int) = 0 := by omega
    have hne' : ((len : Int) == 0) = false := by simpa using hne
    have HM0 : Hid (wi (zs[0]?.getD 0) = maxK zs 0) := rfl
    rw [Nat.add_zero] at c0
    clear ha
    go_enter Tryz.func92, Tryz.ntmps92
    go_wp2_with fail
    refine hC.mono ?_
    rintro e w' ⟨rfl, rfl⟩
    clear hC
    rename World => w
    go_wp2_with fail
    refine (rwithin_any _ _).mono ?_
    rintro e w' ⟨rfl, rfl⟩
    rw [HM0.out]
    rename World => w
    clear c0
    go_wp2_with fail
    go_loop [3, 4] (fun t i => ∃ k : Nat, k ≤ len ∧ t = .int .i64 (maxK zs k) ∧ i = .int .i64 k) (fun _ i => len - (intOf i).toNat)
    case atStart => exact ⟨0, Nat.zero_le _, rfl, rfl⟩
    case round =>
      obtain ⟨k, hk, rfl, rfl⟩ := hrel
      by_cases hlt : k < len
      · obtain ⟨b, o, e, c1⟩ := HA.out.cell k hlt
        cases e
        have HE : Hid (max (maxK zs k) (wi (zs[k]?.getD 0)) = maxK zs (k + 1)) := rfl
        clear HA
        generalize zs[k]?.getD 0 = x at *
        generalize maxK zs k = t at *
        rcases Int.lt_or_le t (wi x) with hx | hx
        · have HX : Hid (wi x = maxK zs (k + 1)) := by rw [← HE.out]; unfold Hid; omega
          go_wp2_with fail
          refine (rwithin_any _ _).mono ?_
          rintro e w' ⟨rfl, rfl⟩
          go_wp2
          go_round
          case rel => exact ⟨k + 1, by omega, by rw [HX.out], by go_num⟩
          case measure => simp [intOf]; omega
        · have HX : Hid (t = maxK zs (k + 1)) := by rw [← HE.out]; unfold Hid; omega
          go_wp2_with fail
          refine (rwithin_any _ _).mono ?_
          rintro e w' ⟨rfl, rfl⟩
          go_wp2
          go_round
          case rel => exact ⟨k + 1, by omega, by rw [← HX.out], by go_num⟩
          case measure => simp [intOf]; omega
      · obtain rfl : k = len := by omega
        have hbd := maxK_bd zs k
        have t0 := hbd.1
        have t1 := hbd.2
        have HG : Hid (maxK zs k = greatK zs zs.length) := by
          unfold Hid
          rw [HL.out]
          obtain ⟨j, rfl⟩ : ∃ j, k = j + 1 := ⟨k - 1, by omega⟩
          exact maxK_great zs j
        obtain ⟨t, ht⟩ : ∃ t, maxK zs k = t := ⟨_, rfl⟩
        rw [ht] at t0 t1 HG ⊢
        have HPL : Hid (powL zs = zs.map fun x => expZ (addZ x (-t))) := by unfold powL; rw [HG.out]; exact rfl
        have HPN : Hid ((powL zs).length = k) := by rw [powL_len]; exact HL
        clear hbd ht hlt
        go_wp2_with fail
        go_loopw [5, 6, 7] (fun u s i W => ∃ j : Nat, j ≤ k ∧ s = .int .i64 (sumK (powL zs) j) ∧ i = .int .i64 j ∧ Hid (W.ownsRow w.heap.size 2 1 u j (((powL zs).take j).map (Value.int .i64))) ∧ Hid (Below w.heap.size w W)) (fun _ _ i _ => k - (intOf i).toNat)
        case atStart => exact ⟨0, Nat.zero_le _, rfl, rfl, World.ownsRow_nil _ _ _ _, Below.refl _ _⟩
        case round =>
          obtain ⟨j, hj, rfl, rfl, HO, HW⟩ := hrel
          rename World => wr
          by_cases hjl : j < k
          · obtain ⟨b, o, e, c1⟩ := (HA.out.below HW.out).cell j hjl
            cases e
            have HPj : Hid ((powL zs)[j]?.getD 0 = expZ (addZ (zs[j]?.getD 0) (-t))) := by unfold Hid; rw [HPL.out]; exact map_at (f := fun x => expZ (addZ x (-t))) (by have := HL.out; omega)
            have HE : Hid ((powL zs).take j ++ [expZ (addZ (zs[j]?.getD 0) (-t))] = (powL zs).take (j + 1)) := by unfold Hid; rw [← HPj.out, take_snoc (by have := HPN.out; omega)]
            have HSu : Hid (addZ (sumK (powL zs) j) (expZ (addZ (zs[j]?.getD 0) (-t))) = sumK (powL zs) (j + 1)) := by unfold Hid; rw [← HPj.out]; rfl
            have HS : Hid (w.heap.size ≤ wr.heap.size) := HW.out.size
            clear HA HPj
            generalize zs[j]?.getD 0 = x at *
            generalize sumK (powL zs) j = s at *
            generalize (powL zs).take j = us at *
            go_wp2_with fail
            refine (radd_any _ _ _).mono ?_
            rintro e w' ⟨rfl, rfl⟩
            go_wp2_with fail
            refine (rexp_any _ _).mono ?_
            rintro e w' ⟨rfl, rfl⟩
            rename World => wr
            generalize expZ (addZ x (-t)) = p at *
            go_wp2_with (first | (at_builtin; refine append_any _ rfl (.tmp 46) (.tmp 48) 70 rfl w.heap.size 2 i0 (.int .i64 0) 8 Tryz.underlying70 hi hz0 hz1 hz2 rfl .i64 _ j us rfl (HO.out.alloc _) _ 1 1 [p] rfl (Reads.one _ _ _) (by omega) (by omega) (Nat.le_trans HS.out (by simp)) ?_; intro v' w3 hO3 hb3) | fail)
            refine (radd_any _ _ _).mono ?_
            rintro e w' ⟨rfl, rfl⟩
            rename World => w3
            rw [HSu.out]
            have HB3 := hid ((HW.out.alloc HS.out _).trans hb3)
            have HO3 : Hid (w3.ownsRow w.heap.size 2 1 v' (j + 1) (((powL zs).take (j + 1)).map (Value.int .i64))) := by rw [← HE.out]; exact hO3
            clear hO3 hb3
            go_wp2_with fail
            go_round
            case rel => exact ⟨j + 1, by omega, rfl, by go_num, HO3, HB3⟩
            case measure => simp [intOf]; omega
          · obtain rfl : j = k := by omega
            obtain ⟨g, cg, rfl, hO⟩ := own_block HO.out (by omega)
            rw [List.take_of_length_le (by have := HPN.out; omega)] at hO
            obtain ⟨S, hS⟩ : ∃ S, sumK (powL zs) j = S := ⟨_, rfl⟩
            have HSL : Hid (turnK (divZ · S) (powL zs) j = softL zs) := by
              unfold Hid
              rw [turnK_all HPN.out, ← hS]
              unfold softL
              rw [HL.out]
            have H0 : Hid (OwnK 2 w.heap.size g j cg (turnK (divZ · S) (powL zs) 0) wr) := by rw [turnK_0]; exact hO
            have hcg := hO.reads.room
            have hcm := hO.reads.most
            rw [hS]
            clear hO HO hS hjl HA HG HPL
            go_wp2_with fail
            go_loopw [9] (fun i W => ∃ n : Nat, n ≤ j ∧ i = .int .i64 n ∧ Hid (OwnK 2 w.heap.size g j cg (turnK (divZ · S) (powL zs) n) W) ∧ Hid (Below w.heap.size w W)) (fun i _ => j - (intOf i).toNat)
            case atStart => exact ⟨0, Nat.zero_le _, rfl, H0, HW⟩
            case round =>
              obtain ⟨n, hn, rfl, HN, HWn⟩ := hrel
              clear H0 HW
              rename World => wn
              by_cases hnl : n < j
              · have hln : n < (powL zs).length := by have := HPN.out; omega
                have cn := HN.out.cell (k := n) hnl
                rw [turnK_at hln] at cn
                have fn := HN.out.frozen n
                have HT : Hid (OwnK 2 w.heap.size g j cg (turnK (divZ · S) (powL zs) (n + 1)) (wn.setCell ⟨g, n, none⟩ (.int .i64 (divZ ((powL zs)[n]?.getD 0) S)))) := by
                  unfold Hid
                  rw [← turnK_set hln]
                  exact HN.out.set n _
                have HBg : Hid (w.heap.size ≤ g) := HN.out.base
                clear HN hln
                generalize (powL zs)[n]?.getD 0 = x at *
                go_wp2_with fail
                refine (rdiv_any _ _ _).mono ?_
                rintro e w' ⟨rfl, rfl⟩
                go_wp2_with fail
                go_round
                case rel => exact ⟨n + 1, by omega, by go_num, HT, HWn.out.setCell HBg.out _⟩
                case measure => simp [intOf]; omega
              · obtain rfl : n = j := by omega
                have HE : Hid (OwnK 2 w.heap.size g n cg (softL zs) wn) := by rw [← HSL.out]; exact HN.out
                clear HN
                go_wp2
                go_ret
                exact ⟨_, _, rfl, HE.out.reads, HWn.out⟩
end Go.Proofs.YtahpilgbabjebaaGreat
namespace Go.Proofs.YtahpilgbabjebaaGreat
open Go.RowKit
set_option linter.unusedVariables false
set_option maxRecDepth 1000000

/-- A number turned by itself gone to the right. -/
def sx (n k : Int) : Int := bits .xor .u64 n (n / k)
/-- A number modulo 2 ^ 64. -/
def wr (n : Int) : Int := IntKind.u64.wrap n
/-- A number mixed. -/
def mixZ (n : Int) : Int := sx (wr (sx (wr (sx n 1073741824 * 13787848793156543929)) 134217728 * 10723151780598845931)) 2147483648
/-- The draw n of a seed. -/
def atZ (s n : Int) : Int := mixZ (wr (s + wr (wr (n + 1) * 11400714819323198485)))
/-- The upper half of a product. -/
def upZ (a b : Int) : Int := a * b / 18446744073709551616
/-- The draw n of a seed, below a number. -/
def belowZ (s n m : Int) : Int := upZ (atZ s n) m
/-- A seed made of another one and labels. -/
def deriveZ (s : Int) (l : List Int) : Int := l.foldl atZ s

theorem wr_eq (n : Int) : wr n = n % 18446744073709551616 := IntKind.wrap_u64 n
theorem wr_0 (n : Int) : 0 ≤ wr n := by rw [wr_eq]; omega
theorem wr_1 (n : Int) : wr n ≤ 18446744073709551615 := by rw [wr_eq]; omega
theorem wr_in {n : Int} (h0 : 0 ≤ n) (h1 : n ≤ 18446744073709551615) : wr n = n := by rw [wr_eq]; omega

theorem div_0 {n k : Int} (h0 : 0 ≤ n) (k0 : 0 < k) : 0 ≤ n / k := Int.ediv_nonneg h0 (by omega)
theorem div_1 {n k : Int} (h0 : 0 ≤ n) (k0 : 0 < k) : n / k ≤ n := Int.ediv_le_self _ h0
theorem sx_nat {n k : Int} (h0 : 0 ≤ n) (h1 : n ≤ 18446744073709551615) (k0 : 0 < k) : sx n k = (n.toNat ^^^ (n / k).toNat : Nat) := by
  have := div_0 h0 k0
  have := div_1 h0 k0
  exact u64_xor _ _ h0 (by omega) (by omega) (by omega)
theorem xor_lt {a b : Nat} (ha : a < 18446744073709551616) (hb : b < 18446744073709551616) : a ^^^ b < 18446744073709551616 :=
  Nat.xor_lt_two_pow (n := 64) ha hb
theorem sx_bd {n k : Int} (h0 : 0 ≤ n) (h1 : n ≤ 18446744073709551615) (k0 : 0 < k) : 0 ≤ sx n k ∧ sx n k ≤ 18446744073709551615 := by
  have := div_0 h0 k0
  have := div_1 h0 k0
  rw [sx_nat h0 h1 k0]
  have := xor_lt (a := n.toNat) (b := (n / k).toNat) (by omega) (by omega)
  omega
theorem mix_bd (n : Int) : 0 ≤ mixZ n ∧ mixZ n ≤ 18446744073709551615 := sx_bd (wr_0 _) (wr_1 _) (by omega)
theorem at_bd (s n : Int) : 0 ≤ atZ s n ∧ atZ s n ≤ 18446744073709551615 := mix_bd _
theorem derive_bd {s : Int} (l : List Int) (h : 0 ≤ s ∧ s ≤ 18446744073709551615) : 0 ≤ deriveZ s l ∧ deriveZ s l ≤ 18446744073709551615 := by
  induction l generalizing s with
  | nil => exact h
  | cons x l ih => exact ih (at_bd s x)
theorem derive_snoc (s : Int) (l : List Int) (x : Int) : deriveZ s (l ++ [x]) = atZ (deriveZ s l) x := by unfold deriveZ; rw [List.foldl_append]; rfl

/-! ### The product's upper half -/
theorem and_low {a : Int} (h0 : 0 ≤ a) (h1 : a ≤ 18446744073709551615) : bits .and .u64 a 4294967295 = a % 4294967296 := by
  rw [u64_and _ _ h0 (by omega) (by omega) (by omega)]
  rw [show (4294967295 : Int).toNat = 2 ^ 32 - 1 from rfl, Nat.and_two_pow_sub_one_eq_mod]
  omega
theorem up_parts {p q r s : Int} (p0 : 0 ≤ p) (p1 : p ≤ 18446744065119617025) (q0 : 0 ≤ q) (q1 : q ≤ 18446744065119617025) (r0 : 0 ≤ r) (r1 : r ≤ 18446744065119617025) (s0 : 0 ≤ s) (s1 : s ≤ 18446744065119617025) :
    s + (q + p / 4294967296) / 4294967296 + ((q + p / 4294967296) % 4294967296 + r) / 4294967296 = (s * 18446744073709551616 + (q + r) * 4294967296 + p) / 18446744073709551616 := by
  omega
theorem half_bd {a b : Int} (a0 : 0 ≤ a) (a1 : a ≤ 4294967295) (b0 : 0 ≤ b) (b1 : b ≤ 4294967295) : 0 ≤ a * b ∧ a * b ≤ 18446744065119617025 :=
  ⟨Int.mul_nonneg a0 b0, Int.le_trans (Int.mul_le_mul a1 b1 b0 (by omega)) (by omega)⟩
theorem split_mul (a b : Int) : a * b = (a / 4294967296) * (b / 4294967296) * 18446744073709551616 + ((a / 4294967296) * (b % 4294967296) + (a % 4294967296) * (b / 4294967296)) * 4294967296 + (a % 4294967296) * (b % 4294967296) := by
  have ha : a = a / 4294967296 * 4294967296 + a % 4294967296 := by omega
  have hb : b = b / 4294967296 * 4294967296 + b % 4294967296 := by omega
  generalize a / 4294967296 = a1 at *
  generalize a % 4294967296 = a0 at *
  generalize b / 4294967296 = b1 at *
  generalize b % 4294967296 = b0 at *
  subst ha hb
  rw [Int.add_mul, Int.mul_add, Int.mul_add, Int.add_mul]
  have e1 : a1 * 4294967296 * (b1 * 4294967296) = a1 * b1 * 18446744073709551616 := by
    rw [Int.mul_assoc, Int.mul_left_comm 4294967296 b1, ← Int.mul_assoc]; rfl
  have e2 : a1 * 4294967296 * b0 = a1 * b0 * 4294967296 := by rw [Int.mul_assoc, Int.mul_comm 4294967296 b0, ← Int.mul_assoc]
  have e3 : a0 * (b1 * 4294967296) = a0 * b1 * 4294967296 := by rw [← Int.mul_assoc]
  rw [e1, e2, e3]
  omega
/-- The upper half, as it is reckoned of halves. -/
theorem up_eq {a b : Int} (a0 : 0 ≤ a) (a1 : a ≤ 18446744073709551615) (b0 : 0 ≤ b) (b1 : b ≤ 18446744073709551615) :
    wr (wr (wr (a / 4294967296 * (b / 4294967296)) + wr (wr (a / 4294967296 * (b % 4294967296)) + wr (a % 4294967296 * (b % 4294967296)) / 4294967296) / 4294967296) +
      wr (wr (wr (a / 4294967296 * (b % 4294967296)) + wr (a % 4294967296 * (b % 4294967296)) / 4294967296) % 4294967296 + wr (a % 4294967296 * (b / 4294967296))) / 4294967296) = upZ a b := by
  have P := half_bd (a := a % 4294967296) (b := b % 4294967296) (by omega) (by omega) (by omega) (by omega)
  have Q := half_bd (a := a / 4294967296) (b := b % 4294967296) (by omega) (by omega) (by omega) (by omega)
  have R := half_bd (a := a % 4294967296) (b := b / 4294967296) (by omega) (by omega) (by omega) (by omega)
  have S := half_bd (a := a / 4294967296) (b := b / 4294967296) (by omega) (by omega) (by omega) (by omega)
  unfold upZ
  rw [split_mul a b]
  generalize a / 4294967296 * (b / 4294967296) = s at *
  generalize a / 4294967296 * (b % 4294967296) = q at *
  generalize a % 4294967296 * (b / 4294967296) = r at *
  generalize a % 4294967296 * (b % 4294967296) = p at *
  rw [← up_parts P.1 P.2 Q.1 Q.2 R.1 R.2 S.1 S.2]
  rw [wr_in P.1 (by omega), wr_in Q.1 (by omega), wr_in R.1 (by omega), wr_in S.1 (by omega)]
  rw [wr_in (n := q + p / 4294967296) (by omega) (by omega)]
  rw [wr_in (n := (q + p / 4294967296) % 4294967296 + r) (by omega) (by omega)]
  rw [wr_in (n := s + (q + p / 4294967296) / 4294967296) (by omega) (by omega)]
  exact wr_in (by omega) (by omega)
theorem up_lt {a b : Int} (a0 : 0 ≤ a) (a1 : a ≤ 18446744073709551615) (b0 : 0 < b) : upZ a b < b := by
  unfold upZ
  refine Int.ediv_lt_of_lt_mul (by omega) ?_
  rw [Int.mul_comm b]
  exact Int.mul_lt_mul_of_pos_right (by omega) b0
theorem up_0 {a b : Int} (a0 : 0 ≤ a) (b0 : 0 ≤ b) : 0 ≤ upZ a b := Int.ediv_nonneg (Int.mul_nonneg a0 b0) (by omega)
theorem up_zero (a : Int) : upZ a 0 = 0 := by unfold upZ; simp
theorem below_bd (s n : Int) {m : Int} (m0 : 0 < m) : 0 ≤ belowZ s n m ∧ belowZ s n m < m := ⟨up_0 (at_bd _ _).1 (by omega), up_lt (at_bd _ _).1 (at_bd _ _).2 m0⟩

/-! ### The way back -/
end Go.Proofs.YtahpilgbabjebaaGreat
namespace Go.Proofs.YtahpilgbabjebaaGreat
open Go.RowKit
set_option linter.unusedVariables false
set_option maxRecDepth 1000000

theorem mix_any (n : Int) (w : World) (n0 : 0 ≤ n) (n1 : n ≤ 18446744073709551615) :
    Calls Tryz.prog 148 #[.int .u64 n] w fun e w' => e = .returned (.int .u64 (mixZ n)) ∧ w' = w := by
  go_enter Tryz.func148, Tryz.ntmps148
  go_wp2
  go_ret
  exact ⟨rfl, rfl⟩
theorem rmix_any (n : Int) (w : World) (n0 : 0 ≤ n) (n1 : n ≤ 18446744073709551615) :
    Calls Tryz.prog 151 #[.int .u64 n] w fun e w' => e = .returned (.int .u64 (mixZ n)) ∧ w' = w := by
  go_enter Tryz.func151, Tryz.ntmps151
  go_wp2
  go_ret
  exact ⟨rfl, rfl⟩
theorem at_any (s n : Int) (w : World) :
    Calls Tryz.prog 121 #[.int .u64 s, .int .u64 n] w fun e w' => e = .returned (.int .u64 (atZ s n)) ∧ w' = w := by
  go_enter Tryz.func121, Tryz.ntmps121
  go_wp2_with fail
  refine (mix_any _ _ (wr_0 _) (wr_1 _)).mono ?_
  rintro e w' ⟨rfl, rfl⟩
  go_wp2
  go_ret
  exact ⟨rfl, rfl⟩
theorem rat_any (s n : Int) (w : World) :
    Calls Tryz.prog 132 #[.int .u64 s, .int .u64 n] w fun e w' => e = .returned (.int .u64 (atZ s n)) ∧ w' = w := by
  go_enter Tryz.func132, Tryz.ntmps132
  go_wp2_with fail
  refine (rmix_any _ _ (wr_0 _) (wr_1 _)).mono ?_
  rintro e w' ⟨rfl, rfl⟩
  go_wp2
  go_ret
  exact ⟨rfl, rfl⟩
theorem mul64_any (a b : Int) (w : World) (a0 : 0 ≤ a) (a1 : a ≤ 18446744073709551615) (b0 : 0 ≤ b) (b1 : b ≤ 18446744073709551615) :
    Calls Tryz.prog 120 #[.int .u64 a, .int .u64 b] w fun e w' => e = .returned (.tuple #[.int .u64 (upZ a b), .int .u64 (wr (a * b))]) ∧ w' = w := by
  have HA : Hid (bits .and .u64 a 4294967295 = a % 4294967296) := and_low a0 a1
  have HB : Hid (bits .and .u64 b 4294967295 = b % 4294967296) := and_low b0 b1
  have HU := hid (up_eq a0 a1 b0 b1)
  have HT : Hid (bits .and .u64 (wr (wr (a / 4294967296 * (b % 4294967296)) + wr (a % 4294967296 * (b % 4294967296)) / 4294967296)) 4294967295 = wr (wr (a / 4294967296 * (b % 4294967296)) + wr (a % 4294967296 * (b % 4294967296)) / 4294967296) % 4294967296) := and_low (wr_0 _) (wr_1 _)
  go_enter Tryz.func120, Tryz.ntmps120
  go_wp2
  go_ret2
  refine ⟨?_, rfl⟩
  unfold Hid at HA HB HU HT
  unfold wr at HT HU
  rw [HA, HB, HT, HU]
  rfl
theorem tq (x : Int) : IntKind.u64.wrap ((IntKind.u64.wrap x).tdiv 4294967296) = IntKind.u64.wrap x / 4294967296 := by
  have h0 := wr_0 x
  have h1 := wr_1 x
  unfold wr at h0 h1
  rw [Int.tdiv_eq_ediv_of_nonneg h0]
  exact wr_in (by omega) (by omega)
theorem tr (x : Int) : (IntKind.u64.wrap x).tmod 4294967296 = IntKind.u64.wrap x % 4294967296 := Int.tmod_eq_emod_of_nonneg (wr_0 x)
theorem upper_any (a b : Int) (w : World) (a0 : 0 ≤ a) (a1 : a ≤ 18446744073709551615) (b0 : 0 ≤ b) (b1 : b ≤ 18446744073709551615) :
    Calls Tryz.prog 131 #[.int .u64 a, .int .u64 b] w fun e w' => e = .returned (.int .u64 (upZ a b)) ∧ w' = w.drew.drew := by
  have HU := hid (up_eq a0 a1 b0 b1)
  have c1 := wr_0 (wr (a / 4294967296 * (b % 4294967296)) + wr (a % 4294967296 * (b % 4294967296)) / 4294967296)
  have c2 := wr_0 (wr (wr (a / 4294967296 * (b % 4294967296)) + wr (a % 4294967296 * (b % 4294967296)) / 4294967296) % 4294967296 + wr (a % 4294967296 * (b / 4294967296)))
  have c3 := wr_0 (a % 4294967296 * (b % 4294967296))
  unfold wr at c1 c2 c3
  go_enter Tryz.func131, Tryz.ntmps131
  go_wp2_with fail
  go_region
  go_wp2_with fail
  go_region
  go_wp2
  go_ret
  refine ⟨?_, rfl⟩
  unfold Hid at HU
  unfold wr at HU
  rw [← HU]
  show Ending.returned (.int .u64 _) = _
  refine ret_int ?_
  simp only [tq, tr]
theorem dbelow_any (s n m : Int) (w : World) (m0 : 0 ≤ m) (m1 : m ≤ 18446744073709551615) :
    Calls Tryz.prog 79 #[.int .u64 s, .int .u64 n, .int .u64 m] w fun e w' => e = .returned (.int .u64 (belowZ s n m)) ∧ w' = w := by
  go_enter Tryz.func79, Tryz.ntmps79
  go_wp2_with fail
  refine (at_any _ _ _).mono ?_
  rintro e w' ⟨rfl, rfl⟩
  go_wp2_with fail
  refine (mul64_any _ _ _ (at_bd _ _).1 (at_bd _ _).2 m0 m1).mono ?_
  rintro e w' ⟨rfl, rfl⟩
  go_wp2
  go_ret
  exact ⟨rfl, rfl⟩
theorem rdbelow_any (s n m : Int) (w : World) (m0 : 0 ≤ m) (m1 : m ≤ 18446744073709551615) :
    Calls Tryz.prog 100 #[.int .u64 s, .int .u64 n, .int .u64 m] w fun e w' => e = .returned (.int .u64 (belowZ s n m)) ∧ w' = w.drew.drew := by
  go_enter Tryz.func100, Tryz.ntmps100
  go_wp2_with fail
  refine (rat_any _ _ _).mono ?_
  rintro e w' ⟨rfl, rfl⟩
  go_wp2_with fail
  refine (upper_any _ _ _ (at_bd _ _).1 (at_bd _ _).2 m0 m1).mono ?_
  rintro e w' ⟨rfl, rfl⟩
  go_wp2
  go_ret
  exact ⟨rfl, rfl⟩
end Go.Proofs.YtahpilgbabjebaaGreat
namespace Go.Proofs.YtahpilgbabjebaaGreat
open Go.RowKit
set_option linter.unusedVariables false
set_option maxRecDepth 1000000

theorem derive_any (s : Int) (a : Option Addr) (len cap : Nat) (zs : List Int) (w : World) (hr : Reads .u64 w a len cap zs) (hlen : len ≤ 1000000) :
    Calls Tryz.prog 106 #[.int .u64 s, .slice a len cap] w fun e w' => e = .returned (.int .u64 (deriveZ s zs)) ∧ w' = w := by
  have HL : Hid (zs.length = len) := hr.size
  go_enter Tryz.func106, Tryz.ntmps106
  go_wp2_with fail
  go_loop [0, 9] (fun v i => ∃ (n : Int) (k : Nat), v = .int .u64 n ∧ i = .int .i64 k ∧ k ≤ len ∧ Hid (n = deriveZ s (zs.take k))) (fun _ i => len - (intOf i).toNat)
  case atStart => exact ⟨_, 0, rfl, rfl, by omega, by unfold Hid; simp [deriveZ]⟩
  case round =>
    obtain ⟨n, k, rfl, rfl, hk, HM⟩ := hrel
    by_cases hlt : k < len
    · obtain ⟨b, off, rfl, hc⟩ := hr.cell k hlt
      have HS : Hid (atZ n (zs[k]?.getD 0) = deriveZ s (zs.take (k + 1))) := by
        unfold Hid
        rw [take_snoc (by have := HL.out; omega), derive_snoc, HM.out]
      clear hr
      generalize zs[k]?.getD 0 = c at *
      go_wp2_with fail
      refine (at_any _ _ _).mono ?_
      rintro e w' ⟨rfl, rfl⟩
      go_wp2_with fail
      go_round
      case rel => exact ⟨_, k + 1, rfl, by go_num, by omega, HS⟩
      case measure => simp [intOf]; omega
    · have HE : Hid (n = deriveZ s zs) := by
        unfold Hid
        rw [HM.out, List.take_of_length_le (by have := HL.out; omega)]
      clear hr
      go_wp2
      go_ret
      exact ⟨ret_int HE.out, rfl⟩

theorem rderive_any (s : Int) (a : Option Addr) (len cap : Nat) (zs : List Int) (w : World) (hr : Reads .u64 w a len cap zs) (hlen : len ≤ 1000000) :
    Calls Tryz.prog 130 #[.int .u64 s, .slice a len cap] w fun e w' => e = .returned (.int .u64 (deriveZ s zs)) ∧ w' = w := by
  have HL : Hid (zs.length = len) := hr.size
  go_enter Tryz.func130, Tryz.ntmps130
  go_wp2_with fail
  go_loop [0, 5] (fun v i => ∃ (n : Int) (k : Nat), v = .int .u64 n ∧ i = .int .i64 k ∧ k ≤ len ∧ Hid (n = deriveZ s (zs.take k))) (fun _ i => len - (intOf i).toNat)
  case atStart => exact ⟨_, 0, rfl, rfl, by omega, by unfold Hid; simp [deriveZ]⟩
  case round =>
    obtain ⟨n, k, rfl, rfl, hk, HM⟩ := hrel
    by_cases hlt : k < len
    · obtain ⟨b, off, rfl, hc⟩ := hr.cell k hlt
      have HS : Hid (atZ n (zs[k]?.getD 0) = deriveZ s (zs.take (k + 1))) := by
        unfold Hid
        rw [take_snoc (by have := HL.out; omega), derive_snoc, HM.out]
      clear hr
      generalize zs[k]?.getD 0 = c at *
      go_wp2_with fail
      refine (rat_any _ _ _).mono ?_
      rintro e w' ⟨rfl, rfl⟩
      go_wp2_with fail
      go_round
      case rel => exact ⟨_, k + 1, rfl, by go_num, by omega, HS⟩
      case measure => simp [intOf]; omega
    · have HE : Hid (n = deriveZ s zs) := by
        unfold Hid
        rw [HM.out, List.take_of_length_le (by have := HL.out; omega)]
      clear hr
      go_wp2
      go_ret
      exact ⟨ret_int HE.out, rfl⟩
end Go.Proofs.YtahpilgbabjebaaGreat
