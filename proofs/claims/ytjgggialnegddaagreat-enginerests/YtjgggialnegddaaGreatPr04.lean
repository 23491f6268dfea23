/-
  The texts Eachs, RNums of this proof.
-/
import Derived.Test.YtjgggialnegddaaGreatPr01
import Derived.Test.YtjgggialnegddaaGreatPr03
import Derived.Handy
import Derived.Laws.OwnMore
import Derived.OwnWalk
import Derived.OneCell
set_option linter.unusedVariables false
set_option maxRecDepth 1000000
namespace Go.Proofs.YtjgggialnegddaaGreat
open Go.RowKit
theorem count_any (a : Option Addr) (len cap : Nat) (w : World) (hlen : len ≤ 1000) :
  Calls Tryz.prog 202 #[.slice a len cap] w fun e w' => e = .returned (.int .i64 len) ∧ w' = w := by
 go_enter Tryz.func202, Tryz.ntmps202
 go_wp2
 go_ret
 exact ⟨rfl, rfl⟩
theorem each_any (fn : Nat) (caps : Array Value) (a : Option Addr) (len cap : Nat) (zs : List Int) (w : World) (hlen : len ≤ 1000) (I : Nat → World → Prop)
  (hE : ∀ args w, (callFunc fn args).run Tryz.prog w = .ok (.enter fn args) w) (hR : ∀ k wr, I k wr → Reads .i64 wr a len cap zs) (h0 : I 0 w)
  (hS : ∀ k wr, k < len → I k wr → Calls Tryz.prog fn (#[.int .i64 (k : Int), .int .i64 (zs[k]?.getD 0)] ++ caps) wr fun e w' => e = .returned (.tuple #[]) ∧ I (k + 1) w') :
  Calls Tryz.prog 215 #[.slice a len cap, .func (.func fn) #[] caps] w fun e w' => e = .returned (.tuple #[]) ∧ I len w' := by
 have hr0 := hR 0 w h0
 have hroom := hr0.room
 have hmost := hr0.most
 have hbare := hr0.bare
 clear hr0
 have H0 := hid h0
 have HR := hid hR
 have HS := hid hS
 clear h0 hR hS
 go_enter Tryz.func215, Tryz.ntmps215
 cases a with
 | none =>
  obtain ⟨rfl, rfl⟩ := hbare rfl
  go_wp2_with fail
  refine (count_any _ _ _ _ (by omega)).mono ?_
  rintro e w' ⟨rfl, rfl⟩
  go_wp2_with fail
  go_loopw [11] (fun i wr => ∃ k : Nat, k = 0 ∧ i = .int .i64 k ∧ Hid (I k wr)) (fun i _ => 0 - (intOf i).toNat)
  case atStart => exact ⟨0, rfl, rfl, H0⟩
  case round =>
   obtain ⟨k, rfl, rfl, HI⟩ := hrel
   go_wp2
   go_end0
   exact ⟨rfl, HI.out⟩
 | some ad =>
  clear hbare
  go_wp2_with fail
  refine (count_any _ _ _ _ (by omega)).mono ?_
  rintro e w' ⟨rfl, rfl⟩
  go_wp2_with fail
  go_loopw [11] (fun i wr => ∃ k : Nat, k ≤ len ∧ i = .int .i64 k ∧ Hid (I k wr)) (fun i _ => len - (intOf i).toNat)
  case atStart => exact ⟨0, Nat.zero_le _, rfl, H0⟩
  case round =>
   obtain ⟨k, hk, rfl, HI⟩ := hrel
   by_cases hlt : k < len
   ·obtain ⟨b, off, hab, hc⟩ := (HR.out k wr HI.out).cell k hlt
    cases hab
    have hC := HS.out k wr hlt HI.out
    generalize zs[k]?.getD 0 = z at *
    go_wp2_with fail
    refine hC.mono ?_
    rintro e w2 ⟨rfl, hI2⟩
    have HI2 := hid hI2
    clear hI2 hC
    go_wp2_with fail
    go_round
    case rel => exact ⟨k + 1, by omega, by go_num, HI2⟩
    case measure => simp [intOf]; omega
   ·obtain rfl : k = len := by omega
    go_wp2
    go_end0
    exact ⟨rfl, HI.out⟩
end Go.Proofs.YtjgggialnegddaaGreat
namespace Go.Proofs.YtjgggialnegddaaGreat
open Go.RowKit
theorem rfrom_any (n : Int) (w : World) : Calls Tryz.prog 134 #[.int .i64 n] w fun e w' => e = .returned (.int .i64 (fromZ n)) ∧ w' = w := by
 by_cases h0 : n > 65536
 ·have HQ := hid (from_hi h0)
  go_enter Tryz.func134, Tryz.ntmps134
  go_wp2_with fail
  refine (rwithin_any _ _).mono ?_
  rintro e w' ⟨rfl, rfl⟩
  go_wp2
  go_ret
  exact ⟨ret_int HQ, rfl⟩
 ·by_cases h1 : n < -65536
  ·have HQ := hid (from_lo h1)
   go_enter Tryz.func134, Tryz.ntmps134
   go_wp2_with fail
   refine (rwithin_any _ _).mono ?_
   rintro e w' ⟨rfl, rfl⟩
   go_wp2
   go_ret
   exact ⟨ret_int HQ, rfl⟩
  ·have HQ : Hid (wi (n * 65536) = fromZ n) := by unfold fromZ; rw [wi_in (n := n) (by omega) (by omega)]; exact rfl
   go_enter Tryz.func134, Tryz.ntmps134
   go_wp2_with fail
   refine (rwithin_any _ _).mono ?_
   rintro e w' ⟨rfl, rfl⟩
   go_wp2
   go_ret
   exact ⟨ret_int HQ, rfl⟩
theorem rdiv_any (a b : Int) (w : World) : Calls Tryz.prog 135 #[.int .i64 a, .int .i64 b] w fun e w' => e = .returned (.int .i64 (divZ a b)) ∧ w' = w := by
 have a0 := wi_0 a
 have a1 := wi_1 a
 have b0 := wi_0 b
 have b1 := wi_1 b
 by_cases hb : wi b < 0
 ·have HQ : Hid (wi (-(65536 * -wi a / wi b)) = divZ a b) := by unfold divZ byZ; rw [← Int.ediv_neg, if_neg (by omega), if_pos hb, show 65536 * -wi a = -(wi a * 65536) by omega]; exact rfl
  go_enter Tryz.func135, Tryz.ntmps135
  go_wp2_with fail
  refine (rwithin_any _ _).mono ?_
  rintro e w' ⟨rfl, rfl⟩
  go_wp2_with fail
  refine (rwithin_any _ _).mono ?_
  rintro e w' ⟨rfl, rfl⟩
  go_wp2_with fail
  refine (rby_any _ _ _ (by omega) (by omega) (by omega)).mono ?_
  rintro e w' ⟨rfl, rfl⟩
  go_wp2_with fail
  refine (rwithin_any _ _).mono ?_
  rintro e w' ⟨rfl, rfl⟩
  go_wp2
  go_ret
  exact ⟨ret_int HQ, rfl⟩
 ·by_cases hb' : wi b = 0
  ·have HQ : Hid (farZ (wi a) = divZ a b) := by unfold divZ; rw [if_pos hb']; exact rfl
   by_cases h0 : wi a > 0
   ·have HF : Hid (farZ (wi a) = 2147483647) := by unfold farZ; rw [if_pos (by omega)]; exact rfl
    go_enter Tryz.func135, Tryz.ntmps135
    go_wp2_with fail
    refine (rwithin_any _ _).mono ?_
    rintro e w' ⟨rfl, rfl⟩
    go_wp2_with fail
    refine (rwithin_any _ _).mono ?_
    rintro e w' ⟨rfl, rfl⟩
    go_wp2
    go_ret
    exact ⟨ret_int (HF.symm.trans HQ), rfl⟩
   ·by_cases h1 : wi a < 0
    ·have HF : Hid (farZ (wi a) = -2147483648) := by unfold farZ; rw [if_neg (by omega), if_pos (by omega)]; exact rfl
     go_enter Tryz.func135, Tryz.ntmps135
     go_wp2_with fail
     refine (rwithin_any _ _).mono ?_
     rintro e w' ⟨rfl, rfl⟩
     go_wp2_with fail
     refine (rwithin_any _ _).mono ?_
     rintro e w' ⟨rfl, rfl⟩
     go_wp2
     go_ret
     exact ⟨ret_int (HF.symm.trans HQ), rfl⟩
    ·have HF : Hid (farZ (wi a) = 0) := by unfold farZ; rw [if_neg (by omega), if_neg (by omega)]; exact rfl
     go_enter Tryz.func135, Tryz.ntmps135
     go_wp2_with fail
     refine (rwithin_any _ _).mono ?_
     rintro e w' ⟨rfl, rfl⟩
     go_wp2_with fail
     refine (rwithin_any _ _).mono ?_
     rintro e w' ⟨rfl, rfl⟩
     go_wp2
     go_ret
     exact ⟨ret_int (HF.symm.trans HQ), rfl⟩
  ·have HQ : Hid (wi (65536 * wi a / wi b) = divZ a b) := by unfold divZ byZ; rw [if_neg (by omega), if_neg (by omega), Int.mul_comm 65536]; exact rfl
   go_enter Tryz.func135, Tryz.ntmps135
   go_wp2_with fail
   refine (rwithin_any _ _).mono ?_
   rintro e w' ⟨rfl, rfl⟩
   go_wp2_with fail
   refine (rwithin_any _ _).mono ?_
   rintro e w' ⟨rfl, rfl⟩
   go_wp2_with fail
   refine (rby_any _ _ _ (by omega) (by omega) (by omega)).mono ?_
   rintro e w' ⟨rfl, rfl⟩
   go_wp2_with fail
   refine (rwithin_any _ _).mono ?_
   rintro e w' ⟨rfl, rfl⟩
   go_wp2
   go_ret
   exact ⟨ret_int HQ, rfl⟩
theorem power_any (k : Int) (w : World) (k0 : 0 ≤ k) (k1 : k ≤ 47275) :
  Calls Tryz.prog 188 #[.int .i64 k] w fun e w' => e = .returned (.int .i64 (2 ^ min k.toNat 60)) ∧ w' = w := by
 go_enter Tryz.func188, Tryz.ntmps188
 go_wp2
 go_loop [3, 4] (fun v i => ∃ (n : Int) (j : Nat), v = .int .i64 n ∧ i = .int .i64 j ∧ (j : Int) ≤ k ∧ j ≤ 60 ∧ Hid (n = 2 ^ j)) (fun _ i => 60 - (intOf i).toNat)
 case atStart => exact ⟨_, 0, rfl, rfl, by omega, by omega, rfl⟩
 case round =>
  obtain ⟨n, j, rfl, rfl, hj, hj', HN⟩ := hrel
  by_cases h : (j : Int) < k
  ·by_cases h' : j < 60
   ·have n0 : 0 < n := by rw [HN.out]; exact two_pos j
    have n1 : n ≤ 576460752303423488 := by rw [HN.out]; exact two_le (show j ≤ 59 by omega)
    have HM : Hid (n * 2 = 2 ^ (j + 1)) := by rw [HN.out, Int.pow_succ]; exact rfl
    go_wp2
    go_round
    case rel => exact ⟨_, j + 1, rfl, by go_num, by omega, by omega, HM⟩
    case measure => simp [intOf]; omega
   ·have HM : Hid (n = 2 ^ min k.toNat 60) := by rw [HN.out, show min k.toNat 60 = j by omega]; exact rfl
    go_wp2
    go_ret
    exact ⟨ret_int HM, rfl⟩
  ·have HM : Hid (n = 2 ^ min k.toNat 60) := by rw [HN.out, show min k.toNat 60 = j by omega]; exact rfl
   go_wp2
   go_ret
   exact ⟨ret_int HM, rfl⟩
theorem rshr_far {p : Int} (p0 : 0 ≤ p) (p1 : p ≤ 131072) (n : Nat) : p / 2 ^ min n 60 = p / 2 ^ n := by
 by_cases h : n ≤ 60
 ·rw [Nat.min_eq_left h]
 ·rw [lift_far p0 p1 (n := n) (by omega), lift_far p0 p1 (by omega)]
theorem rexp_any (x : Int) (w : World) :
  Calls Tryz.prog 171 #[.int .i64 x] w fun e w' => e = .returned (.int .i64 (expZ x)) ∧ w' = w := by
 have x0 := wi_0 x
 have x1 := wi_1 x
 obtain ⟨y, k, f, hy, hk, hf, k0, k1, y0, y1, f0, f1, HE⟩ := exp_parts x
 have p := pw_bd f0 f1
 have p0 := p.1
 have p1 := p.2
 clear p
 have q := part_bd f0 f1
 have q0 := q.1
 have q1 := q.2
 clear q
 obtain ⟨p, hp⟩ : ∃ p, 65536 + f * (43691 + f * 21845 / 65536) / 65536 = p := ⟨_, rfl⟩
 have HP : pw f = p := hp
 rw [HP] at p0 p1 HE
 clear HP
 by_cases h16 : k ≥ 16
 ·have HL : Hid (liftZ p k = 2147483647) := by unfold liftZ; rw [if_pos h16]; exact rfl
  go_enter Tryz.func171, Tryz.ntmps171
  go_wp2_with fail
  refine (rwithin_any _ _).mono ?_
  rintro e w' ⟨rfl, rfl⟩
  go_wp2_with fail
  refine (rby_any _ _ _ (by omega) (by omega) (by omega)).mono ?_
  rintro e w' ⟨rfl, rfl⟩
  rw [hy]
  go_wp2_with fail
  refine (rby_any _ _ _ (by omega) (by omega) (by omega)).mono ?_
  rintro e w' ⟨rfl, rfl⟩
  rw [hk]
  go_wp2_with fail
  refine (rby_any _ _ _ (by omega) (by omega) (by omega)).mono ?_
  rintro e w' ⟨rfl, rfl⟩
  go_wp2_with fail
  refine (rby_any _ _ _ (by omega) (by omega) (by omega)).mono ?_
  rintro e w' ⟨rfl, rfl⟩
  go_wp2
  go_ret
  exact ⟨ret_int (HE.trans HL).symm, rfl⟩
 ·by_cases h0 : k < 0
  ·have HL : Hid (p / 2 ^ min (-k).toNat 60 = liftZ p k) := by unfold liftZ; rw [if_neg h16, if_pos h0, rshr_far (by omega) p1]; exact rfl
   obtain ⟨m, hm⟩ : ∃ m : Int, 2 ^ min (-k).toNat 60 = m := ⟨_, rfl⟩
   have m0 : 0 < m := by rw [← hm]; exact two_pos _
   rw [hm] at HL
   go_enter Tryz.func171, Tryz.ntmps171
   go_wp2_with fail
   refine (rwithin_any _ _).mono ?_
   rintro e w' ⟨rfl, rfl⟩
   go_wp2_with fail
   refine (rby_any _ _ _ (by omega) (by omega) (by omega)).mono ?_
   rintro e w' ⟨rfl, rfl⟩
   rw [hy]
   go_wp2_with fail
   refine (rby_any _ _ _ (by omega) (by omega) (by omega)).mono ?_
   rintro e w' ⟨rfl, rfl⟩
   rw [hk]
   go_wp2_with fail
   refine (rby_any _ _ _ (by omega) (by omega) (by omega)).mono ?_
   rintro e w' ⟨rfl, rfl⟩
   go_wp2_with fail
   refine (rby_any _ _ _ (by omega) (by omega) (by omega)).mono ?_
   rintro e w' ⟨rfl, rfl⟩
   go_wp2_with fail
   refine (power_any _ _ (by omega) (by omega)).mono ?_
   rintro e w' ⟨rfl, rfl⟩
   rw [hm]
   go_wp2_with fail
   refine (rby_any _ _ _ (by omega) (by omega) m0).mono ?_
   rintro e w' ⟨rfl, rfl⟩
   go_wp2
   go_ret
   exact ⟨ret_int (HL.trans HE.out.symm), rfl⟩
  ·have HL : Hid (wi (p * 2 ^ min k.toNat 60) = liftZ p k) := by unfold liftZ; rw [if_neg h16, if_neg h0, Nat.min_eq_left (by omega)]; exact rfl
   obtain ⟨m, hm⟩ : ∃ m : Int, 2 ^ min k.toNat 60 = m := ⟨_, rfl⟩
   have m0 : 0 < m := by rw [← hm]; exact two_pos _
   have m1 : m ≤ 32768 := by rw [← hm]; exact two_le (n := 15) (by omega)
   have b0 : 0 ≤ p * m := Int.mul_nonneg (by omega) (by omega)
   have b1 : p * m ≤ 131072 * 32768 := Int.mul_le_mul p1 m1 (by omega) (by omega)
   rw [hm] at HL
   go_enter Tryz.func171, Tryz.ntmps171
   go_wp2_with fail
   refine (rwithin_any _ _).mono ?_
   rintro e w' ⟨rfl, rfl⟩
   go_wp2_with fail
   refine (rby_any _ _ _ (by omega) (by omega) (by omega)).mono ?_
   rintro e w' ⟨rfl, rfl⟩
   rw [hy]
   go_wp2_with fail
   refine (rby_any _ _ _ (by omega) (by omega) (by omega)).mono ?_
   rintro e w' ⟨rfl, rfl⟩
   rw [hk]
   go_wp2_with fail
   refine (rby_any _ _ _ (by omega) (by omega) (by omega)).mono ?_
   rintro e w' ⟨rfl, rfl⟩
   go_wp2_with fail
   refine (rby_any _ _ _ (by omega) (by omega) (by omega)).mono ?_
   rintro e w' ⟨rfl, rfl⟩
   go_wp2_with fail
   refine (power_any _ _ (by omega) (by omega)).mono ?_
   rintro e w' ⟨rfl, rfl⟩
   rw [hm]
   go_wp2_with fail
   refine (rwithin_any _ _).mono ?_
   rintro e w' ⟨rfl, rfl⟩
   go_wp2
   go_ret
   exact ⟨ret_int (HL.trans HE.out.symm), rfl⟩
def kZ : Nat → Int
 | 0 => 0
 | j + 1 => 2 ^ j
theorem kZ_half (j : Nat) {m : Int} (hm : 2 ^ j = m) : m / 2 = kZ j := by
 cases j with
 | zero => rw [← hm]; decide
 | succ j => rw [← hm, Int.pow_succ, kZ]; omega
set_option maxHeartbeats 1000000 in
theorem rsqrt_any (x : Int) (w : World) :
  Calls Tryz.prog 133 #[.int .i64 x] w fun e w' => e = .returned (.int .i64 (sqrtZ x)) ∧ w' = w := by
 have x0 := wi_0 x
 have x1 := wi_1 x
 obtain ⟨n, hn⟩ : ∃ n, 65536 * wi x = n := ⟨_, rfl⟩
 have n1 : n < 281474976710656 := by omega
 have HZ : Hid (rootB n 32 0 = sqrtZ x) := by rw [← sqrtZ_eq, ← hn, Int.mul_comm]; exact rfl
 go_enter Tryz.func133, Tryz.ntmps133
 go_wp2_with fail
 refine (rwithin_any _ _).mono ?_
 rintro e w' ⟨rfl, rfl⟩
 go_wp2
 go_loop [4, 5] (fun v i => ∃ (s k : Int) (j : Nat), v = .int .i64 s ∧ i = .int .i64 k ∧ Hid (k = kZ j) ∧ j ≤ 32 ∧ 0 ≤ s ∧ s ≤ 16777216 ∧ Hid (rootB n j s = sqrtZ x)) (fun _ i => (intOf i).toNat)
 case atStart => exact ⟨_, _, 32, rfl, rfl, (by decide : (2147483648 : Int) = kZ 32), by omega, by omega, by omega, HZ⟩
 case round =>
  obtain ⟨s, k, j, rfl, rfl, HK, hj, s0, s1, HR⟩ := hrel
  rcases j with _ | j
  ·have hk : k = 0 := HK
   subst hk
   go_wp2
   go_ret
   exact ⟨ret_int HR, rfl⟩
  ·have hm : (2 : Int) ^ j = k := HK.out.symm
   have m0 : 0 < k := by rw [← hm]; exact two_pos _
   have m1 : k ≤ 2147483648 := by rw [← hm]; exact two_le (n := 31) (by omega)
   have B := sq_bd s0 s1 (by omega) m1
   have b0 := B.1
   have b1 := B.2
   clear B
   have HH : Hid (k / 2 = kZ j) := kZ_half j hm
   by_cases hq : (s + k) * (s + k) ≤ n
   ·have HN : Hid (rootB n j (s + k) = sqrtZ x) := by rw [← HR.out, rootB_yes (by rw [hm]; exact hq), hm]; exact rfl
    have := sq_small hq n1
    clear hm
    go_wp2
    go_round
    case rel => exact ⟨_, _, j, rfl, rfl, HH, by omega, by omega, by omega, HN⟩
    case measure => simp [intOf]; omega
   ·have HN : Hid (rootB n j s = sqrtZ x) := by rw [← HR.out, rootB_no (by rw [hm]; exact hq)]; exact rfl
    clear hm
    go_wp2
    go_round
    case rel => exact ⟨_, _, j, rfl, rfl, HH, by omega, by omega, by omega, HN⟩
    case measure => simp [intOf]; omega
end Go.Proofs.YtjgggialnegddaaGreat
