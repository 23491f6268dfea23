/-
  The program's mark: bounds, products, sums, differences; a candidate's mark.
-/
import Derived.Test.YtmhpgkkaolcncaaRkCd
namespace Go.Proofs.Ytmhpgkkaolcncaa
open Go.RowKit
set_option linter.unusedVariables false
set_option maxRecDepth 1000000

theorem swithin (n : Int) (w : World) : Calls Try.prog 31 #[.int .i64 n, .int .i64 0, .int .i64 1048576] w fun e w' => e = .returned (.int .i64 (inZ n)) ∧ w = w' := by
  obtain ⟨r, Hr⟩ : ∃ r, Hid (inZ n = r) := ⟨_, rfl⟩
  rw [Hr.out]
  by_cases h0 : n < 0
  · have HE : Hid (0 = r) := by have := Hr.out; unfold inZ at this; unfold Hid; omega
    clear Hr
    go_enter Try.func31, Try.ntmps31
    go_wp2
    go_ret
    exact ⟨by rw [← HE.out]; rfl, rfl⟩
  · by_cases h1 : n > 1048576
    · have HE : Hid (1048576 = r) := by have := Hr.out; unfold inZ at this; unfold Hid; omega
      clear Hr
      go_enter Try.func31, Try.ntmps31
      go_wp2
      go_ret
      exact ⟨by rw [← HE.out]; rfl, rfl⟩
    · have HE : Hid (n = r) := by have := Hr.out; unfold inZ at this; unfold Hid; omega
      clear Hr
      go_enter Try.func31, Try.ntmps31
      go_wp2
      go_ret
      exact ⟨by rw [HE.out]; rfl, rfl⟩
theorem counted_any19 (n : Int) (w : World) : Calls Try.prog 23 #[.int .i64 n] w fun e w' => e = .returned (.int .i64 (inZ n)) ∧ w = w' := by
  have hc := swithin n w
  generalize inZ n = r at *
  go_enter Try.func23, Try.ntmps23
  go_wp2_with (go_at_call 31; refine hc.mono ?_; rintro e w' ⟨rfl, rfl⟩)
  go_ret
  exact ⟨rfl, rfl⟩
theorem above_no (a b : Int) (w : World) (ha : 0 ≤ a) (ha1 : a ≤ 1048576) (hb : 0 ≤ b) (hb1 : b ≤ 1048576) : Calls Try.prog 37 #[.int .i64 a, .int .i64 b] w fun e w' => e = .returned (.bool false) ∧ w = w' := by
  by_cases h0 : 0 < a
  · by_cases h1 : 0 < b
    · obtain ⟨z, hz⟩ : ∃ z, (9223372036854775807 : Int) / b = z := ⟨_, rfl⟩
      have hzt : (9223372036854775807 : Int).tdiv b = z := by rw [Int.tdiv_eq_ediv_of_nonneg (by omega)]; exact hz
      have hz1 : 1048576 ≤ z := by
        rw [← hz]
        exact (Int.le_ediv_iff_mul_le h1).2 (by omega)
      have hz2 : z ≤ 9223372036854775807 := by
        rw [← hz]
        exact Int.ediv_le_self _ (by omega)
      have hzw : IntKind.i64.wrap z = z := by rw [IntKind.wrap_i64]; omega
      have hb0 : ¬ b = 0 := by omega
      have hza : ¬ z < a := by omega
      clear hz
      go_enter Try.func37, Try.ntmps37
      go_wp2
      go_ret
      exact ⟨rfl, rfl⟩
    · have h2 : ¬ a < 0 := by omega
      go_enter Try.func37, Try.ntmps37
      go_wp2
      go_ret
      exact ⟨rfl, rfl⟩
  · have h2 : ¬ a < 0 := by omega
    go_enter Try.func37, Try.ntmps37
    go_wp2
    go_ret
    exact ⟨rfl, rfl⟩
theorem below_no (a b : Int) (w : World) (ha : 0 ≤ a) (hb : 0 ≤ b) : Calls Try.prog 38 #[.int .i64 a, .int .i64 b] w fun e w' => e = .returned (.bool false) ∧ w = w' := by
  have h2 : ¬ a < 0 := by omega
  have h3 : ¬ b < 0 := by omega
  by_cases h0 : 0 < a
  · go_enter Try.func38, Try.ntmps38
    go_wp2
    go_ret
    exact ⟨rfl, rfl⟩
  · go_enter Try.func38, Try.ntmps38
    go_wp2
    go_ret
    exact ⟨rfl, rfl⟩
theorem smul_any (a b m : Int) (w : World) (hm : a * b = m) (ha : 0 ≤ a) (ha1 : a ≤ 1048576) (hb : 0 ≤ b) (hb1 : b ≤ 1048576) (hm0 : 0 ≤ m) (hm1 : m ≤ 1099511627776) : Calls Try.prog 30 #[.int .i64 a, .int .i64 b] w fun e w' => e = .returned (.int .i64 m) ∧ w = w' := by
  have h1 := above_no a b w ha ha1 hb hb1
  have h2 := below_no a b w ha hb
  have hw : IntKind.i64.wrap m = m := by rw [IntKind.wrap_i64]; omega
  go_enter Try.func30, Try.ntmps30
  go_wp2_with (first | (go_at_call 37; (with_reducible refine h1.mono ?_); rintro e w' ⟨rfl, rfl⟩) | (go_at_call 38; (with_reducible refine h2.mono ?_); rintro e w' ⟨rfl, rfl⟩))
  go_ret
  exact ⟨rfl, rfl⟩
theorem times_any19 (n v m : Int) (w : World) (hm : inZ n * inZ v = m) : Calls Try.prog 21 #[.int .i64 n, .int .i64 v] w fun e w' => e = .returned (.int .i64 m) ∧ w = w' := by
  have h1 := counted_any19 n w
  have h2 := counted_any19 v w
  have h3 := smul_any (inZ n) (inZ v) m w hm (inZ_0 n) (inZ_1 n) (inZ_0 v) (inZ_1 v) (by rw [← hm]; exact (inZ_mul n v).1) (by rw [← hm]; exact (inZ_mul n v).2)
  clear hm
  generalize inZ n = a at *
  generalize inZ v = b at *
  go_enter Try.func21, Try.ntmps21
  go_wp2_with (first | (go_at_call 23; first | (with_reducible refine h1.mono ?_; rintro e w' ⟨rfl, rfl⟩) | (with_reducible refine h2.mono ?_; rintro e w' ⟨rfl, rfl⟩)) | (go_at_call 30; (with_reducible refine h3.mono ?_); rintro e w' ⟨rfl, rfl⟩))
  go_ret
  exact ⟨rfl, rfl⟩
theorem sadd_any (a b m : Int) (w : World) (hm : a + b = m) (ha : -9000000000000 ≤ a) (ha1 : a ≤ 9000000000000) (hb : -9000000000000 ≤ b) (hb1 : b ≤ 9000000000000) : Calls Try.prog 22 #[.int .i64 a, .int .i64 b] w fun e w' => e = .returned (.int .i64 m) ∧ w = w' := by
  subst hm
  by_cases h0 : 0 < b
  · have h1 : ¬ b < 0 := by omega
    go_enter Try.func22, Try.ntmps22
    go_wp2
    go_ret
    exact ⟨rfl, rfl⟩
  · by_cases h1 : b < 0
    · go_enter Try.func22, Try.ntmps22
      go_wp2
      go_ret
      exact ⟨rfl, rfl⟩
    · go_enter Try.func22, Try.ntmps22
      go_wp2
      go_ret
      exact ⟨rfl, rfl⟩
theorem ssub_any (a b m : Int) (w : World) (hm : a - b = m) (ha : -9000000000000 ≤ a) (ha1 : a ≤ 9000000000000) (hb : -9000000000000 ≤ b) (hb1 : b ≤ 9000000000000) : Calls Try.prog 24 #[.int .i64 a, .int .i64 b] w fun e w' => e = .returned (.int .i64 m) ∧ w = w' := by
  subst hm
  by_cases h0 : 0 < b
  · have h1 : ¬ b < 0 := by omega
    go_enter Try.func24, Try.ntmps24
    go_wp2
    go_ret
    exact ⟨rfl, rfl⟩
  · by_cases h1 : b < 0
    · go_enter Try.func24, Try.ntmps24
      go_wp2
      go_ret
      exact ⟨rfl, rfl⟩
    · go_enter Try.func24, Try.ntmps24
      go_wp2
      go_ret
      exact ⟨rfl, rfl⟩
set_option maxHeartbeats 4000000 in
theorem mark_any (c : Cd) (q : Wt) (W : World) (hc : CdIn c) (hq : WtIn q) : Calls Try.prog 13 #[.agg (CdV c), .agg (WtV q)] W fun e w' => e = .returned (.int .i64 (markZ q c)) ∧ Hid (Below W.heap.size W w') := by
  clear hc hq
  have h1 := inZ_mul c.known q.kn
  have h2 := inZ_mul c.load q.ld
  have h3 := inZ_mul c.place q.pl
  have h4 := inZ_0 q.bd
  have h5 := inZ_1 q.bd
  obtain ⟨m1, hm1⟩ : ∃ m, inZ c.known * inZ q.kn = m := ⟨_, rfl⟩
  obtain ⟨m2, hm2⟩ : ∃ m, inZ c.load * inZ q.ld = m := ⟨_, rfl⟩
  obtain ⟨m3, hm3⟩ : ∃ m, inZ c.place * inZ q.pl = m := ⟨_, rfl⟩
  have T1 := fun W : World => times_any19 c.known q.kn m1 W hm1
  have T2 := fun W : World => times_any19 c.load q.ld m2 W hm2
  have T3 := fun W : World => times_any19 c.place q.pl m3 W hm3
  have T4 := fun W : World => counted_any19 q.bd W
  obtain ⟨m4, hm4⟩ : ∃ m, inZ q.bd = m := ⟨_, rfl⟩
  have HE : Hid (markZ q c = m1 + (if c.bnd = true then m4 else 0) - m2 - m3) := by unfold Hid markZ; rw [hm1, hm2, hm3, hm4]
  rw [hm1] at h1
  rw [hm2] at h2
  rw [hm3] at h3
  rw [hm4] at h4 h5 T4
  clear hm1 hm2 hm3 hm4
  obtain ⟨s1, Hs1⟩ : ∃ s, Hid (m1 + m4 = s) := ⟨_, rfl⟩
  have A1 := fun W : World => sadd_any m1 m4 s1 W Hs1.out (by omega) (by omega) (by omega) (by omega)
  obtain ⟨s0, Hs0⟩ : ∃ s, Hid ((if c.bnd = true then s1 else m1) = s) := ⟨_, rfl⟩
  have hs0 : -9000000000 ≤ s0 ∧ s0 ≤ 2000000000000 := by
    have e1 := Hs0.out
    have e2 := Hs1.out
    split at e1 <;> omega
  obtain ⟨s2, Hs2⟩ : ∃ s, Hid (s0 - m2 = s) := ⟨_, rfl⟩
  have hs2 : -4000000000000 ≤ s2 ∧ s2 ≤ 4000000000000 := by have := Hs2.out; omega
  obtain ⟨s3, Hs3⟩ : ∃ s, Hid (s2 - m3 = s) := ⟨_, rfl⟩
  have B2 := fun W : World => ssub_any s0 m2 s2 W Hs2.out (by omega) (by omega) (by omega) (by omega)
  have B3 := fun W : World => ssub_any s2 m3 s3 W Hs3.out (by omega) (by omega) (by omega) (by omega)
  have HM : Hid (markZ q c = s3) := by
    unfold Hid
    rw [HE.out, ← Hs3.out, ← Hs2.out, ← Hs0.out, ← Hs1.out]
    split <;> omega
  rw [HM.out]
  obtain ⟨rep, load, known, bnd, place, opn⟩ := c
  obtain ⟨kn, ld, bd, pl⟩ := q
  simp only at T1 T2 T3 T4 Hs0
  unfold CdV WtV
  simp only
  have HT1 := hid T1
  have HT2 := hid T2
  have HT3 := hid T3
  have HT4 := hid T4
  have HA1 := hid A1
  have HB2 := hid B2
  have HB3 := hid B3
  have HS0 : Hid (bnd = true → s1 = s0) := fun h => by have := Hs0.out; rw [if_pos h] at this; exact this
  have HS1 : Hid (bnd = false → m1 = s0) := fun h => by have := Hs0.out; rw [h] at this; simpa using this
  clear T1 T2 T3 T4 A1 B2 B3 HE h1 h2 h3 h4 h5 hs0 hs2 Hs1 Hs2 Hs3 Hs0 HM
  cases bnd with
  | true =>
    obtain rfl : s1 = s0 := HS0.out rfl
    go_enter Try.func13, Try.ntmps13
    go_wp2_with (first
      | (go_at_call 21; first | (with_reducible refine (HT1.out _).mono ?_; rintro e w' ⟨rfl, rfl⟩) | (with_reducible refine (HT2.out _).mono ?_; rintro e w' ⟨rfl, rfl⟩) | (with_reducible refine (HT3.out _).mono ?_; rintro e w' ⟨rfl, rfl⟩))
      | (go_at_call 23; (with_reducible refine (HT4.out _).mono ?_); rintro e w' ⟨rfl, rfl⟩)
      | (go_at_call 22; (with_reducible refine (HA1.out _).mono ?_); rintro e w' ⟨rfl, rfl⟩)
      | (go_at_call 24; first | (with_reducible refine (HB2.out _).mono ?_; rintro e w' ⟨rfl, rfl⟩) | (with_reducible refine (HB3.out _).mono ?_; rintro e w' ⟨rfl, rfl⟩)))
    go_ret
    exact ⟨rfl, by unfold Hid; go_grown⟩
  | false =>
    obtain rfl : m1 = s0 := HS1.out rfl
    go_enter Try.func13, Try.ntmps13
    go_wp2_with (first
      | (go_at_call 21; first | (with_reducible refine (HT1.out _).mono ?_; rintro e w' ⟨rfl, rfl⟩) | (with_reducible refine (HT2.out _).mono ?_; rintro e w' ⟨rfl, rfl⟩) | (with_reducible refine (HT3.out _).mono ?_; rintro e w' ⟨rfl, rfl⟩))
      | (go_at_call 24; first | (with_reducible refine (HB2.out _).mono ?_; rintro e w' ⟨rfl, rfl⟩) | (with_reducible refine (HB3.out _).mono ?_; rintro e w' ⟨rfl, rfl⟩)))
    go_ret
    exact ⟨rfl, by unfold Hid; go_grown⟩
end Go.Proofs.Ytmhpgkkaolcncaa
