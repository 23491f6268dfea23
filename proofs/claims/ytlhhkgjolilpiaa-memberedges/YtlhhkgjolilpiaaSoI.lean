/-
  slices.Sort at uint64, to the element: breakPatterns.
-/
import Derived.Test.YtlhhkgjolilpiaaSoH
import Derived.Test.YtlhhkgjolilpiaaSoLay
import Derived.Sort.LotD5
namespace Go.Proofs.Ytlhhkgjolilpiaa
open Go.RowKit
set_option linter.unusedVariables false
set_option maxRecDepth 1000000

/-- A number of 64 bits in a block of its own (the state of the draws). -/
def XsAt (W : World) (s : Nat) (x : Nat) : Prop := W.heap[s]? = some (.cells #[.int .u64 x] 98 (0, 0))
theorem unext {s X : Nat} {W : World} (hX : X < 18446744073709551616) (h : XsAt W s X) :
    Calls Try.prog 59 #[.pointer (some ⟨s, 0, none⟩)] W fun e w' => e = .returned (.int .u64 (Sort.xorNextN X : Nat)) ∧ w' = (W.setCell ⟨s, 0, none⟩ (.int .u64 (Sort.xorNextN X : Nat))).drewN 3 :=
  AnyF.xorshift_Next Try.xorNx s 0 X hX W (by rw [cell_of_row _ _ _ _ _ _ h]; rfl) (frozen_of_row _ _ 0 _ _ h)
theorem unpow {n : Nat} (hn : n ≤ 100000) (W : World) :
    Calls Try.prog 58 #[.int .i64 n] W fun e w' => e = .returned (.int .u64 ((1 <<< Sort.bitsLen n : Nat) : Int)) ∧ w' = W :=
  AnyF.nextPowerOfTwo Try.npow n (by omega) W
/-- One round: the number and the row behind it. -/
def brk (lo n m : Nat) (x : Nat) (d : Array Int) (idx : Nat) : Nat × Array Int :=
  let r := Sort.xorNextN x
  let o := r &&& (m - 1)
  (r, Sort.swp d idx (lo + if o ≥ n then o - n else o))
theorem brk_eq {lo n m x : Nat} {r : UInt64} {d : Array Int} (idx : Nat) (h : r.toNat = x) : (Sort.breakStep lo n m (r, d) idx).1.toNat = (brk lo n m x d idx).1 ∧ (Sort.breakStep lo n m (r, d) idx).2 = (brk lo n m x d idx).2 := by
  subst h
  unfold Sort.breakStep brk
  simp only [Sort.xorNext_toNat]
  exact ⟨trivial, trivial⟩
/-- k rounds are left, the next at i. -/
def brks (lo n m : Nat) : Nat → Nat → Nat → Array Int → Array Int
  | 0, _, _, d => d
  | k + 1, i, x, d => brks lo n m k (i + 1) (brk lo n m x d i).1 (brk lo n m x d i).2
theorem brks_eq {lo hi n m : Nat} {d : Array Int} (hn : hi - lo = n) (h8 : 8 ≤ n) (hb : n < 18446744073709551616) (hm : 1 <<< Sort.bitsLen n = m) : Sort.breakPatterns d lo hi = brks lo n m 3 (lo + n / 4 * 2 - 1) n d := by
  subst hn hm
  unfold Sort.breakPatterns
  simp only [ge_iff_le, if_pos h8, brks]
  obtain ⟨a1, a2⟩ := brk_eq (lo := lo) (n := hi - lo) (m := 1 <<< Sort.bitsLen (hi - lo)) (x := hi - lo) (r := UInt64.ofNat (hi - lo)) (d := d) (lo + (hi - lo) / 4 * 2 - 1) (by rw [UInt64.toNat_ofNat']; exact Nat.mod_eq_of_lt hb)
  generalize Sort.breakStep lo (hi - lo) (1 <<< Sort.bitsLen (hi - lo)) (UInt64.ofNat (hi - lo), d) (lo + (hi - lo) / 4 * 2 - 1) = s1 at *
  obtain ⟨r1, d1⟩ := s1
  simp only at a1 a2
  rw [← a1, ← a2]
  obtain ⟨b1, b2⟩ := brk_eq (lo := lo) (n := hi - lo) (m := 1 <<< Sort.bitsLen (hi - lo)) (x := r1.toNat) (r := r1) (d := d1) (lo + (hi - lo) / 4 * 2 - 1 + 1) rfl
  generalize Sort.breakStep lo (hi - lo) (1 <<< Sort.bitsLen (hi - lo)) (r1, d1) (lo + (hi - lo) / 4 * 2 - 1 + 1) = s2 at *
  obtain ⟨r2, d2⟩ := s2
  simp only at b1 b2
  rw [← b1, ← b2]
  exact (brk_eq (lo := lo) (n := hi - lo) (m := 1 <<< Sort.bitsLen (hi - lo)) (x := r2.toNat) (r := r2) (d := d2) (lo + (hi - lo) / 4 * 2 - 1 + 1 + 1) rfl).2
/-- A world of the sort's with the state of the draws beside it. -/
def SoX (w : World) (b N : Nat) (d : Array Int) (s x : Nat) (W : World) : Prop := So w b N d W ∧ XsAt W s x ∧ (b ≠ s ∧ w.heap.size ≤ s)
theorem SoX.next {w W : World} {b N s x y : Nat} {d : Array Int} (h : SoX w b N d s x W) : SoX w b N d s y ((W.setCell ⟨s, 0, none⟩ (.int .u64 y)).drewN 3) := by
  obtain ⟨h0, h3, h4, h5⟩ := h
  exact ⟨(h0.other (Fb.set (by exact rfl) _) h4 h5).drewN 3, row_set (k := 0) (u := .int .u64 y) h3, h4, h5⟩
theorem SoX.drew {w W : World} {b N s x : Nat} {d : Array Int} (h : SoX w b N d s x W) : SoX w b N d s x W.drew := ⟨h.1.drew, h.2.1, h.2.2⟩
theorem XsAt.swp {W : World} {b s x : Nat} (h : XsAt W s x) (hb : b ≠ s) (i j : Nat) (u v : Value) : XsAt ((W.setCell ⟨b, i, none⟩ u).setCell ⟨b, j, none⟩ v) s x := by
  unfold XsAt at *
  rw [Below.heap_setCell _ _ _ _ (fun e => hb e.symm), Below.heap_setCell _ _ _ _ (fun e => hb e.symm)]
  exact h
set_option maxHeartbeats 8000000 in
theorem ubreak {b N cap : Nat} {d : Array Int} {w W : World} (lo hi : Nat) (h : So w b N d W) (hc : N ≤ cap) (hm : N ≤ 100000) (hhi : hi ≤ N) (h8 : lo + 8 ≤ hi) :
    Calls Try.prog 48 #[.slice (some ⟨b, 0, none⟩) N cap, .int .i64 lo, .int .i64 hi] W fun e w' => e = .returned (.tuple #[]) ∧ Hid (So w b N (Sort.breakPatterns d lo hi) w') := by
  obtain ⟨n, hn⟩ : ∃ n : Nat, (hi : Int) - (lo : Int) = (n : Int) := ⟨hi - lo, by omega⟩
  obtain ⟨m, Hm⟩ : ∃ m : Nat, Hid (1 <<< Sort.bitsLen n = m) := ⟨_, rfl⟩
  have Hmb : Hid (n < m ∧ m ≤ 2 * n) := by
    have h1 := Sort.two_pow_bitsLen_le (n := n) (by omega)
    have h2 := Sort.lt_two_pow_bitsLen n
    unfold Hid
    rw [← Hm.out, Nat.one_shiftLeft]
    omega
  obtain ⟨R, HRe⟩ : ∃ R, Hid (Sort.breakPatterns d lo hi = R) := ⟨_, rfl⟩
  rw [HRe.out]
  have HR1 : Hid (brks lo n m 3 (lo + n / 4 * 2 - 1) n d = R) := (brks_eq (by omega) (by omega) (by omega) Hm.out).symm.trans HRe.out
  have hP := fun W : World => unpow (n := n) (by omega) W
  rw [Hm.out] at hP
  have hwn := wrapN (n := n) (by omega)
  have hwu : IntKind.u64.wrap (n : Int) = (n : Int) := by rw [IntKind.wrap_u64]; omega
  have g8 : (8 : Int) ≤ (n : Int) := by omega
  have HS := hid h
  clear h
  go_enter Try.func48, Try.ntmps48
  go_wp2_with fail
  obtain ⟨q, hq⟩ : ∃ q : Nat, (n : Int) / 4 = (q : Int) := ⟨n / 4, by omega⟩
  have hq' : (n : Int).tdiv 4 = (q : Int) := by rw [Int.tdiv_eq_ediv_of_nonneg (by omega)]; exact hq
  obtain ⟨q2, hq2⟩ : ∃ q2 : Nat, (q : Int) * 2 = (q2 : Int) := ⟨q * 2, by omega⟩
  obtain ⟨p, hp⟩ : ∃ p : Nat, (lo : Int) + (q2 : Int) = (p : Int) := ⟨lo + q2, by omega⟩
  obtain ⟨p0, hp0⟩ : ∃ i : Nat, (p : Int) - 1 = (i : Int) := ⟨p - 1, by omega⟩
  obtain ⟨p1, hp1⟩ : ∃ i : Nat, (p : Int) + 1 = (i : Int) := ⟨p + 1, by omega⟩
  have v2 := wrapN (n := q) (by omega)
  have v3 := wrapN (n := q2) (by omega)
  have v4 := wrapN (n := p) (by omega)
  have v5 := wrapN (n := p0) (by omega)
  have v6 := wrapN (n := p1) (by omega)
  rw [show lo + n / 4 * 2 - 1 = p0 by omega] at HR1
  obtain ⟨s, hs⟩ : ∃ s, W.heap.size = s := ⟨_, rfl⟩
  rw [hs]
  generalize hWA : W.alloc (.cells #[.int .u64 (n : Int)] 98) = wA
  have HX : Hid (SoX w b N d s n wA) := by
    have hbA : Below W.heap.size W wA := by rw [← hWA]; exact (Below.refl _ _).alloc (Nat.le_refl _) _
    have hlt := HS.out.lt
    refine ⟨HS.out.below hbA, ?_, by omega, ?_⟩
    · unfold XsAt
      rw [← hWA, ← hs]
      exact heap_alloc_new W _
    · rw [← hs]; exact HS.out.2.2.1.size
  clear HS hWA HRe
  refine (hP _).mono ?_
  rintro e w' ⟨rfl, rfl⟩
  clear hP
  go_wp2_with fail
  go_loopw [9] (fun z W => ∃ (k i x : Nat) (d1 : Array Int), k ≤ 3 ∧ i + k = p1 + 1 ∧ z = .int .i64 i ∧ Hid (SoX w b N d1 s x W ∧ x < 18446744073709551616 ∧ brks lo n m k i x d1 = R)) (fun z _ => p1 + 1 - (intOf z).toNat)
  case atStart => exact ⟨3, p0, n, d, by omega, by omega, rfl, ⟨HX.out, by omega, HR1.out⟩⟩
  case round =>
  obtain ⟨k, i, x, d1, hk, hik, rfl, H1⟩ := hrel
  rename World => w1
  clear HX HR1
  by_cases hk0 : 0 < k
  · have gi : (i : Int) ≤ (p1 : Int) := by omega
    obtain ⟨r, Hr⟩ : ∃ r : Nat, Hid (Sort.xorNextN x = r ∧ r < 18446744073709551616) := ⟨_, rfl, Sort.xorNextN_lt x H1.out.2.1⟩
    obtain ⟨o, Ho⟩ : ∃ o : Nat, Hid (r &&& (m - 1) = o) := ⟨_, rfl⟩
    have hom : o ≤ m - 1 := by rw [← Ho.out]; exact Nat.and_le_right
    have hmb := Hmb.out
    obtain ⟨m1, hm1⟩ : ∃ m1 : Nat, (m : Int) - 1 = (m1 : Int) := ⟨m - 1, by omega⟩
    have hwm : IntKind.u64.wrap (m1 : Int) = (m1 : Int) := by rw [IntKind.wrap_u64]; omega
    have hwo := wrapN (n := o) (by omega)
    have eAnd : bits .and .u64 (r : Int) (m1 : Int) = (o : Int) := by
      rw [bits_and_u64_nat _ _ Hr.out.2 (by omega), ← Ho.out, show m1 = m - 1 by omega]
    have hN := unext H1.out.2.1 H1.out.1.2.1
    rw [Hr.out.1] at hN
    have HX2 := hid (H1.out.1.next (y := r))
    obtain ⟨o2, Ho2⟩ : ∃ o2 : Nat, Hid ((if o ≥ n then o - n else o) = o2) := ⟨_, rfl⟩
    obtain ⟨j, hj⟩ : ∃ j : Nat, (lo : Int) + (o2 : Int) = (j : Int) := ⟨lo + o2, by omega⟩
    have hjh : j < hi := by
      have := Ho2.out
      split at this <;> omega
    have hwj := wrapN (n := j) (by omega)
    have HB : Hid (∃ k', k = k' + 1 ∧ brks lo n m k' (i + 1) r (Sort.swp d1 i j) = R) := by
      obtain ⟨k', rfl⟩ : ∃ k', k = k' + 1 := ⟨k - 1, by omega⟩
      refine ⟨k', rfl, ?_⟩
      have := H1.out.2.2
      rw [brks] at this
      unfold brk at this
      simp only [Hr.out.1, Ho.out, Ho2.out] at this
      rw [show lo + o2 = j by omega] at this
      exact this
    clear H1
    go_wp2_with fail
    refine hN.mono ?_
    rintro e w2 ⟨rfl, rfl⟩
    clear hN
    generalize (w1.setCell ⟨s, 0, none⟩ (.int .u64 (r : Int))).drewN 3 = w3 at *
    go_upto_if 43 with fail
    go_cut [10] (fun v wx => v = .int .i64 (o2 : Int) ∧ Hid (SoX w b N d1 s r wx))
    case first =>
      by_cases hon : n ≤ o
      · have gon : (n : Int) ≤ (o : Int) := by omega
        have hd : (o : Int) - (n : Int) = (o2 : Int) := by
          have := Ho2.out
          rw [if_pos (by omega)] at this
          omega
        have hwd := wrapN (n := o2) (by omega)
        go_wp2_with fail
        go_meet
        exact ⟨rfl, HX2⟩
      · have gon : ¬ (n : Int) ≤ (o : Int) := by omega
        have HD : Hid (o = o2) := by
          have := Ho2.out
          rw [if_neg (by omega)] at this
          exact this
        go_wp2_with fail
        go_meet
        exact ⟨by rw [HD.out], HX2⟩
    case rest =>
    obtain ⟨rfl, HX3⟩ := hcut
    rename_i wc
    clear HX2 eAnd Ho2 Ho
    have HV : Hid (So w b N d1 wc ∧ True) := ⟨HX3.out.1, trivial⟩
    have HXs := hid HX3.out.2
    clear HX3
    go_wp2_with fail
    obtain ⟨x6, Hx6⟩ : ∃ x6, Hid (d1[i]! = x6) := ⟨_, rfl⟩
    obtain ⟨y6, Hy6⟩ : ∃ y6, Hid (d1[j]! = y6) := ⟨_, rfl⟩
    have cx6 := HV.out.1.cell (i := i) (by omega)
    rw [Hx6.out] at cx6
    have cy6 := HV.out.1.cell (i := j) (by omega)
    rw [Hy6.out] at cy6
    have f1 := HV.out.1.frozen i
    have f2 := HV.out.1.frozen j
    have bp : (i : Int) < (N : Int) := by omega
    have bq : (j : Int) < (N : Int) := by omega
    have HR4 : Hid (SoX w b N (Sort.swp d1 i j) s r _) := SoX.drew ⟨HV.out.1.swp i j Hx6.out Hy6.out, HXs.out.1.swp HXs.out.2.1 _ _ _ _, HXs.out.2⟩
    have HR5 : Hid (SoX w b N (Sort.swp d1 i j) s r _) := SoX.drew ⟨HV.out.1.swp' i j Hx6.out Hy6.out, HXs.out.1.swp HXs.out.2.1 _ _ _ _, HXs.out.2⟩
    by_cases he : i = j
    · obtain rfl : x6 = y6 := by rw [← Hx6.out, ← Hy6.out, he]
      subst he
      clear HV Hx6 Hy6 cy6 f2 bq HXs
      go_region
      all_goals
        go_wp2_with fail
        go_round
        case rel =>
          obtain ⟨k', hk', hB⟩ := HB.out
          exact ⟨k', i + 1, r, _, by omega, by omega, by go_num, ⟨by first | exact HR4.out | (have h := HR4.out; simpa using h), Hr.out.2, hB⟩⟩
        case measure => simp [intOf]; omega
    · have hne : ¬ i = j := he
      have hne' : ¬ j = i := fun e => he e.symm
      clear HV Hx6 Hy6 HXs
      go_region
      all_goals
        go_wp2_with fail
        go_round
        case rel =>
          obtain ⟨k', hk', hB⟩ := HB.out
          exact ⟨k', i + 1, r, _, by omega, by omega, by go_num, ⟨by first | exact HR4.out | exact HR5.out, Hr.out.2, hB⟩⟩
        case measure => simp [intOf]; omega
  · have gi : ¬ (i : Int) ≤ (p1 : Int) := by omega
    have HE : Hid (d1 = R) := by
      have := H1.out.2.2
      rw [show k = 0 by omega, brks] at this
      exact this
    go_wp2_with fail
    go_end0
    exact ⟨rfl, by unfold Hid; rw [← HE.out]; exact H1.out.1.1⟩
end Go.Proofs.Ytlhhkgjolilpiaa
