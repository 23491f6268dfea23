/-
  slices.Sort at uint64, to the element: choosePivot.
-/
import Derived.Test.YtlhhkgjolilpiaaSoD
namespace Go.Proofs.Ytlhhkgjolilpiaa
open Go.RowKit
set_option linter.unusedVariables false
set_option maxRecDepth 1000000

/-- What a hint's number says. -/
def hintOf (t : Int) : Sort.Hint := if t = 1 then .increasing else if t = 2 then .decreasing else .unknown
theorem piv_50 {d : Array Int} {lo hi n q i j k i2 c1 j2 c2 k2 c3 p c4 : Nat} (hn : hi - lo = n) (hq : n / 4 = q) (hi' : i = lo + q) (hj : j = lo + q * 2) (hk : k = lo + q * 3) (h50 : 50 ≤ n)
    (m1 : Sort.medianAdjacent Sort.ltInt d i 0 = (i2, c1)) (m2 : Sort.medianAdjacent Sort.ltInt d j c1 = (j2, c2)) (m3 : Sort.medianAdjacent Sort.ltInt d k c2 = (k2, c3)) (m4 : Sort.median Sort.ltInt d i2 j2 k2 c3 = (p, c4)) :
    Sort.choosePivot Sort.ltInt d lo hi = (p, if c4 = 0 then .increasing else if c4 = 12 then .decreasing else .unknown) := by
  subst hn hq hi' hj hk
  simp only [Sort.choosePivot, Nat.mul_one, ge_iff_le, if_pos h50, if_pos (show 8 ≤ hi - lo by omega), m1, m2, m3, m4]
theorem piv_8 {d : Array Int} {lo hi n q i j k p c4 : Nat} (hn : hi - lo = n) (hq : n / 4 = q) (hi' : i = lo + q) (hj : j = lo + q * 2) (hk : k = lo + q * 3) (h50 : ¬ 50 ≤ n) (h8 : 8 ≤ n)
    (m4 : Sort.median Sort.ltInt d i j k 0 = (p, c4)) :
    Sort.choosePivot Sort.ltInt d lo hi = (p, if c4 = 0 then .increasing else if c4 = 12 then .decreasing else .unknown) := by
  subst hn hq hi' hj hk
  simp only [Sort.choosePivot, Nat.mul_one, ge_iff_le, if_neg h50, if_pos h8, m4]
set_option maxHeartbeats 4000000 in
theorem upiv {b N cap : Nat} {d : Array Int} {w0 w : World} (lo hi : Nat) (h0 : So w0 b N d w) (hc : N ≤ cap) (hm : N ≤ 100000) (hhi : hi ≤ N) (h8 : lo + 8 ≤ hi) :
    Calls Try.prog 49 #[.slice (some ⟨b, 0, none⟩) N cap, .int .i64 lo, .int .i64 hi] w fun e w' => ∃ (p : Nat) (t : Int), lo ≤ p ∧ p < hi ∧ Hid (t = 0 ∨ t = 1 ∨ t = 2) ∧ Hid (Sort.choosePivot Sort.ltInt d lo hi = (p, hintOf t)) ∧ e = .returned (.tuple #[.int .i64 p, .int .i64 t]) ∧ Hid (So w0 b N d w') := by
  obtain ⟨wA, hwA⟩ : ∃ wA, wA = w.alloc (.cells #[.int .i64 0] 3) := ⟨_, rfl⟩
  have hbA : Below w.heap.size w wA := by rw [hwA]; exact (Below.refl _ _).alloc (Nat.le_refl _) _
  have hA : wA.heap[w.heap.size]? = some (.cells #[.int .i64 0] 3 (0, 0)) := by rw [hwA]; exact heap_alloc_new w _
  obtain ⟨s, hs⟩ : ∃ s, w.heap.size = s := ⟨_, rfl⟩
  have hlt : b < w.heap.size := by obtain ⟨_, ⟨cur, h1, _⟩, _⟩ := h0; exact lt_of_block h1
  have h1 : SwO wA b N d s 0 wA := ⟨⟨h0.1, h0.2.1.same (hbA.block b hlt)⟩, by unfold SwAt; rw [← hs]; exact hA, Fb.refl _ _⟩
  have HEnd : Hid (∀ (c : Nat) (W : World), SwO wA b N d s c W → So w0 b N d W) := fun c W hW => (h0.below hbA).other hW.2.2 (SwO.ne hW.1.2 hW.2.1) (by rw [← hs]; exact h0.2.2.1.size)
  obtain ⟨n, hn⟩ : ∃ n : Nat, (hi : Int) - (lo : Int) = (n : Int) := ⟨hi - lo, by omega⟩
  obtain ⟨q, hq⟩ : ∃ q : Nat, (n : Int) / 4 = (q : Int) := ⟨n / 4, by omega⟩
  have hq' : (n : Int).tdiv 4 = (q : Int) := by rw [Int.tdiv_eq_ediv_of_nonneg (by omega)]; exact hq
  obtain ⟨q2, hq2⟩ : ∃ q2 : Nat, (q : Int) * 2 = (q2 : Int) := ⟨q * 2, by omega⟩
  obtain ⟨q3, hq3⟩ : ∃ q3 : Nat, (q : Int) * 3 = (q3 : Int) := ⟨q * 3, by omega⟩
  obtain ⟨i, hi1⟩ : ∃ i : Nat, (lo : Int) + (q : Int) = (i : Int) := ⟨lo + q, by omega⟩
  obtain ⟨j, hj1⟩ : ∃ i : Nat, (lo : Int) + (q2 : Int) = (i : Int) := ⟨lo + q2, by omega⟩
  obtain ⟨k, hk1⟩ : ∃ i : Nat, (lo : Int) + (q3 : Int) = (i : Int) := ⟨lo + q3, by omega⟩
  have v1 := wrapN (n := n) (by omega)
  have v2 := wrapN (n := q) (by omega)
  have v3 := wrapN (n := q2) (by omega)
  have v4 := wrapN (n := q3) (by omega)
  have v5 := wrapN (n := i) (by omega)
  have v6 := wrapN (n := j) (by omega)
  have v7 := wrapN (n := k) (by omega)
  have g8 : (8 : Int) ≤ (n : Int) := by omega
  have HI : Hid ((lo ≤ i ∧ i < hi) ∧ (lo ≤ j ∧ j < hi) ∧ (lo ≤ k ∧ k < hi) ∧ (50 ≤ n → (lo + 1 ≤ i ∧ i + 1 < hi) ∧ (lo + 1 ≤ j ∧ j + 1 < hi) ∧ (lo + 1 ≤ k ∧ k + 1 < hi))) := by unfold Hid; omega
  have HN : Hid (hi - lo = n ∧ n / 4 = q ∧ i = lo + q ∧ j = lo + q * 2 ∧ k = lo + q * 3) := by unfold Hid; omega
  have H0 := hid h1
  clear h0 h1 hbA hA hlt
  by_cases h50 : 50 ≤ n
  · have g50 : (50 : Int) ≤ (n : Int) := by omega
    go_enter Try.func49, Try.ntmps49
    go_wp2_with fail
    rw [← hwA]
    refine (umeda i H0.out hc hm lo hi hhi (HI.out.2.2.2 h50).1 (by omega)).mono ?_
    rintro e w2 ⟨i2, c1, M1, hi2, hi3, hc1, rfl, H2⟩
    have hM2 := umeda j H2.out hc hm lo hi hhi (HI.out.2.2.2 h50).2.1 (by omega)
    clear H2
    go_wp2_with fail
    refine hM2.mono ?_
    rintro e w3 ⟨j2, c2, M2, hj2, hj3, hc2, rfl, H3⟩
    have hM3 := umeda k H3.out hc hm lo hi hhi (HI.out.2.2.2 h50).2.2 (by omega)
    clear H3 hM2
    go_wp2_with fail
    refine hM3.mono ?_
    rintro e w4 ⟨k2, c3, M3, hk2, hk3, hc3, rfl, H4⟩
    have hM := umed i2 j2 k2 H4.out hc hm lo hi hhi ⟨hi2, hi3⟩ ⟨hj2, hj3⟩ ⟨hk2, hk3⟩ (by omega)
    clear H4 hM3
    go_wp2_with fail
    refine hM.mono ?_
    rintro e w1 ⟨p, c0, M4, hp1, hp2, hc4, rfl, H1⟩
    have hsw := H1.out.2.1
    have HE := hid (piv_50 HN.out.1 HN.out.2.1 HN.out.2.2.1 HN.out.2.2.2.1 HN.out.2.2.2.2 h50 M1.out M2.out M3.out M4.out)
    have HR := hid (HEnd.out _ _ H1.out)
    have cs : w1.cell? ⟨s, 0, none⟩ = some (.int .i64 (c0 : Int)) := by rw [cell_of_row _ _ _ _ _ _ hsw]; rfl
    clear hM H1 hsw H0 HEnd HI M1 M2 M3 M4 HN
    by_cases e0 : (c0 : Int) = 0
    · rw [e0] at cs
      go_wp2
      go_ret2
      exact ⟨p, 1, hp1, hp2, .inr (.inl rfl), by have h := HE.out; rw [if_pos (by omega)] at h; exact h, rfl, HR⟩
    · by_cases e12 : (c0 : Int) = 12
      · rw [e12] at cs
        go_wp2
        go_ret2
        exact ⟨p, 2, hp1, hp2, .inr (.inr rfl), by have h := HE.out; rw [if_neg (by omega), if_pos (by omega)] at h; exact h, rfl, HR⟩
      · go_wp2
        go_ret2
        exact ⟨p, 0, hp1, hp2, .inl rfl, by have h := HE.out; rw [if_neg (by omega), if_neg (by omega)] at h; exact h, rfl, HR⟩
  · have g50 : ¬ (50 : Int) ≤ (n : Int) := by omega
    have hM := umed i j k H0.out hc hm lo hi hhi HI.out.1 HI.out.2.1 HI.out.2.2.1 (by omega)
    go_enter Try.func49, Try.ntmps49
    go_wp2_with fail
    rw [← hwA]
    refine hM.mono ?_
    rintro e w1 ⟨p, c0, M4, hp1, hp2, hc4, rfl, H1⟩
    have hsw := H1.out.2.1
    have HE := hid (piv_8 HN.out.1 HN.out.2.1 HN.out.2.2.1 HN.out.2.2.2.1 HN.out.2.2.2.2 h50 (by omega) M4.out)
    have HR := hid (HEnd.out _ _ H1.out)
    have cs : w1.cell? ⟨s, 0, none⟩ = some (.int .i64 (c0 : Int)) := by rw [cell_of_row _ _ _ _ _ _ hsw]; rfl
    clear hM H1 hsw H0 HEnd HI M4 HN
    by_cases e0 : (c0 : Int) = 0
    · rw [e0] at cs
      go_wp2
      go_ret2
      exact ⟨p, 1, hp1, hp2, .inr (.inl rfl), by have h := HE.out; rw [if_pos (by omega)] at h; exact h, rfl, HR⟩
    · by_cases e12 : (c0 : Int) = 12
      · rw [e12] at cs
        go_wp2
        go_ret2
        exact ⟨p, 2, hp1, hp2, .inr (.inr rfl), by have h := HE.out; rw [if_neg (by omega), if_pos (by omega)] at h; exact h, rfl, HR⟩
      · go_wp2
        go_ret2
        exact ⟨p, 0, hp1, hp2, .inl rfl, by have h := HE.out; rw [if_neg (by omega), if_neg (by omega)] at h; exact h, rfl, HR⟩
end Go.Proofs.Ytlhhkgjolilpiaa
