/-
  slices.Sort at uint64, to the element: order2, median, medianAdjacent.
-/
import Derived.Test.YtlhhkgjolilpiaaSoC
namespace Go.Proofs.Ytlhhkgjolilpiaa
open Go.RowKit
set_option linter.unusedVariables false
set_option maxRecDepth 1000000

/-- The count of swaps. -/
def SwAt (W : World) (s c : Nat) : Prop := W.heap[s]? = some (.cells #[.int .i64 c] 3 (0, 0))
/-- What a function that counts swaps leaves: the row as it was, the count. -/
def SwO (w : World) (b N : Nat) (d : Array Int) (s c : Nat) (W : World) : Prop := (d.size = N ∧ Ra W b d) ∧ SwAt W s c ∧ Fb (at1 s) w W
theorem SwO.cell {w W : World} {b N s c : Nat} {d : Array Int} (h : SwO w b N d s c W) {i : Nat} (hi : i < N) : W.cell? ⟨b, i, none⟩ = some (.int .u64 d[i]!) := h.1.2.cell (by rw [h.1.1]; exact hi)
theorem SwO.ne {W : World} {b : Nat} {d : Array Int} {s c : Nat} (h : Ra W b d) (h2 : SwAt W s c) : b ≠ s := fun e => by
  obtain ⟨cur, h1, _⟩ := h
  unfold SwAt at h2
  rw [← e, h1] at h2
  simp at h2
theorem SwO.turn {w W : World} {b N : Nat} {d : Array Int} {s c : Nat} (h : SwO w b N d s c W) (x : Nat) : SwO w b N d s x (W.setCell ⟨s, 0, none⟩ (.int .i64 x)) := by
  obtain ⟨⟨h0, h1⟩, h3, h4⟩ := h
  have hb : Fb (at1 s) W (W.setCell ⟨s, 0, none⟩ (.int .i64 x)) := Fb.set (by exact rfl) _
  refine ⟨⟨h0, h1.same (hb.block b ?_ fun e => SwO.ne h1 h3 e)⟩, row_set (k := 0) (u := .int .i64 x) h3, h4.trans hb fun k hk => .inl hk⟩
  obtain ⟨cur, h, _⟩ := h1
  exact lt_of_block h
theorem SwO.drewN {w W : World} {b N : Nat} {d : Array Int} {s c : Nat} (h : SwO w b N d s c W) (q : Nat) : SwO w b N d s c (W.drewN q) := ⟨h.1, h.2.1, h.2.2.below ⟨rfl, rfl, rfl, Nat.le_refl _, fun _ _ => rfl⟩⟩
set_option maxHeartbeats 2000000 in
theorem uord {b N cap s c : Nat} {d : Array Int} {w W : World} (i j : Nat) (h : SwO w b N d s c W) (hc : N ≤ cap) (hm : N ≤ 100000) (hi : i < N) (hj : j < N) (hcc : c ≤ 1000) :
    Calls Try.prog 63 #[.slice (some ⟨b, 0, none⟩) N cap, .int .i64 i, .int .i64 j, .pointer (some ⟨s, 0, none⟩)] W fun e w' => ∃ x y c' : Nat, Hid (Sort.order2 Sort.ltInt d i j c = (x, y, c')) ∧ Hid (x = i ∧ y = j ∨ x = j ∧ y = i) ∧ c' ≤ c + 1 ∧ e = .returned (.tuple #[.int .i64 x, .int .i64 y]) ∧ Hid (SwO w b N d s c' w') := by
  obtain ⟨x3, Hx3⟩ : ∃ x, Hid (d[j]! = x) := ⟨_, rfl⟩
  obtain ⟨y3, Hy3⟩ : ∃ x, Hid (d[i]! = x) := ⟨_, rfl⟩
  have cx3 := h.cell (i := j) hj
  have cy3 := h.cell (i := i) hi
  rw [Hx3.out] at cx3
  rw [Hy3.out] at cy3
  have b1 : (i : Int) < (N : Int) := by omega
  have b2 : (j : Int) < (N : Int) := by omega
  have HR := hid h
  clear h
  go_enter Try.func63, Try.ntmps63
  go_wp2_with fail
  go_quiet ((go_at_call 52; exact Calls.quiet_of_same ((uless_any x3 y3 _).mono fun e w' h => ⟨h.1, h.2.symm⟩)))
  have HR1 := hid (HR.out.drewN nq)
  clear HR cx3 cy3
  generalize W.drewN nq = w1 at *
  by_cases hxy : x3 < y3
  · rw [decide_eq_true hxy]
    have hsw := HR1.out.2.1
    have cs : w1.cell? ⟨s, 0, none⟩ = some (.int .i64 (c : Int)) := by rw [cell_of_row _ _ _ _ _ _ hsw]; rfl
    have fs : w1.frozen? ⟨s, 0, none⟩ = false := frozen_of_row _ _ 0 _ _ hsw
    obtain ⟨c1, hc1⟩ : ∃ c1 : Nat, (c : Int) + 1 = (c1 : Int) := ⟨c + 1, by omega⟩
    have hw1 := wrapN (n := c1) (by omega)
    have HR2 := hid (HR1.out.turn c1)
    have HE : Hid (Sort.order2 Sort.ltInt d i j c = (j, i, c1)) := by
      unfold Hid
      rw [Sort.order2, if_pos (by rw [Hx3.out, Hy3.out]; simpa [Sort.ltInt] using hxy), show c1 = c + 1 by omega]
    clear HR1 hsw
    go_wp2
    go_ret2
    exact ⟨j, i, c1, HE, .inr ⟨rfl, rfl⟩, by omega, rfl, HR2⟩
  · rw [decide_eq_false hxy]
    have HE : Hid (Sort.order2 Sort.ltInt d i j c = (i, j, c)) := by
      unfold Hid
      rw [Sort.order2, if_neg (by rw [Hx3.out, Hy3.out]; simpa [Sort.ltInt] using hxy)]
    go_wp2
    go_ret2
    exact ⟨i, j, c, HE, .inl ⟨rfl, rfl⟩, by omega, rfl, HR1⟩
theorem med_of {d : Array Int} {i j k c x1 y1 c1 x2 y2 c2 x3 y3 c3 : Nat} (h1 : Sort.order2 Sort.ltInt d i j c = (x1, y1, c1)) (h2 : Sort.order2 Sort.ltInt d y1 k c1 = (x2, y2, c2)) (h3 : Sort.order2 Sort.ltInt d x1 x2 c2 = (x3, y3, c3)) : Sort.median Sort.ltInt d i j k c = (y3, c3) := by
  simp only [Sort.median, h1, h2, h3]
set_option maxHeartbeats 2000000 in
theorem umed {b N cap s c : Nat} {d : Array Int} {w W : World} (i j k : Nat) (h : SwO w b N d s c W) (hc : N ≤ cap) (hm : N ≤ 100000) (lo hi : Nat) (hN : hi ≤ N) (hi1 : lo ≤ i ∧ i < hi) (hj1 : lo ≤ j ∧ j < hi) (hk1 : lo ≤ k ∧ k < hi) (hcc : c ≤ 900) :
    Calls Try.prog 61 #[.slice (some ⟨b, 0, none⟩) N cap, .int .i64 i, .int .i64 j, .int .i64 k, .pointer (some ⟨s, 0, none⟩)] W fun e w' => ∃ x c' : Nat, Hid (Sort.median Sort.ltInt d i j k c = (x, c')) ∧ lo ≤ x ∧ x < hi ∧ c' ≤ c + 3 ∧ e = .returned (.int .i64 x) ∧ Hid (SwO w b N d s c' w') := by
  have hO := uord i j h hc hm (by omega) (by omega) (by omega)
  clear h
  go_enter Try.func61, Try.ntmps61
  go_wp2_with fail
  refine hO.mono ?_
  rintro e w1 ⟨x1, y1, c1, HE1, HXY1, hc1, rfl, H1⟩
  have hO2 := uord y1 k H1.out hc hm (by have := HXY1.out; omega) (by omega) (by omega)
  clear hO H1
  go_wp2_with fail
  refine hO2.mono ?_
  rintro e w2 ⟨x2, y2, c2, HE2, HXY2, hc2, rfl, H2⟩
  have hO3 := uord x1 x2 H2.out hc hm (by have := HXY1.out; omega) (by have := HXY1.out; have := HXY2.out; omega) (by omega)
  clear hO2 H2
  go_wp2_with fail
  refine hO3.mono ?_
  rintro e w3 ⟨x3, y3, c3, HE3, HXY3, hc3, rfl, H3⟩
  clear hO3
  go_wp2
  go_ret
  exact ⟨y3, c3, med_of HE1.out HE2.out HE3.out, by have := HXY1.out; have := HXY2.out; have := HXY3.out; omega, by have := HXY1.out; have := HXY2.out; have := HXY3.out; omega, by omega, rfl, H3⟩
set_option maxHeartbeats 2000000 in
theorem umeda {b N cap s c : Nat} {d : Array Int} {w W : World} (i : Nat) (h : SwO w b N d s c W) (hc : N ≤ cap) (hm : N ≤ 100000) (lo hi : Nat) (hN : hi ≤ N) (hi1 : lo + 1 ≤ i ∧ i + 1 < hi) (hcc : c ≤ 900) :
    Calls Try.prog 60 #[.slice (some ⟨b, 0, none⟩) N cap, .int .i64 i, .pointer (some ⟨s, 0, none⟩)] W fun e w' => ∃ x c' : Nat, Hid (Sort.medianAdjacent Sort.ltInt d i c = (x, c')) ∧ lo ≤ x ∧ x < hi ∧ c' ≤ c + 3 ∧ e = .returned (.int .i64 x) ∧ Hid (SwO w b N d s c' w') := by
  obtain ⟨i0, hi0⟩ : ∃ i0 : Nat, (i : Int) - 1 = (i0 : Int) := ⟨i - 1, by omega⟩
  obtain ⟨i2, hi2⟩ : ∃ i2 : Nat, (i : Int) + 1 = (i2 : Int) := ⟨i + 1, by omega⟩
  have hO := umed i0 i i2 h hc hm lo hi hN (by omega) (by omega) (by omega) hcc
  have hw0 := wrapN (n := i0) (by omega)
  have hw2 := wrapN (n := i2) (by omega)
  have HEq : Hid (Sort.medianAdjacent Sort.ltInt d i c = Sort.median Sort.ltInt d i0 i i2 c) := by
    unfold Hid
    rw [Sort.medianAdjacent, show i - 1 = i0 by omega, show i + 1 = i2 by omega]
  clear h
  go_enter Try.func60, Try.ntmps60
  go_wp2_with fail
  refine hO.mono ?_
  rintro e w1 ⟨x1, c1, HE1, h1, h2, h3, rfl, H3⟩
  clear hO
  go_wp2
  go_ret
  exact ⟨x1, c1, HEq.out.trans HE1.out, h1, h2, h3, rfl, H3⟩
end Go.Proofs.Ytlhhkgjolilpiaa
