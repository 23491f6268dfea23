/-
  The texts SoC, SoD, SoE of this proof.
-/
import Derived.Test.YtjgggialnegddaaGreatPq43
set_option linter.unusedVariables false
set_option maxRecDepth 1000000
namespace Go.Proofs.YtjgggialnegddaaGreat
open Go.RowKit
theorem rev_go {i j m : Nat} {d : Array Int} (h : i < j) (hm : m = j + 1) : Sort.reverseLoop i (m - 1) d = Sort.reverseLoop (i + 1) (j - 1) (Sort.swp d i j) := by
 subst hm
 rw [Sort.reverseLoop, if_pos (by omega)]
 rfl
theorem rev_end {i m : Nat} (d : Array Int) (h : ¬ i + 1 < m) : Sort.reverseLoop i (m - 1) d = d := by
 rw [Sort.reverseLoop, if_neg (by omega)]
set_option maxHeartbeats 4000000 in
theorem urev {b N cap : Nat} {d : Array Int} {w W : World} (lo hi : Nat) (h : So w b N d W) (hc : N ≤ cap) (hm : N ≤ 100000) (hhi : hi ≤ N) (hlo : lo ≤ N) :
  Calls Tryz.prog 123 #[.slice (some ⟨b, 0, none⟩) N cap, .int .i64 lo, .int .i64 hi] W fun e w' => e = .returned (.tuple #[]) ∧ So w b N (Sort.reverseRange d lo hi) w' := by
 obtain ⟨R, HRe⟩ : ∃ R, Hid (Sort.reverseRange d lo hi = R) := ⟨_, rfl⟩
 rw [HRe.out]
 have HR0 : Hid (So w b N d W ∧ Sort.reverseLoop lo (hi - 1) d = R) := ⟨h, HRe.out⟩
 clear h HRe
 go_enter Tryz.func123, Tryz.ntmps123
 go_wp2_with fail
 go_loopw [6, 7] (fun i j W => ∃ (k m : Nat) (d1 : Array Int), k ≤ lo + hi ∧ m ≤ hi ∧ i = .int .i64 k ∧ j = .int .i64 ((m : Int) - 1) ∧ Hid (So w b N d1 W ∧ Sort.reverseLoop k (m - 1) d1 = R)) (fun i _ _ => lo + hi + 1 - (intOf i).toNat)
 case atStart => exact ⟨lo, hi, d, by omega, by omega, rfl, by go_num, HR0⟩
 case round =>
 obtain ⟨i, m, d1, hi1, hm1, rfl, rfl, HR⟩ := hrel
 rename World => wr
 clear HR0
 by_cases hlt : (i : Int) < (m : Int) - 1
 ·obtain ⟨j, hj⟩ : ∃ j : Nat, (m : Int) - 1 = (j : Int) := ⟨m - 1, by omega⟩
  rw [hj] at hlt ⊢
  have HE := hid ((rev_go (i := i) (j := j) (m := m) (d := d1) (by omega) (by omega)).symm.trans HR.out.2)
  obtain ⟨x, Hx⟩ : ∃ x, Hid (d1[i]! = x) := ⟨_, rfl⟩
  obtain ⟨y, Hy⟩ : ∃ y, Hid (d1[j]! = y) := ⟨_, rfl⟩
  have cx := HR.out.1.cell (i := i) (by omega)
  rw [Hx.out] at cx
  have cy := HR.out.1.cell (i := j) (by omega)
  rw [Hy.out] at cy
  have f1 := HR.out.1.frozen i
  have f2 := HR.out.1.frozen j
  have hne : ¬ i = j := by omega
  have hne' : ¬ j = i := by omega
  have HR4 := hid (HR.out.1.swp i j Hx.out Hy.out).drew
  have HR5 := hid (HR.out.1.swp' i j Hx.out Hy.out).drew
  have b1 : (i : Int) < (N : Int) := by omega
  have b2 : (j : Int) < (N : Int) := by omega
  clear HR Hx Hy
  go_wp2_with fail
  go_region
  all_goals
   go_wp2_with fail
   go_round
   case rel => first | exact ⟨i + 1, j, _, by omega, by omega, by go_num, by go_num, ⟨HR4.out, HE.out⟩⟩ | exact ⟨i + 1, j, _, by omega, by omega, by go_num, by go_num, ⟨HR5.out, HE.out⟩⟩
   case measure => simp [intOf]; omega
 ·have HE := hid ((rev_end (i := i) (m := m) d1 (by omega)).symm.trans HR.out.2)
  go_wp2
  go_end0
  exact ⟨rfl, by rw [← HE.out]; exact HR.out.1⟩
theorem half_at (n : Nat) : ((n : Int) - 1).tdiv 2 = (((n - 1) / 2 + 1 : Nat) : Int) - 1 := by
 by_cases h : n = 0
 ·subst h; decide
 ·rw [Int.tdiv_eq_ediv_of_nonneg (by omega)]
  omega
set_option maxHeartbeats 4000000 in
theorem uheap {b N cap : Nat} {d : Array Int} {w W : World} (lo hi : Nat) (h : So w b N d W) (hc : N ≤ cap) (hm : N ≤ 100000) (hhi : hi ≤ N) (hlo : lo ≤ hi) :
  Calls Tryz.prog 120 #[.slice (some ⟨b, 0, none⟩) N cap, .int .i64 lo, .int .i64 hi] W fun e w' => e = .returned (.tuple #[]) ∧ So w b N (Sort.heapSort Sort.ltInt d lo hi) w' := by
 obtain ⟨R, HRe⟩ : ∃ R, Hid (Sort.heapSort Sort.ltInt d lo hi = R) := ⟨_, rfl⟩
 rw [HRe.out]
 obtain ⟨n, hn⟩ : ∃ n : Nat, (hi : Int) - (lo : Int) = (n : Int) := ⟨hi - lo, by omega⟩
 obtain ⟨R1, HR1⟩ : ∃ R1, Hid (Sort.heapBuild Sort.ltInt n lo ((n - 1) / 2 + 1) d = R1 ∧ Sort.heapPop Sort.ltInt lo n R1 = R) := by
  refine ⟨_, rfl, ?_⟩
  rw [← HRe.out, Sort.heapSort, show hi - lo = n by omega]
 have HR0 : Hid (So w b N d W ∧ Sort.heapBuild Sort.ltInt n lo ((n - 1) / 2 + 1) d = R1) := ⟨h, HR1.out.1⟩
 have HRp : Hid (Sort.heapPop Sort.ltInt lo n R1 = R) := HR1.out.2
 clear HRe HR1
 have HS := hid fun (i m : Nat) (d0 : Array Int) (W : World) (hR : So w b N d0 W) (hmn : m ≤ n) (hi' : i ≤ N) => usift i m lo hR hc hm (by omega) hi'
 have hw0 := wrapN (n := n) (by omega)
 clear h
 go_enter Tryz.func120, Tryz.ntmps120
 go_wp2_with fail
 go_loopw [9] (fun i W => ∃ (k : Nat) (d1 : Array Int), k ≤ n + 1 ∧ i = .int .i64 ((k : Int) - 1) ∧ Hid (So w b N d1 W ∧ Sort.heapBuild Sort.ltInt n lo k d1 = R1)) (fun i _ => (intOf i + 1).toNat)
 case atStart => exact ⟨(n - 1) / 2 + 1, d, by omega, by rw [half_at], HR0⟩
 case round =>
 obtain ⟨k, d1, hk, rfl, HR⟩ := hrel
 rename World => wr
 clear HR0
 by_cases hpos : 0 < k
 ·obtain ⟨i, hi'⟩ : ∃ i : Nat, (k : Int) - 1 = (i : Int) := ⟨k - 1, by omega⟩
  have q1 : (0 : Int) ≤ (i : Int) := by omega
  have hC := HS.out i n d1 wr HR.out.1 (Nat.le_refl _) (by omega)
  have HE : Hid (Sort.heapBuild Sort.ltInt n lo i (Sort.siftDown Sort.ltInt n lo i d1) = R1) := by
   have e := HR.out.2
   rw [show k = i + 1 by omega, Sort.heapBuild] at e
   exact e
  rw [hi']
  clear HR
  go_wp2_with fail
  refine hC.mono ?_
  rintro e w1 ⟨rfl, hR1⟩
  have HR1 := hid hR1
  clear hC hR1
  go_wp2_with fail
  go_round
  case rel => exact ⟨i, _, by omega, by go_num, ⟨HR1.out, HE.out⟩⟩
  case measure => simp [intOf]
 ·obtain ⟨z, hz⟩ : ∃ z : Int, (k : Int) - 1 = z := ⟨_, rfl⟩
  have HE : Hid (Sort.heapPop Sort.ltInt lo n d1 = R) := by
   have e := HR.out.2
   rw [show k = 0 by omega, Sort.heapBuild] at e
   unfold Hid
   rw [e]; exact HRp.out
  have HR' := hid HR.out.1
  rw [hz]
  have q0 : ¬ (0 : Int) ≤ z := by omega
  clear hz hpos hk HR HRp
  clear k
  go_wp2_with fail
  go_loopw [10] (fun i W => ∃ (k : Nat) (d2 : Array Int), k ≤ n ∧ i = .int .i64 ((k : Int) - 1) ∧ Hid (So w b N d2 W ∧ Sort.heapPop Sort.ltInt lo k d2 = R)) (fun i _ => (intOf i + 1).toNat)
  case atStart => exact ⟨n, d1, Nat.le_refl _, by go_num, ⟨HR'.out, HE.out⟩⟩
  case round =>
  obtain ⟨k, d2, hk2, rfl, HR2⟩ := hrel
  rename World => wq
  clear HR' HE
  by_cases hpos2 : 0 < k
  ·obtain ⟨i, hi'⟩ : ∃ i : Nat, (k : Int) - 1 = (i : Int) := ⟨k - 1, by omega⟩
   obtain ⟨p, hp⟩ : ∃ p : Nat, (lo : Int) + (i : Int) = (p : Int) := ⟨lo + i, by omega⟩
   have q1 : (0 : Int) ≤ (i : Int) := by omega
   have hv1 := wrapN (n := p) (by omega)
   have b1 : (lo : Int) < (N : Int) := by omega
   have b2 : (p : Int) < (N : Int) := by omega
   have HE : Hid (Sort.heapPop Sort.ltInt lo i (Sort.siftDown Sort.ltInt i lo 0 (Sort.swp d2 lo p)) = R) := by
    have e := HR2.out.2
    rw [show k = i + 1 by omega, Sort.heapPop, show lo + i = p by omega] at e
    exact e
   rw [hi']
   obtain ⟨x, Hx⟩ : ∃ x, Hid (d2[lo]! = x) := ⟨_, rfl⟩
   obtain ⟨y, Hy⟩ : ∃ y, Hid (d2[p]! = y) := ⟨_, rfl⟩
   by_cases he : lo = p
   ·subst he
    have cx := HR2.out.1.cell (i := lo) (by omega)
    rw [Hx.out] at cx
    have f1 := HR2.out.1.frozen lo
    have HR4 := hid (HR2.out.1.swp lo lo Hx.out Hx.out).drew
    have HC := hid fun (d0 : Array Int) (W : World) (hR : So w b N d0 W) => HS.out 0 i d0 W hR (by omega) (by omega)
    clear HR2 HS hv1 Hx Hy
    have hv1 := wrapN (n := lo) (by omega)
    go_wp2_with fail
    go_region
    all_goals
     go_wp2_with fail
     refine (HC.out _ _ (by first | exact HR4.out | simpa using HR4.out)).mono ?_
     rintro e w1 ⟨rfl, hR1⟩
     have HR8 := hid hR1
     clear hR1
     go_wp2_with fail
     go_round
     case rel => exact ⟨i, _, by omega, by go_num, ⟨HR8.out, HE.out⟩⟩
     case measure => simp [intOf]
   ·
    have cx := HR2.out.1.cell (i := lo) (by omega)
    rw [Hx.out] at cx
    have cy := HR2.out.1.cell (i := p) (by omega)
    rw [Hy.out] at cy
    have f1 := HR2.out.1.frozen lo
    have f2 := HR2.out.1.frozen p
    have hne : ¬ lo = p := he
    have hne' : ¬ p = lo := fun e => he e.symm
    have HR4 := hid (HR2.out.1.swp lo p Hx.out Hy.out).drew
    have HR5 := hid (HR2.out.1.swp' lo p Hx.out Hy.out).drew
    have HC := hid fun (d0 : Array Int) (W : World) (hR : So w b N d0 W) => HS.out 0 i d0 W hR (by omega) (by omega)
    clear HR2 HS Hx Hy
    go_wp2_with fail
    go_region
    all_goals
     go_wp2_with fail
     refine (HC.out _ _ (by first | exact HR4.out | exact HR5.out)).mono ?_
     rintro e w1 ⟨rfl, hR1⟩
     have HR8 := hid hR1
     clear hR1
     go_wp2_with fail
     go_round
     case rel => exact ⟨i, _, by omega, by go_num, ⟨HR8.out, HE.out⟩⟩
     case measure => simp [intOf]
  ·obtain rfl : k = 0 := by omega
   have HE : Hid (d2 = R) := HR2.out.2
   go_wp2_with fail
   go_end0
   exact ⟨rfl, by rw [← HE.out]; exact HR2.out.1⟩
end Go.Proofs.YtjgggialnegddaaGreat
namespace Go.Proofs.YtjgggialnegddaaGreat
open Go.RowKit
def SwAt (W : World) (s c : Nat) : Prop := W.heap[s]? = some (.cells #[.int .i64 c] 3 (0, 0))
def SwO (w : World) (b N : Nat) (d : Array Int) (s c : Nat) (W : World) : Prop := (d.size = N ∧ Ra W b d) ∧ SwAt W s c ∧ Fb (at1 s) w W
theorem SwO.cell {w W : World} {b N s c : Nat} {d : Array Int} (h : SwO w b N d s c W) {i : Nat} (hi : i < N) : W.cell? ⟨b, i, none⟩ = some (.int .u64 d[i]!) := h.1.2.cell (by rw [h.1.1]; exact hi)
theorem SwO.ne {W : World} {b : Nat} {d : Array Int} {s c : Nat} (h : Ra W b d) (h2 : SwAt W s c) : b ≠ s := fun e => by
 obtain ⟨cur, h1, _⟩ := h
 unfold SwAt at h2
 rw [← e, h1] at h2
 simp at h2
theorem SwO.turn {w W : World} {b N : Nat} {d : Array Int} {s c : Nat} (h : SwO w b N d s c W) (x : Nat) : SwO w b N d s x (W.setCell ⟨s, 0, none⟩ (.int .i64 x)) := by
 obtain ⟨⟨h0, h1⟩, h3, h4⟩ := h
 have hb : Fb (at1 s) W (W.setCell ⟨s, 0, none⟩ (.int .i64 x)) := Fb.set (by exact rfl) _
 refine ⟨⟨h0, h1.same (hb.block b ?_ fun e => SwO.ne h1 h3 e)⟩, row_set (k := 0) (u := .int .i64 x) h3, h4.trans hb fun k hk => .inl hk⟩
 obtain ⟨cur, h, _⟩ := h1
 exact lt_of_block h
theorem SwO.drewN {w W : World} {b N : Nat} {d : Array Int} {s c : Nat} (h : SwO w b N d s c W) (q : Nat) : SwO w b N d s c (W.drewN q) := ⟨h.1, h.2.1, h.2.2.below ⟨rfl, rfl, rfl, Nat.le_refl _, fun _ _ => rfl⟩⟩
set_option maxHeartbeats 2000000 in
theorem uord {b N cap s c : Nat} {d : Array Int} {w W : World} (i j : Nat) (h : SwO w b N d s c W) (hc : N ≤ cap) (hm : N ≤ 100000) (hi : i < N) (hj : j < N) (hcc : c ≤ 1000) :
  Calls Tryz.prog 187 #[.slice (some ⟨b, 0, none⟩) N cap, .int .i64 i, .int .i64 j, .pointer (some ⟨s, 0, none⟩)] W fun e w' => ∃ x y c' : Nat, Hid (Sort.order2 Sort.ltInt d i j c = (x, y, c')) ∧ Hid (x = i ∧ y = j ∨ x = j ∧ y = i) ∧ c' ≤ c + 1 ∧ e = .returned (.tuple #[.int .i64 x, .int .i64 y]) ∧ Hid (SwO w b N d s c' w') := by
 obtain ⟨x3, Hx3⟩ : ∃ x, Hid (d[j]! = x) := ⟨_, rfl⟩
 obtain ⟨y3, Hy3⟩ : ∃ x, Hid (d[i]! = x) := ⟨_, rfl⟩
 have cx3 := h.cell (i := j) hj
 have cy3 := h.cell (i := i) hi
 rw [Hx3.out] at cx3
 rw [Hy3.out] at cy3
 have b1 : (i : Int) < (N : Int) := by omega
 have b2 : (j : Int) < (N : Int) := by omega
 have HR := hid h
 clear h
 go_enter Tryz.func187, Tryz.ntmps187
 go_wp2_with fail
 go_quiet ((go_at_call 125; exact Calls.quiet_of_same ((uless_any x3 y3 _).mono fun e w' h => ⟨h.1, h.2.symm⟩)))
 have HR1 := hid (HR.out.drewN nq)
 clear HR cx3 cy3
 generalize W.drewN nq = w1 at *
 by_cases hxy : x3 < y3
 ·rw [decide_eq_true hxy]
  have hsw := HR1.out.2.1
  have cs : w1.cell? ⟨s, 0, none⟩ = some (.int .i64 (c : Int)) := by rw [cell_of_row _ _ _ _ _ _ hsw]; rfl
  have fs : w1.frozen? ⟨s, 0, none⟩ = false := frozen_of_row _ _ 0 _ _ hsw
  obtain ⟨c1, hc1⟩ : ∃ c1 : Nat, (c : Int) + 1 = (c1 : Int) := ⟨c + 1, by omega⟩
  have hw1 := wrapN (n := c1) (by omega)
  have HR2 := hid (HR1.out.turn c1)
  have HE : Hid (Sort.order2 Sort.ltInt d i j c = (j, i, c1)) := by
   unfold Hid
   rw [Sort.order2, if_pos (by rw [Hx3.out, Hy3.out]; simpa [Sort.ltInt] using hxy), show c1 = c + 1 by omega]
  clear HR1 hsw
  go_wp2
  go_ret2
  exact ⟨j, i, c1, HE, .inr ⟨rfl, rfl⟩, by omega, rfl, HR2⟩
 ·rw [decide_eq_false hxy]
  have HE : Hid (Sort.order2 Sort.ltInt d i j c = (i, j, c)) := by
   unfold Hid
   rw [Sort.order2, if_neg (by rw [Hx3.out, Hy3.out]; simpa [Sort.ltInt] using hxy)]
  go_wp2
  go_ret2
  exact ⟨i, j, c, HE, .inl ⟨rfl, rfl⟩, by omega, rfl, HR1⟩
theorem med_of {d : Array Int} {i j k c x1 y1 c1 x2 y2 c2 x3 y3 c3 : Nat} (h1 : Sort.order2 Sort.ltInt d i j c = (x1, y1, c1)) (h2 : Sort.order2 Sort.ltInt d y1 k c1 = (x2, y2, c2)) (h3 : Sort.order2 Sort.ltInt d x1 x2 c2 = (x3, y3, c3)) : Sort.median Sort.ltInt d i j k c = (y3, c3) := by
 simp only [Sort.median, h1, h2, h3]
set_option maxHeartbeats 2000000 in
theorem umed {b N cap s c : Nat} {d : Array Int} {w W : World} (i j k : Nat) (h : SwO w b N d s c W) (hc : N ≤ cap) (hm : N ≤ 100000) (lo hi : Nat) (hN : hi ≤ N) (hi1 : lo ≤ i ∧ i < hi) (hj1 : lo ≤ j ∧ j < hi) (hk1 : lo ≤ k ∧ k < hi) (hcc : c ≤ 900) :
  Calls Tryz.prog 168 #[.slice (some ⟨b, 0, none⟩) N cap, .int .i64 i, .int .i64 j, .int .i64 k, .pointer (some ⟨s, 0, none⟩)] W fun e w' => ∃ x c' : Nat, Hid (Sort.median Sort.ltInt d i j k c = (x, c')) ∧ lo ≤ x ∧ x < hi ∧ c' ≤ c + 3 ∧ e = .returned (.int .i64 x) ∧ Hid (SwO w b N d s c' w') := by
 have hO := uord i j h hc hm (by omega) (by omega) (by omega)
 clear h
 go_enter Tryz.func168, Tryz.ntmps168
 go_wp2_with fail
 refine hO.mono ?_
 rintro e w1 ⟨x1, y1, c1, HE1, HXY1, hc1, rfl, H1⟩
 have hO2 := uord y1 k H1.out hc hm (by have := HXY1.out; omega) (by omega) (by omega)
 clear hO H1
 go_wp2_with fail
 refine hO2.mono ?_
 rintro e w2 ⟨x2, y2, c2, HE2, HXY2, hc2, rfl, H2⟩
 have hO3 := uord x1 x2 H2.out hc hm (by have := HXY1.out; omega) (by have := HXY1.out; have := HXY2.out; omega) (by omega)
 clear hO2 H2
 go_wp2_with fail
 refine hO3.mono ?_
 rintro e w3 ⟨x3, y3, c3, HE3, HXY3, hc3, rfl, H3⟩
 clear hO3
 go_wp2
 go_ret
 exact ⟨y3, c3, med_of HE1.out HE2.out HE3.out, by have := HXY1.out; have := HXY2.out; have := HXY3.out; omega, by have := HXY1.out; have := HXY2.out; have := HXY3.out; omega, by omega, rfl, H3⟩
set_option maxHeartbeats 2000000 in
theorem umeda {b N cap s c : Nat} {d : Array Int} {w W : World} (i : Nat) (h : SwO w b N d s c W) (hc : N ≤ cap) (hm : N ≤ 100000) (lo hi : Nat) (hN : hi ≤ N) (hi1 : lo + 1 ≤ i ∧ i + 1 < hi) (hcc : c ≤ 900) :
  Calls Tryz.prog 167 #[.slice (some ⟨b, 0, none⟩) N cap, .int .i64 i, .pointer (some ⟨s, 0, none⟩)] W fun e w' => ∃ x c' : Nat, Hid (Sort.medianAdjacent Sort.ltInt d i c = (x, c')) ∧ lo ≤ x ∧ x < hi ∧ c' ≤ c + 3 ∧ e = .returned (.int .i64 x) ∧ Hid (SwO w b N d s c' w') := by
 obtain ⟨i0, hi0⟩ : ∃ i0 : Nat, (i : Int) - 1 = (i0 : Int) := ⟨i - 1, by omega⟩
 obtain ⟨i2, hi2⟩ : ∃ i2 : Nat, (i : Int) + 1 = (i2 : Int) := ⟨i + 1, by omega⟩
 have hO := umed i0 i i2 h hc hm lo hi hN (by omega) (by omega) (by omega) hcc
 have hw0 := wrapN (n := i0) (by omega)
 have hw2 := wrapN (n := i2) (by omega)
 have HEq : Hid (Sort.medianAdjacent Sort.ltInt d i c = Sort.median Sort.ltInt d i0 i i2 c) := by
  unfold Hid
  rw [Sort.medianAdjacent, show i - 1 = i0 by omega, show i + 1 = i2 by omega]
 clear h
 go_enter Tryz.func167, Tryz.ntmps167
 go_wp2_with fail
 refine hO.mono ?_
 rintro e w1 ⟨x1, c1, HE1, h1, h2, h3, rfl, H3⟩
 clear hO
 go_wp2
 go_ret
 exact ⟨x1, c1, HEq.out.trans HE1.out, h1, h2, h3, rfl, H3⟩
end Go.Proofs.YtjgggialnegddaaGreat
namespace Go.Proofs.YtjgggialnegddaaGreat
open Go.RowKit
def hintOf (t : Int) : Sort.Hint := if t = 1 then .increasing else if t = 2 then .decreasing else .unknown
theorem piv_50 {d : Array Int} {lo hi n q i j k i2 c1 j2 c2 k2 c3 p c4 : Nat} (hn : hi - lo = n) (hq : n / 4 = q) (hi' : i = lo + q) (hj : j = lo + q * 2) (hk : k = lo + q * 3) (h50 : 50 ≤ n)
  (m1 : Sort.medianAdjacent Sort.ltInt d i 0 = (i2, c1)) (m2 : Sort.medianAdjacent Sort.ltInt d j c1 = (j2, c2)) (m3 : Sort.medianAdjacent Sort.ltInt d k c2 = (k2, c3)) (m4 : Sort.median Sort.ltInt d i2 j2 k2 c3 = (p, c4)) :
  Sort.choosePivot Sort.ltInt d lo hi = (p, if c4 = 0 then .increasing else if c4 = 12 then .decreasing else .unknown) := by
 subst hn hq hi' hj hk
 simp only [Sort.choosePivot, Nat.mul_one, ge_iff_le, if_pos h50, if_pos (show 8 ≤ hi - lo by omega), m1, m2, m3, m4]
theorem piv_8 {d : Array Int} {lo hi n q i j k p c4 : Nat} (hn : hi - lo = n) (hq : n / 4 = q) (hi' : i = lo + q) (hj : j = lo + q * 2) (hk : k = lo + q * 3) (h50 : ¬ 50 ≤ n) (h8 : 8 ≤ n)
  (m4 : Sort.median Sort.ltInt d i j k 0 = (p, c4)) :
  Sort.choosePivot Sort.ltInt d lo hi = (p, if c4 = 0 then .increasing else if c4 = 12 then .decreasing else .unknown) := by
 subst hn hq hi' hj hk
 simp only [Sort.choosePivot, Nat.mul_one, ge_iff_le, if_neg h50, if_pos h8, m4]
set_option maxHeartbeats 4000000 in
theorem upiv {b N cap : Nat} {d : Array Int} {w0 w : World} (lo hi : Nat) (h0 : So w0 b N d w) (hc : N ≤ cap) (hm : N ≤ 100000) (hhi : hi ≤ N) (h8 : lo + 8 ≤ hi) :
  Calls Tryz.prog 122 #[.slice (some ⟨b, 0, none⟩) N cap, .int .i64 lo, .int .i64 hi] w fun e w' => ∃ (p : Nat) (t : Int), lo ≤ p ∧ p < hi ∧ Hid (t = 0 ∨ t = 1 ∨ t = 2) ∧ Hid (Sort.choosePivot Sort.ltInt d lo hi = (p, hintOf t)) ∧ e = .returned (.tuple #[.int .i64 p, .int .i64 t]) ∧ Hid (So w0 b N d w') := by
 obtain ⟨wA, hwA⟩ : ∃ wA, wA = w.alloc (.cells #[.int .i64 0] 3) := ⟨_, rfl⟩
 have hbA : Below w.heap.size w wA := by rw [hwA]; exact (Below.refl _ _).alloc (Nat.le_refl _) _
 have hA : wA.heap[w.heap.size]? = some (.cells #[.int .i64 0] 3 (0, 0)) := by rw [hwA]; exact heap_alloc_new w _
 obtain ⟨s, hs⟩ : ∃ s, w.heap.size = s := ⟨_, rfl⟩
 have hlt : b < w.heap.size := by obtain ⟨_, ⟨cur, h1, _⟩, _⟩ := h0; exact lt_of_block h1
 have h1 : SwO wA b N d s 0 wA := ⟨⟨h0.1, h0.2.1.same (hbA.block b hlt)⟩, by unfold SwAt; rw [← hs]; exact hA, Fb.refl _ _⟩
 have HEnd : Hid (∀ (c : Nat) (W : World), SwO wA b N d s c W → So w0 b N d W) := fun c W hW => (h0.below hbA).other hW.2.2 (SwO.ne hW.1.2 hW.2.1) (by rw [← hs]; exact h0.2.2.1.size)
 obtain ⟨n, hn⟩ : ∃ n : Nat, (hi : Int) - (lo : Int) = (n : Int) := ⟨hi - lo, by omega⟩
 obtain ⟨q, hq⟩ : ∃ q : Nat, (n : Int) / 4 = (q : Int) := ⟨n / 4, by omega⟩
 have hq' : (n : Int).tdiv 4 = (q : Int) := by rw [Int.tdiv_eq_ediv_of_nonneg (by omega)]; exact hq
 obtain ⟨q2, hq2⟩ : ∃ q2 : Nat, (q : Int) * 2 = (q2 : Int) := ⟨q * 2, by omega⟩
 obtain ⟨q3, hq3⟩ : ∃ q3 : Nat, (q : Int) * 3 = (q3 : Int) := ⟨q * 3, by omega⟩
 obtain ⟨i, hi1⟩ : ∃ i : Nat, (lo : Int) + (q : Int) = (i : Int) := ⟨lo + q, by omega⟩
 obtain ⟨j, hj1⟩ : ∃ i : Nat, (lo : Int) + (q2 : Int) = (i : Int) := ⟨lo + q2, by omega⟩
 obtain ⟨k, hk1⟩ : ∃ i : Nat, (lo : Int) + (q3 : Int) = (i : Int) := ⟨lo + q3, by omega⟩
 have v1 := wrapN (n := n) (by omega)
 have v2 := wrapN (n := q) (by omega)
 have v3 := wrapN (n := q2) (by omega)
 have v4 := wrapN (n := q3) (by omega)
 have v5 := wrapN (n := i) (by omega)
 have v6 := wrapN (n := j) (by omega)
 have v7 := wrapN (n := k) (by omega)
 have g8 : (8 : Int) ≤ (n : Int) := by omega
 have HI : Hid ((lo ≤ i ∧ i < hi) ∧ (lo ≤ j ∧ j < hi) ∧ (lo ≤ k ∧ k < hi) ∧ (50 ≤ n → (lo + 1 ≤ i ∧ i + 1 < hi) ∧ (lo + 1 ≤ j ∧ j + 1 < hi) ∧ (lo + 1 ≤ k ∧ k + 1 < hi))) := by unfold Hid; omega
 have HN : Hid (hi - lo = n ∧ n / 4 = q ∧ i = lo + q ∧ j = lo + q * 2 ∧ k = lo + q * 3) := by unfold Hid; omega
 have H0 := hid h1
 clear h0 h1 hbA hA hlt
 by_cases h50 : 50 ≤ n
 ·have g50 : (50 : Int) ≤ (n : Int) := by omega
  go_enter Tryz.func122, Tryz.ntmps122
  go_wp2_with fail
  rw [← hwA]
  refine (umeda i H0.out hc hm lo hi hhi (HI.out.2.2.2 h50).1 (by omega)).mono ?_
  rintro e w2 ⟨i2, c1, M1, hi2, hi3, hc1, rfl, H2⟩
  have hM2 := umeda j H2.out hc hm lo hi hhi (HI.out.2.2.2 h50).2.1 (by omega)
  clear H2
  go_wp2_with fail
  refine hM2.mono ?_
  rintro e w3 ⟨j2, c2, M2, hj2, hj3, hc2, rfl, H3⟩
  have hM3 := umeda k H3.out hc hm lo hi hhi (HI.out.2.2.2 h50).2.2 (by omega)
  clear H3 hM2
  go_wp2_with fail
  refine hM3.mono ?_
  rintro e w4 ⟨k2, c3, M3, hk2, hk3, hc3, rfl, H4⟩
  have hM := umed i2 j2 k2 H4.out hc hm lo hi hhi ⟨hi2, hi3⟩ ⟨hj2, hj3⟩ ⟨hk2, hk3⟩ (by omega)
  clear H4 hM3
  go_wp2_with fail
  refine hM.mono ?_
  rintro e w1 ⟨p, c0, M4, hp1, hp2, hc4, rfl, H1⟩
  have hsw := H1.out.2.1
  have HE := hid (piv_50 HN.out.1 HN.out.2.1 HN.out.2.2.1 HN.out.2.2.2.1 HN.out.2.2.2.2 h50 M1.out M2.out M3.out M4.out)
  have HR := hid (HEnd.out _ _ H1.out)
  have cs : w1.cell? ⟨s, 0, none⟩ = some (.int .i64 (c0 : Int)) := by rw [cell_of_row _ _ _ _ _ _ hsw]; rfl
  clear hM H1 hsw H0 HEnd HI M1 M2 M3 M4 HN
  by_cases e0 : (c0 : Int) = 0
  ·rw [e0] at cs
   go_wp2
   go_ret2
   exact ⟨p, 1, hp1, hp2, .inr (.inl rfl), by have h := HE.out; rw [if_pos (by omega)] at h; exact h, rfl, HR⟩
  ·by_cases e12 : (c0 : Int) = 12
   ·rw [e12] at cs
    go_wp2
    go_ret2
    exact ⟨p, 2, hp1, hp2, .inr (.inr rfl), by have h := HE.out; rw [if_neg (by omega), if_pos (by omega)] at h; exact h, rfl, HR⟩
   ·go_wp2
    go_ret2
    exact ⟨p, 0, hp1, hp2, .inl rfl, by have h := HE.out; rw [if_neg (by omega), if_neg (by omega)] at h; exact h, rfl, HR⟩
 ·have g50 : ¬ (50 : Int) ≤ (n : Int) := by omega
  have hM := umed i j k H0.out hc hm lo hi hhi HI.out.1 HI.out.2.1 HI.out.2.2.1 (by omega)
  go_enter Tryz.func122, Tryz.ntmps122
  go_wp2_with fail
  rw [← hwA]
  refine hM.mono ?_
  rintro e w1 ⟨p, c0, M4, hp1, hp2, hc4, rfl, H1⟩
  have hsw := H1.out.2.1
  have HE := hid (piv_8 HN.out.1 HN.out.2.1 HN.out.2.2.1 HN.out.2.2.2.1 HN.out.2.2.2.2 h50 (by omega) M4.out)
  have HR := hid (HEnd.out _ _ H1.out)
  have cs : w1.cell? ⟨s, 0, none⟩ = some (.int .i64 (c0 : Int)) := by rw [cell_of_row _ _ _ _ _ _ hsw]; rfl
  clear hM H1 hsw H0 HEnd HI M4 HN
  by_cases e0 : (c0 : Int) = 0
  ·rw [e0] at cs
   go_wp2
   go_ret2
   exact ⟨p, 1, hp1, hp2, .inr (.inl rfl), by have h := HE.out; rw [if_pos (by omega)] at h; exact h, rfl, HR⟩
  ·by_cases e12 : (c0 : Int) = 12
   ·rw [e12] at cs
    go_wp2
    go_ret2
    exact ⟨p, 2, hp1, hp2, .inr (.inr rfl), by have h := HE.out; rw [if_neg (by omega), if_pos (by omega)] at h; exact h, rfl, HR⟩
   ·go_wp2
    go_ret2
    exact ⟨p, 0, hp1, hp2, .inl rfl, by have h := HE.out; rw [if_neg (by omega), if_neg (by omega)] at h; exact h, rfl, HR⟩
end Go.Proofs.YtjgggialnegddaaGreat
