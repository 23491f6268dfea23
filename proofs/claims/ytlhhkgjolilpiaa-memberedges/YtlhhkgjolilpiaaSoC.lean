/-
  slices.Sort at uint64, to the element: reverseRange, heapSort.
-/
import Derived.Test.YtlhhkgjolilpiaaSoB
namespace Go.Proofs.Ytlhhkgjolilpiaa
open Go.RowKit
set_option linter.unusedVariables false
set_option maxRecDepth 1000000

theorem rev_go {i j m : Nat} {d : Array Int} (h : i < j) (hm : m = j + 1) : Sort.reverseLoop i (m - 1) d = Sort.reverseLoop (i + 1) (j - 1) (Sort.swp d i j) := by
  subst hm
  rw [Sort.reverseLoop, if_pos (by omega)]
  rfl
theorem rev_end {i m : Nat} (d : Array Int) (h : ¬ i + 1 < m) : Sort.reverseLoop i (m - 1) d = d := by
  rw [Sort.reverseLoop, if_neg (by omega)]
set_option maxHeartbeats 4000000 in
theorem urev {b N cap : Nat} {d : Array Int} {w W : World} (lo hi : Nat) (h : So w b N d W) (hc : N ≤ cap) (hm : N ≤ 100000) (hhi : hi ≤ N) (hlo : lo ≤ N) :
    Calls Try.prog 50 #[.slice (some ⟨b, 0, none⟩) N cap, .int .i64 lo, .int .i64 hi] W fun e w' => e = .returned (.tuple #[]) ∧ So w b N (Sort.reverseRange d lo hi) w' := by
  obtain ⟨R, HRe⟩ : ∃ R, Hid (Sort.reverseRange d lo hi = R) := ⟨_, rfl⟩
  rw [HRe.out]
  have HR0 : Hid (So w b N d W ∧ Sort.reverseLoop lo (hi - 1) d = R) := ⟨h, HRe.out⟩
  clear h HRe
  go_enter Try.func50, Try.ntmps50
  go_wp2_with fail
  go_loopw [6, 7] (fun i j W => ∃ (k m : Nat) (d1 : Array Int), k ≤ lo + hi ∧ m ≤ hi ∧ i = .int .i64 k ∧ j = .int .i64 ((m : Int) - 1) ∧ Hid (So w b N d1 W ∧ Sort.reverseLoop k (m - 1) d1 = R)) (fun i _ _ => lo + hi + 1 - (intOf i).toNat)
  case atStart => exact ⟨lo, hi, d, by omega, by omega, rfl, by go_num, HR0⟩
  case round =>
  obtain ⟨i, m, d1, hi1, hm1, rfl, rfl, HR⟩ := hrel
  rename World => wr
  clear HR0
  by_cases hlt : (i : Int) < (m : Int) - 1
  · obtain ⟨j, hj⟩ : ∃ j : Nat, (m : Int) - 1 = (j : Int) := ⟨m - 1, by omega⟩
    rw [hj] at hlt ⊢
    have HE := hid ((rev_go (i := i) (j := j) (m := m) (d := d1) (by omega) (by omega)).symm.trans HR.out.2)
    obtain ⟨x, Hx⟩ : ∃ x, Hid (d1[i]! = x) := ⟨_, rfl⟩
    obtain ⟨y, Hy⟩ : ∃ y, Hid (d1[j]! = y) := ⟨_, rfl⟩
    have cx := HR.out.1.cell (i := i) (by omega)
    rw [Hx.out] at cx
    have cy := HR.out.1.cell (i := j) (by omega)
    rw [Hy.out] at cy
    have f1 := HR.out.1.frozen i
    have f2 := HR.out.1.frozen j
    have hne : ¬ i = j := by omega
    have hne' : ¬ j = i := by omega
    have HR4 := hid (HR.out.1.swp i j Hx.out Hy.out).drew
    have HR5 := hid (HR.out.1.swp' i j Hx.out Hy.out).drew
    have b1 : (i : Int) < (N : Int) := by omega
    have b2 : (j : Int) < (N : Int) := by omega
    clear HR Hx Hy
    go_wp2_with fail
    go_region
    all_goals
      go_wp2_with fail
      go_round
      case rel => first | exact ⟨i + 1, j, _, by omega, by omega, by go_num, by go_num, ⟨HR4.out, HE.out⟩⟩ | exact ⟨i + 1, j, _, by omega, by omega, by go_num, by go_num, ⟨HR5.out, HE.out⟩⟩
      case measure => simp [intOf]; omega
  · have HE := hid ((rev_end (i := i) (m := m) d1 (by omega)).symm.trans HR.out.2)
    go_wp2
    go_end0
    exact ⟨rfl, by rw [← HE.out]; exact HR.out.1⟩
theorem half_at (n : Nat) : ((n : Int) - 1).tdiv 2 = (((n - 1) / 2 + 1 : Nat) : Int) - 1 := by
  by_cases h : n = 0
  · subst h; decide
  · rw [Int.tdiv_eq_ediv_of_nonneg (by omega)]
    omega
set_option maxHeartbeats 4000000 in
theorem uheap {b N cap : Nat} {d : Array Int} {w W : World} (lo hi : Nat) (h : So w b N d W) (hc : N ≤ cap) (hm : N ≤ 100000) (hhi : hi ≤ N) (hlo : lo ≤ hi) :
    Calls Try.prog 47 #[.slice (some ⟨b, 0, none⟩) N cap, .int .i64 lo, .int .i64 hi] W fun e w' => e = .returned (.tuple #[]) ∧ So w b N (Sort.heapSort Sort.ltInt d lo hi) w' := by
  obtain ⟨R, HRe⟩ : ∃ R, Hid (Sort.heapSort Sort.ltInt d lo hi = R) := ⟨_, rfl⟩
  rw [HRe.out]
  obtain ⟨n, hn⟩ : ∃ n : Nat, (hi : Int) - (lo : Int) = (n : Int) := ⟨hi - lo, by omega⟩
  obtain ⟨R1, HR1⟩ : ∃ R1, Hid (Sort.heapBuild Sort.ltInt n lo ((n - 1) / 2 + 1) d = R1 ∧ Sort.heapPop Sort.ltInt lo n R1 = R) := by
    refine ⟨_, rfl, ?_⟩
    rw [← HRe.out, Sort.heapSort, show hi - lo = n by omega]
  have HR0 : Hid (So w b N d W ∧ Sort.heapBuild Sort.ltInt n lo ((n - 1) / 2 + 1) d = R1) := ⟨h, HR1.out.1⟩
  have HRp : Hid (Sort.heapPop Sort.ltInt lo n R1 = R) := HR1.out.2
  clear HRe HR1
  have HS := hid fun (i m : Nat) (d0 : Array Int) (W : World) (hR : So w b N d0 W) (hmn : m ≤ n) (hi' : i ≤ N) => usift i m lo hR hc hm (by omega) hi'
  have hw0 := wrapN (n := n) (by omega)
  clear h
  go_enter Try.func47, Try.ntmps47
  go_wp2_with fail
  go_loopw [9] (fun i W => ∃ (k : Nat) (d1 : Array Int), k ≤ n + 1 ∧ i = .int .i64 ((k : Int) - 1) ∧ Hid (So w b N d1 W ∧ Sort.heapBuild Sort.ltInt n lo k d1 = R1)) (fun i _ => (intOf i + 1).toNat)
  case atStart => exact ⟨(n - 1) / 2 + 1, d, by omega, by rw [half_at], HR0⟩
  case round =>
  obtain ⟨k, d1, hk, rfl, HR⟩ := hrel
  rename World => wr
  clear HR0
  by_cases hpos : 0 < k
  · obtain ⟨i, hi'⟩ : ∃ i : Nat, (k : Int) - 1 = (i : Int) := ⟨k - 1, by omega⟩
    have q1 : (0 : Int) ≤ (i : Int) := by omega
    have hC := HS.out i n d1 wr HR.out.1 (Nat.le_refl _) (by omega)
    have HE : Hid (Sort.heapBuild Sort.ltInt n lo i (Sort.siftDown Sort.ltInt n lo i d1) = R1) := by
      have e := HR.out.2
      rw [show k = i + 1 by omega, Sort.heapBuild] at e
      exact e
    rw [hi']
    clear HR
    go_wp2_with fail
    refine hC.mono ?_
    rintro e w1 ⟨rfl, hR1⟩
    have HR1 := hid hR1
    clear hC hR1
    go_wp2_with fail
    go_round
    case rel => exact ⟨i, _, by omega, by go_num, ⟨HR1.out, HE.out⟩⟩
    case measure => simp [intOf]
  · obtain ⟨z, hz⟩ : ∃ z : Int, (k : Int) - 1 = z := ⟨_, rfl⟩
    have HE : Hid (Sort.heapPop Sort.ltInt lo n d1 = R) := by
      have e := HR.out.2
      rw [show k = 0 by omega, Sort.heapBuild] at e
      unfold Hid
      rw [e]; exact HRp.out
    have HR' := hid HR.out.1
    rw [hz]
    have q0 : ¬ (0 : Int) ≤ z := by omega
    clear hz hpos hk HR HRp
    clear k
    go_wp2_with fail
    go_loopw [10] (fun i W => ∃ (k : Nat) (d2 : Array Int), k ≤ n ∧ i = .int .i64 ((k : Int) - 1) ∧ Hid (So w b N d2 W ∧ Sort.heapPop Sort.ltInt lo k d2 = R)) (fun i _ => (intOf i + 1).toNat)
    case atStart => exact ⟨n, d1, Nat.le_refl _, by go_num, ⟨HR'.out, HE.out⟩⟩
    case round =>
    obtain ⟨k, d2, hk2, rfl, HR2⟩ := hrel
    rename World => wq
    clear HR' HE
    by_cases hpos2 : 0 < k
    · obtain ⟨i, hi'⟩ : ∃ i : Nat, (k : Int) - 1 = (i : Int) := ⟨k - 1, by omega⟩
      obtain ⟨p, hp⟩ : ∃ p : Nat, (lo : Int) + (i : Int) = (p : Int) := ⟨lo + i, by omega⟩
      have q1 : (0 : Int) ≤ (i : Int) := by omega
      have hv1 := wrapN (n := p) (by omega)
      have b1 : (lo : Int) < (N : Int) := by omega
      have b2 : (p : Int) < (N : Int) := by omega
      have HE : Hid (Sort.heapPop Sort.ltInt lo i (Sort.siftDown Sort.ltInt i lo 0 (Sort.swp d2 lo p)) = R) := by
        have e := HR2.out.2
        rw [show k = i + 1 by omega, Sort.heapPop, show lo + i = p by omega] at e
        exact e
      rw [hi']
      obtain ⟨x, Hx⟩ : ∃ x, Hid (d2[lo]! = x) := ⟨_, rfl⟩
      obtain ⟨y, Hy⟩ : ∃ y, Hid (d2[p]! = y) := ⟨_, rfl⟩
      by_cases he : lo = p
      · subst he
        have cx := HR2.out.1.cell (i := lo) (by omega)
        rw [Hx.out] at cx
        have f1 := HR2.out.1.frozen lo
        have HR4 := hid (HR2.out.1.swp lo lo Hx.out Hx.out).drew
        have HC := hid fun (d0 : Array Int) (W : World) (hR : So w b N d0 W) => HS.out 0 i d0 W hR (by omega) (by omega)
        clear HR2 HS hv1 Hx Hy
        have hv1 := wrapN (n := lo) (by omega)
        go_wp2_with fail
        go_region
        all_goals
          go_wp2_with fail
          refine (HC.out _ _ (by first | exact HR4.out | simpa using HR4.out)).mono ?_
          rintro e w1 ⟨rfl, hR1⟩
          have HR8 := hid hR1
          clear hR1
          go_wp2_with fail
          go_round
          case rel => exact ⟨i, _, by omega, by go_num, ⟨HR8.out, HE.out⟩⟩
          case measure => simp [intOf]
      ·
        have cx := HR2.out.1.cell (i := lo) (by omega)
        rw [Hx.out] at cx
        have cy := HR2.out.1.cell (i := p) (by omega)
        rw [Hy.out] at cy
        have f1 := HR2.out.1.frozen lo
        have f2 := HR2.out.1.frozen p
        have hne : ¬ lo = p := he
        have hne' : ¬ p = lo := fun e => he e.symm
        have HR4 := hid (HR2.out.1.swp lo p Hx.out Hy.out).drew
        have HR5 := hid (HR2.out.1.swp' lo p Hx.out Hy.out).drew
        have HC := hid fun (d0 : Array Int) (W : World) (hR : So w b N d0 W) => HS.out 0 i d0 W hR (by omega) (by omega)
        clear HR2 HS Hx Hy
        go_wp2_with fail
        go_region
        all_goals
          go_wp2_with fail
          refine (HC.out _ _ (by first | exact HR4.out | exact HR5.out)).mono ?_
          rintro e w1 ⟨rfl, hR1⟩
          have HR8 := hid hR1
          clear hR1
          go_wp2_with fail
          go_round
          case rel => exact ⟨i, _, by omega, by go_num, ⟨HR8.out, HE.out⟩⟩
          case measure => simp [intOf]
    · obtain rfl : k = 0 := by omega
      have HE : Hid (d2 = R) := HR2.out.2
      go_wp2_with fail
      go_end0
      exact ⟨rfl, by rw [← HE.out]; exact HR2.out.1⟩
end Go.Proofs.Ytlhhkgjolilpiaa
