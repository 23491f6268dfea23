/-
  Mathematics of the weights: they are from 0 to One, and their order is that of what was handed in.
-/
import Derived.Test.YtpllffekebkacaaSofts
import Derived.Deep.QuietTactic
import Derived.BigQuiet
namespace Go.Proofs.Ytpllffekebkacaa
open Go.RowKit
set_option linter.unusedVariables false
set_option maxRecDepth 1000000

theorem div_zero : divZ 0 0 = 0 := by decide
theorem div_val {p S : Int} (p0 : 0 ≤ p) (hp : p ≤ S) (hS : S ≤ 2147483647) (h0 : 0 < S) : divZ p S = p * 65536 / S ∧ 0 ≤ p * 65536 / S ∧ p * 65536 / S ≤ 65536 := by
  have e1 : wi S = S := wi_in (by omega) hS
  have e2 : wi p = p := wi_in (by omega) (by omega)
  have b0 : 0 ≤ p * 65536 / S := Int.ediv_nonneg (by omega) (by omega)
  have b1 : p * 65536 / S ≤ 65536 := by
    have h : p * 65536 / S ≤ S * 65536 / S := Int.ediv_le_ediv h0 (by omega)
    rw [Int.mul_comm S 65536, Int.mul_ediv_cancel _ (by omega)] at h
    exact h
  refine ⟨?_, b0, b1⟩
  unfold divZ byZ
  rw [e1, e2, if_neg (by omega), if_neg (by omega), wi_in (by omega) (by omega)]
theorem div_bd {p S : Int} (p0 : 0 ≤ p) (hp : p ≤ S) (hS : S ≤ 2147483647) : 0 ≤ divZ p S ∧ divZ p S ≤ 65536 := by
  by_cases h0 : 0 < S
  · obtain ⟨e, b⟩ := div_val p0 hp hS h0
    rw [e]; exact b
  · obtain rfl : p = 0 := by omega
    obtain rfl : S = 0 := by omega
    rw [div_zero]; omega
theorem div_le {p q S : Int} (p0 : 0 ≤ p) (hpq : p ≤ q) (hq : q ≤ S) (hS : S ≤ 2147483647) : divZ p S ≤ divZ q S := by
  by_cases h0 : 0 < S
  · rw [(div_val p0 (by omega) hS h0).1, (div_val (by omega) hq hS h0).1]
    exact Int.ediv_le_ediv h0 (by omega)
  · obtain rfl : p = 0 := by omega
    obtain rfl : q = 0 := by omega
    exact Int.le_refl _
theorem addZ_pos {s p : Int} (s0 : 0 ≤ s) (s1 : s ≤ 2147483647) (p0 : 0 ≤ p) (p1 : p ≤ 2147483647) : s ≤ addZ s p ∧ p ≤ addZ s p ∧ addZ s p ≤ 2147483647 := by
  unfold addZ
  rw [wi_in (by omega) s1, wi_in (by omega) p1]
  refine ⟨?_, ?_, wi_1 _⟩
  · have := wi_le (show s ≤ s + p by omega)
    rwa [wi_in (n := s) (by omega) s1] at this
  · have := wi_le (show p ≤ s + p by omega)
    rwa [wi_in (n := p) (by omega) p1] at this
/-- Each is from 0 to the upper bound. -/
def Pos (ps : List Int) : Prop := ∀ i : Nat, 0 ≤ ps[i]?.getD 0 ∧ ps[i]?.getD 0 ≤ 2147483647
theorem sumK_bd {ps : List Int} (h : Pos ps) (k : Nat) : 0 ≤ sumK ps k ∧ sumK ps k ≤ 2147483647 := by
  induction k with
  | zero => simp [sumK]
  | succ k ih =>
    have := addZ_pos ih.1 ih.2 (h k).1 (h k).2
    simp only [sumK]
    omega
theorem sumK_ge {ps : List Int} (h : Pos ps) (k : Nat) : ∀ i, i < k → ps[i]?.getD 0 ≤ sumK ps k := by
  induction k with
  | zero => intro i hi; omega
  | succ k ih =>
    intro i hi
    have b := sumK_bd h k
    have := addZ_pos b.1 b.2 (h k).1 (h k).2
    simp only [sumK]
    rcases (by omega : i < k ∨ i = k) with h1 | rfl
    · have := ih i h1; omega
    · omega
theorem powL_pos (zs : List Int) : Pos (powL zs) := by
  intro i
  rcases Nat.lt_or_ge i zs.length with h | h
  · unfold powL
    rw [List.getElem?_map, List.getElem?_eq_getElem h]
    exact expZ_bd _
  · rw [List.getElem?_eq_none (by rw [powL_len]; exact h)]
    simp
theorem softL_at {zs : List Int} {i : Nat} (h : i < zs.length) : (softL zs)[i]?.getD 0 = divZ ((powL zs)[i]?.getD 0) (sumK (powL zs) zs.length) := by
  unfold softL
  rw [List.getElem?_map, List.getElem?_eq_getElem (by rw [powL_len]; exact h)]
  rfl
theorem softL_bd (zs : List Int) (i : Nat) : 0 ≤ (softL zs)[i]?.getD 0 ∧ (softL zs)[i]?.getD 0 ≤ 65536 := by
  rcases Nat.lt_or_ge i zs.length with h | h
  · rw [softL_at h]
    exact div_bd (powL_pos zs i).1 (sumK_ge (powL_pos zs) _ i h) (sumK_bd (powL_pos zs) _).2
  · rw [List.getElem?_eq_none (by unfold softL; rw [List.length_map, powL_len]; exact h)]
    simp
theorem addZ_le {a b c : Int} (h : wi a ≤ wi b) : addZ a c ≤ addZ b c := by unfold addZ; exact wi_le (by omega)
theorem powL_at {zs : List Int} {i : Nat} (h : i < zs.length) : (powL zs)[i]?.getD 0 = expZ (addZ (zs[i]?.getD 0) (-(greatK zs zs.length))) := by
  unfold powL
  rw [List.getElem?_map, List.getElem?_eq_getElem h]
  rfl
theorem softL_le {zs : List Int} {i j : Nat} (hi : i < zs.length) (hj : j < zs.length) (h : wi (zs[i]?.getD 0) ≤ wi (zs[j]?.getD 0)) : (softL zs)[i]?.getD 0 ≤ (softL zs)[j]?.getD 0 := by
  rw [softL_at hi, softL_at hj]
  refine div_le (powL_pos zs i).1 ?_ (sumK_ge (powL_pos zs) _ j hj) (sumK_bd (powL_pos zs) _).2
  rw [powL_at hi, powL_at hj]
  exact expZ_le (addZ_le h)
end Go.Proofs.Ytpllffekebkacaa
