/-
  Mathematics of permutations: the numbers in order (idxL), two places changed (swapL), all places from one down to the second (finL), the permutation (permL): it has as many places, each number is one of them, and no two places have one; which numbers were met among the first k (metL).
-/
import Derived.Test.YtfnbkmhhiflkjaaMath
namespace Go.Proofs.Ytfnbkmhhiflkjaa
open Go.RowKit
set_option linter.unusedVariables false
set_option maxRecDepth 1000000

/-- What stands at a place. -/
def atL (xs : List Int) (k : Nat) : Int := xs[k]?.getD 0
/-- The numbers from 0 to m - 1. -/
def idxL (m : Nat) : List Int := (List.range m).map Int.ofNat
/-- What stands at two places changes places. -/
def swapL (xs : List Int) (i j : Nat) : List Int := (xs.set i (atL xs j)).set j (atL xs i)
/-- From the place i down to the second each changes places with one that is not behind it. -/
def finL (s : Int) : Nat → List Int → List Int
  | 0, xs => xs
  | i + 1, xs => finL s i (swapL xs (i + 1) (belowZ s ((i + 1 : Nat) : Int) (((i + 1 : Nat) : Int) + 1)).toNat)
/-- The permutation. -/
def permL (s : Int) (m : Nat) : List Int := finL s (m - 1) (idxL m)

theorem idxL_len (m : Nat) : (idxL m).length = m := by simp [idxL]
theorem idxL_at {m k : Nat} (h : k < m) : atL (idxL m) k = k := by simp [atL, idxL, h]
theorem idxL_snoc (m : Nat) : idxL (m + 1) = idxL m ++ [(m : Int)] := by simp [idxL, List.range_succ]
theorem swapL_len (xs : List Int) (i j : Nat) : (swapL xs i j).length = xs.length := by simp [swapL]
theorem swapL_at {xs : List Int} {i j k : Nat} (hi : i < xs.length) (hj : j < xs.length) (hk : k < xs.length) :
    atL (swapL xs i j) k = if k = j then atL xs i else if k = i then atL xs j else atL xs k := by
  unfold swapL atL
  by_cases h1 : k = j
  · subst h1; simp [hk]
  · by_cases h2 : k = i
    · subst h2; simp [h1, hk, hj, Ne.symm h1]
    · simp [h1, h2, Ne.symm h1, Ne.symm h2]

/-- Each number once: they are below m, and no two places have one. -/
structure Once (m : Nat) (xs : List Int) : Prop where
  len : xs.length = m
  low : ∀ k, k < m → 0 ≤ atL xs k ∧ atL xs k < m
  one : ∀ a b, a < m → b < m → atL xs a = atL xs b → a = b
theorem Once.idx (m : Nat) : Once m (idxL m) :=
  ⟨idxL_len m, fun k hk => by rw [idxL_at hk]; omega, fun a b ha hb h => by rw [idxL_at ha, idxL_at hb] at h; omega⟩
theorem Once.swap {m : Nat} {xs : List Int} (h : Once m xs) {i j : Nat} (hi : i < m) (hj : j < m) : Once m (swapL xs i j) := by
  have hl := h.len
  have g : ∀ k, k < m → ∃ k', k' < m ∧ atL (swapL xs i j) k = atL xs k' ∧ k' = (if k = j then i else if k = i then j else k) := by
    intro k hk
    refine ⟨if k = j then i else if k = i then j else k, by split <;> (try split) <;> omega, ?_, rfl⟩
    rw [swapL_at (by omega) (by omega) (by omega)]
    split
    · rfl
    · split <;> rfl
  refine ⟨(swapL_len _ _ _).trans hl, fun k hk => ?_, fun a b ha hb e => ?_⟩
  · obtain ⟨k', hk', e, _⟩ := g k hk
    rw [e]; exact h.low k' hk'
  · obtain ⟨a', ha', ea, qa⟩ := g a ha
    obtain ⟨b', hb', eb, qb⟩ := g b hb
    have := h.one a' b' ha' hb' (by rw [← ea, ← eb, e])
    rw [qa, qb] at this
    split at this <;> split at this <;> (try split at this) <;> (try split at this) <;> omega
theorem below_nat (s : Int) (i : Nat) : (belowZ s ((i + 1 : Nat) : Int) (((i + 1 : Nat) : Int) + 1)).toNat ≤ i + 1 := by
  have := below_bd s ((i + 1 : Nat) : Int) (m := ((i + 1 : Nat) : Int) + 1) (by omega)
  omega
theorem Once.fin (s : Int) {m : Nat} : ∀ (i : Nat) {xs : List Int}, Once m xs → (i < m ∨ i = 0) → Once m (finL s i xs)
  | 0, xs, h, _ => h
  | i + 1, xs, h, hi => by
    have := below_nat s i
    exact Once.fin s i (h.swap (by omega) (by omega)) (by omega)
theorem Once.perm (s : Int) (m : Nat) : Once m (permL s m) := (Once.idx m).fin s (m - 1) (by omega)

/-- Which numbers stand at the first k places. -/
def metL (m : Nat) (xs : List Int) (k : Nat) : List Bool := (List.range m).map fun x : Nat => decide (∃ j, j < k ∧ atL xs j = (x : Int))
theorem metL_len (m : Nat) (xs : List Int) (k : Nat) : (metL m xs k).length = m := by simp [metL]
theorem metL_zero (m : Nat) (xs : List Int) : metL m xs 0 = List.replicate m false := by
  apply List.ext_getElem
  · simp [metL]
  · intro i h1 h2; simp [metL]
theorem metL_at {m : Nat} {xs : List Int} (h : Once m xs) {k : Nat} (hk : k < m) : (metL m xs k)[(atL xs k).toNat]? = some false := by
  have hb := h.low k hk
  unfold metL
  rw [List.getElem?_map, List.getElem?_range (by omega)]
  simp only [Option.map_some, Option.some.injEq, decide_eq_false_iff_not]
  rintro ⟨j, hj, e⟩
  have := h.one j k (by omega) hk (by omega)
  omega
theorem metL_get {m : Nat} (xs : List Int) (k : Nat) {x : Nat} (hx : x < m) : (metL m xs k)[x]? = some (decide (∃ j, j < k ∧ atL xs j = (x : Int))) := by
  unfold metL
  rw [List.getElem?_map, List.getElem?_range hx]
  rfl
theorem metL_set {m : Nat} {xs : List Int} (h : Once m xs) {k : Nat} (hk : k < m) : (metL m xs k).set (atL xs k).toNat true = metL m xs (k + 1) := by
  have hb := h.low k hk
  apply List.ext_getElem?
  intro i
  rcases Nat.lt_or_ge i m with hi | hi
  · rw [metL_get xs (k + 1) hi, List.getElem?_set]
    by_cases e : (atL xs k).toNat = i
    · rw [if_pos e, if_pos (by rw [metL_len]; omega)]
      refine congrArg some (Eq.symm (decide_eq_true ?_))
      exact ⟨k, by omega, by omega⟩
    · rw [if_neg e, metL_get xs k hi]
      refine congrArg some ?_
      have q : (∃ j, j < k ∧ atL xs j = (i : Int)) ↔ (∃ j, j < k + 1 ∧ atL xs j = (i : Int)) := by
        constructor
        · rintro ⟨j, hj, q⟩; exact ⟨j, by omega, q⟩
        · rintro ⟨j, hj, q⟩
          rcases (by omega : j < k ∨ j = k) with h | rfl
          · exact ⟨j, h, q⟩
          · exact absurd (by omega : (atL xs j).toNat = i) e
      exact decide_eq_decide.2 q
  · rw [List.getElem?_eq_none (by rw [List.length_set, metL_len]; exact hi), List.getElem?_eq_none (by rw [metL_len]; exact hi)]
end Go.Proofs.Ytfnbkmhhiflkjaa
