/-
  Mathematics of the marks: their order, the heap, what a change of two places does to it, and that what goes up, or down, leaves a heap.
-/
import Derived.Test.YtpllffekebkacaaSofts
namespace Go.Proofs.Ytpllffekebkacaa
open Go.RowKit
set_option linter.unusedVariables false
set_option maxRecDepth 1000000

/-- A mark: the place, and the number that stands there. -/
abbrev Mk := Int × Int
/-- The first one is to give way ahead of the second one. -/
def ltM (a b : Mk) : Prop := a.2 < b.2 ∨ (a.2 = b.2 ∧ b.1 < a.1)
def leM (a b : Mk) : Prop := ¬ ltM b a
theorem leM_refl (a : Mk) : leM a a := by unfold leM ltM; omega
theorem leM_trans {a b c : Mk} (h : leM a b) (k : leM b c) : leM a c := by unfold leM ltM at *; omega
theorem leM_of_lt {a b : Mk} (h : ltM a b) : leM a b := by unfold leM; unfold ltM at *; omega
theorem leM_anti {a b : Mk} (h : leM a b) (k : leM b a) : a = b := by
  unfold leM ltM at *
  exact Prod.ext (by omega) (by omega)
theorem leM_total (a b : Mk) : leM a b ∨ leM b a := by unfold leM ltM; omega

/-- What stands at a place. -/
def gx (ms : List Mk) (i : Nat) : Mk := ms[i]?.getD (0, 0)
theorem gx_of {ms : List Mk} {i : Nat} (h : i < ms.length) : gx ms i = ms[i] := by simp [gx, h]
theorem gx_mem {ms : List Mk} {i : Nat} (h : i < ms.length) : gx ms i ∈ ms := by rw [gx_of h]; exact List.getElem_mem h
/-- Two places changed. -/
def swp (ms : List Mk) (i j : Nat) : List Mk := (ms.set i (gx ms j)).set j (gx ms i)
theorem swp_len (ms : List Mk) (i j : Nat) : (swp ms i j).length = ms.length := by simp [swp]
theorem gx_swp {ms : List Mk} {i j : Nat} (hi : i < ms.length) (hj : j < ms.length) (k : Nat) : gx (swp ms i j) k = if k = j then gx ms i else if k = i then gx ms j else gx ms k := by
  unfold gx swp
  rw [List.getElem?_set, List.getElem?_set]
  by_cases h1 : k = j
  · subst h1; simp [hj]; rfl
  · rw [if_neg (fun e => h1 e.symm), if_neg h1]
    by_cases h2 : k = i
    · subst h2; simp [hi]; rfl
    · rw [if_neg (fun e => h2 e.symm), if_neg h2]
theorem swp_perm {ms : List Mk} {i j : Nat} (hi : i < ms.length) (hj : j < ms.length) : (swp ms i j).Perm ms := by
  unfold swp
  rw [gx_of hi, gx_of hj]
  exact List.set_set_perm hi hj

/-- The first n are a heap. -/
def HeapN (ms : List Mk) (n : Nat) : Prop := ∀ i, 0 < i → i < n → leM (gx ms ((i - 1) / 2)) (gx ms i)
/-- A heap, but that what stands at j may have to go up. -/
def UpAt (ms : List Mk) (n j : Nat) : Prop := (∀ i, 0 < i → i < n → i ≠ j → leM (gx ms ((i - 1) / 2)) (gx ms i)) ∧ (0 < j → ∀ i, 0 < i → i < n → (i - 1) / 2 = j → leM (gx ms ((j - 1) / 2)) (gx ms i))
theorem UpAt.done {ms : List Mk} {n j : Nat} (h : UpAt ms n j) (hj : 0 < j → ¬ ltM (gx ms j) (gx ms ((j - 1) / 2))) : HeapN ms n := by
  intro i h0 hn
  by_cases e : i = j
  · subst e; exact hj h0
  · exact h.1 i h0 hn e
theorem UpAt.step {ms : List Mk} {n j : Nat} (h : UpAt ms n j) (h0 : 0 < j) (hj : j < n) (hn : n ≤ ms.length) (hl : ltM (gx ms j) (gx ms ((j - 1) / 2))) : UpAt (swp ms ((j - 1) / 2) j) n ((j - 1) / 2) := by
  obtain ⟨p, hp⟩ : ∃ p, (j - 1) / 2 = p := ⟨_, rfl⟩
  rw [hp] at hl ⊢
  have hG := gx_swp (ms := ms) (i := p) (j := j) (by omega) (by omega)
  have hlj := leM_of_lt hl
  constructor
  · intro i i0 hi hip
    rw [hG, hG]
    by_cases e1 : i = j
    · subst e1
      rw [hp, if_pos rfl, if_neg (by omega), if_pos rfl]
      exact hlj
    · rw [if_neg e1, if_neg hip]
      have hx := h.1 i i0 hi e1
      by_cases e2 : (i - 1) / 2 = j
      · rw [if_pos e2]
        have := h.2 h0 i i0 hi e2
        rwa [hp] at this
      · rw [if_neg e2]
        by_cases e3 : (i - 1) / 2 = p
        · rw [if_pos e3]
          rw [e3] at hx
          exact leM_trans hlj hx
        · rw [if_neg e3]; exact hx
  · intro p0 i i0 hi hip
    have hpp := h.1 p p0 (by omega) (by omega)
    rw [hG, hG, if_neg (by omega), if_neg (by omega)]
    by_cases e1 : i = j
    · rw [if_pos e1]; exact hpp
    · rw [if_neg e1, if_neg (by omega)]
      have hx := h.1 i i0 hi e1
      rw [hip] at hx
      exact leM_trans hpp hx
/-- A heap, but that what stands at c may have to go down. -/
def DownAt (ms : List Mk) (n c : Nat) : Prop := (∀ i, 0 < i → i < n → (i - 1) / 2 ≠ c → leM (gx ms ((i - 1) / 2)) (gx ms i)) ∧ (0 < c → ∀ i, 0 < i → i < n → (i - 1) / 2 = c → leM (gx ms ((c - 1) / 2)) (gx ms i))
theorem DownAt.done {ms : List Mk} {n c : Nat} (h : DownAt ms n c) (hc : ∀ i, 0 < i → i < n → (i - 1) / 2 = c → leM (gx ms c) (gx ms i)) : HeapN ms n := by
  intro i h0 hn
  by_cases e : (i - 1) / 2 = c
  · rw [e]; exact hc i h0 hn e
  · exact h.1 i h0 hn e
theorem DownAt.step {ms : List Mk} {n c j : Nat} (h : DownAt ms n c) (h0 : 0 < j) (hj : j < n) (hn : n ≤ ms.length) (hjc : (j - 1) / 2 = c) (hm : ∀ i, 0 < i → i < n → (i - 1) / 2 = c → leM (gx ms j) (gx ms i)) (hl : ltM (gx ms j) (gx ms c)) : DownAt (swp ms c j) n j := by
  have hG := gx_swp (ms := ms) (i := c) (j := j) (by omega) (by omega)
  have hlj := leM_of_lt hl
  constructor
  · intro i i0 hi hip
    rw [hG, hG, if_neg hip]
    by_cases e1 : i = j
    · subst e1
      rw [if_pos hjc, if_pos rfl]
      exact hlj
    · rw [if_neg e1]
      by_cases e2 : i = c
      · subst e2
        rw [if_neg (by omega), if_pos rfl]
        exact h.2 i0 j h0 hj hjc
      · rw [if_neg e2]
        by_cases e3 : (i - 1) / 2 = c
        · rw [if_pos e3]; exact hm i i0 hi e3
        · rw [if_neg e3]; exact h.1 i i0 hi e3
  · intro _ i i0 hi hij
    rw [hG, hG, hjc, if_neg (by omega), if_pos rfl, if_neg (by omega), if_neg (by omega)]
    have := h.1 i i0 hi (by omega)
    rwa [hij] at this
/-- The first of a heap is the least. -/
theorem HeapN.least {ms : List Mk} {n : Nat} (h : HeapN ms n) : ∀ i, i < n → leM (gx ms 0) (gx ms i) := by
  intro i
  induction i using Nat.strongRecOn with
  | ind i ih =>
    intro hi
    by_cases h0 : i = 0
    · subst h0; exact leM_refl _
    · exact leM_trans (ih ((i - 1) / 2) (by omega) (by omega)) (h i (by omega) hi)
theorem HeapN.cut {ms : List Mk} {n : Nat} (h : HeapN ms n) (hn : n + 1 ≤ ms.length) (h' : HeapN ms (n + 1)) : DownAt (swp ms 0 n) n 0 := by
  have hG := gx_swp (ms := ms) (i := 0) (j := n) (by omega) (by omega)
  refine ⟨fun i i0 hi hp => ?_, fun h => absurd h (by omega)⟩
  rw [hG, hG, if_neg (by omega), if_neg hp, if_neg (by omega), if_neg (by omega)]
  exact h' i i0 (by omega)
theorem gx_app {ms : List Mk} {x : Mk} {i : Nat} (h : i < ms.length) : gx (ms ++ [x]) i = gx ms i := by simp [gx, List.getElem?_append_left h]
theorem HeapN.push {ms : List Mk} (h : HeapN ms ms.length) (x : Mk) : UpAt (ms ++ [x]) (ms.length + 1) ms.length := by
  refine ⟨fun i i0 hi hp => ?_, fun h0 i i0 hi hp => absurd hp (by omega)⟩
  rw [gx_app (by omega), gx_app (by omega)]
  exact h i i0 (by omega)
theorem gx_take {ms : List Mk} {n i : Nat} (h : i < n) : gx (ms.take n) i = gx ms i := by simp [gx, List.getElem?_take_of_lt h]
theorem HeapN.take {ms : List Mk} {n : Nat} (h : HeapN ms n) : HeapN (ms.take n) n := by
  intro i h0 hn
  rw [gx_take (by omega), gx_take hn]
  exact h i h0 hn
end Go.Proofs.Ytpllffekebkacaa
