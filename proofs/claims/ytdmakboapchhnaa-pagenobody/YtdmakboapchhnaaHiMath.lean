/-
  Mathematics of a heap of ints: the heap, what a change of two places does to it, and that what goes up, or down, leaves a heap.
-/
import Derived.Test.YtdmakboapchhnaaFrames
namespace Go.Proofs.Ytdmakboapchhnaa
open Go.RowKit
set_option linter.unusedVariables false
set_option maxRecDepth 1000000

/-- The first one is to give way ahead of the second one. -/
def ltI (a b : Int) : Prop := a < b
def leI (a b : Int) : Prop := ¬ ltI b a
theorem leI_refl (a : Int) : leI a a := by unfold leI ltI; omega
theorem leI_trans {a b c : Int} (h : leI a b) (k : leI b c) : leI a c := by unfold leI ltI at *; omega
theorem leI_of_lt {a b : Int} (h : ltI a b) : leI a b := by unfold leI; unfold ltI at *; omega
theorem leI_anti {a b : Int} (h : leI a b) (k : leI b a) : a = b := by unfold leI ltI at *; omega
theorem leI_total (a b : Int) : leI a b ∨ leI b a := by unfold leI ltI; omega

/-- What stands at a place. -/
def gi (ms : List Int) (i : Nat) : Int := ms[i]?.getD 0
theorem gi_of {ms : List Int} {i : Nat} (h : i < ms.length) : gi ms i = ms[i] := by simp [gi, h]
theorem gi_mem {ms : List Int} {i : Nat} (h : i < ms.length) : gi ms i ∈ ms := by rw [gi_of h]; exact List.getElem_mem h
/-- Two places changed. -/
def swi (ms : List Int) (i j : Nat) : List Int := (ms.set i (gi ms j)).set j (gi ms i)
theorem swi_len (ms : List Int) (i j : Nat) : (swi ms i j).length = ms.length := by simp [swi]
theorem gi_swi {ms : List Int} {i j : Nat} (hi : i < ms.length) (hj : j < ms.length) (k : Nat) : gi (swi ms i j) k = if k = j then gi ms i else if k = i then gi ms j else gi ms k := by
  unfold gi swi
  rw [List.getElem?_set, List.getElem?_set]
  by_cases h1 : k = j
  · subst h1; simp [hj]; rfl
  · rw [if_neg (fun e => h1 e.symm), if_neg h1]
    by_cases h2 : k = i
    · subst h2; simp [hi]; rfl
    · rw [if_neg (fun e => h2 e.symm), if_neg h2]
theorem swi_perm {ms : List Int} {i j : Nat} (hi : i < ms.length) (hj : j < ms.length) : (swi ms i j).Perm ms := by
  unfold swi
  rw [gi_of hi, gi_of hj]
  exact List.set_set_perm hi hj

/-- The first n are a heap. -/
def HeapI (ms : List Int) (n : Nat) : Prop := ∀ i, 0 < i → i < n → leI (gi ms ((i - 1) / 2)) (gi ms i)
/-- A heap, but that what stands at j may have to go up. -/
def UpI (ms : List Int) (n j : Nat) : Prop := (∀ i, 0 < i → i < n → i ≠ j → leI (gi ms ((i - 1) / 2)) (gi ms i)) ∧ (0 < j → ∀ i, 0 < i → i < n → (i - 1) / 2 = j → leI (gi ms ((j - 1) / 2)) (gi ms i))
theorem UpI.done {ms : List Int} {n j : Nat} (h : UpI ms n j) (hj : 0 < j → ¬ ltI (gi ms j) (gi ms ((j - 1) / 2))) : HeapI ms n := by
  intro i h0 hn
  by_cases e : i = j
  · subst e; exact hj h0
  · exact h.1 i h0 hn e
theorem UpI.step {ms : List Int} {n j : Nat} (h : UpI ms n j) (h0 : 0 < j) (hj : j < n) (hn : n ≤ ms.length) (hl : ltI (gi ms j) (gi ms ((j - 1) / 2))) : UpI (swi ms ((j - 1) / 2) j) n ((j - 1) / 2) := by
  obtain ⟨p, hp⟩ : ∃ p, (j - 1) / 2 = p := ⟨_, rfl⟩
  rw [hp] at hl ⊢
  have hG := gi_swi (ms := ms) (i := p) (j := j) (by omega) (by omega)
  have hlj := leI_of_lt hl
  constructor
  · intro i i0 hi hip
    rw [hG, hG]
    by_cases e1 : i = j
    · subst e1
      rw [hp, if_pos rfl, if_neg (by omega), if_pos rfl]
      exact hlj
    · rw [if_neg e1, if_neg hip]
      have hx := h.1 i i0 hi e1
      by_cases e2 : (i - 1) / 2 = j
      · rw [if_pos e2]
        have := h.2 h0 i i0 hi e2
        rwa [hp] at this
      · rw [if_neg e2]
        by_cases e3 : (i - 1) / 2 = p
        · rw [if_pos e3]
          rw [e3] at hx
          exact leI_trans hlj hx
        · rw [if_neg e3]; exact hx
  · intro p0 i i0 hi hip
    have hpp := h.1 p p0 (by omega) (by omega)
    rw [hG, hG, if_neg (by omega), if_neg (by omega)]
    by_cases e1 : i = j
    · rw [if_pos e1]; exact hpp
    · rw [if_neg e1, if_neg (by omega)]
      have hx := h.1 i i0 hi e1
      rw [hip] at hx
      exact leI_trans hpp hx
/-- A heap, but that what stands at c may have to go down. -/
def DownI (ms : List Int) (n c : Nat) : Prop := (∀ i, 0 < i → i < n → (i - 1) / 2 ≠ c → leI (gi ms ((i - 1) / 2)) (gi ms i)) ∧ (0 < c → ∀ i, 0 < i → i < n → (i - 1) / 2 = c → leI (gi ms ((c - 1) / 2)) (gi ms i))
theorem DownI.done {ms : List Int} {n c : Nat} (h : DownI ms n c) (hc : ∀ i, 0 < i → i < n → (i - 1) / 2 = c → leI (gi ms c) (gi ms i)) : HeapI ms n := by
  intro i h0 hn
  by_cases e : (i - 1) / 2 = c
  · rw [e]; exact hc i h0 hn e
  · exact h.1 i h0 hn e
theorem DownI.step {ms : List Int} {n c j : Nat} (h : DownI ms n c) (h0 : 0 < j) (hj : j < n) (hn : n ≤ ms.length) (hjc : (j - 1) / 2 = c) (hm : ∀ i, 0 < i → i < n → (i - 1) / 2 = c → leI (gi ms j) (gi ms i)) (hl : ltI (gi ms j) (gi ms c)) : DownI (swi ms c j) n j := by
  have hG := gi_swi (ms := ms) (i := c) (j := j) (by omega) (by omega)
  have hlj := leI_of_lt hl
  constructor
  · intro i i0 hi hip
    rw [hG, hG, if_neg hip]
    by_cases e1 : i = j
    · subst e1
      rw [if_pos hjc, if_pos rfl]
      exact hlj
    · rw [if_neg e1]
      by_cases e2 : i = c
      · subst e2
        rw [if_neg (by omega), if_pos rfl]
        exact h.2 i0 j h0 hj hjc
      · rw [if_neg e2]
        by_cases e3 : (i - 1) / 2 = c
        · rw [if_pos e3]; exact hm i i0 hi e3
        · rw [if_neg e3]; exact h.1 i i0 hi e3
  · intro _ i i0 hi hij
    rw [hG, hG, hjc, if_neg (by omega), if_pos rfl, if_neg (by omega), if_neg (by omega)]
    have := h.1 i i0 hi (by omega)
    rwa [hij] at this
/-- The first of a heap is the least. -/
theorem HeapI.least {ms : List Int} {n : Nat} (h : HeapI ms n) : ∀ i, i < n → leI (gi ms 0) (gi ms i) := by
  intro i
  induction i using Nat.strongRecOn with
  | ind i ih =>
    intro hi
    by_cases h0 : i = 0
    · subst h0; exact leI_refl _
    · exact leI_trans (ih ((i - 1) / 2) (by omega) (by omega)) (h i (by omega) hi)
theorem HeapI.cut {ms : List Int} {n : Nat} (h : HeapI ms n) (hn : n + 1 ≤ ms.length) (h' : HeapI ms (n + 1)) : DownI (swi ms 0 n) n 0 := by
  have hG := gi_swi (ms := ms) (i := 0) (j := n) (by omega) (by omega)
  refine ⟨fun i i0 hi hp => ?_, fun h => absurd h (by omega)⟩
  rw [hG, hG, if_neg (by omega), if_neg hp, if_neg (by omega), if_neg (by omega)]
  exact h' i i0 (by omega)
theorem gi_app {ms : List Int} {x : Int} {i : Nat} (h : i < ms.length) : gi (ms ++ [x]) i = gi ms i := by simp [gi, List.getElem?_append_left h]
theorem HeapI.push {ms : List Int} (h : HeapI ms ms.length) (x : Int) : UpI (ms ++ [x]) (ms.length + 1) ms.length := by
  refine ⟨fun i i0 hi hp => ?_, fun h0 i i0 hi hp => absurd hp (by omega)⟩
  rw [gi_app (by omega), gi_app (by omega)]
  exact h i i0 (by omega)
theorem gi_take {ms : List Int} {n i : Nat} (h : i < n) : gi (ms.take n) i = gi ms i := by simp [gi, List.getElem?_take_of_lt h]
theorem HeapI.take {ms : List Int} {n : Nat} (h : HeapI ms n) : HeapI (ms.take n) n := by
  intro i h0 hn
  rw [gi_take (by omega), gi_take hn]
  exact h i h0 hn
end Go.Proofs.Ytdmakboapchhnaa
