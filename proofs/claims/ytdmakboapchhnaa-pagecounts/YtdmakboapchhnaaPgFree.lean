/-
  The free pages of a pool as a list without doubles (FreeOf): what a page taken out, and one put in, makes of it; how many are held.
-/
import Derived.Test.YtdmakboapchhnaaPgMath
namespace Go.Proofs.Ytdmakboapchhnaa
open Go.RowKit
set_option linter.unusedVariables false
set_option maxRecDepth 1000000

/-- These are the free pages, each once. -/
structure FreeOf (hs fs : List Int) : Prop where
  nd : fs.Nodup
  mem : ∀ x, x ∈ fs ↔ ∃ i : Nat, i < hs.length ∧ x = i ∧ hs[i]?.getD 0 = 0
  cnt : fs.length + (usedL hs).length = hs.length
theorem used_set {hs : List Int} {i : Nat} {v : Int} (hi : i < hs.length) : ∀ k, k ≤ hs.length → (usedK (hs.set i v) k).length + (if i < k ∧ 0 < hs[i]?.getD 0 then 1 else 0) = (usedK hs k).length + (if i < k ∧ 0 < v then 1 else 0) := by
  intro k
  induction k with
  | zero => intro _; simp [usedK]
  | succ k ih =>
    intro hk
    have h := ih (by omega)
    simp only [usedK]
    by_cases e : k = i
    · subst e
      have e1 : (hs.set k v)[k]?.getD 0 = v := by rw [List.getElem?_set, if_pos rfl, if_pos hi]; rfl
      rw [e1]
      simp only [Nat.lt_irrefl, false_and, if_false, Nat.add_zero] at h
      have a1 : k < k + 1 := by omega
      simp only [a1, true_and]
      split <;> split <;> simp <;> omega
    · have e1 : (hs.set i v)[k]?.getD 0 = hs[k]?.getD 0 := by rw [List.getElem?_set, if_neg (fun h => e h.symm)]
      rw [e1]
      have a1 : (i < k + 1) = (i < k) := propext ⟨fun h => by omega, fun h => by omega⟩
      simp only [a1]
      by_cases q : 0 < hs[k]?.getD 0
      · rw [if_pos q, if_pos q]; simp only [List.length_append, List.length_singleton]; omega
      · rw [if_neg q, if_neg q]; exact h
theorem used_set1 {hs : List Int} {i : Nat} {v : Int} (hi : i < hs.length) (h0 : hs[i]?.getD 0 = 0) (hv : 0 < v) : (usedL (hs.set i v)).length = (usedL hs).length + 1 := by
  have := used_set (v := v) hi hs.length (Nat.le_refl _)
  rw [if_neg (by omega), if_pos ⟨hi, hv⟩] at this
  unfold usedL
  rw [List.length_set]
  omega
theorem used_set0 {hs : List Int} {i : Nat} (hi : i < hs.length) (h0 : 0 < hs[i]?.getD 0) : (usedL (hs.set i 0)).length + 1 = (usedL hs).length := by
  have := used_set (v := 0) hi hs.length (Nat.le_refl _)
  rw [if_pos ⟨hi, h0⟩, if_neg (by omega)] at this
  unfold usedL
  rw [List.length_set]
  omega
theorem used_setn {hs : List Int} {i : Nat} {v : Int} (hi : i < hs.length) (h0 : 0 < hs[i]?.getD 0) (hv : 0 < v) : (usedL (hs.set i v)).length = (usedL hs).length := by
  have := used_set (v := v) hi hs.length (Nat.le_refl _)
  rw [if_pos ⟨hi, h0⟩, if_pos ⟨hi, hv⟩] at this
  unfold usedL
  rw [List.length_set]
  omega
theorem set_at (hs : List Int) {i : Nat} (v : Int) (hi : i < hs.length) (j : Nat) : (hs.set i v)[j]?.getD 0 = if j = i then v else hs[j]?.getD 0 := by
  rw [List.getElem?_set]
  by_cases e : i = j
  · subst e; rw [if_pos rfl, if_pos hi, if_pos rfl]; rfl
  · rw [if_neg e, if_neg (fun h => e h.symm)]
/-- The least one is taken out. -/
theorem FreeOf.pop {hs fs ns : List Int} {x : Int} (h : FreeOf hs fs) (hp : (x :: ns).Perm fs) (hm : ∀ y ∈ fs, x ≤ y) : takeI hs < hs.length ∧ x = (takeI hs : Int) ∧ FreeOf (takeH hs) ns := by
  have hx : x ∈ fs := hp.subset (List.mem_cons_self ..)
  obtain ⟨i, hi, rfl, h0⟩ := (h.mem x).1 hx
  have ht : takeI hs = i := takeI_at hi h0 fun j hj e => by
    have := hm j ((h.mem j).2 ⟨j, by omega, rfl, e⟩)
    omega
  have hlt : takeI hs < hs.length := by omega
  have hH : takeH hs = hs.set i 1 := by unfold takeH; rw [if_pos hlt, ht]
  have hnd := hp.nodup_iff.2 h.nd
  rw [List.nodup_cons] at hnd
  refine ⟨hlt, by rw [ht], hnd.2, fun y => ?_, ?_⟩
  · rw [hH, List.length_set]
    constructor
    · intro hy
      obtain ⟨j, hj, rfl, hj0⟩ := (h.mem y).1 (hp.subset (List.mem_cons_of_mem _ hy))
      refine ⟨j, hj, rfl, ?_⟩
      rw [set_at _ _ hi, if_neg, hj0]
      rintro rfl
      exact hnd.1 hy
    · rintro ⟨j, hj, rfl, hj0⟩
      rw [set_at _ _ hi] at hj0
      by_cases e : j = i
      · rw [if_pos e] at hj0; omega
      · rw [if_neg e] at hj0
        have : (j : Int) ∈ (i : Int) :: ns := hp.symm.subset ((h.mem _).2 ⟨j, hj, rfl, hj0⟩)
        rcases List.mem_cons.1 this with h1 | h1
        · omega
        · exact h1
  · have hl := hp.length_eq
    simp only [List.length_cons] at hl
    rw [hH, used_set1 hi h0 (by omega), List.length_set]
    have := h.cnt
    omega
/-- One is put in. -/
theorem FreeOf.push {hs fs ns : List Int} {i : Nat} (h : FreeOf hs fs) (hi : i < hs.length) (h0 : 0 < hs[i]?.getD 0) (hp : ns.Perm (fs ++ [(i : Int)])) : FreeOf (hs.set i 0) ns := by
  have hni : (i : Int) ∉ fs := fun hx => by
    obtain ⟨j, hj, e, hj0⟩ := (h.mem _).1 hx
    have : j = i := by omega
    subst this
    omega
  refine ⟨hp.nodup_iff.2 ?_, fun y => ?_, ?_⟩
  · rw [List.nodup_append]
    refine ⟨h.nd, by simp, fun a ha b hb => ?_⟩
    simp at hb
    subst hb
    rintro rfl
    exact hni ha
  · rw [hp.mem_iff, List.mem_append, List.mem_singleton, List.length_set]
    constructor
    · rintro (hy | rfl)
      · obtain ⟨j, hj, rfl, hj0⟩ := (h.mem y).1 hy
        refine ⟨j, hj, rfl, ?_⟩
        rw [set_at _ _ hi]
        by_cases e : j = i
        · rw [if_pos e]
        · rw [if_neg e]; exact hj0
      · exact ⟨i, hi, rfl, by rw [set_at _ _ hi, if_pos rfl]⟩
    · rintro ⟨j, hj, rfl, hj0⟩
      rw [set_at _ _ hi] at hj0
      by_cases e : j = i
      · right; rw [e]
      · rw [if_neg e] at hj0
        left
        exact (h.mem _).2 ⟨j, hj, rfl, hj0⟩
  · have hl := hp.length_eq
    simp only [List.length_append, List.length_singleton] at hl
    have h2 := used_set0 hi h0
    rw [List.length_set]
    have := h.cnt
    omega
/-- One that stays held. -/
theorem FreeOf.stay {hs fs : List Int} {i : Nat} {v : Int} (h : FreeOf hs fs) (hi : i < hs.length) (h0 : 0 < hs[i]?.getD 0) (hv : 0 < v) : FreeOf (hs.set i v) fs := by
  refine ⟨h.nd, fun y => ?_, by rw [used_setn hi h0 hv, List.length_set]; exact h.cnt⟩
  rw [h.mem, List.length_set]
  constructor
  · rintro ⟨j, hj, rfl, hj0⟩
    refine ⟨j, hj, rfl, ?_⟩
    rw [set_at _ _ hi, if_neg, hj0]
    rintro rfl
    omega
  · rintro ⟨j, hj, rfl, hj0⟩
    rw [set_at _ _ hi] at hj0
    by_cases e : j = i
    · rw [if_pos e] at hj0; omega
    · rw [if_neg e] at hj0; exact ⟨j, hj, rfl, hj0⟩
/-- None is free. -/
theorem FreeOf.none {hs : List Int} (h : FreeOf hs []) : ¬ takeI hs < hs.length := fun ht => by
  have := (h.mem (takeI hs : Int)).2 ⟨_, ht, rfl, takeI_free ht⟩
  simp at this
/-- The numbers from 0 on. -/
def upto (n : Nat) : List Int := (List.range n).map fun i : Nat => (i : Int)
theorem upto_len (n : Nat) : (upto n).length = n := by simp [upto]
theorem upto_at {n i : Nat} (h : i < n) : (upto n)[i]?.getD 0 = (i : Int) := by simp [upto, h]
theorem used_none (n : Nat) : ∀ k, k ≤ n → usedK (List.replicate n 0) k = [] := by
  intro k
  induction k with
  | zero => intro _; rfl
  | succ k ih =>
    intro hk
    simp only [usedK]
    have e : (List.replicate n (0 : Int))[k]?.getD 0 = 0 := by rw [List.getElem?_replicate, if_pos (by omega)]; rfl
    rw [ih (by omega), e, if_neg (by omega)]
theorem free_new (n : Nat) : FreeOf (List.replicate n 0) (upto n) := by
  refine ⟨?_, fun x => ?_, ?_⟩
  · unfold upto
    exact List.Pairwise.map _ (fun a b (h : a ≠ b) e => h (Int.ofNat.inj e)) List.nodup_range
  · unfold upto
    rw [List.mem_map, List.length_replicate]
    constructor
    · rintro ⟨i, hi, rfl⟩
      rw [List.mem_range] at hi
      exact ⟨i, hi, rfl, by rw [List.getElem?_replicate, if_pos hi]; rfl⟩
    · rintro ⟨i, hi, rfl, _⟩
      exact ⟨i, List.mem_range.2 hi, rfl⟩
  · unfold usedL
    rw [upto_len, List.length_replicate, used_none n n (Nat.le_refl _)]
    rfl
end Go.Proofs.Ytdmakboapchhnaa
