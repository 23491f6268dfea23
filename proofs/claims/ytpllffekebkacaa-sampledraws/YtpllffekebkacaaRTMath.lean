/-
  Mathematics of the document's Top: one by one the greatest that is left (Sel).
-/
import Derived.Test.YtpllffekebkacaaTMath
import Derived.Test.YtpllffekebkacaaBase
namespace Go.Proofs.Ytpllffekebkacaa
open Go.RowKit
set_option linter.unusedVariables false
set_option maxRecDepth 1000000

/-- The mark of a place. -/
def mkP (zs : List Int) (i : Nat) : Mk := ((i : Int), wi (zs[i]?.getD 0))
/-- The marks of the first k places that were not met. -/
def restK (zs : List Int) (bs : List Bool) : Nat → List Mk
  | 0 => []
  | k + 1 => restK zs bs k ++ (if mt bs k then [] else [mkP zs k])
theorem restK_mem {zs : List Int} {bs : List Bool} {k : Nat} {m : Mk} : m ∈ restK zs bs k ↔ ∃ i, i < k ∧ mt bs i = false ∧ m = mkP zs i := by
  induction k with
  | zero => simp [restK]
  | succ k ih =>
    simp only [restK, List.mem_append, ih]
    constructor
    · rintro (⟨i, hi, h⟩ | h)
      · exact ⟨i, by omega, h⟩
      · cases hb : mt bs k with
        | true => rw [hb] at h; simp at h
        | false => rw [hb] at h; simp at h; exact ⟨k, by omega, hb, h⟩
    · rintro ⟨i, hi, h1, h2⟩
      rcases (by omega : i < k ∨ i = k) with h | rfl
      · exact .inl ⟨i, h, h1, h2⟩
      · rw [h1]; simp; exact .inr h2
theorem restK_none (zs : List Int) (n k : Nat) : restK zs (List.replicate n false) k = marksK zs k := by
  induction k with
  | zero => rfl
  | succ k ih =>
    have h : mt (List.replicate n false) k = false := by
      unfold mt
      rw [List.getElem?_replicate]
      split <;> rfl
    simp only [restK, marksK, ih, h]
    rfl
theorem restK_below {zs : List Int} {bs : List Bool} {B : Nat} (h : B < bs.length) : ∀ k, k ≤ B → restK zs (bs.set B true) k = restK zs bs k := by
  intro k
  induction k with
  | zero => intro _; rfl
  | succ k ih =>
    intro hk
    simp only [restK]
    rw [ih (by omega), mt_other (by omega)]
theorem restK_set {zs : List Int} {bs : List Bool} {B : Nat} (h : B < bs.length) (hB : mt bs B = false) : ∀ k, B < k → (mkP zs B :: restK zs (bs.set B true) k).Perm (restK zs bs k) := by
  intro k
  induction k with
  | zero => intro hk; omega
  | succ k ih =>
    intro hk
    rcases (by omega : B < k ∨ B = k) with h1 | rfl
    · simp only [restK]
      rw [mt_other (by omega)]
      exact (ih h1).append_right _
    · simp only [restK]
      rw [mt_same h, restK_below h B (Nat.le_refl _), hB]
      simp
      exact (List.perm_append_singleton _ _).symm
theorem restK_len {zs : List Int} {bs : List Bool} {k : Nat} (h : ∀ i, i < k → mt bs i = true) : restK zs bs k = [] := by
  induction k with
  | zero => rfl
  | succ k ih => simp only [restK]; rw [ih (fun i hi => h i (by omega)), h k (by omega)]; rfl

/-- What was chosen, the greatest first, and which places were met. -/
structure Sel (zs : List Int) (n : Nat) (bs : List Bool) (qs : List Mk) : Prop where
  len : bs.length = n
  perm : (qs ++ restK zs bs n).Perm (marksK zs n)
  falls : Falls qs
  le : ∀ r ∈ restK zs bs n, ∀ q ∈ qs, leM r q
theorem Sel.start (zs : List Int) (n : Nat) : Sel zs n (List.replicate n false) [] :=
  ⟨by simp, by rw [restK_none]; exact List.Perm.refl _, List.Pairwise.nil, by simp⟩
theorem Sel.step {zs : List Int} {n : Nat} {bs : List Bool} {qs : List Mk} (h : Sel zs n bs qs) {B : Nat} (hB : B < n) (hb : mt bs B = false) (hg : ∀ i, i < n → mt bs i = false → leM (mkP zs i) (mkP zs B)) : Sel zs n (bs.set B true) (qs ++ [mkP zs B]) := by
  have hl : B < bs.length := by rw [h.len]; exact hB
  have hm : mkP zs B ∈ restK zs bs n := restK_mem.2 ⟨B, hB, hb, rfl⟩
  have hs : ∀ r ∈ restK zs (bs.set B true) n, r ∈ restK zs bs n := fun r hr => (restK_set hl hb n hB).subset (List.mem_cons_of_mem _ hr)
  refine ⟨by simpa using h.len, ?_, ?_, ?_⟩
  · rw [List.append_assoc]
    exact ((restK_set hl hb n hB).append_left qs).trans h.perm
  · refine List.pairwise_append.2 ⟨h.falls, by simp, ?_⟩
    intro a ha b hb'
    rw [List.mem_singleton.1 hb']
    exact h.le _ hm a ha
  · intro r hr q hq
    rcases List.mem_append.1 hq with hq | hq
    · exact h.le r (hs r hr) q hq
    · rw [List.mem_singleton.1 hq]
      obtain ⟨i, hi, hbi, rfl⟩ := restK_mem.1 (hs r hr)
      exact hg i hi hbi
theorem Sel.done {zs : List Int} {n : Nat} {bs : List Bool} {qs : List Mk} (h : Sel zs n bs qs) : TopOf zs n qs.length (qs.map Prod.fst) :=
  ⟨qs, _, rfl, rfl, h.falls, h.perm, h.le⟩
/-- The greatest of the first i places that were not met: none, or B. -/
def BestAt (zs : List Int) (bs : List Bool) (i : Nat) (b : Int) : Prop :=
  (b = -1 ∧ ∀ n, n < i → mt bs n = true) ∨ ∃ B : Nat, b = B ∧ B < i ∧ mt bs B = false ∧ ∀ n, n < i → mt bs n = false → leM (mkP zs n) (mkP zs B)
theorem BestAt.start (zs : List Int) (bs : List Bool) : BestAt zs bs 0 (-1) := .inl ⟨rfl, fun n hn => absurd hn (by omega)⟩
theorem BestAt.met {zs : List Int} {bs : List Bool} {i : Nat} {b : Int} (h : BestAt zs bs i b) (hm : mt bs i = true) : BestAt zs bs (i + 1) b := by
  rcases h with ⟨h1, h2⟩ | ⟨B, h1, h2, h3, h4⟩
  · refine .inl ⟨h1, fun n hn => ?_⟩
    rcases (by omega : n < i ∨ n = i) with h | rfl
    · exact h2 n h
    · exact hm
  · refine .inr ⟨B, h1, by omega, h3, fun n hn hb => ?_⟩
    rcases (by omega : n < i ∨ n = i) with h | rfl
    · exact h4 n h hb
    · rw [hm] at hb; cases hb
theorem BestAt.first {zs : List Int} {bs : List Bool} {i : Nat} (h : BestAt zs bs i (-1)) (hm : mt bs i = false) : BestAt zs bs (i + 1) i := by
  rcases h with ⟨h1, h2⟩ | ⟨B, h1, _⟩
  · refine .inr ⟨i, rfl, by omega, hm, fun n hn hb => ?_⟩
    rcases (by omega : n < i ∨ n = i) with h | rfl
    · rw [h2 n h] at hb; cases hb
    · exact leM_refl _
  · omega
theorem BestAt.more {zs : List Int} {bs : List Bool} {i B : Nat} (h : BestAt zs bs i B) (hm : mt bs i = false) (hg : (mkP zs B).2 < (mkP zs i).2) : BestAt zs bs (i + 1) i := by
  rcases h with ⟨h1, _⟩ | ⟨B', h1, h2, h3, h4⟩
  · omega
  · obtain rfl : B = B' := by omega
    refine .inr ⟨i, rfl, by omega, hm, fun n hn hb => ?_⟩
    rcases (by omega : n < i ∨ n = i) with h | rfl
    · refine leM_trans (h4 n h hb) ?_
      unfold leM ltM
      omega
    · exact leM_refl _
theorem BestAt.less {zs : List Int} {bs : List Bool} {i B : Nat} (h : BestAt zs bs i B) (hg : ¬ (mkP zs B).2 < (mkP zs i).2) : BestAt zs bs (i + 1) B := by
  rcases h with ⟨h1, _⟩ | ⟨B', h1, h2, h3, h4⟩
  · omega
  · obtain rfl : B = B' := by omega
    refine .inr ⟨B, rfl, by omega, h3, fun n hn hb => ?_⟩
    rcases (by omega : n < i ∨ n = i) with h | rfl
    · exact h4 n h hb
    · unfold leM ltM
      have : (mkP zs B).1 = (B : Int) := rfl
      have : (mkP zs n).1 = (n : Int) := rfl
      omega
theorem Sel.best {zs : List Int} {n : Nat} {bs : List Bool} {qs : List Mk} (h : Sel zs n bs qs) (hq : qs.length < n) {b : Int} (hb : BestAt zs bs n b) : ∃ B : Nat, b = B ∧ B < n ∧ mt bs B = false ∧ ∀ i, i < n → mt bs i = false → leM (mkP zs i) (mkP zs B) := by
  rcases hb with ⟨h1, h2⟩ | h
  · have := h.perm.length_eq
    rw [restK_len h2, List.append_nil, marksK_len] at this
    omega
  · exact h
end Go.Proofs.Ytpllffekebkacaa
