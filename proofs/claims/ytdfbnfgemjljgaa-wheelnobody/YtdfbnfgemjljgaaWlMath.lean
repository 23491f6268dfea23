/-
  Mathematics of a heap of timers' blocks: the heap, what a change of two places does to it, and that what goes up, or down, leaves a heap.
-/
import Derived.Test.YtdfbnfgemjljgaaWhMath
namespace Go.Proofs.Ytdfbnfgemjljgaa
open Go.RowKit
set_option linter.unusedVariables false
set_option maxRecDepth 1000000

/-- A timer, and the block in which it lies. -/
structure Qe where
  blk : Nat
  tm : Tm
/-- The first one is due ahead of the second one. -/
def ltT (a b : Tm) : Prop := a.due < b.due ∨ (a.due = b.due ∧ a.num < b.num)
def ltQ (a b : Qe) : Prop := ltT a.tm b.tm
def leQ (a b : Qe) : Prop := ¬ ltQ b a
theorem leQ_refl (a : Qe) : leQ a a := by unfold leQ ltQ ltT; omega
theorem leQ_trans {a b c : Qe} (h : leQ a b) (k : leQ b c) : leQ a c := by unfold leQ ltQ ltT at *; omega
theorem leQ_of_lt {a b : Qe} (h : ltQ a b) : leQ a b := by unfold leQ; unfold ltQ ltT at *; omega
def ltZ (x u y v : Int) : Bool := decide (x < y) || (decide (x = y) && decide (u < v))
def ltb (a b : Qe) : Bool := ltZ a.tm.due a.tm.num b.tm.due b.tm.num
theorem ltb_yes {a b : Qe} (h : ltQ a b) : ltb a b = true := by unfold ltQ ltT at h; unfold ltb ltZ; simpa using h
theorem ltb_no {a b : Qe} (h : ¬ ltQ a b) : ltb a b = false := by
  cases e : ltb a b with
  | false => rfl
  | true => exact absurd (by unfold ltQ ltT; unfold ltb ltZ at e; simpa using e) h

/-- What stands at a place. -/
def gq (ms : List Qe) (i : Nat) : Qe := ms[i]?.getD ⟨0, ⟨0, 0, 0, 0⟩⟩
theorem gq_of {ms : List Qe} {i : Nat} (h : i < ms.length) : gq ms i = ms[i] := by simp [gq, h]
theorem gq_mem {ms : List Qe} {i : Nat} (h : i < ms.length) : gq ms i ∈ ms := by rw [gq_of h]; exact List.getElem_mem h
theorem mem_gq {ms : List Qe} {q : Qe} (h : q ∈ ms) : ∃ i, i < ms.length ∧ gq ms i = q := by
  obtain ⟨i, hi, rfl⟩ := List.getElem_of_mem h
  exact ⟨i, hi, gq_of hi⟩
/-- Two places changed. -/
def swq (ms : List Qe) (i j : Nat) : List Qe := (ms.set i (gq ms j)).set j (gq ms i)
theorem swq_len (ms : List Qe) (i j : Nat) : (swq ms i j).length = ms.length := by simp [swq]
theorem gq_swq {ms : List Qe} {i j : Nat} (hi : i < ms.length) (hj : j < ms.length) (k : Nat) : gq (swq ms i j) k = if k = j then gq ms i else if k = i then gq ms j else gq ms k := by
  unfold gq swq
  rw [List.getElem?_set, List.getElem?_set]
  by_cases h1 : k = j
  · subst h1; simp [hj]; rfl
  · rw [if_neg (fun e => h1 e.symm), if_neg h1]
    by_cases h2 : k = i
    · subst h2; simp [hi]; rfl
    · rw [if_neg (fun e => h2 e.symm), if_neg h2]
theorem swq_perm {ms : List Qe} {i j : Nat} (hi : i < ms.length) (hj : j < ms.length) : (swq ms i j).Perm ms := by
  unfold swq
  rw [gq_of hi, gq_of hj]
  exact List.set_set_perm hi hj

/-- The first n are a heap. -/
def HeapQ (ms : List Qe) (n : Nat) : Prop := ∀ i, 0 < i → i < n → leQ (gq ms ((i - 1) / 2)) (gq ms i)
/-- A heap, but that what stands at j may have to go up. -/
def UpQ (ms : List Qe) (n j : Nat) : Prop := (∀ i, 0 < i → i < n → i ≠ j → leQ (gq ms ((i - 1) / 2)) (gq ms i)) ∧ (0 < j → ∀ i, 0 < i → i < n → (i - 1) / 2 = j → leQ (gq ms ((j - 1) / 2)) (gq ms i))
theorem UpQ.done {ms : List Qe} {n j : Nat} (h : UpQ ms n j) (hj : 0 < j → ¬ ltQ (gq ms j) (gq ms ((j - 1) / 2))) : HeapQ ms n := by
  intro i h0 hn
  by_cases e : i = j
  · subst e; exact hj h0
  · exact h.1 i h0 hn e
theorem UpQ.step {ms : List Qe} {n j : Nat} (h : UpQ ms n j) (h0 : 0 < j) (hj : j < n) (hn : n ≤ ms.length) (hl : ltQ (gq ms j) (gq ms ((j - 1) / 2))) : UpQ (swq ms ((j - 1) / 2) j) n ((j - 1) / 2) := by
  obtain ⟨p, hp⟩ : ∃ p, (j - 1) / 2 = p := ⟨_, rfl⟩
  rw [hp] at hl ⊢
  have hG := gq_swq (ms := ms) (i := p) (j := j) (by omega) (by omega)
  have hlj := leQ_of_lt hl
  constructor
  · intro i i0 hi hip
    rw [hG, hG]
    by_cases e1 : i = j
    · subst e1
      rw [hp, if_pos rfl, if_neg (by omega), if_pos rfl]
      exact hlj
    · rw [if_neg e1, if_neg hip]
      have hx := h.1 i i0 hi e1
      by_cases e2 : (i - 1) / 2 = j
      · rw [if_pos e2]
        have := h.2 h0 i i0 hi e2
        rwa [hp] at this
      · rw [if_neg e2]
        by_cases e3 : (i - 1) / 2 = p
        · rw [if_pos e3]
          rw [e3] at hx
          exact leQ_trans hlj hx
        · rw [if_neg e3]; exact hx
  · intro p0 i i0 hi hip
    have hpp := h.1 p p0 (by omega) (by omega)
    rw [hG, hG, if_neg (by omega), if_neg (by omega)]
    by_cases e1 : i = j
    · rw [if_pos e1]; exact hpp
    · rw [if_neg e1, if_neg (by omega)]
      have hx := h.1 i i0 hi e1
      rw [hip] at hx
      exact leQ_trans hpp hx
/-- A heap, but that what stands at c may have to go up or down. -/
def MidQ (ms : List Qe) (n c : Nat) : Prop := (∀ i, 0 < i → i < n → i ≠ c → (i - 1) / 2 ≠ c → leQ (gq ms ((i - 1) / 2)) (gq ms i)) ∧ (0 < c → ∀ i, 0 < i → i < n → (i - 1) / 2 = c → leQ (gq ms ((c - 1) / 2)) (gq ms i))
/-- The like, and what stands at c is not to go up. -/
def DownQ (ms : List Qe) (n c : Nat) : Prop := MidQ ms n c ∧ (0 < c → leQ (gq ms ((c - 1) / 2)) (gq ms c))
theorem MidQ.step {ms : List Qe} {n c j : Nat} (h : MidQ ms n c) (h0 : 0 < j) (hj : j < n) (hn : n ≤ ms.length) (hjc : (j - 1) / 2 = c) (hm : ∀ i, 0 < i → i < n → (i - 1) / 2 = c → leQ (gq ms j) (gq ms i)) (hl : ltQ (gq ms j) (gq ms c)) : DownQ (swq ms c j) n j := by
  have hG := gq_swq (ms := ms) (i := c) (j := j) (by omega) (by omega)
  have hlj := leQ_of_lt hl
  refine ⟨⟨?_, ?_⟩, ?_⟩
  · intro i i0 hi hij hip
    rw [hG, hG, if_neg hip, if_neg hij]
    by_cases e2 : i = c
    · subst e2
      rw [if_neg (by omega), if_pos rfl]
      exact h.2 i0 j h0 hj hjc
    · rw [if_neg e2]
      by_cases e3 : (i - 1) / 2 = c
      · rw [if_pos e3]; exact hm i i0 hi e3
      · rw [if_neg e3]; exact h.1 i i0 hi e2 e3
  · intro _ i i0 hi hij
    rw [hG, hG, hjc, if_neg (by omega), if_pos rfl, if_neg (by omega), if_neg (by omega)]
    have := h.1 i i0 hi (by omega) (by omega)
    rwa [hij] at this
  · intro _
    rw [hG, hG, hjc, if_neg (by omega), if_pos rfl, if_pos rfl]
    exact hlj
/-- On the way down from i: at c; nothing has turned as long as c is i. -/
def DwnS (ms ns : List Qe) (n i c : Nat) : Prop := MidQ ns n c ∧ i ≤ c ∧ (c = i → ns = ms) ∧ (i < c → leQ (gq ns ((c - 1) / 2)) (gq ns c))
theorem DwnS.start {ms : List Qe} {n i : Nat} (h : MidQ ms n i) : DwnS ms ms n i i := ⟨h, Nat.le_refl _, fun _ => rfl, fun h => absurd h (by omega)⟩
theorem DwnS.step {ms ns : List Qe} {n i c j : Nat} (h : DwnS ms ns n i c) (h0 : 0 < j) (hj : j < n) (hn : n ≤ ns.length) (hjc : (j - 1) / 2 = c) (hm : ∀ i, 0 < i → i < n → (i - 1) / 2 = c → leQ (gq ns j) (gq ns i)) (hl : ltQ (gq ns j) (gq ns c)) : DwnS ms (swq ns c j) n i j := by
  have hd := h.1.step h0 hj hn hjc hm hl
  have := h.2.1
  exact ⟨hd.1, by omega, fun e => by omega, fun _ => hd.2 h0⟩
theorem DwnS.done {ms ns : List Qe} {n i c : Nat} (h : DwnS ms ns n i c) (hc : ∀ k, 0 < k → k < n → (k - 1) / 2 = c → leQ (gq ns c) (gq ns k)) : (i < c → HeapQ ns n) ∧ (¬ i < c → ns = ms ∧ UpQ ms n i) := by
  obtain ⟨h1, h2, h3, h4⟩ := h
  refine ⟨fun hic k k0 hk => ?_, fun hic => ?_⟩
  · by_cases e : (k - 1) / 2 = c
    · rw [e]; exact hc k k0 hk e
    · by_cases e2 : k = c
      · subst e2; exact h4 hic
      · exact h1.1 k k0 hk e2 e
  · obtain rfl : c = i := by omega
    obtain rfl := h3 rfl
    refine ⟨rfl, fun k k0 hk e2 => ?_, h1.2⟩
    by_cases e : (k - 1) / 2 = c
    · rw [e]; exact hc k k0 hk e
    · exact h1.1 k k0 hk e2 e
/-- The children of a place. -/
theorem kidsQ {n c i : Nat} (h0 : 0 < i) (hi : i < n) (hp : (i - 1) / 2 = c) : i = 2 * c + 1 ∨ i = 2 * c + 2 := by omega
/-- The first of a heap is the least. -/
theorem HeapQ.least {ms : List Qe} {n : Nat} (h : HeapQ ms n) : ∀ i, i < n → leQ (gq ms 0) (gq ms i) := by
  intro i
  induction i using Nat.strongRecOn with
  | ind i ih =>
    intro hi
    by_cases h0 : i = 0
    · subst h0; exact leQ_refl _
    · exact leQ_trans (ih ((i - 1) / 2) (by omega) (by omega)) (h i (by omega) hi)
/-- One is taken out: the last one stands in its place. -/
theorem HeapQ.cut {ms : List Qe} {n i : Nat} (hn : n + 1 ≤ ms.length) (h' : HeapQ ms (n + 1)) (hi : i ≤ n) : MidQ (swq ms i n) n i := by
  have hG := gq_swq (ms := ms) (i := i) (j := n) (by omega) (by omega)
  refine ⟨fun k k0 hk h1 h2 => ?_, fun h0 k k0 hk h2 => ?_⟩
  · rw [hG, hG, if_neg (by omega), if_neg h2, if_neg (by omega), if_neg h1]
    exact h' k k0 (by omega)
  · rw [hG, hG, if_neg (by omega), if_neg (by omega), if_neg (by omega), if_neg (by omega)]
    have h3 := h' k k0 (by omega)
    rw [h2] at h3
    exact leQ_trans (h' i h0 (by omega)) h3
theorem HeapQ.less {ms : List Qe} {n m : Nat} (h : HeapQ ms n) (hm : m ≤ n) : HeapQ ms m := fun i i0 hi => h i i0 (by omega)
theorem gq_app {ms : List Qe} {x : Qe} {i : Nat} (h : i < ms.length) : gq (ms ++ [x]) i = gq ms i := by simp [gq, List.getElem?_append_left h]
theorem gq_last {ms : List Qe} {x : Qe} : gq (ms ++ [x]) ms.length = x := by simp [gq]
theorem HeapQ.push {ms : List Qe} (h : HeapQ ms ms.length) (x : Qe) : UpQ (ms ++ [x]) (ms.length + 1) ms.length := by
  refine ⟨fun i i0 hi hp => ?_, fun h0 i i0 hi hp => absurd hp (by omega)⟩
  rw [gq_app (by omega), gq_app (by omega)]
  exact h i i0 (by omega)
theorem gq_take {ms : List Qe} {n i : Nat} (h : i < n) : gq (ms.take n) i = gq ms i := by simp [gq, List.getElem?_take_of_lt h]
theorem HeapQ.take {ms : List Qe} {n : Nat} (h : HeapQ ms n) : HeapQ (ms.take n) n := by
  intro i h0 hn
  rw [gq_take (by omega), gq_take hn]
  exact h i h0 hn
theorem popQ_perm {ns ms : List Qe} {n : Nat} (hl : ns.length = n + 1) (hp : ns.Perm ms) : (gq ns n :: ns.take n).Perm ms := by
  refine List.Perm.trans ?_ hp
  have e : ns = ns.take n ++ [gq ns n] := by
    rw [gq_of (by omega)]
    have := List.take_succ_eq_append_getElem (l := ns) (i := n) (by omega)
    rw [← this, List.take_of_length_le (by omega)]
  have p1 : (gq ns n :: ns.take n).Perm (ns.take n ++ [gq ns n]) := (List.perm_append_singleton _ _).symm
  rw [← e] at p1
  exact p1
/-- No block twice. -/
def NdQ (ms : List Qe) : Prop := (ms.map Qe.blk).Nodup
theorem NdQ.ne {ms : List Qe} (h : NdQ ms) {i j : Nat} (hj : j < ms.length) (hij : i < j) : (gq ms i).blk ≠ (gq ms j).blk := by
  unfold NdQ at h
  rw [gq_of hj, gq_of (Nat.lt_trans hij hj)]
  have := List.pairwise_iff_getElem.1 h i j (by simp; omega) (by simpa using hj) hij
  simpa using this
theorem NdQ.one {ms : List Qe} (h : NdQ ms) {i j : Nat} (hi : i < ms.length) (hj : j < ms.length) (e : (gq ms i).blk = (gq ms j).blk) : i = j := by
  rcases Nat.lt_trichotomy i j with h1 | h1 | h1
  · exact absurd e (h.ne hj h1)
  · exact h1
  · exact absurd e.symm (h.ne hi h1)
theorem NdQ.perm {ms ns : List Qe} (h : NdQ ms) (hp : ns.Perm ms) : NdQ ns := (hp.map Qe.blk).nodup_iff.2 h
theorem NdQ.tail {ms : List Qe} {q : Qe} (h : NdQ (q :: ms)) : NdQ ms := by unfold NdQ at *; rw [List.map_cons, List.nodup_cons] at h; exact h.2
end Go.Proofs.Ytdfbnfgemjljgaa
