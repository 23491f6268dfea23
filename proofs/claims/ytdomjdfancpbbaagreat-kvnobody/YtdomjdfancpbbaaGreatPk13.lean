/-
  PgFree: The free pages of a pool as a list without doubles (FreeOf): what a page taken out, and one put in, makes of it; how many are held.
  HiMath: Mathematics of a heap of ints: the heap, what a change of two places does to it, and that what goes up, or down, leaves a heap.
  HiOps: A heap of ints (its type: page.freePages) at a pointer to a field or a variable; contracts of its methods Len, Less, Swap, and of the calls of them through container/heap's interface.
  HiUps: Contract: heap.up over a heap of ints.
-/
import Derived.Test.YtdomjdfancpbbaaGreatPk12
import Derived.Test.YtdomjdfancpbbaaGreatPk01
namespace Go.Proofs.YtdomjdfancpbbaaGreat
open Go.RowKit
set_option linter.unusedVariables false
set_option maxRecDepth 1000000

/-- These are the free pages, each once. -/
structure FreeOf (hs fs : List Int) : Prop where
  nd : fs.Nodup
  mem : ∀ x, x ∈ fs ↔ ∃ i : Nat, i < hs.length ∧ x = i ∧ hs[i]?.getD 0 = 0
  cnt : fs.length + (usedL hs).length = hs.length
theorem used_set {hs : List Int} {i : Nat} {v : Int} (hi : i < hs.length) : ∀ k, k ≤ hs.length → (usedK (hs.set i v) k).length + (if i < k ∧ 0 < hs[i]?.getD 0 then 1 else 0) = (usedK hs k).length + (if i < k ∧ 0 < v then 1 else 0) := by
  intro k
  induction k with
  | zero => intro _; simp [usedK]
  | succ k ih =>
    intro hk
    have h := ih (by omega)
    simp only [usedK]
    by_cases e : k = i
    · subst e
      have e1 : (hs.set k v)[k]?.getD 0 = v := by rw [List.getElem?_set, if_pos rfl, if_pos hi]; rfl
      rw [e1]
      simp only [Nat.lt_irrefl, false_and, if_false, Nat.add_zero] at h
      have a1 : k < k + 1 := by omega
      simp only [a1, true_and]
      split <;> split <;> simp <;> omega
    · have e1 : (hs.set i v)[k]?.getD 0 = hs[k]?.getD 0 := by rw [List.getElem?_set, if_neg (fun h => e h.symm)]
      rw [e1]
      have a1 : (i < k + 1) = (i < k) := propext ⟨fun h => by omega, fun h => by omega⟩
      simp only [a1]
      by_cases q : 0 < hs[k]?.getD 0
      · rw [if_pos q, if_pos q]; simp only [List.length_append, List.length_singleton]; omega
      · rw [if_neg q, if_neg q]; exact h
theorem used_set1 {hs : List Int} {i : Nat} {v : Int} (hi : i < hs.length) (h0 : hs[i]?.getD 0 = 0) (hv : 0 < v) : (usedL (hs.set i v)).length = (usedL hs).length + 1 := by
  have := used_set (v := v) hi hs.length (Nat.le_refl _)
  rw [if_neg (by omega), if_pos ⟨hi, hv⟩] at this
  unfold usedL
  rw [List.length_set]
  omega
theorem used_set0 {hs : List Int} {i : Nat} (hi : i < hs.length) (h0 : 0 < hs[i]?.getD 0) : (usedL (hs.set i 0)).length + 1 = (usedL hs).length := by
  have := used_set (v := 0) hi hs.length (Nat.le_refl _)
  rw [if_pos ⟨hi, h0⟩, if_neg (by omega)] at this
  unfold usedL
  rw [List.length_set]
  omega
theorem used_setn {hs : List Int} {i : Nat} {v : Int} (hi : i < hs.length) (h0 : 0 < hs[i]?.getD 0) (hv : 0 < v) : (usedL (hs.set i v)).length = (usedL hs).length := by
  have := used_set (v := v) hi hs.length (Nat.le_refl _)
  rw [if_pos ⟨hi, h0⟩, if_pos ⟨hi, hv⟩] at this
  unfold usedL
  rw [List.length_set]
  omega
theorem set_at (hs : List Int) {i : Nat} (v : Int) (hi : i < hs.length) (j : Nat) : (hs.set i v)[j]?.getD 0 = if j = i then v else hs[j]?.getD 0 := by
  rw [List.getElem?_set]
  by_cases e : i = j
  · subst e; rw [if_pos rfl, if_pos hi, if_pos rfl]; rfl
  · rw [if_neg e, if_neg (fun h => e h.symm)]
/-- The least one is taken out. -/
theorem FreeOf.pop {hs fs ns : List Int} {x : Int} (h : FreeOf hs fs) (hp : (x :: ns).Perm fs) (hm : ∀ y ∈ fs, x ≤ y) : takeI hs < hs.length ∧ x = (takeI hs : Int) ∧ FreeOf (takeH hs) ns := by
  have hx : x ∈ fs := hp.subset (List.mem_cons_self ..)
  obtain ⟨i, hi, rfl, h0⟩ := (h.mem x).1 hx
  have ht : takeI hs = i := takeI_at hi h0 fun j hj e => by
    have := hm j ((h.mem j).2 ⟨j, by omega, rfl, e⟩)
    omega
  have hlt : takeI hs < hs.length := by omega
  have hH : takeH hs = hs.set i 1 := by unfold takeH; rw [if_pos hlt, ht]
  have hnd := hp.nodup_iff.2 h.nd
  rw [List.nodup_cons] at hnd
  refine ⟨hlt, by rw [ht], hnd.2, fun y => ?_, ?_⟩
  · rw [hH, List.length_set]
    constructor
    · intro hy
      obtain ⟨j, hj, rfl, hj0⟩ := (h.mem y).1 (hp.subset (List.mem_cons_of_mem _ hy))
      refine ⟨j, hj, rfl, ?_⟩
      rw [set_at _ _ hi, if_neg, hj0]
      rintro rfl
      exact hnd.1 hy
    · rintro ⟨j, hj, rfl, hj0⟩
      rw [set_at _ _ hi] at hj0
      by_cases e : j = i
      · rw [if_pos e] at hj0; omega
      · rw [if_neg e] at hj0
        have : (j : Int) ∈ (i : Int) :: ns := hp.symm.subset ((h.mem _).2 ⟨j, hj, rfl, hj0⟩)
        rcases List.mem_cons.1 this with h1 | h1
        · omega
        · exact h1
  · have hl := hp.length_eq
    simp only [List.length_cons] at hl
    rw [hH, used_set1 hi h0 (by omega), List.length_set]
    have := h.cnt
    omega
/-- One is put in. -/
theorem FreeOf.push {hs fs ns : List Int} {i : Nat} (h : FreeOf hs fs) (hi : i < hs.length) (h0 : 0 < hs[i]?.getD 0) (hp : ns.Perm (fs ++ [(i : Int)])) : FreeOf (hs.set i 0) ns := by
  have hni : (i : Int) ∉ fs := fun hx => by
    obtain ⟨j, hj, e, hj0⟩ := (h.mem _).1 hx
    have : j = i := by omega
    subst this
    omega
  refine ⟨hp.nodup_iff.2 ?_, fun y => ?_, ?_⟩
  · rw [List.nodup_append]
    refine ⟨h.nd, by simp, fun a ha b hb => ?_⟩
    simp at hb
    subst hb
    rintro rfl
    exact hni ha
  · rw [hp.mem_iff, List.mem_append, List.mem_singleton, List.length_set]
    constructor
    · rintro (hy | rfl)
      · obtain ⟨j, hj, rfl, hj0⟩ := (h.mem y).1 hy
        refine ⟨j, hj, rfl, ?_⟩
        rw [set_at _ _ hi]
        by_cases e : j = i
        · rw [if_pos e]
        · rw [if_neg e]; exact hj0
      · exact ⟨i, hi, rfl, by rw [set_at _ _ hi, if_pos rfl]⟩
    · rintro ⟨j, hj, rfl, hj0⟩
      rw [set_at _ _ hi] at hj0
      by_cases e : j = i
      · right; rw [e]
      · rw [if_neg e] at hj0
        left
        exact (h.mem _).2 ⟨j, hj, rfl, hj0⟩
  · have hl := hp.length_eq
    simp only [List.length_append, List.length_singleton] at hl
    have h2 := used_set0 hi h0
    rw [List.length_set]
    have := h.cnt
    omega
/-- One that stays held. -/
theorem FreeOf.stay {hs fs : List Int} {i : Nat} {v : Int} (h : FreeOf hs fs) (hi : i < hs.length) (h0 : 0 < hs[i]?.getD 0) (hv : 0 < v) : FreeOf (hs.set i v) fs := by
  refine ⟨h.nd, fun y => ?_, by rw [used_setn hi h0 hv, List.length_set]; exact h.cnt⟩
  rw [h.mem, List.length_set]
  constructor
  · rintro ⟨j, hj, rfl, hj0⟩
    refine ⟨j, hj, rfl, ?_⟩
    rw [set_at _ _ hi, if_neg, hj0]
    rintro rfl
    omega
  · rintro ⟨j, hj, rfl, hj0⟩
    rw [set_at _ _ hi] at hj0
    by_cases e : j = i
    · rw [if_pos e] at hj0; omega
    · rw [if_neg e] at hj0; exact ⟨j, hj, rfl, hj0⟩
/-- None is free. -/
theorem FreeOf.none {hs : List Int} (h : FreeOf hs []) : ¬ takeI hs < hs.length := fun ht => by
  have := (h.mem (takeI hs : Int)).2 ⟨_, ht, rfl, takeI_free ht⟩
  simp at this
/-- The numbers from 0 on. -/
def upto (n : Nat) : List Int := (List.range n).map fun i : Nat => (i : Int)
theorem upto_len (n : Nat) : (upto n).length = n := by simp [upto]
theorem upto_at {n i : Nat} (h : i < n) : (upto n)[i]?.getD 0 = (i : Int) := by simp [upto, h]
theorem used_none (n : Nat) : ∀ k, k ≤ n → usedK (List.replicate n 0) k = [] := by
  intro k
  induction k with
  | zero => intro _; rfl
  | succ k ih =>
    intro hk
    simp only [usedK]
    have e : (List.replicate n (0 : Int))[k]?.getD 0 = 0 := by rw [List.getElem?_replicate, if_pos (by omega)]; rfl
    rw [ih (by omega), e, if_neg (by omega)]
theorem free_new (n : Nat) : FreeOf (List.replicate n 0) (upto n) := by
  refine ⟨?_, fun x => ?_, ?_⟩
  · unfold upto
    exact List.Pairwise.map _ (fun a b (h : a ≠ b) e => h (Int.ofNat.inj e)) List.nodup_range
  · unfold upto
    rw [List.mem_map, List.length_replicate]
    constructor
    · rintro ⟨i, hi, rfl⟩
      rw [List.mem_range] at hi
      exact ⟨i, hi, rfl, by rw [List.getElem?_replicate, if_pos hi]; rfl⟩
    · rintro ⟨i, hi, rfl, _⟩
      exact ⟨i, List.mem_range.2 hi, rfl⟩
  · unfold usedL
    rw [upto_len, List.length_replicate, used_none n n (Nat.le_refl _)]
    rfl
end Go.Proofs.YtdomjdfancpbbaaGreat
namespace Go.Proofs.YtdomjdfancpbbaaGreat
open Go.RowKit
set_option linter.unusedVariables false
set_option maxRecDepth 1000000

/-- The first one is to give way ahead of the second one. -/
def ltI (a b : Int) : Prop := a < b
def leI (a b : Int) : Prop := ¬ ltI b a
theorem leI_refl (a : Int) : leI a a := by unfold leI ltI; omega
theorem leI_trans {a b c : Int} (h : leI a b) (k : leI b c) : leI a c := by unfold leI ltI at *; omega
theorem leI_of_lt {a b : Int} (h : ltI a b) : leI a b := by unfold leI; unfold ltI at *; omega
theorem leI_anti {a b : Int} (h : leI a b) (k : leI b a) : a = b := by unfold leI ltI at *; omega
theorem leI_total (a b : Int) : leI a b ∨ leI b a := by unfold leI ltI; omega

/-- What stands at a place. -/
def gi (ms : List Int) (i : Nat) : Int := ms[i]?.getD 0
theorem gi_of {ms : List Int} {i : Nat} (h : i < ms.length) : gi ms i = ms[i] := by simp [gi, h]
theorem gi_mem {ms : List Int} {i : Nat} (h : i < ms.length) : gi ms i ∈ ms := by rw [gi_of h]; exact List.getElem_mem h
/-- Two places changed. -/
def swi (ms : List Int) (i j : Nat) : List Int := (ms.set i (gi ms j)).set j (gi ms i)
theorem swi_len (ms : List Int) (i j : Nat) : (swi ms i j).length = ms.length := by simp [swi]
theorem gi_swi {ms : List Int} {i j : Nat} (hi : i < ms.length) (hj : j < ms.length) (k : Nat) : gi (swi ms i j) k = if k = j then gi ms i else if k = i then gi ms j else gi ms k := by
  unfold gi swi
  rw [List.getElem?_set, List.getElem?_set]
  by_cases h1 : k = j
  · subst h1; simp [hj]; rfl
  · rw [if_neg (fun e => h1 e.symm), if_neg h1]
    by_cases h2 : k = i
    · subst h2; simp [hi]; rfl
    · rw [if_neg (fun e => h2 e.symm), if_neg h2]
theorem swi_perm {ms : List Int} {i j : Nat} (hi : i < ms.length) (hj : j < ms.length) : (swi ms i j).Perm ms := by
  unfold swi
  rw [gi_of hi, gi_of hj]
  exact List.set_set_perm hi hj

/-- The first n are a heap. -/
def HeapI (ms : List Int) (n : Nat) : Prop := ∀ i, 0 < i → i < n → leI (gi ms ((i - 1) / 2)) (gi ms i)
/-- A heap, but that what stands at j may have to go up. -/
def UpI (ms : List Int) (n j : Nat) : Prop := (∀ i, 0 < i → i < n → i ≠ j → leI (gi ms ((i - 1) / 2)) (gi ms i)) ∧ (0 < j → ∀ i, 0 < i → i < n → (i - 1) / 2 = j → leI (gi ms ((j - 1) / 2)) (gi ms i))
theorem UpI.done {ms : List Int} {n j : Nat} (h : UpI ms n j) (hj : 0 < j → ¬ ltI (gi ms j) (gi ms ((j - 1) / 2))) : HeapI ms n := by
  intro i h0 hn
  by_cases e : i = j
  · subst e; exact hj h0
  · exact h.1 i h0 hn e
theorem UpI.step {ms : List Int} {n j : Nat} (h : UpI ms n j) (h0 : 0 < j) (hj : j < n) (hn : n ≤ ms.length) (hl : ltI (gi ms j) (gi ms ((j - 1) / 2))) : UpI (swi ms ((j - 1) / 2) j) n ((j - 1) / 2) := by
  obtain ⟨p, hp⟩ : ∃ p, (j - 1) / 2 = p := ⟨_, rfl⟩
  rw [hp] at hl ⊢
  have hG := gi_swi (ms := ms) (i := p) (j := j) (by omega) (by omega)
  have hlj := leI_of_lt hl
  constructor
  · intro i i0 hi hip
    rw [hG, hG]
    by_cases e1 : i = j
    · subst e1
      rw [hp, if_pos rfl, if_neg (by omega), if_pos rfl]
      exact hlj
    · rw [if_neg e1, if_neg hip]
      have hx := h.1 i i0 hi e1
      by_cases e2 : (i - 1) / 2 = j
      · rw [if_pos e2]
        have := h.2 h0 i i0 hi e2
        rwa [hp] at this
      · rw [if_neg e2]
        by_cases e3 : (i - 1) / 2 = p
        · rw [if_pos e3]
          rw [e3] at hx
          exact leI_trans hlj hx
        · rw [if_neg e3]; exact hx
  · intro p0 i i0 hi hip
    have hpp := h.1 p p0 (by omega) (by omega)
    rw [hG, hG, if_neg (by omega), if_neg (by omega)]
    by_cases e1 : i = j
    · rw [if_pos e1]; exact hpp
    · rw [if_neg e1, if_neg (by omega)]
      have hx := h.1 i i0 hi e1
      rw [hip] at hx
      exact leI_trans hpp hx
/-- A heap, but that what stands at c may have to go down. -/
def DownI (ms : List Int) (n c : Nat) : Prop := (∀ i, 0 < i → i < n → (i - 1) / 2 ≠ c → leI (gi ms ((i - 1) / 2)) (gi ms i)) ∧ (0 < c → ∀ i, 0 < i → i < n → (i - 1) / 2 = c → leI (gi ms ((c - 1) / 2)) (gi ms i))
theorem DownI.done {ms : List Int} {n c : Nat} (h : DownI ms n c) (hc : ∀ i, 0 < i → i < n → (i - 1) / 2 = c → leI (gi ms c) (gi ms i)) : HeapI ms n := by
  intro i h0 hn
  by_cases e : (i - 1) / 2 = c
  · rw [e]; exact hc i h0 hn e
  · exact h.1 i h0 hn e
theorem DownI.step {ms : List Int} {n c j : Nat} (h : DownI ms n c) (h0 : 0 < j) (hj : j < n) (hn : n ≤ ms.length) (hjc : (j - 1) / 2 = c) (hm : ∀ i, 0 < i → i < n → (i - 1) / 2 = c → leI (gi ms j) (gi ms i)) (hl : ltI (gi ms j) (gi ms c)) : DownI (swi ms c j) n j := by
  have hG := gi_swi (ms := ms) (i := c) (j := j) (by omega) (by omega)
  have hlj := leI_of_lt hl
  constructor
  · intro i i0 hi hip
    rw [hG, hG, if_neg hip]
    by_cases e1 : i = j
    · subst e1
      rw [if_pos hjc, if_pos rfl]
      exact hlj
    · rw [if_neg e1]
      by_cases e2 : i = c
      · subst e2
        rw [if_neg (by omega), if_pos rfl]
        exact h.2 i0 j h0 hj hjc
      · rw [if_neg e2]
        by_cases e3 : (i - 1) / 2 = c
        · rw [if_pos e3]; exact hm i i0 hi e3
        · rw [if_neg e3]; exact h.1 i i0 hi e3
  · intro _ i i0 hi hij
    rw [hG, hG, hjc, if_neg (by omega), if_pos rfl, if_neg (by omega), if_neg (by omega)]
    have := h.1 i i0 hi (by omega)
    rwa [hij] at this
/-- The first of a heap is the least. -/
theorem HeapI.least {ms : List Int} {n : Nat} (h : HeapI ms n) : ∀ i, i < n → leI (gi ms 0) (gi ms i) := by
  intro i
  induction i using Nat.strongRecOn with
  | ind i ih =>
    intro hi
    by_cases h0 : i = 0
    · subst h0; exact leI_refl _
    · exact leI_trans (ih ((i - 1) / 2) (by omega) (by omega)) (h i (by omega) hi)
theorem HeapI.cut {ms : List Int} {n : Nat} (h : HeapI ms n) (hn : n + 1 ≤ ms.length) (h' : HeapI ms (n + 1)) : DownI (swi ms 0 n) n 0 := by
  have hG := gi_swi (ms := ms) (i := 0) (j := n) (by omega) (by omega)
  refine ⟨fun i i0 hi hp => ?_, fun h => absurd h (by omega)⟩
  rw [hG, hG, if_neg (by omega), if_neg hp, if_neg (by omega), if_neg (by omega)]
  exact h' i i0 (by omega)
theorem gi_app {ms : List Int} {x : Int} {i : Nat} (h : i < ms.length) : gi (ms ++ [x]) i = gi ms i := by simp [gi, List.getElem?_append_left h]
theorem HeapI.push {ms : List Int} (h : HeapI ms ms.length) (x : Int) : UpI (ms ++ [x]) (ms.length + 1) ms.length := by
  refine ⟨fun i i0 hi hp => ?_, fun h0 i i0 hi hp => absurd hp (by omega)⟩
  rw [gi_app (by omega), gi_app (by omega)]
  exact h i i0 (by omega)
theorem gi_take {ms : List Int} {n i : Nat} (h : i < n) : gi (ms.take n) i = gi ms i := by simp [gi, List.getElem?_take_of_lt h]
theorem HeapI.take {ms : List Int} {n : Nat} (h : HeapI ms n) : HeapI (ms.take n) n := by
  intro i h0 hn
  rw [gi_take (by omega), gi_take hn]
  exact h i h0 hn
end Go.Proofs.YtdomjdfancpbbaaGreat
namespace Go.Proofs.YtdomjdfancpbbaaGreat
open Go.RowKit
set_option linter.unusedVariables false
set_option maxRecDepth 1000000

/-- The blocks of two pointers. -/
def at2 (B g k : Nat) : Prop := k = B ∨ k = g
theorem fb_set2 (w : World) (B g k : Nat) (u : Value) : Fb (at2 B g) w (w.setCell ⟨g, k, none⟩ u) := Fb.set (F := at2 B g) (p := ⟨g, k, none⟩) (.inr rfl) u
theorem fb_set3 (w : World) (B g k : Nat) (u : Value) : Fb (at2 B g) w (w.setCell ⟨B, k, none⟩ u) := Fb.set (F := at2 B g) (p := ⟨B, k, none⟩) (.inl rfl) u
theorem Fb.tr {F : Nat → Prop} {a b c : World} (h : Fb F a b) (k : Fb F b c) : Fb F a c := h.trans k fun x hx => .inl hx
/-- A heap of ints: its slice lies in cell o of block B, its numbers in block g. -/
structure HqAt (B o g cap : Nat) (cs : Array Value) (Tb : TypeId) (ms : List Int) (W : World) : Prop where
  var : W.heap[B]? = some (.cells cs Tb (0, 0))
  hdr : cs[o]? = some (.slice (some ⟨g, 0, none⟩) ms.length cap)
  own : OwnK 3 0 g ms.length cap ms W
  ne : B ≠ g
theorem HqAt.cell {B o g cap : Nat} {cs : Array Value} {Tb : TypeId} {ms : List Int} {W : World} (h : HqAt B o g cap cs Tb ms W) : W.cell? ⟨B, o, none⟩ = some (.slice (some ⟨g, 0, none⟩) ms.length cap) := by rw [cell_of_row _ _ _ _ _ _ h.var]; exact h.hdr
theorem HqAt.same {B o g cap : Nat} {cs : Array Value} {Tb : TypeId} {ms : List Int} {W W' : World} (h : HqAt B o g cap cs Tb ms W) (h1 : W'.heap[B]? = W.heap[B]?) (h2 : W'.heap[g]? = W.heap[g]?) : HqAt B o g cap cs Tb ms W' :=
  ⟨h1.trans h.var, h.hdr, h.own.same h2, h.ne⟩
theorem HqAt.below {B o g cap : Nat} {cs : Array Value} {Tb : TypeId} {ms : List Int} {W W' : World} (h : HqAt B o g cap cs Tb ms W) (hb : Below W.heap.size W W') : HqAt B o g cap cs Tb ms W' :=
  h.same (hb.block _ (lt_of_block h.var)) (hb.block _ h.own.lt)
theorem HqAt.fb {F : Nat → Prop} {B o g cap : Nat} {cs : Array Value} {Tb : TypeId} {ms : List Int} {W W' : World} (h : HqAt B o g cap cs Tb ms W) (hb : Fb F W W') (h1 : ¬ F B) (h2 : ¬ F g) : HqAt B o g cap cs Tb ms W' :=
  h.same (hb.block _ (lt_of_block h.var) h1) (hb.block _ h.own.lt h2)
theorem OwnK.room {t : TypeId} {base g m cap : Nat} {xs : List Int} {w : World} (h : OwnK t base g m cap xs w) : m ≤ cap ∧ cap ≤ 9223372036854775807 := by
  rcases id h.2 with ⟨h', _⟩ | ⟨g', c, cur, hv, hB, hg, hnc, hm, rest⟩
  · cases h'
  · cases hv; exact ⟨hnc, by unfold maxLen at hm; omega⟩

theorem qlen_any (a : Option Addr) (n cap : Nat) (w : World) : Calls Tryz.prog 77 #[.slice a n cap] w fun e w' => e = .returned (.int .i64 n) ∧ w = w' := by
  go_enter Tryz.func77, Tryz.ntmps77
  go_wp2
  go_ret
  exact ⟨rfl, rfl⟩
theorem qless_any (g n cap i j : Nat) (ms : List Int) (w : World) (h : OwnK 3 0 g n cap ms w) (hi : i < n) (hj : j < n) (hn : n ≤ 1001) :
    Calls Tryz.prog 169 #[.slice (some ⟨g, 0, none⟩) n cap, .int .i64 i, .int .i64 j] w fun e w' => e = .returned (.bool (decide (gi ms i < gi ms j))) ∧ Below w.heap.size w w' := by
  have ci : w.cell? ⟨g, i, none⟩ = some (.int .i64 (gi ms i)) := h.cell hi
  have cj : w.cell? ⟨g, j, none⟩ = some (.int .i64 (gi ms j)) := h.cell hj
  clear h
  generalize gi ms i = x at *
  generalize gi ms j = y at *
  go_enter Tryz.func169, Tryz.ntmps169
  go_wp2_with fail
  go_region
  go_wp2
  go_ret
  exact ⟨rfl, (Below.refl _ _).drew⟩
theorem qswap_any (g n cap i j : Nat) (ms : List Int) (w : World) (h : OwnK 3 0 g n cap ms w) (hi : i < n) (hj : j < n) (hn : n ≤ 1001) :
    Calls Tryz.prog 170 #[.slice (some ⟨g, 0, none⟩) n cap, .int .i64 i, .int .i64 j] w fun e w' => e = .returned (.tuple #[]) ∧ OwnK 3 0 g n cap (swi ms i j) w' ∧ Fb (at1 g) w w' := by
  have ci : w.cell? ⟨g, i, none⟩ = some (.int .i64 (gi ms i)) := h.cell hi
  have cj : w.cell? ⟨g, j, none⟩ = some (.int .i64 (gi ms j)) := h.cell hj
  have fi := h.frozen
  have h2 := h.set i (gi ms j)
  have c2 : (w.setCell ⟨g, i, none⟩ (.int .i64 (gi ms j))).cell? ⟨g, j, none⟩ = some (.int .i64 (gi (ms.set i (gi ms j)) j)) := h2.cell hj
  have f2 := h2.frozen
  have HS : Hid (OwnK 3 0 g n cap (swi ms i j) _) := h2.set j (gi ms i)
  have HF : Hid (∀ u v : Value, Fb (at1 g) w ((w.setCell ⟨g, i, none⟩ u).setCell ⟨g, j, none⟩ v)) := fun u v => (Fb.set (F := at1 g) (p := ⟨g, i, none⟩) rfl u).trans (Fb.set (F := at1 g) (p := ⟨g, j, none⟩) rfl v) fun x hx => .inl hx
  clear h h2
  generalize gi ms i = x at *
  generalize gi ms j = y at *
  generalize gi (ms.set i y) j = z at *
  go_enter Tryz.func170, Tryz.ntmps170
  go_wp2_with fail
  go_region
  go_wp2
  go_end0
  exact ⟨rfl, HS.out, (HF.out _ _).drew⟩

/-- The interface value. -/
abbrev hq (B o : Nat) : Value := .iface 112 (.pointer (some ⟨B, o, none⟩))
theorem Tryz.methI (name : String) (f : Nat) (h : (Tryz.prog.info? 112).map (fun i => (i.methods.find? (·.name == name)).map (fun m => (m.path, m.func))) = some (some (#[], some (f, false)))) :
    ∃ i m, Tryz.prog.info? 112 = some i ∧ i.methods.find? (·.name == name) = some m ∧ m.path = #[] ∧ m.func = some (f, false) := by
  cases hi : Tryz.prog.info? 112 with
  | none => rw [hi] at h; simp at h
  | some i =>
    rw [hi] at h
    simp only [Option.map_some, Option.some.injEq] at h
    cases hm : i.methods.find? (·.name == name) with
    | none => rw [hm] at h; simp at h
    | some m =>
      rw [hm] at h
      simp at h
      exact ⟨i, m, rfl, hm, h.1, h.2⟩
theorem wrapnilI (x : TypeId) (a : Addr) (s : String) (w : World) : (Builtin.ssaWrapNilChk_ #[x] x #[.pointer (some a), strVal "", strVal s]).run Tryz.prog w = .ok (.pointer (some a)) w := by kernel_rfl
theorem methI_val (name : String) (f : Nat) (h : (Tryz.prog.info? 112).map (fun i => (i.methods.find? (·.name == name)).map (fun m => (m.path, m.func))) = some (some (#[], some (f, false)))) (B o : Nat) (w : World) (v : Value) (hc : w.cell? ⟨B, o, none⟩ = some v) :
    (method 315 112 (.pointer (some ⟨B, o, none⟩)) name).run Tryz.prog w = .ok (f, v) w := by
  obtain ⟨i, m, hi, hm, hp, hf⟩ := Tryz.methI name f h
  unfold method
  simp [go_sem, typeInfo, hi, hm, hp, hf, follow, receiverAt, Place.get, wrapnilI, loadVar, hc]
theorem methI_less (B o : Nat) (w : World) (v : Value) (hc : w.cell? ⟨B, o, none⟩ = some v) : (method 315 112 (.pointer (some ⟨B, o, none⟩)) "Less").run Tryz.prog w = .ok (169, v) w := methI_val "Less" 169 (by kernel_rfl) B o w v hc
theorem methI_swap (B o : Nat) (w : World) (v : Value) (hc : w.cell? ⟨B, o, none⟩ = some v) : (method 315 112 (.pointer (some ⟨B, o, none⟩)) "Swap").run Tryz.prog w = .ok (170, v) w := methI_val "Swap" 170 (by kernel_rfl) B o w v hc
theorem methI_len (B o : Nat) (w : World) (v : Value) (hc : w.cell? ⟨B, o, none⟩ = some v) : (method 315 112 (.pointer (some ⟨B, o, none⟩)) "Len").run Tryz.prog w = .ok (77, v) w := methI_val "Len" 77 (by kernel_rfl) B o w v hc
theorem methI_push (a : Addr) (w : World) : (method 315 112 (.pointer (some a)) "Push").run Tryz.prog w = .ok (172, .pointer (some a)) w := by kernel_rfl
theorem methI_pop (a : Addr) (w : World) : (method 315 112 (.pointer (some a)) "Pop").run Tryz.prog w = .ok (171, .pointer (some a)) w := by kernel_rfl
theorem HqAt.less {B o g cap : Nat} {cs : Array Value} {Tb : TypeId} {ms : List Int} {W : World} (h : HqAt B o g cap cs Tb ms W) (i j : Nat) (hi : i < ms.length) (hj : j < ms.length) (hn : ms.length ≤ 1001) :
    Calls Tryz.prog 169 #[.slice (some ⟨g, 0, none⟩) ms.length cap, .int .i64 i, .int .i64 j] W fun e w' => e = .returned (.bool (decide (gi ms i < gi ms j))) ∧ HqAt B o g cap cs Tb ms w' ∧ Fb (at2 B g) W w' :=
  (qless_any g ms.length cap i j ms W h.own hi hj hn).mono fun e w' ⟨h1, h2⟩ => ⟨h1, h.below h2, Fb.of h2⟩
theorem HqAt.swap {B o g cap : Nat} {cs : Array Value} {Tb : TypeId} {ms : List Int} {W : World} (h : HqAt B o g cap cs Tb ms W) (i j : Nat) (hi : i < ms.length) (hj : j < ms.length) (hn : ms.length ≤ 1001) :
    Calls Tryz.prog 170 #[.slice (some ⟨g, 0, none⟩) ms.length cap, .int .i64 i, .int .i64 j] W fun e w' => e = .returned (.tuple #[]) ∧ HqAt B o g cap cs Tb (swi ms i j) w' ∧ Fb (at2 B g) W w' :=
  (qswap_any g ms.length cap i j ms W h.own hi hj hn).mono fun e w' ⟨h1, h2, h3⟩ => ⟨h1, ⟨h3.one h.var h.ne, by rw [swi_len]; exact h.hdr, by rw [swi_len]; exact h2, h.ne⟩, h3.mono fun x hx => .inr hx⟩
end Go.Proofs.YtdomjdfancpbbaaGreat
namespace Go.Proofs.YtdomjdfancpbbaaGreat
open Go.RowKit
set_option linter.unusedVariables false
set_option maxRecDepth 1000000

set_option maxHeartbeats 1000000 in
theorem qup_any (B o g cap : Nat) (cs : Array Value) (Tb : TypeId) (ms : List Int) (j : Nat) (w : World) (h : HqAt B o g cap cs Tb ms w) (hj : j < ms.length) (hn : ms.length ≤ 1001) (hU : UpI ms ms.length j) :
    Calls Tryz.prog 72 #[hq B o, .int .i64 j] w fun e w' => e = .returned (.tuple #[]) ∧ (∃ ns, ns.Perm ms ∧ HeapI ns ns.length ∧ HqAt B o g cap cs Tb ns w') ∧ Fb (at2 B g) w w' := by
  have H := hid h
  have HU := hid hU
  clear h hU
  go_enter Tryz.func72, Tryz.ntmps72
  go_wp2_with fail
  go_loopw [1] (fun i W => ∃ (k : Nat) (ns : List Int), i = .int .i64 k ∧ k < ns.length ∧ Hid (ns.Perm ms) ∧ Hid (UpI ns ns.length k) ∧ Hid (HqAt B o g cap cs Tb ns W) ∧ Hid (Fb (at2 B g) w W)) (fun i _ => (intOf i).toNat)
  case atStart => exact ⟨j, ms, rfl, hj, List.Perm.refl _, HU, H, Fb.refl _ _⟩
  case round =>
    obtain ⟨k, ns, rfl, hk, HP, HUk, HH, HB⟩ := hrel
    have hl : ns.length ≤ 1001 := by have := HP.out.length_eq; omega
    by_cases h0 : k = 0
    · subst h0
      have HD : Hid (HeapI ns ns.length) := HUk.out.done (fun h => absurd h (by omega))
      go_wp2
      go_end0
      exact ⟨rfl, ⟨ns, HP.out, HD.out, HH.out⟩, HB.out⟩
    · obtain ⟨p, hp⟩ : ∃ p : Nat, ((k : Int) - 1) / 2 = (p : Int) := ⟨(k - 1) / 2, by omega⟩
      have hp' : (k - 1) / 2 = p := by omega
      have hne : ¬ (p : Int) = (k : Int) := by omega
      have hne' : ((p : Int) == (k : Int)) = false := by simpa using hne
      have hml := methI_less B o wr _ HH.out.cell
      have hL := HH.out.less k p hk (by omega) hl
      by_cases hb : ltI (gi ns k) (gi ns p)
      · have hbb : decide (gi ns k < gi ns p) = true := decide_eq_true hb
        have HS : Hid (UpI (swi ns p k) (swi ns p k).length p) := by
          have := HUk.out.step (by omega) hk (Nat.le_refl _) (by rw [hp']; exact hb)
          rw [hp'] at this
          rw [swi_len]
          exact this
        have HPS : Hid ((swi ns p k).Perm ms) := (swi_perm (by omega) hk).trans HP.out
        rw [hbb] at hL
        clear hb hbb HH
        go_wp2_with fail
        refine hL.mono ?_
        rintro e w2 ⟨rfl, hH2, hB2⟩
        have hms := methI_swap B o w2 _ hH2.cell
        have hS := hH2.swap p k (by omega) hk hl
        have HB2 := hid (HB.out.tr hB2)
        clear hH2 hB2 hL hml
        go_wp2_with fail
        refine hS.mono ?_
        rintro e w3 ⟨rfl, hH3, hB3⟩
        have HH3 := hid hH3
        have HB3 := hid (HB2.out.tr hB3)
        clear hH3 hB3 hS hms
        go_wp2_with fail
        go_round
        case rel => exact ⟨p, swi ns p k, rfl, by rw [swi_len]; omega, HPS, HS, HH3, HB3⟩
        case measure => simp [intOf]; omega
      · have hbb : decide (gi ns k < gi ns p) = false := decide_eq_false hb
        have HD : Hid (HeapI ns ns.length) := HUk.out.done (fun _ => by rw [hp']; exact hb)
        rw [hbb] at hL
        clear hb hbb HH
        go_wp2_with fail
        refine hL.mono ?_
        rintro e w2 ⟨rfl, hH2, hB2⟩
        have HH2 := hid hH2
        have HB2 := hid (HB.out.tr hB2)
        clear hH2 hB2 hL hml
        go_wp2
        go_end0
        exact ⟨rfl, ⟨ns, HP.out, HD.out, HH2.out⟩, HB2.out⟩
end Go.Proofs.YtdomjdfancpbbaaGreat
