/-
  Mathematics of the greatest ones: what is kept of marks, one by one (TopSet); the places of the greatest (TopOf), of which there is one list alone.
-/
import Derived.Test.YtpllffekebkacaaPushs
namespace Go.Proofs.Ytpllffekebkacaa
open Go.RowKit
set_option linter.unusedVariables false
set_option maxRecDepth 1000000

/-- The marks of the first k places. -/
def marksK (zs : List Int) : Nat → List Mk
  | 0 => []
  | k + 1 => marksK zs k ++ [((k : Int), wi (zs[k]?.getD 0))]
theorem marksK_len (zs : List Int) (k : Nat) : (marksK zs k).length = k := by
  induction k with
  | zero => rfl
  | succ k ih => simp [marksK, ih]
theorem marksK_mem {zs : List Int} {k : Nat} {m : Mk} : m ∈ marksK zs k ↔ ∃ i : Nat, i < k ∧ m = ((i : Int), wi (zs[i]?.getD 0)) := by
  induction k with
  | zero => simp [marksK]
  | succ k ih =>
    simp only [marksK, List.mem_append, List.mem_singleton, ih]
    constructor
    · rintro (⟨i, hi, rfl⟩ | rfl)
      · exact ⟨i, by omega, rfl⟩
      · exact ⟨k, by omega, rfl⟩
    · rintro ⟨i, hi, rfl⟩
      rcases (by omega : i < k ∨ i = k) with h | rfl
      · exact .inl ⟨i, h, rfl⟩
      · exact .inr rfl

/-- Of the marks ms the K greatest ones. -/
def TopSet (K : Nat) (ms ks : List Mk) : Prop := ∃ rest, (ks ++ rest).Perm ms ∧ ks.length = min K ms.length ∧ ∀ r ∈ rest, ∀ x ∈ ks, leM r x
theorem TopSet.none (K : Nat) : TopSet K [] [] := ⟨[], List.Perm.refl _, by simp, by simp⟩
theorem TopSet.push {K : Nat} {ms ks ns : List Mk} {x : Mk} (h : TopSet K ms ks) (hp : ns.Perm (ks ++ [x])) (hn : ns.length ≤ K) : TopSet K (ms ++ [x]) ns := by
  obtain ⟨rest, h1, h2, h3⟩ := h
  have l1 := h1.length_eq
  have l2 := hp.length_eq
  simp at l1 l2
  have hr : rest = [] := List.eq_nil_of_length_eq_zero (by omega)
  subst hr
  refine ⟨[], ?_, ?_, by simp⟩
  · rw [List.append_nil] at h1 ⊢
    exact hp.trans (h1.append_right [x])
  · simp; omega
theorem TopSet.pop {K : Nat} {ms ks ns ns' : List Mk} {x y : Mk} (h : TopSet K ms ks) (hp : ns.Perm (ks ++ [x])) (hn : K < ns.length) (hy : (y :: ns').Perm ns) (hle : ∀ z ∈ ns, leM y z) : TopSet K (ms ++ [x]) ns' := by
  obtain ⟨rest, h1, h2, h3⟩ := h
  have l1 := h1.length_eq
  have l2 := hp.length_eq
  have l3 := hy.length_eq
  simp at l1 l2 l3
  have hyx : (y :: ns').Perm (ks ++ [x]) := hy.trans hp
  refine ⟨y :: rest, ?_, ?_, ?_⟩
  · have p1 : (ns' ++ y :: rest).Perm ((y :: ns') ++ rest) := List.perm_middle
    have p2 : ((y :: ns') ++ rest).Perm ((ks ++ [x]) ++ rest) := hyx.append_right rest
    have p3 : ((ks ++ [x]) ++ rest).Perm ((ks ++ rest) ++ [x]) := by
      rw [List.append_assoc, List.append_assoc]
      exact (List.perm_append_comm).append_left ks
    exact p1.trans (p2.trans (p3.trans (h1.append_right [x])))
  · simp; omega
  · intro r hr e he
    have hen : e ∈ ns := hy.subset (List.mem_cons_of_mem _ he)
    rcases List.mem_cons.1 hr with rfl | hr
    · exact hle e hen
    · have hyk : y ∈ ks ++ [x] := hyx.subset (List.mem_cons_self)
      rcases List.mem_append.1 hyk with hk | hk
      · exact leM_trans (h3 r hr y hk) (hle e hen)
      · obtain rfl := List.mem_singleton.1 hk
        have p : (y :: ns').Perm (y :: ks) := hyx.trans (List.perm_append_singleton _ _)
        have hek : e ∈ ks := (List.Perm.cons_inv p).subset he
        exact h3 r hr e hek

/-- Marks from the greatest down. -/
def Falls (qs : List Mk) : Prop := qs.Pairwise fun a b => leM b a
theorem top_one : ∀ (qs qs' rest rest' : List Mk), (qs ++ rest).Perm (qs' ++ rest') → qs.length = qs'.length → Falls qs → Falls qs' → (∀ r ∈ rest, ∀ q ∈ qs, leM r q) → (∀ r ∈ rest', ∀ q ∈ qs', leM r q) → qs = qs' := by
  intro qs
  induction qs with
  | nil => intro qs' rest rest' _ hl _ _ _ _; exact (List.eq_nil_of_length_eq_zero hl.symm).symm
  | cons q qs ih =>
    intro qs' rest rest' hp hl hf hf' hr hr'
    cases qs' with
    | nil => simp at hl
    | cons q' qs' =>
      have top : ∀ {q : Mk} {qs rest : List Mk}, Falls (q :: qs) → (∀ r ∈ rest, ∀ x ∈ q :: qs, leM r x) → ∀ z ∈ (q :: qs) ++ rest, leM z q := by
        intro q qs rest h1 h2 z hz
        rcases List.mem_append.1 hz with h | h
        · rcases List.mem_cons.1 h with rfl | h
          · exact leM_refl _
          · exact (List.pairwise_cons.1 h1).1 z h
        · exact h2 z h q (List.mem_cons_self)
      have e : q = q' := leM_anti (top hf' hr' q (hp.subset (by simp))) (top hf hr q' (hp.symm.subset (by simp)))
      subst e
      have hp' : (qs ++ rest).Perm (qs' ++ rest') := List.Perm.cons_inv hp
      rw [ih qs' rest rest' hp' (by simpa using hl) (List.pairwise_cons.1 hf).2 (List.pairwise_cons.1 hf').2 (fun r h x hx => hr r h x (List.mem_cons_of_mem _ hx)) (fun r h x hx => hr' r h x (List.mem_cons_of_mem _ hx))]
/-- These are the places of the K greatest of the first n. -/
def TopOf (zs : List Int) (n K : Nat) (ps : List Int) : Prop :=
  ∃ qs rest : List Mk, ps = qs.map Prod.fst ∧ qs.length = K ∧ Falls qs ∧ (qs ++ rest).Perm (marksK zs n) ∧ ∀ r ∈ rest, ∀ q ∈ qs, leM r q
theorem TopOf.one {zs : List Int} {n K : Nat} {ps ps' : List Int} (h : TopOf zs n K ps) (h' : TopOf zs n K ps') : ps = ps' := by
  obtain ⟨qs, rest, rfl, hl, hf, hp, hr⟩ := h
  obtain ⟨qs', rest', rfl, hl', hf', hp', hr'⟩ := h'
  rw [top_one qs qs' rest rest' (hp.trans hp'.symm) (hl.trans hl'.symm) hf hf' hr hr']
theorem TopOf.len {zs : List Int} {n K : Nat} {ps : List Int} (h : TopOf zs n K ps) : ps.length = K := by
  obtain ⟨qs, rest, rfl, hl, _⟩ := h
  simpa using hl

/-- What is taken out of the heap, the last one first, and what is left. -/
structure Outs (ks qs ns : List Mk) : Prop where
  perm : (qs ++ ns).Perm ks
  falls : Falls qs
  le : ∀ q ∈ qs, ∀ n ∈ ns, leM q n
theorem Outs.start (ks : List Mk) : Outs ks [] ks := ⟨List.Perm.refl _, List.Pairwise.nil, by simp⟩
theorem Outs.next {ks qs ns ns' : List Mk} {x : Mk} (h : Outs ks qs ns) (hp : (x :: ns').Perm ns) (hle : ∀ y ∈ ns, leM x y) : Outs ks (x :: qs) ns' := by
  have hx : x ∈ ns := hp.subset (List.mem_cons_self)
  have hs : ∀ n ∈ ns', n ∈ ns := fun n hn => hp.subset (List.mem_cons_of_mem _ hn)
  refine ⟨?_, List.pairwise_cons.2 ⟨fun b hb => h.le b hb x hx, h.falls⟩, ?_⟩
  · have p1 : ((x :: qs) ++ ns').Perm (qs ++ x :: ns') := List.perm_middle.symm
    exact p1.trans ((hp.append_left qs).trans h.perm)
  · intro q hq n hn
    rcases List.mem_cons.1 hq with rfl | hq
    · exact hle n (hs n hn)
    · exact h.le q hq n (hs n hn)
theorem Outs.done {zs : List Int} {n K : Nat} {ks qs : List Mk} (h : Outs ks qs []) (hk : TopSet K (marksK zs n) ks) (hK : K ≤ n) : TopOf zs n K (qs.map Prod.fst) := by
  obtain ⟨rest, h1, h2, h3⟩ := hk
  have hp := h.perm
  rw [List.append_nil] at hp
  rw [marksK_len, Nat.min_eq_left hK] at h2
  refine ⟨qs, rest, rfl, hp.length_eq.trans h2, h.falls, (hp.append_right rest).trans h1, fun r hr q hq => h3 r hr q (hp.subset hq)⟩
theorem places_set (c : Nat) (x : Int) (us : List Int) : (List.replicate (c + 1) 0 ++ us).set c x = List.replicate c 0 ++ x :: us := by
  rw [List.set_append_left _ _ (by simp), List.replicate_succ', List.set_append_right _ _ (by simp)]
  simp
end Go.Proofs.Ytpllffekebkacaa
