/-
  The document's rounds: the best of those that are left (BestQ), what was taken so far (StQ).
-/
import Derived.Test.YtmhpgkkaolcncaaRkRf
namespace Go.Proofs.Ytmhpgkkaolcncaa
open Go.RowKit
set_option linter.unusedVariables false
set_option maxRecDepth 1000000

/-- May it be taken? -/
def okC (l : List Cd) (bs : List Bool) (i : Nat) : Prop := mt bs i = false ∧ (ck l i).opn = true
/-- The best of the first k places. -/
def BestQ (q : Wt) (l : List Cd) (bs : List Bool) (k : Nat) (z : Int) : Prop :=
  (z = -1 ∧ ∀ j, j < k → ¬ okC l bs j) ∨ ∃ b : Nat, z = (b : Int) ∧ b < k ∧ okC l bs b ∧ (∀ j, j < b → okC l bs j → bet q (ck l b) (ck l j) = true) ∧ ∀ j, b < j → j < k → okC l bs j → bet q (ck l j) (ck l b) = false
theorem BestQ.start (q : Wt) (l : List Cd) (bs : List Bool) : BestQ q l bs 0 (-1) := .inl ⟨rfl, fun j hj => by omega⟩
theorem BestQ.skip {q : Wt} {l : List Cd} {bs : List Bool} {k : Nat} {z : Int} (h : BestQ q l bs k z) (hn : ¬ okC l bs k) : BestQ q l bs (k + 1) z := by
  rcases h with ⟨rfl, h⟩ | ⟨b, rfl, h1, h2, h3, h4⟩
  · refine .inl ⟨rfl, fun j hj => ?_⟩
    rcases (by omega : j < k ∨ j = k) with hj | rfl
    · exact h j hj
    · exact hn
  · refine .inr ⟨b, rfl, by omega, h2, h3, fun j q1 q2 q3 => ?_⟩
    rcases (by omega : j < k ∨ j = k) with hj | rfl
    · exact h4 j q1 hj q3
    · exact absurd q3 hn
theorem BestQ.first {q : Wt} {l : List Cd} {bs : List Bool} {k : Nat} (h : BestQ q l bs k (-1)) (ho : okC l bs k) : BestQ q l bs (k + 1) (k : Int) := by
  rcases h with ⟨_, h⟩ | ⟨b, hb, _⟩
  · exact .inr ⟨k, rfl, by omega, ho, fun j hj hk => absurd hk (h j hj), fun j q1 q2 _ => by omega⟩
  · omega
theorem BestQ.better {q : Wt} {l : List Cd} {bs : List Bool} {k b : Nat} (h : BestQ q l bs k (b : Int)) (ho : okC l bs k) (hb : bet q (ck l k) (ck l b) = true) : BestQ q l bs (k + 1) (k : Int) := by
  rcases h with ⟨h, _⟩ | ⟨b', hb', h1, h2, h3, h4⟩
  · omega
  · obtain rfl : b = b' := by omega
    refine .inr ⟨k, rfl, by omega, ho, fun j hj hk => ?_, fun j q1 q2 _ => by omega⟩
    rcases (by omega : j < b ∨ j = b ∨ b < j) with hjb | rfl | hjb
    · exact bet_trans hb (h3 j hjb hk)
    · exact hb
    · exact bet_neg hb (h4 j hjb hj hk)
theorem BestQ.worse {q : Wt} {l : List Cd} {bs : List Bool} {k b : Nat} (h : BestQ q l bs k (b : Int)) (hb : bet q (ck l k) (ck l b) = false) : BestQ q l bs (k + 1) (b : Int) := by
  rcases h with ⟨h, _⟩ | ⟨b', hb', h1, h2, h3, h4⟩
  · omega
  · obtain rfl : b = b' := by omega
    refine .inr ⟨b, rfl, by omega, h2, h3, fun j q1 q2 q3 => ?_⟩
    rcases (by omega : j < k ∨ j = k) with hj | rfl
    · exact h4 j q1 hj q3
    · exact hb
theorem BestQ.lt {q : Wt} {l : List Cd} {bs : List Bool} {k : Nat} {z : Int} (h : BestQ q l bs k z) : z = -1 ∨ ∃ b : Nat, z = (b : Int) ∧ b < k := by
  rcases h with ⟨rfl, _⟩ | ⟨b, rfl, h1, _⟩
  · exact .inl rfl
  · exact .inr ⟨b, rfl, h1⟩
/-- What was taken so far. -/
structure StQ (q : Wt) (l : List Cd) (bs : List Bool) (P : List Cd) (k : Nat) : Prop where
  len : bs.length = l.length
  all : P ++ srtC q (leftC bs l) = srtC q (l.filter Cd.opn)
  few : (leftC bs l).length + k ≤ l.length
theorem StQ.start (q : Wt) (l : List Cd) : StQ q l (List.replicate l.length false) [] 0 :=
  ⟨by simp, by rw [leftC_none]; rfl, by rw [leftC_none]; exact List.length_filter_le _ _⟩
theorem StQ.stop {q : Wt} {l : List Cd} {bs : List Bool} {P : List Cd} {k : Nat} (h : StQ q l bs P k) (he : leftC bs l = []) : P.foldl addC [] = ordC q l := by
  unfold ordC
  rw [← h.all, he]
  simp [srtC]
theorem StQ.none {q : Wt} {l : List Cd} {bs : List Bool} {P : List Cd} {k : Nat} (h : StQ q l bs P k) (hb : BestQ q l bs l.length (-1)) : P.foldl addC [] = ordC q l := by
  refine h.stop (leftC_nil h.len fun j c hj hm => ?_)
  rcases hb with ⟨_, hb⟩ | ⟨b, hb, _⟩
  · have hl : j < l.length := (List.getElem?_eq_some_iff.1 hj).1
    cases ho : c.opn with
    | false => rfl
    | true => exact absurd ⟨hm, by rw [ck_of hj]; exact ho⟩ (hb j hl)
  · omega
theorem StQ.last {q : Wt} {l : List Cd} {bs : List Bool} {P : List Cd} (h : StQ q l bs P l.length) : P.foldl addC [] = ordC q l :=
  h.stop (List.eq_nil_of_length_eq_zero (by have := h.few; omega))
theorem StQ.step {q : Wt} {l : List Cd} {bs : List Bool} {P : List Cd} {k b : Nat} (h : StQ q l bs P k) (hb : BestQ q l bs l.length (b : Int)) : b < l.length ∧ StQ q l (bs.set b true) (P ++ [ck l b]) (k + 1) := by
  rcases hb with ⟨hb, _⟩ | ⟨b', hb', h1, h2, h3, h4⟩
  · omega
  · obtain rfl : b = b' := by omega
    have e := pickC (w := q) (l := l) (bs := bs) (i := b) (x := ck l b) h.len (ck_get h1) h2.1 h2.2 (fun j y hj hy hm ho => by
      have := h3 j hj ⟨hm, by rw [ck_of hy]; exact ho⟩
      rwa [ck_of hy] at this) (fun j y hj hy hm ho => by
      have hl : j < l.length := (List.getElem?_eq_some_iff.1 hy).1
      have := h4 j hj hl ⟨hm, by rw [ck_of hy]; exact ho⟩
      rwa [ck_of hy] at this)
    refine ⟨h1, by rw [List.length_set]; exact h.len, ?_, ?_⟩
    · rw [← h.all, e, List.append_assoc]; rfl
    · have e2 := congrArg List.length e
      rw [(srtC_perm q _).length_eq, List.length_cons, (srtC_perm q _).length_eq] at e2
      have := h.few
      omega
theorem fold_snoc (P : List Cd) (c : Cd) : (P ++ [c]).foldl addC [] = addC (P.foldl addC []) c := by rw [List.foldl_append]; rfl
theorem addC_old {out : List Cd} {c : Cd} (h : c.rep ∈ out.map Cd.rep) : addC out c = out := if_pos h
end Go.Proofs.Ytmhpgkkaolcncaa
