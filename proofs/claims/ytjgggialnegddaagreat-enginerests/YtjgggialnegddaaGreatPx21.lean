/-
  EnMath3: Mathematics of layer 15: what the tokens that From tells make of an attempt (tell_go).
-/
import Derived.Test.YtjgggialnegddaaGreatPx19
namespace Go.Proofs.YtjgggialnegddaaGreat
open Go.RowKit
set_option linter.unusedVariables false
set_option maxRecDepth 1000000

/-- The tokens of an attempt's state. -/
noncomputable def stA (c : Cf) (a : At) : List Int := 0 :: a.ts ++ (a.text c).take a.k
/-- The tokens that come next. -/
noncomputable def nxA (c : Cf) (a : At) (ch : Nat) : List Int := refL c a.seed (stA c a) (min (a.most - ((a.text c).take a.k).length) ch)
theorem refL_min (c : Cf) (seed : Int) (ts : List Int) (m k : Nat) : refL c seed ts (min m k) = (refL c seed ts m).take k := by
  rcases Nat.le_total k m with h | h
  · rw [Nat.min_eq_right h]
    exact refL_less c seed m ts k h
  · rw [Nat.min_eq_left h, List.take_of_length_le (Nat.le_trans (refL_len c seed m ts) h)]
theorem nxA_in {c : Cf} {a : At} {ch : Nat} (h : a.k ≤ (a.text c).length) : nxA c a ch = ((a.text c).drop a.k).take ch := by
  have hl : ((a.text c).take a.k).length = a.k := by rw [List.length_take]; omega
  unfold nxA stA
  rw [hl, refL_min]
  congr 1
  exact (refL_rest c a.seed a.k a.most (0 :: a.ts) h).symm
theorem nxA_out {c : Cf} {a : At} {ch : Nat} (h : (a.text c).length < a.k) : nxA c a ch = [] ∧ stA c a = 0 :: a.ts ++ a.text c := by
  have ht : (a.text c).take a.k = a.text c := List.take_of_length_le (by omega)
  have hr := refL_rest c a.seed (a.text c).length a.most (0 :: a.ts) (Nat.le_refl _)
  have hr2 : refL c a.seed (0 :: a.ts ++ a.text c) (a.most - (a.text c).length) = [] := by
    have e : (refL c a.seed (0 :: a.ts) a.most).take (a.text c).length = a.text c := List.take_of_length_le (Nat.le_refl _)
    rw [e] at hr
    rw [← hr]
    exact List.drop_of_length_le (Nat.le_refl _)
  refine ⟨?_, by unfold stA; rw [ht]⟩
  unfold nxA stA
  rw [ht, refL_min, hr2]
  simp
theorem stA_next {c : Cf} {a : At} {ch : Nat} : stA c a ++ nxA c a ch = stA c { a with k := a.k + (nxA c a ch).length } := by
  rcases Nat.lt_or_ge (a.text c).length a.k with h | h
  · obtain ⟨h1, h2⟩ := nxA_out (ch := ch) h
    rw [h1]
    simp
  · rw [nxA_in h]
    show 0 :: a.ts ++ (a.text c).take a.k ++ _ = 0 :: a.ts ++ (a.text c).take (a.k + _)
    rw [List.append_assoc, List.take_add]
    congr 2
    rw [List.length_take, List.take_eq_take_iff]
    omega
theorem nxA_bd {c : Cf} {a : At} {ch : Nat} (hk : a.k ≤ a.most) (hl : a.ts.length + a.k < 256) (hts : a.ts.length ≤ 255) : a.k + (nxA c a ch).length ≤ a.most ∧ a.ts.length + (a.k + (nxA c a ch).length) < 256 := by
  rcases Nat.lt_or_ge (a.text c).length a.k with h | h
  · rw [(nxA_out (ch := ch) h).1]
    simp
    omega
  · have h1 := refL_len c a.seed a.most (0 :: a.ts)
    have h2 := refL_most c a.seed a.most (0 :: a.ts) (by simp; omega)
    have h3 : (a.text c).length ≤ a.most := h1
    have h4 : a.ts.length + 1 + (a.text c).length ≤ 256 := h2
    rw [nxA_in h, List.length_take, List.length_drop]
    omega
/-- What the attempt tells. -/
noncomputable def msA (c : Cf) (ch : Nat) (inc : Int) (a : At) (b : Bool) : List Mg := (if nxA c a ch = [] then [] else [emM a.id inc a.k (nxA c a ch)]) ++ (if b = true then [ovM a.id inc (a.k + (nxA c a ch).length : Nat) 1] else [])
noncomputable def leA (c : Cf) (ch : Nat) (a : At) (b : Bool) : Option At := if b = true then none else some { a with k := a.k + (nxA c a ch).length }
theorem tell_go {c : Cf} {a : At} {ch : Nat} {b : Bool} (inc : Int) (hch : 1 ≤ ch) (hk : a.k ≤ a.most) (h1 : b = true → refL c a.seed (stA c a ++ nxA c a ch) (a.most - ((a.text c).take a.k).length - (nxA c a ch).length) = []) (h2 : b = false → (nxA c a ch).length = ch) : TellR c ch inc a (msA c ch inc a b) (leA c ch a b) := by
  unfold msA leA
  rcases Nat.lt_or_ge (a.text c).length a.k with h | h
  · obtain ⟨e1, _⟩ := nxA_out (ch := ch) h
    cases b with
    | false =>
      have := h2 rfl
      rw [e1] at this
      simp at this
      omega
    | true =>
      rw [e1]
      exact .inl ⟨h, by simp, rfl⟩
  · have e1 := nxA_in (ch := ch) h
    refine .inr ⟨h, nxA c a ch, e1, ?_⟩
    cases b with
    | false => exact .inl ⟨h2 rfl, by simp, by simp⟩
    | true =>
      refine .inr ⟨?_, by simp, by simp⟩
      have hl : ((a.text c).take a.k).length = a.k := by rw [List.length_take]; omega
      have hs := refL_step c a.seed (stA c a) (a.most - a.k) ch
      have h3 := h1 rfl
      rw [hl] at h3
      have en : nxA c a ch = refL c a.seed (stA c a) (min (a.most - a.k) ch) := by unfold nxA; rw [hl]
      rw [← en, h3, List.append_nil] at hs
      have hr := refL_rest c a.seed a.k a.most (0 :: a.ts) h
      have hr2 : (a.text c).drop a.k = nxA c a ch := by rw [← hs]; exact hr
      have := congrArg List.length hr2
      rw [List.length_drop] at this
      omega
end Go.Proofs.YtjgggialnegddaaGreat
