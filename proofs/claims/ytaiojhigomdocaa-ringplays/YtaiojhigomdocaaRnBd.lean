/-
  There is always a node whose load is below the bound; a ring of the call's own.
-/
import Derived.Test.YtaiojhigomdocaaRnLaw
namespace Go.Proofs.Ytaiojhigomdocaa
open Go.RowKit Go.Maps Go.Shelf Go.Sort
set_option linter.unusedVariables false
set_option maxRecDepth 1000000

theorem sumZ_low {f : Int → Int} {b : Int} : ∀ {L : List Int}, (∀ y ∈ L, b ≤ cntZ (f y)) → (L.length : Int) * b ≤ sumZ f L
  | [], _ => by simp [sumZ]
  | x :: L, h => by
    have h1 := sumZ_low (L := L) fun y hy => h y (by simp [hy])
    have h2 := h x (by simp)
    simp only [sumZ, List.length_cons]
    have : ((L.length + 1 : Nat) : Int) * b = (L.length : Int) * b + b := by
      rw [Int.natCast_add, Int.add_mul]
      simp
    omega
theorem bnd_some {f : Int → Int} {fac : Int} {L : List Int} (h : 0 < L.length) : ∃ y ∈ L, cntZ (f y) < bndZ f fac L := by
  refine Classical.byContradiction fun hn => ?_
  have hall : ∀ y ∈ L, bndZ f fac L ≤ cntZ (f y) := fun y hy => by
    refine Classical.byContradiction fun hh => hn ⟨y, hy, by omega⟩
  have h1 := sumZ_low hall
  have h2 := (sumZ_bd f L).1
  have hfc : 100 ≤ facZ fac := by unfold facZ; omega
  unfold bndZ at h1
  rw [if_neg (by omega)] at h1
  generalize sumZ f L = S at *
  generalize facZ fac = fc at *
  obtain ⟨n, hN⟩ : ∃ n : Int, (L.length : Int) = n := ⟨_, rfl⟩
  rw [hN] at h1
  have hn1 : 1 ≤ n := by omega
  have h3 : (S + 1) * fc + 100 * n - 1 < (((S + 1) * fc + 100 * n - 1) / (100 * n) + 1) * (100 * n) := Int.lt_ediv_add_one_mul_self _ (by omega)
  generalize ((S + 1) * fc + 100 * n - 1) / (100 * n) = b at *
  have h4 : (b + 1) * (100 * n) = 100 * (n * b) + 100 * n := by
    rw [Int.add_mul, Int.one_mul, Int.mul_comm b (100 * n), Int.mul_assoc]
  have h5 : (S + 1) * 100 ≤ (S + 1) * fc := Int.mul_le_mul_of_nonneg_left hfc (by omega)
  rw [h4] at h3
  generalize n * b = t at *
  generalize (S + 1) * fc = u at *
  omega
theorem pick_some {f : Int → Int} {fac : Int} {l L : List Int} (hp : l.Perm L) (h : 0 < L.length) : ∃ y, y ∈ L ∧ pickZ f (bndZ f fac L) l = (y, 0) ∧ cntZ (f y) < bndZ f fac L := by
  obtain ⟨y, hy, hlt⟩ := bnd_some (f := f) (fac := fac) h
  cases hf : l.find? (fun x => decide (cntZ (f x) < bndZ f fac L)) with
  | none =>
    rw [List.find?_eq_none] at hf
    have := hf y (hp.mem_iff.2 hy)
    simp at this
    omega
  | some z =>
    have h1 := List.find?_some hf
    have h2 := List.mem_of_find?_eq_some hf
    refine ⟨z, hp.mem_iff.1 h2, ?_, by simpa using h1⟩
    unfold pickZ
    rw [hf]
theorem pick_none {f : Int → Int} {b : Int} : pickZ f b [] = (0, 6) := rfl
theorem RnO.step {W w' : World} {B : Nat} {s : Int} {e M lo : Nat} {v : Value} {L : List Int} (h : RnO W B s e M v L w') (hlo : ∀ k, rnF B M v k → lo ≤ k) (hs : lo ≤ W.heap.size) :
    ∃ v' P', RnAt w' B s e M v' L P' ∧ (∀ k, rnF B M v' k → lo ≤ k) ∧ RowKit.Below lo W w' := by
  obtain ⟨v', P', h1, h2, h3⟩ := h
  refine ⟨v', P', h1, ?_, h2.to hlo hs⟩
  rintro k (rfl | rfl | hk)
  · exact hlo _ (.inl rfl)
  · exact hlo _ (.inr (.inl rfl))
  · rcases h3 k hk with h | h
    · exact hlo _ (.inr (.inr h))
    · omega
theorem radd_len {L : List Int} {x : Int} {k : Nat} (h : L.length ≤ k) (hk : k < 64) : 0 < (radd L x).2.length ∧ (radd L x).2.length ≤ k + 1 := by
  unfold radd
  split
  · rename_i hin
    exact ⟨List.length_pos_of_mem hin, by show L.length ≤ k + 1; omega⟩
  · rw [if_neg (by omega)]
    simp
    exact h
end Go.Proofs.Ytaiojhigomdocaa
