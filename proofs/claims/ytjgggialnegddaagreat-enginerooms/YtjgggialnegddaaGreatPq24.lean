/-
  The texts EnHelp of this proof.
-/
import Derived.Test.YtjgggialnegddaaGreatPq23
set_option linter.unusedVariables false
set_option maxRecDepth 1000000
namespace Go.Proofs.YtjgggialnegddaaGreat
open Go.RowKit
theorem cells_12 {W : World} {g : Nat} {v0 v1 v2 v3 v4 v5 v6 v7 v8 v9 v10 v11 : Value} {T : TypeId} (h : W.heap[g]? = some (.cells #[v0, v1, v2, v3, v4, v5, v6, v7, v8, v9, v10, v11] T (0, 0))) :
  W.cell? ⟨g, 0, none⟩ = some v0 ∧ W.cell? ⟨g, 1, none⟩ = some v1 ∧ W.cell? ⟨g, 2, none⟩ = some v2 ∧ W.cell? ⟨g, 3, none⟩ = some v3 ∧ W.cell? ⟨g, 4, none⟩ = some v4 ∧ W.cell? ⟨g, 5, none⟩ = some v5 ∧ W.cell? ⟨g, 6, none⟩ = some v6 ∧ W.cell? ⟨g, 7, none⟩ = some v7 ∧ W.cell? ⟨g, 8, none⟩ = some v8 ∧ W.cell? ⟨g, 9, none⟩ = some v9 ∧ W.cell? ⟨g, 10, none⟩ = some v10 ∧ W.cell? ⟨g, 11, none⟩ = some v11 := by
 refine ⟨?_, ?_, ?_, ?_, ?_, ?_, ?_, ?_, ?_, ?_, ?_, ?_⟩ <;> (rw [cell_of_row _ _ _ _ _ _ h]; rfl)
theorem theirs_any (m : Ms) (w : World) : Calls Tryz.prog 19 #[.agg (MsV m)] w fun e w' => e = .returned (.agg (MsV m)) ∧ Below w.heap.size w w' := by
 obtain ⟨kd, st, se, ate, ic, n, ct, wh, ⟨sd, ap, lp, cp, pr, mo⟩, la, ll, lc, li⟩ := m
 go_enter Tryz.func19, Tryz.ntmps19
 unfold MsV
 go_wp2
 exact bodyPost_ret (v := .agg (MsV ⟨kd, st, se, ate, ic, n, ct, wh, ⟨sd, ap, lp, cp, pr, mo⟩, la, ll, lc, li⟩)) (by simp [results, Tryz.results19, go_sem, MsV]) rfl ⟨rfl, by go_grown⟩
theorem theirSet_any (s : Sg) (w : World) : Calls Tryz.prog 8 #[.agg (SgV s)] w fun e w' => e = .returned (.agg (SgV s)) ∧ Below w.heap.size w w' := by
 obtain ⟨⟨cs, cv, cd, cl, ct, ch⟩, q, b, pg, sz, k⟩ := s
 go_enter Tryz.func8, Tryz.ntmps8
 unfold SgV
 go_wp2
 exact bodyPost_ret (v := .agg (SgV ⟨⟨cs, cv, cd, cl, ct, ch⟩, q, b, pg, sz, k⟩)) (by simp [results, Tryz.results8, go_sem, SgV]) rfl ⟨rfl, by go_grown⟩
def us15 : Sg := ⟨⟨9, 4, 2, 1, 4, 4⟩, 2, 2, 4, 2, 2⟩
theorem usual_any (w : World) : Calls Tryz.prog 33 #[] w fun e w' => e = .returned (.agg (SgV us15)) ∧ Below w.heap.size w w' := by
 go_enter Tryz.func33, Tryz.ntmps33
 go_wp2
 exact bodyPost_ret (v := .agg (SgV us15)) (by simp [results, Tryz.results33, go_sem, SgV, us15]) rfl ⟨rfl, by go_grown⟩
theorem short15_any (a : Option Addr) (n cap : Nat) (w : World) (h1 : n ≤ cap) (m1 : cap ≤ 9223372036854775807) :
  Calls Tryz.prog 12 #[.slice a n cap] w fun e w' => e = .returned (.slice a (min n 30) cap) ∧ w' = w := by
 by_cases h : n ≤ 30
 ·rw [Nat.min_eq_left h]
  go_enter Tryz.func12, Tryz.ntmps12
  go_wp2
  go_ret
  exact ⟨rfl, rfl⟩
 ·rw [Nat.min_eq_right (by omega)]
  go_enter Tryz.func12, Tryz.ntmps12
  go_wp2
  go_ret
  exact ⟨rfl, rfl⟩
end Go.Proofs.YtjgggialnegddaaGreat
