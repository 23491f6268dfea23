/-
  The texts KvKey of this proof.
-/
import Derived.Test.YtjgggialnegddaaGreatPr02
import Derived.Laws.CopyOwn
set_option linter.unusedVariables false
set_option maxRecDepth 1000000
namespace Go.Proofs.YtjgggialnegddaaGreat
open Go.RowKit Go.Maps
theorem list16 {ps : List Int} (h : ps.length = 16) : ∃ p0 p1 p2 p3 p4 p5 p6 p7 p8 p9 p10 p11 p12 p13 p14 p15, ps = [p0, p1, p2, p3, p4, p5, p6, p7, p8, p9, p10, p11, p12, p13, p14, p15] := by
 match ps, h with
 | [p0, p1, p2, p3, p4, p5, p6, p7, p8, p9, p10, p11, p12, p13, p14, p15], _ => exact ⟨_, _, _, _, _, _, _, _, _, _, _, _, _, _, _, _, rfl⟩
theorem splice_pad {xs : List Int} (h : xs.length ≤ 16) : splice (List.replicate 16 (Value.int .i64 0)) 0 (xs.map (Value.int .i64)) = (padL xs).map (Value.int .i64) := by
 unfold splice padL
 rw [List.take_zero, List.nil_append, List.map_append, List.length_map, Nat.zero_add, List.drop_replicate, List.map_replicate]
theorem cells_16 {W : World} {g : Nat} {v0 v1 v2 v3 v4 v5 v6 v7 v8 v9 v10 v11 v12 v13 v14 v15 : Value} {T : TypeId} (h : W.heap[g]? = some (.cells #[v0, v1, v2, v3, v4, v5, v6, v7, v8, v9, v10, v11, v12, v13, v14, v15] T (0, 0))) :
  W.cell? ⟨g, 0, none⟩ = some v0 ∧ W.cell? ⟨g, 1, none⟩ = some v1 ∧ W.cell? ⟨g, 2, none⟩ = some v2 ∧ W.cell? ⟨g, 3, none⟩ = some v3 ∧ W.cell? ⟨g, 4, none⟩ = some v4 ∧ W.cell? ⟨g, 5, none⟩ = some v5 ∧ W.cell? ⟨g, 6, none⟩ = some v6 ∧ W.cell? ⟨g, 7, none⟩ = some v7 ∧ W.cell? ⟨g, 8, none⟩ = some v8 ∧ W.cell? ⟨g, 9, none⟩ = some v9 ∧ W.cell? ⟨g, 10, none⟩ = some v10 ∧ W.cell? ⟨g, 11, none⟩ = some v11 ∧ W.cell? ⟨g, 12, none⟩ = some v12 ∧ W.cell? ⟨g, 13, none⟩ = some v13 ∧ W.cell? ⟨g, 14, none⟩ = some v14 ∧ W.cell? ⟨g, 15, none⟩ = some v15 := by
 refine ⟨?_, ?_, ?_, ?_, ?_, ?_, ?_, ?_, ?_, ?_, ?_, ?_, ?_, ?_, ?_, ?_⟩ <;> (rw [cell_of_row _ _ _ _ _ _ h]; rfl)
theorem set16 {W : World} {g : Nat} {T : TypeId} (p0 p1 p2 p3 p4 p5 p6 p7 p8 p9 p10 p11 p12 p13 p14 p15 : Int) (h : W.heap[g]? = some (.cells #[Value.int .i64 0, Value.int .i64 0, Value.int .i64 0, Value.int .i64 0, Value.int .i64 0, Value.int .i64 0, Value.int .i64 0, Value.int .i64 0, Value.int .i64 0, Value.int .i64 0, Value.int .i64 0, Value.int .i64 0, Value.int .i64 0, Value.int .i64 0, Value.int .i64 0, Value.int .i64 0] T (0, 0))) :
  ((((((((((((((((W.setCell ⟨g, 0, none⟩ (.int .i64 p0)).setCell ⟨g, 1, none⟩ (.int .i64 p1)).setCell ⟨g, 2, none⟩ (.int .i64 p2)).setCell ⟨g, 3, none⟩ (.int .i64 p3)).setCell ⟨g, 4, none⟩ (.int .i64 p4)).setCell ⟨g, 5, none⟩ (.int .i64 p5)).setCell ⟨g, 6, none⟩ (.int .i64 p6)).setCell ⟨g, 7, none⟩ (.int .i64 p7)).setCell ⟨g, 8, none⟩ (.int .i64 p8)).setCell ⟨g, 9, none⟩ (.int .i64 p9)).setCell ⟨g, 10, none⟩ (.int .i64 p10)).setCell ⟨g, 11, none⟩ (.int .i64 p11)).setCell ⟨g, 12, none⟩ (.int .i64 p12)).setCell ⟨g, 13, none⟩ (.int .i64 p13)).setCell ⟨g, 14, none⟩ (.int .i64 p14)).setCell ⟨g, 15, none⟩ (.int .i64 p15)).heap[g]? = some (.cells #[Value.int .i64 p0, Value.int .i64 p1, Value.int .i64 p2, Value.int .i64 p3, Value.int .i64 p4, Value.int .i64 p5, Value.int .i64 p6, Value.int .i64 p7, Value.int .i64 p8, Value.int .i64 p9, Value.int .i64 p10, Value.int .i64 p11, Value.int .i64 p12, Value.int .i64 p13, Value.int .i64 p14, Value.int .i64 p15] T (0, 0)) := by
 have h1 : (W.setCell ⟨g, 0, none⟩ (.int .i64 p0)).heap[g]? = some (.cells #[Value.int .i64 p0, Value.int .i64 0, Value.int .i64 0, Value.int .i64 0, Value.int .i64 0, Value.int .i64 0, Value.int .i64 0, Value.int .i64 0, Value.int .i64 0, Value.int .i64 0, Value.int .i64 0, Value.int .i64 0, Value.int .i64 0, Value.int .i64 0, Value.int .i64 0, Value.int .i64 0] T (0, 0)) := by
  have := row_set (k := 0) (u := .int .i64 p0) h
  simpa using this
 have h2 : ((W.setCell ⟨g, 0, none⟩ (.int .i64 p0)).setCell ⟨g, 1, none⟩ (.int .i64 p1)).heap[g]? = some (.cells #[Value.int .i64 p0, Value.int .i64 p1, Value.int .i64 0, Value.int .i64 0, Value.int .i64 0, Value.int .i64 0, Value.int .i64 0, Value.int .i64 0, Value.int .i64 0, Value.int .i64 0, Value.int .i64 0, Value.int .i64 0, Value.int .i64 0, Value.int .i64 0, Value.int .i64 0, Value.int .i64 0] T (0, 0)) := by
  have := row_set (k := 1) (u := .int .i64 p1) h1
  simpa using this
 have h3 : (((W.setCell ⟨g, 0, none⟩ (.int .i64 p0)).setCell ⟨g, 1, none⟩ (.int .i64 p1)).setCell ⟨g, 2, none⟩ (.int .i64 p2)).heap[g]? = some (.cells #[Value.int .i64 p0, Value.int .i64 p1, Value.int .i64 p2, Value.int .i64 0, Value.int .i64 0, Value.int .i64 0, Value.int .i64 0, Value.int .i64 0, Value.int .i64 0, Value.int .i64 0, Value.int .i64 0, Value.int .i64 0, Value.int .i64 0, Value.int .i64 0, Value.int .i64 0, Value.int .i64 0] T (0, 0)) := by
  have := row_set (k := 2) (u := .int .i64 p2) h2
  simpa using this
 have h4 : ((((W.setCell ⟨g, 0, none⟩ (.int .i64 p0)).setCell ⟨g, 1, none⟩ (.int .i64 p1)).setCell ⟨g, 2, none⟩ (.int .i64 p2)).setCell ⟨g, 3, none⟩ (.int .i64 p3)).heap[g]? = some (.cells #[Value.int .i64 p0, Value.int .i64 p1, Value.int .i64 p2, Value.int .i64 p3, Value.int .i64 0, Value.int .i64 0, Value.int .i64 0, Value.int .i64 0, Value.int .i64 0, Value.int .i64 0, Value.int .i64 0, Value.int .i64 0, Value.int .i64 0, Value.int .i64 0, Value.int .i64 0, Value.int .i64 0] T (0, 0)) := by
  have := row_set (k := 3) (u := .int .i64 p3) h3
  simpa using this
 have h5 : (((((W.setCell ⟨g, 0, none⟩ (.int .i64 p0)).setCell ⟨g, 1, none⟩ (.int .i64 p1)).setCell ⟨g, 2, none⟩ (.int .i64 p2)).setCell ⟨g, 3, none⟩ (.int .i64 p3)).setCell ⟨g, 4, none⟩ (.int .i64 p4)).heap[g]? = some (.cells #[Value.int .i64 p0, Value.int .i64 p1, Value.int .i64 p2, Value.int .i64 p3, Value.int .i64 p4, Value.int .i64 0, Value.int .i64 0, Value.int .i64 0, Value.int .i64 0, Value.int .i64 0, Value.int .i64 0, Value.int .i64 0, Value.int .i64 0, Value.int .i64 0, Value.int .i64 0, Value.int .i64 0] T (0, 0)) := by
  have := row_set (k := 4) (u := .int .i64 p4) h4
  simpa using this
 have h6 : ((((((W.setCell ⟨g, 0, none⟩ (.int .i64 p0)).setCell ⟨g, 1, none⟩ (.int .i64 p1)).setCell ⟨g, 2, none⟩ (.int .i64 p2)).setCell ⟨g, 3, none⟩ (.int .i64 p3)).setCell ⟨g, 4, none⟩ (.int .i64 p4)).setCell ⟨g, 5, none⟩ (.int .i64 p5)).heap[g]? = some (.cells #[Value.int .i64 p0, Value.int .i64 p1, Value.int .i64 p2, Value.int .i64 p3, Value.int .i64 p4, Value.int .i64 p5, Value.int .i64 0, Value.int .i64 0, Value.int .i64 0, Value.int .i64 0, Value.int .i64 0, Value.int .i64 0, Value.int .i64 0, Value.int .i64 0, Value.int .i64 0, Value.int .i64 0] T (0, 0)) := by
  have := row_set (k := 5) (u := .int .i64 p5) h5
  simpa using this
 have h7 : (((((((W.setCell ⟨g, 0, none⟩ (.int .i64 p0)).setCell ⟨g, 1, none⟩ (.int .i64 p1)).setCell ⟨g, 2, none⟩ (.int .i64 p2)).setCell ⟨g, 3, none⟩ (.int .i64 p3)).setCell ⟨g, 4, none⟩ (.int .i64 p4)).setCell ⟨g, 5, none⟩ (.int .i64 p5)).setCell ⟨g, 6, none⟩ (.int .i64 p6)).heap[g]? = some (.cells #[Value.int .i64 p0, Value.int .i64 p1, Value.int .i64 p2, Value.int .i64 p3, Value.int .i64 p4, Value.int .i64 p5, Value.int .i64 p6, Value.int .i64 0, Value.int .i64 0, Value.int .i64 0, Value.int .i64 0, Value.int .i64 0, Value.int .i64 0, Value.int .i64 0, Value.int .i64 0, Value.int .i64 0] T (0, 0)) := by
  have := row_set (k := 6) (u := .int .i64 p6) h6
  simpa using this
 have h8 : ((((((((W.setCell ⟨g, 0, none⟩ (.int .i64 p0)).setCell ⟨g, 1, none⟩ (.int .i64 p1)).setCell ⟨g, 2, none⟩ (.int .i64 p2)).setCell ⟨g, 3, none⟩ (.int .i64 p3)).setCell ⟨g, 4, none⟩ (.int .i64 p4)).setCell ⟨g, 5, none⟩ (.int .i64 p5)).setCell ⟨g, 6, none⟩ (.int .i64 p6)).setCell ⟨g, 7, none⟩ (.int .i64 p7)).heap[g]? = some (.cells #[Value.int .i64 p0, Value.int .i64 p1, Value.int .i64 p2, Value.int .i64 p3, Value.int .i64 p4, Value.int .i64 p5, Value.int .i64 p6, Value.int .i64 p7, Value.int .i64 0, Value.int .i64 0, Value.int .i64 0, Value.int .i64 0, Value.int .i64 0, Value.int .i64 0, Value.int .i64 0, Value.int .i64 0] T (0, 0)) := by
  have := row_set (k := 7) (u := .int .i64 p7) h7
  simpa using this
 have h9 : (((((((((W.setCell ⟨g, 0, none⟩ (.int .i64 p0)).setCell ⟨g, 1, none⟩ (.int .i64 p1)).setCell ⟨g, 2, none⟩ (.int .i64 p2)).setCell ⟨g, 3, none⟩ (.int .i64 p3)).setCell ⟨g, 4, none⟩ (.int .i64 p4)).setCell ⟨g, 5, none⟩ (.int .i64 p5)).setCell ⟨g, 6, none⟩ (.int .i64 p6)).setCell ⟨g, 7, none⟩ (.int .i64 p7)).setCell ⟨g, 8, none⟩ (.int .i64 p8)).heap[g]? = some (.cells #[Value.int .i64 p0, Value.int .i64 p1, Value.int .i64 p2, Value.int .i64 p3, Value.int .i64 p4, Value.int .i64 p5, Value.int .i64 p6, Value.int .i64 p7, Value.int .i64 p8, Value.int .i64 0, Value.int .i64 0, Value.int .i64 0, Value.int .i64 0, Value.int .i64 0, Value.int .i64 0, Value.int .i64 0] T (0, 0)) := by
  have := row_set (k := 8) (u := .int .i64 p8) h8
  simpa using this
 have h10 : ((((((((((W.setCell ⟨g, 0, none⟩ (.int .i64 p0)).setCell ⟨g, 1, none⟩ (.int .i64 p1)).setCell ⟨g, 2, none⟩ (.int .i64 p2)).setCell ⟨g, 3, none⟩ (.int .i64 p3)).setCell ⟨g, 4, none⟩ (.int .i64 p4)).setCell ⟨g, 5, none⟩ (.int .i64 p5)).setCell ⟨g, 6, none⟩ (.int .i64 p6)).setCell ⟨g, 7, none⟩ (.int .i64 p7)).setCell ⟨g, 8, none⟩ (.int .i64 p8)).setCell ⟨g, 9, none⟩ (.int .i64 p9)).heap[g]? = some (.cells #[Value.int .i64 p0, Value.int .i64 p1, Value.int .i64 p2, Value.int .i64 p3, Value.int .i64 p4, Value.int .i64 p5, Value.int .i64 p6, Value.int .i64 p7, Value.int .i64 p8, Value.int .i64 p9, Value.int .i64 0, Value.int .i64 0, Value.int .i64 0, Value.int .i64 0, Value.int .i64 0, Value.int .i64 0] T (0, 0)) := by
  have := row_set (k := 9) (u := .int .i64 p9) h9
  simpa using this
 have h11 : (((((((((((W.setCell ⟨g, 0, none⟩ (.int .i64 p0)).setCell ⟨g, 1, none⟩ (.int .i64 p1)).setCell ⟨g, 2, none⟩ (.int .i64 p2)).setCell ⟨g, 3, none⟩ (.int .i64 p3)).setCell ⟨g, 4, none⟩ (.int .i64 p4)).setCell ⟨g, 5, none⟩ (.int .i64 p5)).setCell ⟨g, 6, none⟩ (.int .i64 p6)).setCell ⟨g, 7, none⟩ (.int .i64 p7)).setCell ⟨g, 8, none⟩ (.int .i64 p8)).setCell ⟨g, 9, none⟩ (.int .i64 p9)).setCell ⟨g, 10, none⟩ (.int .i64 p10)).heap[g]? = some (.cells #[Value.int .i64 p0, Value.int .i64 p1, Value.int .i64 p2, Value.int .i64 p3, Value.int .i64 p4, Value.int .i64 p5, Value.int .i64 p6, Value.int .i64 p7, Value.int .i64 p8, Value.int .i64 p9, Value.int .i64 p10, Value.int .i64 0, Value.int .i64 0, Value.int .i64 0, Value.int .i64 0, Value.int .i64 0] T (0, 0)) := by
  have := row_set (k := 10) (u := .int .i64 p10) h10
  simpa using this
 have h12 : ((((((((((((W.setCell ⟨g, 0, none⟩ (.int .i64 p0)).setCell ⟨g, 1, none⟩ (.int .i64 p1)).setCell ⟨g, 2, none⟩ (.int .i64 p2)).setCell ⟨g, 3, none⟩ (.int .i64 p3)).setCell ⟨g, 4, none⟩ (.int .i64 p4)).setCell ⟨g, 5, none⟩ (.int .i64 p5)).setCell ⟨g, 6, none⟩ (.int .i64 p6)).setCell ⟨g, 7, none⟩ (.int .i64 p7)).setCell ⟨g, 8, none⟩ (.int .i64 p8)).setCell ⟨g, 9, none⟩ (.int .i64 p9)).setCell ⟨g, 10, none⟩ (.int .i64 p10)).setCell ⟨g, 11, none⟩ (.int .i64 p11)).heap[g]? = some (.cells #[Value.int .i64 p0, Value.int .i64 p1, Value.int .i64 p2, Value.int .i64 p3, Value.int .i64 p4, Value.int .i64 p5, Value.int .i64 p6, Value.int .i64 p7, Value.int .i64 p8, Value.int .i64 p9, Value.int .i64 p10, Value.int .i64 p11, Value.int .i64 0, Value.int .i64 0, Value.int .i64 0, Value.int .i64 0] T (0, 0)) := by
  have := row_set (k := 11) (u := .int .i64 p11) h11
  simpa using this
 have h13 : (((((((((((((W.setCell ⟨g, 0, none⟩ (.int .i64 p0)).setCell ⟨g, 1, none⟩ (.int .i64 p1)).setCell ⟨g, 2, none⟩ (.int .i64 p2)).setCell ⟨g, 3, none⟩ (.int .i64 p3)).setCell ⟨g, 4, none⟩ (.int .i64 p4)).setCell ⟨g, 5, none⟩ (.int .i64 p5)).setCell ⟨g, 6, none⟩ (.int .i64 p6)).setCell ⟨g, 7, none⟩ (.int .i64 p7)).setCell ⟨g, 8, none⟩ (.int .i64 p8)).setCell ⟨g, 9, none⟩ (.int .i64 p9)).setCell ⟨g, 10, none⟩ (.int .i64 p10)).setCell ⟨g, 11, none⟩ (.int .i64 p11)).setCell ⟨g, 12, none⟩ (.int .i64 p12)).heap[g]? = some (.cells #[Value.int .i64 p0, Value.int .i64 p1, Value.int .i64 p2, Value.int .i64 p3, Value.int .i64 p4, Value.int .i64 p5, Value.int .i64 p6, Value.int .i64 p7, Value.int .i64 p8, Value.int .i64 p9, Value.int .i64 p10, Value.int .i64 p11, Value.int .i64 p12, Value.int .i64 0, Value.int .i64 0, Value.int .i64 0] T (0, 0)) := by
  have := row_set (k := 12) (u := .int .i64 p12) h12
  simpa using this
 have h14 : ((((((((((((((W.setCell ⟨g, 0, none⟩ (.int .i64 p0)).setCell ⟨g, 1, none⟩ (.int .i64 p1)).setCell ⟨g, 2, none⟩ (.int .i64 p2)).setCell ⟨g, 3, none⟩ (.int .i64 p3)).setCell ⟨g, 4, none⟩ (.int .i64 p4)).setCell ⟨g, 5, none⟩ (.int .i64 p5)).setCell ⟨g, 6, none⟩ (.int .i64 p6)).setCell ⟨g, 7, none⟩ (.int .i64 p7)).setCell ⟨g, 8, none⟩ (.int .i64 p8)).setCell ⟨g, 9, none⟩ (.int .i64 p9)).setCell ⟨g, 10, none⟩ (.int .i64 p10)).setCell ⟨g, 11, none⟩ (.int .i64 p11)).setCell ⟨g, 12, none⟩ (.int .i64 p12)).setCell ⟨g, 13, none⟩ (.int .i64 p13)).heap[g]? = some (.cells #[Value.int .i64 p0, Value.int .i64 p1, Value.int .i64 p2, Value.int .i64 p3, Value.int .i64 p4, Value.int .i64 p5, Value.int .i64 p6, Value.int .i64 p7, Value.int .i64 p8, Value.int .i64 p9, Value.int .i64 p10, Value.int .i64 p11, Value.int .i64 p12, Value.int .i64 p13, Value.int .i64 0, Value.int .i64 0] T (0, 0)) := by
  have := row_set (k := 13) (u := .int .i64 p13) h13
  simpa using this
 have h15 : (((((((((((((((W.setCell ⟨g, 0, none⟩ (.int .i64 p0)).setCell ⟨g, 1, none⟩ (.int .i64 p1)).setCell ⟨g, 2, none⟩ (.int .i64 p2)).setCell ⟨g, 3, none⟩ (.int .i64 p3)).setCell ⟨g, 4, none⟩ (.int .i64 p4)).setCell ⟨g, 5, none⟩ (.int .i64 p5)).setCell ⟨g, 6, none⟩ (.int .i64 p6)).setCell ⟨g, 7, none⟩ (.int .i64 p7)).setCell ⟨g, 8, none⟩ (.int .i64 p8)).setCell ⟨g, 9, none⟩ (.int .i64 p9)).setCell ⟨g, 10, none⟩ (.int .i64 p10)).setCell ⟨g, 11, none⟩ (.int .i64 p11)).setCell ⟨g, 12, none⟩ (.int .i64 p12)).setCell ⟨g, 13, none⟩ (.int .i64 p13)).setCell ⟨g, 14, none⟩ (.int .i64 p14)).heap[g]? = some (.cells #[Value.int .i64 p0, Value.int .i64 p1, Value.int .i64 p2, Value.int .i64 p3, Value.int .i64 p4, Value.int .i64 p5, Value.int .i64 p6, Value.int .i64 p7, Value.int .i64 p8, Value.int .i64 p9, Value.int .i64 p10, Value.int .i64 p11, Value.int .i64 p12, Value.int .i64 p13, Value.int .i64 p14, Value.int .i64 0] T (0, 0)) := by
  have := row_set (k := 14) (u := .int .i64 p14) h14
  simpa using this
 have h16 : ((((((((((((((((W.setCell ⟨g, 0, none⟩ (.int .i64 p0)).setCell ⟨g, 1, none⟩ (.int .i64 p1)).setCell ⟨g, 2, none⟩ (.int .i64 p2)).setCell ⟨g, 3, none⟩ (.int .i64 p3)).setCell ⟨g, 4, none⟩ (.int .i64 p4)).setCell ⟨g, 5, none⟩ (.int .i64 p5)).setCell ⟨g, 6, none⟩ (.int .i64 p6)).setCell ⟨g, 7, none⟩ (.int .i64 p7)).setCell ⟨g, 8, none⟩ (.int .i64 p8)).setCell ⟨g, 9, none⟩ (.int .i64 p9)).setCell ⟨g, 10, none⟩ (.int .i64 p10)).setCell ⟨g, 11, none⟩ (.int .i64 p11)).setCell ⟨g, 12, none⟩ (.int .i64 p12)).setCell ⟨g, 13, none⟩ (.int .i64 p13)).setCell ⟨g, 14, none⟩ (.int .i64 p14)).setCell ⟨g, 15, none⟩ (.int .i64 p15)).heap[g]? = some (.cells #[Value.int .i64 p0, Value.int .i64 p1, Value.int .i64 p2, Value.int .i64 p3, Value.int .i64 p4, Value.int .i64 p5, Value.int .i64 p6, Value.int .i64 p7, Value.int .i64 p8, Value.int .i64 p9, Value.int .i64 p10, Value.int .i64 p11, Value.int .i64 p12, Value.int .i64 p13, Value.int .i64 p14, Value.int .i64 p15] T (0, 0)) := by
  have := row_set (k := 15) (u := .int .i64 p15) h15
  simpa using this
 exact h16
theorem copy_arr (w : World) (g : Nat) (T : TypeId) (hg : w.heap[g]? = some (.cells (List.replicate 16 (Value.int .i64 0)).toArray T (0, 0))) (a : Option Addr) (n cap : Nat) (xs : List Int) (h : Reads .i64 w a n cap xs) (hn : n ≤ 16) (ty : TypeId) :
  ∃ w3, (Builtin.copy_ #[41, 41] ty #[.slice (some ⟨g, 0, none⟩) 16 16, .slice a n cap]).run Tryz.prog w = .ok (.int .i64 n) w3 ∧ w3.heap[g]? = some (.cells ((padL xs).map (Value.int .i64)).toArray T (0, 0)) ∧ Fb (at1 g) w w3 := by
 have hsz : (Tryz.prog.info? 3).map (·.size) = some 1 := by kernel_rfl
 have hz := h.size
 have hmin : Nat.min n 16 = n := Nat.min_eq_left hn
 cases a with
 | none =>
  obtain ⟨h1, h2⟩ := h.bare rfl
  subst h1
  have hx : xs = [] := List.eq_nil_of_length_eq_zero hz
  subst hx
  have := run_copy_none (P := Tryz.prog) w 41 41 ty 3 (some ⟨g, 0, none⟩) none 16 16 0 cap Tryz.underlying41 hsz rfl
  refine ⟨w, this, ?_, Fb.refl _ _⟩
  rw [hg]
  rfl
 | some ad =>
  have := run_copy_row (P := Tryz.prog) w 41 41 ty 3 g 0 16 16 ad n cap (List.replicate 16 (Value.int .i64 0)).toArray T (xs.map (Value.int .i64)) Tryz.underlying41 hsz hg (by rw [List.length_map, hz, hmin]) h.news (by simp; omega) (fun v hv => by obtain ⟨x, _, rfl⟩ := List.mem_map.1 hv; rfl)
  rw [List.length_map, hz] at this
  refine ⟨_, this, (setRow_heap w g _ _ T _ hg).trans ?_, ?_⟩
  ·have e := splice_pad (xs := xs) (by omega)
   unfold splice at e
   rw [List.length_map, hz] at e
   congr 2
   rw [← e]
   simp
  ·exact ⟨rfl, rfl, rfl, by simp [World.setRow], fun k hk hne => setRow_other w g k _ hne⟩
set_option maxHeartbeats 2000000 in
theorem kkey_any (a : Option Addr) (n cap : Nat) (xs : List Int) (w : World) (h : Reads .i64 w a n cap xs) (hn : n ≤ 16) :
  Calls Tryz.prog 86 #[.slice a n cap] w fun e w' => e = .returned (keyV xs) ∧ Below w.heap.size w w' := by
 obtain ⟨p0, p1, p2, p3, p4, p5, p6, p7, p8, p9, p10, p11, p12, p13, p14, p15, hps⟩ := list16 (padL_len (xs := xs) (by rw [h.size]; exact hn))
 have r1 := h.room
 have m1 := h.most
 obtain ⟨Z, hZ⟩ : ∃ Z, Z = Obj.cells #[Value.int .i64 0, .int .i64 0, .int .i64 0, .int .i64 0, .int .i64 0, .int .i64 0, .int .i64 0, .int .i64 0, .int .i64 0, .int .i64 0, .int .i64 0, .int .i64 0, .int .i64 0, .int .i64 0, .int .i64 0, .int .i64 0] 121 := ⟨_, rfl⟩
 have hb2 : Below w.heap.size w ((w.alloc Z).alloc Z) := ((Below.refl _ _).alloc (Nat.le_refl _) _).alloc (by simp) _
 have hG : ((w.alloc Z).alloc Z).heap[w.heap.size + 1]? = some (.cells (List.replicate 16 (Value.int .i64 0)).toArray 121 (0, 0)) := by
  have := heap_alloc_new (w.alloc Z) Z
  rw [World.size_alloc] at this
  rw [this, hZ]
  rfl
 have hR0 : ((w.alloc Z).alloc Z).heap[w.heap.size]? = some (.cells #[Value.int .i64 0, .int .i64 0, .int .i64 0, .int .i64 0, .int .i64 0, .int .i64 0, .int .i64 0, .int .i64 0, .int .i64 0, .int .i64 0, .int .i64 0, .int .i64 0, .int .i64 0, .int .i64 0, .int .i64 0, .int .i64 0] 121 (0, 0)) := by
  rw [Below.heap_alloc _ _ _ (by simp), heap_alloc_new, hZ]
 obtain ⟨w3, hcp, hg3, hf3⟩ := copy_arr _ _ _ hG a n cap xs (h.below hb2) hn 3
 have hB3 : Below w.heap.size w w3 := hb2.trans (hf3.to (fun x hx => by have e : x = w.heap.size + 1 := hx; omega) hb2.size)
 have hr0 := hf3.one hR0 (fun e => by have e' : w.heap.size = w.heap.size + 1 := e; omega)
 rw [hps] at hg3
 obtain ⟨c0, c1, c2, c3, c4, c5, c6, c7, c8, c9, c10, c11, c12, c13, c14, c15⟩ := cells_16 (by exact hg3)
 obtain ⟨d0, d1, d2, d3, d4, d5, d6, d7, d8, d9, d10, d11, d12, d13, d14, d15⟩ := cells_16 hr0
 have fr := fun k => frozen_of_row _ _ k _ _ hr0
 obtain ⟨wf, hwf⟩ : ∃ wf, wf = ((((((((((((((((w3.setCell ⟨w.heap.size, 0, none⟩ (.int .i64 p0)).setCell ⟨w.heap.size, 1, none⟩ (.int .i64 p1)).setCell ⟨w.heap.size, 2, none⟩ (.int .i64 p2)).setCell ⟨w.heap.size, 3, none⟩ (.int .i64 p3)).setCell ⟨w.heap.size, 4, none⟩ (.int .i64 p4)).setCell ⟨w.heap.size, 5, none⟩ (.int .i64 p5)).setCell ⟨w.heap.size, 6, none⟩ (.int .i64 p6)).setCell ⟨w.heap.size, 7, none⟩ (.int .i64 p7)).setCell ⟨w.heap.size, 8, none⟩ (.int .i64 p8)).setCell ⟨w.heap.size, 9, none⟩ (.int .i64 p9)).setCell ⟨w.heap.size, 10, none⟩ (.int .i64 p10)).setCell ⟨w.heap.size, 11, none⟩ (.int .i64 p11)).setCell ⟨w.heap.size, 12, none⟩ (.int .i64 p12)).setCell ⟨w.heap.size, 13, none⟩ (.int .i64 p13)).setCell ⟨w.heap.size, 14, none⟩ (.int .i64 p14)).setCell ⟨w.heap.size, 15, none⟩ (.int .i64 p15)) := ⟨_, rfl⟩
 have hrf : wf.heap[w.heap.size]? = some (.cells #[Value.int .i64 p0, .int .i64 p1, .int .i64 p2, .int .i64 p3, .int .i64 p4, .int .i64 p5, .int .i64 p6, .int .i64 p7, .int .i64 p8, .int .i64 p9, .int .i64 p10, .int .i64 p11, .int .i64 p12, .int .i64 p13, .int .i64 p14, .int .i64 p15] 121 (0, 0)) := by rw [hwf]; exact set16 p0 p1 p2 p3 p4 p5 p6 p7 p8 p9 p10 p11 p12 p13 p14 p15 hr0
 obtain ⟨x0, x1, x2, x3, x4, x5, x6, x7, x8, x9, x10, x11, x12, x13, x14, x15⟩ := cells_16 hrf
 have HB3 : Hid (Below w.heap.size w wf) := by unfold Hid; rw [hwf]; exact (Below.setCell (Below.setCell (Below.setCell (Below.setCell (Below.setCell (Below.setCell (Below.setCell (Below.setCell (Below.setCell (Below.setCell (Below.setCell (Below.setCell (Below.setCell (Below.setCell (Below.setCell (Below.setCell hB3 (p := ⟨w.heap.size, 0, none⟩) (Nat.le_refl _) (.int .i64 p0)) (p := ⟨w.heap.size, 1, none⟩) (Nat.le_refl _) (.int .i64 p1)) (p := ⟨w.heap.size, 2, none⟩) (Nat.le_refl _) (.int .i64 p2)) (p := ⟨w.heap.size, 3, none⟩) (Nat.le_refl _) (.int .i64 p3)) (p := ⟨w.heap.size, 4, none⟩) (Nat.le_refl _) (.int .i64 p4)) (p := ⟨w.heap.size, 5, none⟩) (Nat.le_refl _) (.int .i64 p5)) (p := ⟨w.heap.size, 6, none⟩) (Nat.le_refl _) (.int .i64 p6)) (p := ⟨w.heap.size, 7, none⟩) (Nat.le_refl _) (.int .i64 p7)) (p := ⟨w.heap.size, 8, none⟩) (Nat.le_refl _) (.int .i64 p8)) (p := ⟨w.heap.size, 9, none⟩) (Nat.le_refl _) (.int .i64 p9)) (p := ⟨w.heap.size, 10, none⟩) (Nat.le_refl _) (.int .i64 p10)) (p := ⟨w.heap.size, 11, none⟩) (Nat.le_refl _) (.int .i64 p11)) (p := ⟨w.heap.size, 12, none⟩) (Nat.le_refl _) (.int .i64 p12)) (p := ⟨w.heap.size, 13, none⟩) (Nat.le_refl _) (.int .i64 p13)) (p := ⟨w.heap.size, 14, none⟩) (Nat.le_refl _) (.int .i64 p14)) (p := ⟨w.heap.size, 15, none⟩) (Nat.le_refl _) (.int .i64 p15))
 have HK : Hid (Ending.returned (.agg #[Value.int .i64 p0, .int .i64 p1, .int .i64 p2, .int .i64 p3, .int .i64 p4, .int .i64 p5, .int .i64 p6, .int .i64 p7, .int .i64 p8, .int .i64 p9, .int .i64 p10, .int .i64 p11, .int .i64 p12, .int .i64 p13, .int .i64 p14, .int .i64 p15]) = .returned (keyV xs)) := by unfold Hid keyV; rw [hps]; rfl
 rw [hZ] at hcp
 clear h hps hZ hb2 hG hR0 hg3 hf3 hB3 hr0 hrf
 go_enter Tryz.func86, Tryz.ntmps86
 go_wp2_with fail
 rw [← hwf]
 clear hwf
 exact bodyPost_ret (v := .agg #[Value.int .i64 p0, .int .i64 p1, .int .i64 p2, .int .i64 p3, .int .i64 p4, .int .i64 p5, .int .i64 p6, .int .i64 p7, .int .i64 p8, .int .i64 p9, .int .i64 p10, .int .i64 p11, .int .i64 p12, .int .i64 p13, .int .i64 p14, .int .i64 p15]) (by simp [results, Tryz.results86, go_sem, x0, x1, x2, x3, x4, x5, x6, x7, x8, x9, x10, x11, x12, x13, x14, x15]) rfl ⟨HK.out, HB3.out⟩
end Go.Proofs.YtjgggialnegddaaGreat
