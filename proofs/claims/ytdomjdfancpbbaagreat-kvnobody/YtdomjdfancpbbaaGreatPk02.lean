/-
  KvKey: LAB: the array that a part of a text makes (the trial's keyOf): a copy into an array.
  KvMath: Mathematics of layer 14's document: entries (tokens, last use) as a list; beginnings, where an entry stands, what is found, which leaf goes, what a text that is put makes of them.
  KvMath2: Mathematics of layer 14: the document's Put, round by round (putK).
-/
import Derived.Test.YtdomjdfancpbbaaGreatPk01
import Derived.Laws.CopyOwn
namespace Go.Proofs.YtdomjdfancpbbaaGreat
open Go.RowKit Go.Maps
set_option linter.unusedVariables false
set_option maxRecDepth 1000000

theorem list16 {ps : List Int} (h : ps.length = 16) : ∃ p0 p1 p2 p3 p4 p5 p6 p7 p8 p9 p10 p11 p12 p13 p14 p15, ps = [p0, p1, p2, p3, p4, p5, p6, p7, p8, p9, p10, p11, p12, p13, p14, p15] := by
  match ps, h with
  | [p0, p1, p2, p3, p4, p5, p6, p7, p8, p9, p10, p11, p12, p13, p14, p15], _ => exact ⟨_, _, _, _, _, _, _, _, _, _, _, _, _, _, _, _, rfl⟩
theorem splice_pad {xs : List Int} (h : xs.length ≤ 16) : splice (List.replicate 16 (Value.int .i64 0)) 0 (xs.map (Value.int .i64)) = (padL xs).map (Value.int .i64) := by
  unfold splice padL
  rw [List.take_zero, List.nil_append, List.map_append, List.length_map, Nat.zero_add, List.drop_replicate, List.map_replicate]
theorem cells_16 {W : World} {g : Nat} {v0 v1 v2 v3 v4 v5 v6 v7 v8 v9 v10 v11 v12 v13 v14 v15 : Value} {T : TypeId} (h : W.heap[g]? = some (.cells #[v0, v1, v2, v3, v4, v5, v6, v7, v8, v9, v10, v11, v12, v13, v14, v15] T (0, 0))) :
    W.cell? ⟨g, 0, none⟩ = some v0 ∧ W.cell? ⟨g, 1, none⟩ = some v1 ∧ W.cell? ⟨g, 2, none⟩ = some v2 ∧ W.cell? ⟨g, 3, none⟩ = some v3 ∧ W.cell? ⟨g, 4, none⟩ = some v4 ∧ W.cell? ⟨g, 5, none⟩ = some v5 ∧ W.cell? ⟨g, 6, none⟩ = some v6 ∧ W.cell? ⟨g, 7, none⟩ = some v7 ∧ W.cell? ⟨g, 8, none⟩ = some v8 ∧ W.cell? ⟨g, 9, none⟩ = some v9 ∧ W.cell? ⟨g, 10, none⟩ = some v10 ∧ W.cell? ⟨g, 11, none⟩ = some v11 ∧ W.cell? ⟨g, 12, none⟩ = some v12 ∧ W.cell? ⟨g, 13, none⟩ = some v13 ∧ W.cell? ⟨g, 14, none⟩ = some v14 ∧ W.cell? ⟨g, 15, none⟩ = some v15 := by
  refine ⟨?_, ?_, ?_, ?_, ?_, ?_, ?_, ?_, ?_, ?_, ?_, ?_, ?_, ?_, ?_, ?_⟩ <;> (rw [cell_of_row _ _ _ _ _ _ h]; rfl)
theorem set16 {W : World} {g : Nat} {T : TypeId} (p0 p1 p2 p3 p4 p5 p6 p7 p8 p9 p10 p11 p12 p13 p14 p15 : Int) (h : W.heap[g]? = some (.cells #[Value.int .i64 0, Value.int .i64 0, Value.int .i64 0, Value.int .i64 0, Value.int .i64 0, Value.int .i64 0, Value.int .i64 0, Value.int .i64 0, Value.int .i64 0, Value.int .i64 0, Value.int .i64 0, Value.int .i64 0, Value.int .i64 0, Value.int .i64 0, Value.int .i64 0, Value.int .i64 0] T (0, 0))) :
    ((((((((((((((((W.setCell ⟨g, 0, none⟩ (.int .i64 p0)).setCell ⟨g, 1, none⟩ (.int .i64 p1)).setCell ⟨g, 2, none⟩ (.int .i64 p2)).setCell ⟨g, 3, none⟩ (.int .i64 p3)).setCell ⟨g, 4, none⟩ (.int .i64 p4)).setCell ⟨g, 5, none⟩ (.int .i64 p5)).setCell ⟨g, 6, none⟩ (.int .i64 p6)).setCell ⟨g, 7, none⟩ (.int .i64 p7)).setCell ⟨g, 8, none⟩ (.int .i64 p8)).setCell ⟨g, 9, none⟩ (.int .i64 p9)).setCell ⟨g, 10, none⟩ (.int .i64 p10)).setCell ⟨g, 11, none⟩ (.int .i64 p11)).setCell ⟨g, 12, none⟩ (.int .i64 p12)).setCell ⟨g, 13, none⟩ (.int .i64 p13)).setCell ⟨g, 14, none⟩ (.int .i64 p14)).setCell ⟨g, 15, none⟩ (.int .i64 p15)).heap[g]? = some (.cells #[Value.int .i64 p0, Value.int .i64 p1, Value.int .i64 p2, Value.int .i64 p3, Value.int .i64 p4, Value.int .i64 p5, Value.int .i64 p6, Value.int .i64 p7, Value.int .i64 p8, Value.int .i64 p9, Value.int .i64 p10, Value.int .i64 p11, Value.int .i64 p12, Value.int .i64 p13, Value.int .i64 p14, Value.int .i64 p15] T (0, 0)) := by
  have h1 : (W.setCell ⟨g, 0, none⟩ (.int .i64 p0)).heap[g]? = some (.cells #[Value.int .i64 p0, Value.int .i64 0, Value.int .i64 0, Value.int .i64 0, Value.int .i64 0, Value.int .i64 0, Value.int .i64 0, Value.int .i64 0, Value.int .i64 0, Value.int .i64 0, Value.int .i64 0, Value.int .i64 0, Value.int .i64 0, Value.int .i64 0, Value.int .i64 0, Value.int .i64 0] T (0, 0)) := by
    have := row_set (k := 0) (u := .int .i64 p0) h
    simpa using this
  have h2 : ((W.setCell ⟨g, 0, none⟩ (.int .i64 p0)).setCell ⟨g, 1, none⟩ (.int .i64 p1)).heap[g]? = some (.cells #[Value.int .i64 p0, Value.int .i64 p1, Value.int .i64 0, Value.int .i64 0, Value.int .i64 0, Value.int .i64 0, Value.int .i64 0, Value.int .i64 0, Value.int .i64 0, Value.int .i64 0, Value.int .i64 0, Value.int .i64 0, Value.int .i64 0, Value.int .i64 0, Value.int .i64 0, Value.int .i64 0] T (0, 0)) := by
    have := row_set (k := 1) (u := .int .i64 p1) h1
    simpa using this
  have h3 : (((W.setCell ⟨g, 0, none⟩ (.int .i64 p0)).setCell ⟨g, 1, none⟩ (.int .i64 p1)).setCell ⟨g, 2, none⟩ (.int .i64 p2)).heap[g]? = some (.cells #[Value.int .i64 p0, Value.int .i64 p1, Value.int .i64 p2, Value.int .i64 0, Value.int .i64 0, Value.int .i64 0, Value.int .i64 0, Value.int .i64 0, Value.int .i64 0, Value.int .i64 0, Value.int .i64 0, Value.int .i64 0, Value.int .i64 0, Value.int .i64 0, Value.int .i64 0, Value.int .i64 0] T (0, 0)) := by
    have := row_set (k := 2) (u := .int .i64 p2) h2
    simpa using this
  have h4 : ((((W.setCell ⟨g, 0, none⟩ (.int .i64 p0)).setCell ⟨g, 1, none⟩ (.int .i64 p1)).setCell ⟨g, 2, none⟩ (.int .i64 p2)).setCell ⟨g, 3, none⟩ (.int .i64 p3)).heap[g]? = some (.cells #[Value.int .i64 p0, Value.int .i64 p1, Value.int .i64 p2, Value.int .i64 p3, Value.int .i64 0, Value.int .i64 0, Value.int .i64 0, Value.int .i64 0, Value.int .i64 0, Value.int .i64 0, Value.int .i64 0, Value.int .i64 0, Value.int .i64 0, Value.int .i64 0, Value.int .i64 0, Value.int .i64 0] T (0, 0)) := by
    have := row_set (k := 3) (u := .int .i64 p3) h3
    simpa using this
  have h5 : (((((W.setCell ⟨g, 0, none⟩ (.int .i64 p0)).setCell ⟨g, 1, none⟩ (.int .i64 p1)).setCell ⟨g, 2, none⟩ (.int .i64 p2)).setCell ⟨g, 3, none⟩ (.int .i64 p3)).setCell ⟨g, 4, none⟩ (.int .i64 p4)).heap[g]? = some (.cells #[Value.int .i64 p0, Value.int .i64 p1, Value.int .i64 p2, Value.int .i64 p3, Value.int .i64 p4, Value.int .i64 0, Value.int .i64 0, Value.int .i64 0, Value.int .i64 0, Value.int .i64 0, Value.int .i64 0, Value.int .i64 0, Value.int .i64 0, Value.int .i64 0, Value.int .i64 0, Value.int .i64 0] T (0, 0)) := by
    have := row_set (k := 4) (u := .int .i64 p4) h4
    simpa using this
  have h6 : ((((((W.setCell ⟨g, 0, none⟩ (.int .i64 p0)).setCell ⟨g, 1, none⟩ (.int .i64 p1)).setCell ⟨g, 2, none⟩ (.int .i64 p2)).setCell ⟨g, 3, none⟩ (.int .i64 p3)).setCell ⟨g, 4, none⟩ (.int .i64 p4)).setCell ⟨g, 5, none⟩ (.int .i64 p5)).heap[g]? = some (.cells #[Value.int .i64 p0, Value.int .i64 p1, Value.int .i64 p2, Value.int .i64 p3, Value.int .i64 p4, Value.int .i64 p5, Value.int .i64 0, Value.int .i64 0, Value.int .i64 0, Value.int .i64 0, Value.int .i64 0, Value.int .i64 0, Value.int .i64 0, Value.int .i64 0, Value.int .i64 0, Value.int .i64 0] T (0, 0)) := by
    have := row_set (k := 5) (u := .int .i64 p5) h5
    simpa using this
  have h7 : (((((((W.setCell ⟨g, 0, none⟩ (.int .i64 p0)).setCell ⟨g, 1, none⟩ (.int .i64 p1)).setCell ⟨g, 2, none⟩ (.int .i64 p2)).setCell ⟨g, 3, none⟩ (.int .i64 p3)).setCell ⟨g, 4, none⟩ (.int .i64 p4)).setCell ⟨g, 5, none⟩ (.int .i64 p5)).setCell ⟨g, 6, none⟩ (.int .i64 p6)).heap[g]? = some (.cells #[Value.int .i64 p0, Value.int .i64 p1, Value.int .i64 p2, Value.int .i64 p3, Value.int .i64 p4, Value.int .i64 p5, Value.int .i64 p6, Value.int .i64 0, Value.int .i64 0, Value.int .i64 0, Value.int .i64 0, Value.int .i64 0, Value.int .i64 0, Value.int .i64 0, Value.int .i64 0, Value.int .i64 0] T (0, 0)) := by
    have := row_set (k := 6) (u := .int .i64 p6) h6
    simpa using this
  have h8 : ((((((((W.setCell ⟨g, 0, none⟩ (.int .i64 p0)).setCell ⟨g, 1, none⟩ (.int .i64 p1)).setCell ⟨g, 2, none⟩ (.int .i64 p2)).setCell ⟨g, 3, none⟩ (.int .i64 p3)).setCell ⟨g, 4, none⟩ (.int .i64 p4)).setCell ⟨g, 5, none⟩ (.int .i64 p5)).setCell ⟨g, 6, none⟩ (.int .i64 p6)).setCell ⟨g, 7, none⟩ (.int .i64 p7)).heap[g]? = some (.cells #[Value.int .i64 p0, Value.int .i64 p1, Value.int .i64 p2, Value.int .i64 p3, Value.int .i64 p4, Value.int .i64 p5, Value.int .i64 p6, Value.int .i64 p7, Value.int .i64 0, Value.int .i64 0, Value.int .i64 0, Value.int .i64 0, Value.int .i64 0, Value.int .i64 0, Value.int .i64 0, Value.int .i64 0] T (0, 0)) := by
    have := row_set (k := 7) (u := .int .i64 p7) h7
    simpa using this
  have h9 : (((((((((W.setCell ⟨g, 0, none⟩ (.int .i64 p0)).setCell ⟨g, 1, none⟩ (.int .i64 p1)).setCell ⟨g, 2, none⟩ (.int .i64 p2)).setCell ⟨g, 3, none⟩ (.int .i64 p3)).setCell ⟨g, 4, none⟩ (.int .i64 p4)).setCell ⟨g, 5, none⟩ (.int .i64 p5)).setCell ⟨g, 6, none⟩ (.int .i64 p6)).setCell ⟨g, 7, none⟩ (.int .i64 p7)).setCell ⟨g, 8, none⟩ (.int .i64 p8)).heap[g]? = some (.cells #[Value.int .i64 p0, Value.int .i64 p1, Value.int .i64 p2, Value.int .i64 p3, Value.int .i64 p4, Value.int .i64 p5, Value.int .i64 p6, Value.int .i64 p7, Value.int .i64 p8, Value.int .i64 0, Value.int .i64 0, Value.int .i64 0, Value.int .i64 0, Value.int .i64 0, Value.int .i64 0, Value.int .i64 0] T (0, 0)) := by
    have := row_set (k := 8) (u := .int .i64 p8) h8
    simpa using this
  have h10 : ((((((((((W.setCell ⟨g, 0, none⟩ (.int .i64 p0)).setCell ⟨g, 1, none⟩ (.int .i64 p1)).setCell ⟨g, 2, none⟩ (.int .i64 p2)).setCell ⟨g, 3, none⟩ (.int .i64 p3)).setCell ⟨g, 4, none⟩ (.int .i64 p4)).setCell ⟨g, 5, none⟩ (.int .i64 p5)).setCell ⟨g, 6, none⟩ (.int .i64 p6)).setCell ⟨g, 7, none⟩ (.int .i64 p7)).setCell ⟨g, 8, none⟩ (.int .i64 p8)).setCell ⟨g, 9, none⟩ (.int .i64 p9)).heap[g]? = some (.cells #[Value.int .i64 p0, Value.int .i64 p1, Value.int .i64 p2, Value.int .i64 p3, Value.int .i64 p4, Value.int .i64 p5, Value.int .i64 p6, Value.int .i64 p7, Value.int .i64 p8, Value.int .i64 p9, Value.int .i64 0, Value.int .i64 0, Value.int .i64 0, Value.int .i64 0, Value.int .i64 0, Value.int .i64 0] T (0, 0)) := by
    have := row_set (k := 9) (u := .int .i64 p9) h9
    simpa using this
  have h11 : (((((((((((W.setCell ⟨g, 0, none⟩ (.int .i64 p0)).setCell ⟨g, 1, none⟩ (.int .i64 p1)).setCell ⟨g, 2, none⟩ (.int .i64 p2)).setCell ⟨g, 3, none⟩ (.int .i64 p3)).setCell ⟨g, 4, none⟩ (.int .i64 p4)).setCell ⟨g, 5, none⟩ (.int .i64 p5)).setCell ⟨g, 6, none⟩ (.int .i64 p6)).setCell ⟨g, 7, none⟩ (.int .i64 p7)).setCell ⟨g, 8, none⟩ (.int .i64 p8)).setCell ⟨g, 9, none⟩ (.int .i64 p9)).setCell ⟨g, 10, none⟩ (.int .i64 p10)).heap[g]? = some (.cells #[Value.int .i64 p0, Value.int .i64 p1, Value.int .i64 p2, Value.int .i64 p3, Value.int .i64 p4, Value.int .i64 p5, Value.int .i64 p6, Value.int .i64 p7, Value.int .i64 p8, Value.int .i64 p9, Value.int .i64 p10, Value.int .i64 0, Value.int .i64 0, Value.int .i64 0, Value.int .i64 0, Value.int .i64 0] T (0, 0)) := by
    have := row_set (k := 10) (u := .int .i64 p10) h10
    simpa using this
  have h12 : ((((((((((((W.setCell ⟨g, 0, none⟩ (.int .i64 p0)).setCell ⟨g, 1, none⟩ (.int .i64 p1)).setCell ⟨g, 2, none⟩ (.int .i64 p2)).setCell ⟨g, 3, none⟩ (.int .i64 p3)).setCell ⟨g, 4, none⟩ (.int .i64 p4)).setCell ⟨g, 5, none⟩ (.int .i64 p5)).setCell ⟨g, 6, none⟩ (.int .i64 p6)).setCell ⟨g, 7, none⟩ (.int .i64 p7)).setCell ⟨g, 8, none⟩ (.int .i64 p8)).setCell ⟨g, 9, none⟩ (.int .i64 p9)).setCell ⟨g, 10, none⟩ (.int .i64 p10)).setCell ⟨g, 11, none⟩ (.int .i64 p11)).heap[g]? = some (.cells #[Value.int .i64 p0, Value.int .i64 p1, Value.int .i64 p2, Value.int .i64 p3, Value.int .i64 p4, Value.int .i64 p5, Value.int .i64 p6, Value.int .i64 p7, Value.int .i64 p8, Value.int .i64 p9, Value.int .i64 p10, Value.int .i64 p11, Value.int .i64 0, Value.int .i64 0, Value.int .i64 0, Value.int .i64 0] T (0, 0)) := by
    have := row_set (k := 11) (u := .int .i64 p11) h11
    simpa using this
  have h13 : (((((((((((((W.setCell ⟨g, 0, none⟩ (.int .i64 p0)).setCell ⟨g, 1, none⟩ (.int .i64 p1)).setCell ⟨g, 2, none⟩ (.int .i64 p2)).setCell ⟨g, 3, none⟩ (.int .i64 p3)).setCell ⟨g, 4, none⟩ (.int .i64 p4)).setCell ⟨g, 5, none⟩ (.int .i64 p5)).setCell ⟨g, 6, none⟩ (.int .i64 p6)).setCell ⟨g, 7, none⟩ (.int .i64 p7)).setCell ⟨g, 8, none⟩ (.int .i64 p8)).setCell ⟨g, 9, none⟩ (.int .i64 p9)).setCell ⟨g, 10, none⟩ (.int .i64 p10)).setCell ⟨g, 11, none⟩ (.int .i64 p11)).setCell ⟨g, 12, none⟩ (.int .i64 p12)).heap[g]? = some (.cells #[Value.int .i64 p0, Value.int .i64 p1, Value.int .i64 p2, Value.int .i64 p3, Value.int .i64 p4, Value.int .i64 p5, Value.int .i64 p6, Value.int .i64 p7, Value.int .i64 p8, Value.int .i64 p9, Value.int .i64 p10, Value.int .i64 p11, Value.int .i64 p12, Value.int .i64 0, Value.int .i64 0, Value.int .i64 0] T (0, 0)) := by
    have := row_set (k := 12) (u := .int .i64 p12) h12
    simpa using this
  have h14 : ((((((((((((((W.setCell ⟨g, 0, none⟩ (.int .i64 p0)).setCell ⟨g, 1, none⟩ (.int .i64 p1)).setCell ⟨g, 2, none⟩ (.int .i64 p2)).setCell ⟨g, 3, none⟩ (.int .i64 p3)).setCell ⟨g, 4, none⟩ (.int .i64 p4)).setCell ⟨g, 5, none⟩ (.int .i64 p5)).setCell ⟨g, 6, none⟩ (.int .i64 p6)).setCell ⟨g, 7, none⟩ (.int .i64 p7)).setCell ⟨g, 8, none⟩ (.int .i64 p8)).setCell ⟨g, 9, none⟩ (.int .i64 p9)).setCell ⟨g, 10, none⟩ (.int .i64 p10)).setCell ⟨g, 11, none⟩ (.int .i64 p11)).setCell ⟨g, 12, none⟩ (.int .i64 p12)).setCell ⟨g, 13, none⟩ (.int .i64 p13)).heap[g]? = some (.cells #[Value.int .i64 p0, Value.int .i64 p1, Value.int .i64 p2, Value.int .i64 p3, Value.int .i64 p4, Value.int .i64 p5, Value.int .i64 p6, Value.int .i64 p7, Value.int .i64 p8, Value.int .i64 p9, Value.int .i64 p10, Value.int .i64 p11, Value.int .i64 p12, Value.int .i64 p13, Value.int .i64 0, Value.int .i64 0] T (0, 0)) := by
    have := row_set (k := 13) (u := .int .i64 p13) h13
    simpa using this
  have h15 : (((((((((((((((W.setCell ⟨g, 0, none⟩ (.int .i64 p0)).setCell ⟨g, 1, none⟩ (.int .i64 p1)).setCell ⟨g, 2, none⟩ (.int .i64 p2)).setCell ⟨g, 3, none⟩ (.int .i64 p3)).setCell ⟨g, 4, none⟩ (.int .i64 p4)).setCell ⟨g, 5, none⟩ (.int .i64 p5)).setCell ⟨g, 6, none⟩ (.int .i64 p6)).setCell ⟨g, 7, none⟩ (.int .i64 p7)).setCell ⟨g, 8, none⟩ (.int .i64 p8)).setCell ⟨g, 9, none⟩ (.int .i64 p9)).setCell ⟨g, 10, none⟩ (.int .i64 p10)).setCell ⟨g, 11, none⟩ (.int .i64 p11)).setCell ⟨g, 12, none⟩ (.int .i64 p12)).setCell ⟨g, 13, none⟩ (.int .i64 p13)).setCell ⟨g, 14, none⟩ (.int .i64 p14)).heap[g]? = some (.cells #[Value.int .i64 p0, Value.int .i64 p1, Value.int .i64 p2, Value.int .i64 p3, Value.int .i64 p4, Value.int .i64 p5, Value.int .i64 p6, Value.int .i64 p7, Value.int .i64 p8, Value.int .i64 p9, Value.int .i64 p10, Value.int .i64 p11, Value.int .i64 p12, Value.int .i64 p13, Value.int .i64 p14, Value.int .i64 0] T (0, 0)) := by
    have := row_set (k := 14) (u := .int .i64 p14) h14
    simpa using this
  have h16 : ((((((((((((((((W.setCell ⟨g, 0, none⟩ (.int .i64 p0)).setCell ⟨g, 1, none⟩ (.int .i64 p1)).setCell ⟨g, 2, none⟩ (.int .i64 p2)).setCell ⟨g, 3, none⟩ (.int .i64 p3)).setCell ⟨g, 4, none⟩ (.int .i64 p4)).setCell ⟨g, 5, none⟩ (.int .i64 p5)).setCell ⟨g, 6, none⟩ (.int .i64 p6)).setCell ⟨g, 7, none⟩ (.int .i64 p7)).setCell ⟨g, 8, none⟩ (.int .i64 p8)).setCell ⟨g, 9, none⟩ (.int .i64 p9)).setCell ⟨g, 10, none⟩ (.int .i64 p10)).setCell ⟨g, 11, none⟩ (.int .i64 p11)).setCell ⟨g, 12, none⟩ (.int .i64 p12)).setCell ⟨g, 13, none⟩ (.int .i64 p13)).setCell ⟨g, 14, none⟩ (.int .i64 p14)).setCell ⟨g, 15, none⟩ (.int .i64 p15)).heap[g]? = some (.cells #[Value.int .i64 p0, Value.int .i64 p1, Value.int .i64 p2, Value.int .i64 p3, Value.int .i64 p4, Value.int .i64 p5, Value.int .i64 p6, Value.int .i64 p7, Value.int .i64 p8, Value.int .i64 p9, Value.int .i64 p10, Value.int .i64 p11, Value.int .i64 p12, Value.int .i64 p13, Value.int .i64 p14, Value.int .i64 p15] T (0, 0)) := by
    have := row_set (k := 15) (u := .int .i64 p15) h15
    simpa using this
  exact h16
/-- 'copy' of a list of at most 16 ints into an array of 16. -/
theorem copy_arr (w : World) (g : Nat) (T : TypeId) (hg : w.heap[g]? = some (.cells (List.replicate 16 (Value.int .i64 0)).toArray T (0, 0))) (a : Option Addr) (n cap : Nat) (xs : List Int) (h : Reads .i64 w a n cap xs) (hn : n ≤ 16) (ty : TypeId) :
    ∃ w3, (Builtin.copy_ #[34, 34] ty #[.slice (some ⟨g, 0, none⟩) 16 16, .slice a n cap]).run Tryz.prog w = .ok (.int .i64 n) w3 ∧ w3.heap[g]? = some (.cells ((padL xs).map (Value.int .i64)).toArray T (0, 0)) ∧ Fb (at1 g) w w3 := by
  have hsz : (Tryz.prog.info? 3).map (·.size) = some 1 := by kernel_rfl
  have hz := h.size
  have hmin : Nat.min n 16 = n := Nat.min_eq_left hn
  cases a with
  | none =>
    obtain ⟨h1, h2⟩ := h.bare rfl
    subst h1
    have hx : xs = [] := List.eq_nil_of_length_eq_zero hz
    subst hx
    have := run_copy_none (P := Tryz.prog) w 34 34 ty 3 (some ⟨g, 0, none⟩) none 16 16 0 cap Tryz.underlying34 hsz rfl
    refine ⟨w, this, ?_, Fb.refl _ _⟩
    rw [hg]
    rfl
  | some ad =>
    have := run_copy_row (P := Tryz.prog) w 34 34 ty 3 g 0 16 16 ad n cap (List.replicate 16 (Value.int .i64 0)).toArray T (xs.map (Value.int .i64)) Tryz.underlying34 hsz hg (by rw [List.length_map, hz, hmin]) h.news (by simp; omega) (fun v hv => by obtain ⟨x, _, rfl⟩ := List.mem_map.1 hv; rfl)
    rw [List.length_map, hz] at this
    refine ⟨_, this, (setRow_heap w g _ _ T _ hg).trans ?_, ?_⟩
    · have e := splice_pad (xs := xs) (by omega)
      unfold splice at e
      rw [List.length_map, hz] at e
      congr 2
      rw [← e]
      simp
    · exact ⟨rfl, rfl, rfl, by simp [World.setRow], fun k hk hne => setRow_other w g k _ hne⟩
set_option maxHeartbeats 2000000 in
theorem kkey_any (a : Option Addr) (n cap : Nat) (xs : List Int) (w : World) (h : Reads .i64 w a n cap xs) (hn : n ≤ 16) :
    Calls Tryz.prog 39 #[.slice a n cap] w fun e w' => e = .returned (keyV xs) ∧ Below w.heap.size w w' := by
  obtain ⟨p0, p1, p2, p3, p4, p5, p6, p7, p8, p9, p10, p11, p12, p13, p14, p15, hps⟩ := list16 (padL_len (xs := xs) (by rw [h.size]; exact hn))
  have r1 := h.room
  have m1 := h.most
  obtain ⟨Z, hZ⟩ : ∃ Z, Z = Obj.cells #[Value.int .i64 0, .int .i64 0, .int .i64 0, .int .i64 0, .int .i64 0, .int .i64 0, .int .i64 0, .int .i64 0, .int .i64 0, .int .i64 0, .int .i64 0, .int .i64 0, .int .i64 0, .int .i64 0, .int .i64 0, .int .i64 0] 76 := ⟨_, rfl⟩
  have hb2 : Below w.heap.size w ((w.alloc Z).alloc Z) := ((Below.refl _ _).alloc (Nat.le_refl _) _).alloc (by simp) _
  have hG : ((w.alloc Z).alloc Z).heap[w.heap.size + 1]? = some (.cells (List.replicate 16 (Value.int .i64 0)).toArray 76 (0, 0)) := by
    have := heap_alloc_new (w.alloc Z) Z
    rw [World.size_alloc] at this
    rw [this, hZ]
    rfl
  have hR0 : ((w.alloc Z).alloc Z).heap[w.heap.size]? = some (.cells #[Value.int .i64 0, .int .i64 0, .int .i64 0, .int .i64 0, .int .i64 0, .int .i64 0, .int .i64 0, .int .i64 0, .int .i64 0, .int .i64 0, .int .i64 0, .int .i64 0, .int .i64 0, .int .i64 0, .int .i64 0, .int .i64 0] 76 (0, 0)) := by
    rw [Below.heap_alloc _ _ _ (by simp), heap_alloc_new, hZ]
  obtain ⟨w3, hcp, hg3, hf3⟩ := copy_arr _ _ _ hG a n cap xs (h.below hb2) hn 3
  have hB3 : Below w.heap.size w w3 := hb2.trans (hf3.to (fun x hx => by have e : x = w.heap.size + 1 := hx; omega) hb2.size)
  have hr0 := hf3.one hR0 (fun e => by have e' : w.heap.size = w.heap.size + 1 := e; omega)
  rw [hps] at hg3
  obtain ⟨c0, c1, c2, c3, c4, c5, c6, c7, c8, c9, c10, c11, c12, c13, c14, c15⟩ := cells_16 (by exact hg3)
  obtain ⟨d0, d1, d2, d3, d4, d5, d6, d7, d8, d9, d10, d11, d12, d13, d14, d15⟩ := cells_16 hr0
  have fr := fun k => frozen_of_row _ _ k _ _ hr0
  obtain ⟨wf, hwf⟩ : ∃ wf, wf = ((((((((((((((((w3.setCell ⟨w.heap.size, 0, none⟩ (.int .i64 p0)).setCell ⟨w.heap.size, 1, none⟩ (.int .i64 p1)).setCell ⟨w.heap.size, 2, none⟩ (.int .i64 p2)).setCell ⟨w.heap.size, 3, none⟩ (.int .i64 p3)).setCell ⟨w.heap.size, 4, none⟩ (.int .i64 p4)).setCell ⟨w.heap.size, 5, none⟩ (.int .i64 p5)).setCell ⟨w.heap.size, 6, none⟩ (.int .i64 p6)).setCell ⟨w.heap.size, 7, none⟩ (.int .i64 p7)).setCell ⟨w.heap.size, 8, none⟩ (.int .i64 p8)).setCell ⟨w.heap.size, 9, none⟩ (.int .i64 p9)).setCell ⟨w.heap.size, 10, none⟩ (.int .i64 p10)).setCell ⟨w.heap.size, 11, none⟩ (.int .i64 p11)).setCell ⟨w.heap.size, 12, none⟩ (.int .i64 p12)).setCell ⟨w.heap.size, 13, none⟩ (.int .i64 p13)).setCell ⟨w.heap.size, 14, none⟩ (.int .i64 p14)).setCell ⟨w.heap.size, 15, none⟩ (.int .i64 p15)) := ⟨_, rfl⟩
  have hrf : wf.heap[w.heap.size]? = some (.cells #[Value.int .i64 p0, .int .i64 p1, .int .i64 p2, .int .i64 p3, .int .i64 p4, .int .i64 p5, .int .i64 p6, .int .i64 p7, .int .i64 p8, .int .i64 p9, .int .i64 p10, .int .i64 p11, .int .i64 p12, .int .i64 p13, .int .i64 p14, .int .i64 p15] 76 (0, 0)) := by rw [hwf]; exact set16 p0 p1 p2 p3 p4 p5 p6 p7 p8 p9 p10 p11 p12 p13 p14 p15 hr0
  obtain ⟨x0, x1, x2, x3, x4, x5, x6, x7, x8, x9, x10, x11, x12, x13, x14, x15⟩ := cells_16 hrf
  have HB3 : Hid (Below w.heap.size w wf) := by unfold Hid; rw [hwf]; exact (Below.setCell (Below.setCell (Below.setCell (Below.setCell (Below.setCell (Below.setCell (Below.setCell (Below.setCell (Below.setCell (Below.setCell (Below.setCell (Below.setCell (Below.setCell (Below.setCell (Below.setCell (Below.setCell hB3 (p := ⟨w.heap.size, 0, none⟩) (Nat.le_refl _) (.int .i64 p0)) (p := ⟨w.heap.size, 1, none⟩) (Nat.le_refl _) (.int .i64 p1)) (p := ⟨w.heap.size, 2, none⟩) (Nat.le_refl _) (.int .i64 p2)) (p := ⟨w.heap.size, 3, none⟩) (Nat.le_refl _) (.int .i64 p3)) (p := ⟨w.heap.size, 4, none⟩) (Nat.le_refl _) (.int .i64 p4)) (p := ⟨w.heap.size, 5, none⟩) (Nat.le_refl _) (.int .i64 p5)) (p := ⟨w.heap.size, 6, none⟩) (Nat.le_refl _) (.int .i64 p6)) (p := ⟨w.heap.size, 7, none⟩) (Nat.le_refl _) (.int .i64 p7)) (p := ⟨w.heap.size, 8, none⟩) (Nat.le_refl _) (.int .i64 p8)) (p := ⟨w.heap.size, 9, none⟩) (Nat.le_refl _) (.int .i64 p9)) (p := ⟨w.heap.size, 10, none⟩) (Nat.le_refl _) (.int .i64 p10)) (p := ⟨w.heap.size, 11, none⟩) (Nat.le_refl _) (.int .i64 p11)) (p := ⟨w.heap.size, 12, none⟩) (Nat.le_refl _) (.int .i64 p12)) (p := ⟨w.heap.size, 13, none⟩) (Nat.le_refl _) (.int .i64 p13)) (p := ⟨w.heap.size, 14, none⟩) (Nat.le_refl _) (.int .i64 p14)) (p := ⟨w.heap.size, 15, none⟩) (Nat.le_refl _) (.int .i64 p15))
  have HK : Hid (Ending.returned (.agg #[Value.int .i64 p0, .int .i64 p1, .int .i64 p2, .int .i64 p3, .int .i64 p4, .int .i64 p5, .int .i64 p6, .int .i64 p7, .int .i64 p8, .int .i64 p9, .int .i64 p10, .int .i64 p11, .int .i64 p12, .int .i64 p13, .int .i64 p14, .int .i64 p15]) = .returned (keyV xs)) := by unfold Hid keyV; rw [hps]; rfl
  rw [hZ] at hcp
  clear h hps hZ hb2 hG hR0 hg3 hf3 hB3 hr0 hrf
  go_enter Tryz.func39, Tryz.ntmps39
  go_wp2_with fail
  rw [← hwf]
  clear hwf
  exact bodyPost_ret (v := .agg #[Value.int .i64 p0, .int .i64 p1, .int .i64 p2, .int .i64 p3, .int .i64 p4, .int .i64 p5, .int .i64 p6, .int .i64 p7, .int .i64 p8, .int .i64 p9, .int .i64 p10, .int .i64 p11, .int .i64 p12, .int .i64 p13, .int .i64 p14, .int .i64 p15]) (by simp [results, Tryz.results39, go_sem, x0, x1, x2, x3, x4, x5, x6, x7, x8, x9, x10, x11, x12, x13, x14, x15]) rfl ⟨HK.out, HB3.out⟩
end Go.Proofs.YtdomjdfancpbbaaGreat
namespace Go.Proofs.YtdomjdfancpbbaaGreat
open Go.RowKit
set_option linter.unusedVariables false
set_option maxRecDepth 1000000

/-- An entry: its tokens, and when it was used last. -/
abbrev En := List Int × Int
/-- The entry at a place. -/
def en (es : List En) (i : Nat) : En := es[i]?.getD ([], 0)
/-- Is a text a beginning of another one? -/
def begB (a b : List Int) : Bool := a.isPrefixOf b
theorem begB_iff {a b : List Int} : begB a b = true ↔ a.length ≤ b.length ∧ ∀ i, i < a.length → a[i]?.getD 0 = b[i]?.getD 0 := by
  unfold begB
  rw [List.isPrefixOf_iff_prefix]
  constructor
  · rintro ⟨c, rfl⟩
    refine ⟨by simp, fun i hi => ?_⟩
    rw [List.getElem?_append_left hi]
  · rintro ⟨h1, h2⟩
    refine List.prefix_iff_eq_take.2 (List.ext_getElem (by simp; omega) fun i h3 h4 => ?_)
    have := h2 i h3
    rw [List.getElem?_eq_getElem h3, List.getElem?_eq_getElem (by omega)] at this
    simpa using this
theorem begB_no {a b : List Int} {i : Nat} (hi : i < a.length) (h : a[i]?.getD 0 ≠ b[i]?.getD 0) : begB a b = false := by
  rw [Bool.eq_false_iff]; exact fun e => h ((begB_iff.1 e).2 i hi)
theorem begB_long {a b : List Int} (h : b.length < a.length) : begB a b = false := by
  rw [Bool.eq_false_iff]; exact fun e => by have := (begB_iff.1 e).1; omega
theorem begB_like {a b : List Int} (h : a.length = b.length) : begB a b = true ↔ a = b := by
  rw [begB_iff]
  constructor
  · rintro ⟨_, h2⟩
    refine List.ext_getElem h fun i h3 h4 => ?_
    have := h2 i h3
    rw [List.getElem?_eq_getElem h3, List.getElem?_eq_getElem h4] at this
    simpa using this
  · rintro rfl
    exact ⟨Nat.le_refl _, fun _ _ => rfl⟩
/-- Where an entry stands, or how many there are. -/
def plcI (es : List En) (ts : List Int) : Nat := es.findIdx (fun e => e.1 == ts)
def plcZ (es : List En) (ts : List Int) : Int := if plcI es ts < es.length then (plcI es ts : Int) else -1
theorem plc_at {es : List En} {ts : List Int} {i : Nat} (hi : i < es.length) (h0 : (en es i).1 = ts) (hn : ∀ j, j < i → (en es j).1 ≠ ts) : plcZ es ts = i := by
  have e : plcI es ts = i := by
    unfold plcI
    rw [List.findIdx_eq hi]
    unfold en at h0
    rw [List.getElem?_eq_getElem hi] at h0
    refine ⟨by simpa using h0, fun j hj => ?_⟩
    have := hn j hj
    unfold en at this
    rw [List.getElem?_eq_getElem (by omega)] at this
    simpa using this
  unfold plcZ
  rw [if_pos (by omega), e]
theorem plc_none {es : List En} {ts : List Int} (hn : ∀ j, j < es.length → (en es j).1 ≠ ts) : plcZ es ts = -1 := by
  have e : plcI es ts = es.length := by
    unfold plcI
    rw [List.findIdx_eq_length]
    intro x hx
    obtain ⟨j, hj, rfl⟩ := List.getElem_of_mem hx
    have := hn j hj
    unfold en at this
    rw [List.getElem?_eq_getElem hj] at this
    simpa using this
  unfold plcZ
  rw [if_neg (by omega)]
theorem plc_lt {es : List En} {ts : List Int} (h : 0 ≤ plcZ es ts) : ∃ i : Nat, plcZ es ts = i ∧ i < es.length ∧ (en es i).1 = ts := by
  unfold plcZ at h ⊢
  by_cases hl : plcI es ts < es.length
  · rw [if_pos hl]
    refine ⟨_, rfl, hl, ?_⟩
    unfold en
    rw [List.getElem?_eq_getElem hl]
    exact eq_of_beq (List.findIdx_getElem (p := fun e : En => e.1 == ts) (xs := es) (w := hl))
  · rw [if_neg hl] at h; omega
/-- Of the first k entries those that are beginnings are used now. -/
def useK (tm : Int) (ts : List Int) (es : List En) (k : Nat) : List En := (es.take k).map (fun e => if begB e.1 ts then (e.1, tm) else e) ++ es.drop k
/-- Of the first k entries the longest beginning. -/
def bestK (ts : List Int) (es : List En) : Nat → Int
  | 0 => 0
  | k + 1 => if begB (en es k).1 ts then max (bestK ts es k) ((en es k).1.length : Int) else bestK ts es k
theorem useK_0 (tm : Int) (ts : List Int) (es : List En) : useK tm ts es 0 = es := by simp [useK]
theorem useK_len (tm : Int) (ts : List Int) (es : List En) (k : Nat) : (useK tm ts es k).length = es.length := by simp [useK]; omega
theorem en_set {es : List En} {k : Nat} {x : En} (hk : k < es.length) (i : Nat) : en (es.set k x) i = if i = k then x else en es i := by
  unfold en
  rw [List.getElem?_set]
  by_cases e : k = i
  · subst e; rw [if_pos rfl, if_pos hk, if_pos rfl]; rfl
  · rw [if_neg e, if_neg (fun h => e h.symm)]
theorem useK_at (tm : Int) (ts : List Int) {es : List En} {k i : Nat} (hi : i < es.length) : en (useK tm ts es k) i = if i < k ∧ begB (en es i).1 ts = true then ((en es i).1, tm) else en es i := by
  unfold useK en
  by_cases h : i < k
  · rw [List.getElem?_append_left (by simp; omega), List.getElem?_map, List.getElem?_take_of_lt h, List.getElem?_eq_getElem hi]
    simp only [Option.map_some, Option.getD_some, h, true_and]
  · rw [List.getElem?_append_right (by simp; omega), if_neg (fun e => h e.1)]
    simp only [List.length_map, List.length_take, List.getElem?_drop]
    congr 1
    rw [Nat.min_eq_left (by omega)]
    congr 1
    omega
theorem en_ext {es fs : List En} (hl : es.length = fs.length) (h : ∀ i, i < es.length → en es i = en fs i) : es = fs := by
  apply List.ext_getElem hl
  intro i h1 h2
  have := h i h1
  unfold en at this
  rw [List.getElem?_eq_getElem h1, List.getElem?_eq_getElem h2] at this
  exact this
theorem useK_yes (tm : Int) (ts : List Int) {es : List En} {k : Nat} (hk : k < es.length) (h : begB (en es k).1 ts = true) : useK tm ts es (k + 1) = (useK tm ts es k).set k ((en es k).1, tm) := by
  refine en_ext (by rw [useK_len, List.length_set, useK_len]) fun i hi => ?_
  rw [useK_len] at hi
  rw [useK_at tm ts hi, en_set (by rw [useK_len]; exact hk), useK_at tm ts hi]
  by_cases e : i = k
  · subst e; rw [if_pos ⟨by omega, h⟩, if_pos rfl]
  · rw [if_neg e]
    by_cases q : i < k ∧ begB (en es i).1 ts = true
    · rw [if_pos q, if_pos ⟨by omega, q.2⟩]
    · rw [if_neg q, if_neg (fun q' => q ⟨by omega, q'.2⟩)]
theorem useK_no (tm : Int) (ts : List Int) {es : List En} {k : Nat} (hk : k < es.length) (h : begB (en es k).1 ts = false) : useK tm ts es (k + 1) = useK tm ts es k := by
  refine en_ext (by rw [useK_len, useK_len]) fun i hi => ?_
  rw [useK_len] at hi
  rw [useK_at tm ts hi, useK_at tm ts hi]
  by_cases e : i = k
  · subst e; rw [if_neg (fun q => by rw [h] at q; exact absurd q.2 (by decide)), if_neg (fun q => by omega)]
  · by_cases q : i < k ∧ begB (en es i).1 ts = true
    · rw [if_pos q, if_pos ⟨by omega, q.2⟩]
    · rw [if_neg q, if_neg (fun q' => q ⟨by omega, q'.2⟩)]
/-- Is an entry no beginning of another one? -/
def leafB (es : List En) (k : Nat) : Bool := (List.range es.length).all fun i => i == k || !begB (en es k).1 (en es i).1
theorem leaf_yes {es : List En} {k : Nat} (h : ∀ i, i < es.length → i ≠ k → begB (en es k).1 (en es i).1 = false) : leafB es k = true := by
  unfold leafB
  rw [List.all_eq_true]
  intro i hi
  rw [List.mem_range] at hi
  by_cases e : i = k
  · simp [e]
  · simp [h i hi e]
theorem leaf_no {es : List En} {k i : Nat} (hi : i < es.length) (hk : i ≠ k) (h : begB (en es k).1 (en es i).1 = true) : leafB es k = false := by
  rw [Bool.eq_false_iff]
  intro hl
  unfold leafB at hl
  rw [List.all_eq_true] at hl
  have := hl i (List.mem_range.2 hi)
  simp [hk, h] at this
/-- Whether an entry may go for a text. -/
def goB (es : List En) (ts : List Int) (i : Nat) : Bool := leafB es i && !begB (en es i).1 ts
/-- Of the first k entries the one that goes: the one that was used the longest ago, of like ones the first. -/
def oldK (es : List En) (ts : List Int) : Nat → Int
  | 0 => -1
  | k + 1 => if goB es ts k && (decide (oldK es ts k < 0) || decide ((en es k).2 < (en es (oldK es ts k).toNat).2)) then (k : Int) else oldK es ts k
theorem oldK_bd (es : List En) (ts : List Int) (k : Nat) : -1 ≤ oldK es ts k ∧ oldK es ts k < k := by
  induction k with
  | zero => simp [oldK]
  | succ k ih =>
    simp only [oldK]
    split
    · omega
    · omega
end Go.Proofs.YtdomjdfancpbbaaGreat
namespace Go.Proofs.YtdomjdfancpbbaaGreat
open Go.RowKit
set_option linter.unusedVariables false

/-- One round of Put: the entries behind it, and how many are new; none: nothing may go. -/
def putE (pg tm : Int) (ts x : List Int) (es : List En) : Option (List En × Int) :=
  if plcI es x < es.length then some (es.set (plcI es x) ((en es (plcI es x)).1, tm), 0)
  else if pg ≤ (es.length : Int) then (if oldK es ts es.length < 0 then none else some (es.eraseIdx (oldK es ts es.length).toNat ++ [(x, tm)], 1))
  else some (es ++ [(x, tm)], 1)
/-- What the rounds so far have left: the entries, how many are new, whether it has ended. -/
def putK (pg tm : Int) (sz : Nat) (ts : List Int) (es : List En) : Nat → List En × Int × Bool
  | 0 => (es, 0, false)
  | j + 1 => if (putK pg tm sz ts es j).2.2 = true then putK pg tm sz ts es j else
    match putE pg tm ts (ts.take ((j + 1) * sz)) (putK pg tm sz ts es j).1 with
    | none => ((putK pg tm sz ts es j).1, (putK pg tm sz ts es j).2.1, true)
    | some p => (p.1, (putK pg tm sz ts es j).2.1 + p.2, false)
section
variable {pg tm : Int} {sz : Nat} {ts : List Int} {es : List En} {j : Nat}
theorem putK_use (hs : (putK pg tm sz ts es j).2.2 = false) {E : List En} (hE : (putK pg tm sz ts es j).1 = E) {p : Nat} (hp : plcZ E (ts.take ((j + 1) * sz)) = (p : Int)) :
    putK pg tm sz ts es (j + 1) = (E.set p ((en E p).1, tm), (putK pg tm sz ts es j).2.1, false) ∧ p < E.length := by
  have h1 : plcI E (ts.take ((j + 1) * sz)) < E.length ∧ plcI E (ts.take ((j + 1) * sz)) = p := by
    unfold plcZ at hp
    split at hp
    · exact ⟨by assumption, by omega⟩
    · omega
  obtain ⟨h1, rfl⟩ := h1
  refine ⟨?_, h1⟩
  rw [putK]
  simp only [hs, hE, Bool.false_eq_true, if_false, putE, if_pos h1, Int.add_zero]
theorem plcZ_neg {E : List En} {x : List Int} (h : plcZ E x < 0) : ¬ plcI E x < E.length := by
  unfold plcZ at h
  split at h
  · omega
  · assumption
theorem putK_add (hs : (putK pg tm sz ts es j).2.2 = false) {E : List En} (hE : (putK pg tm sz ts es j).1 = E) (hp : plcZ E (ts.take ((j + 1) * sz)) < 0) (hl : (E.length : Int) < pg) :
    putK pg tm sz ts es (j + 1) = (E ++ [(ts.take ((j + 1) * sz), tm)], (putK pg tm sz ts es j).2.1 + 1, false) := by
  rw [putK]
  simp only [hs, hE, Bool.false_eq_true, if_false, putE, if_neg (plcZ_neg hp), if_neg (show ¬ pg ≤ (E.length : Int) by omega)]
theorem putK_swap (hs : (putK pg tm sz ts es j).2.2 = false) {E : List En} (hE : (putK pg tm sz ts es j).1 = E) (hp : plcZ E (ts.take ((j + 1) * sz)) < 0) (hl : pg ≤ (E.length : Int)) {o : Nat} (ho : oldK E ts E.length = (o : Int)) :
    putK pg tm sz ts es (j + 1) = (E.eraseIdx o ++ [(ts.take ((j + 1) * sz), tm)], (putK pg tm sz ts es j).2.1 + 1, false) := by
  rw [putK]
  simp only [hs, hE, Bool.false_eq_true, if_false, putE, if_neg (plcZ_neg hp), if_pos hl, ho, if_neg (show ¬ ((o : Int) < 0) by omega), Int.toNat_natCast]
theorem putK_stop (hs : (putK pg tm sz ts es j).2.2 = false) {E : List En} (hE : (putK pg tm sz ts es j).1 = E) (hp : plcZ E (ts.take ((j + 1) * sz)) < 0) (hl : pg ≤ (E.length : Int)) (ho : oldK E ts E.length < 0) :
    putK pg tm sz ts es (j + 1) = (E, (putK pg tm sz ts es j).2.1, true) := by
  rw [putK]
  simp only [hs, hE, Bool.false_eq_true, if_false, putE, if_neg (plcZ_neg hp), if_pos hl, if_pos ho]
theorem putK_stay (h : (putK pg tm sz ts es j).2.2 = true) : ∀ d, putK pg tm sz ts es (j + d) = putK pg tm sz ts es j := by
  intro d
  induction d with
  | zero => rfl
  | succ d ih =>
    rw [← Nat.add_assoc, putK, ih, if_pos h]
theorem putK_new (pg tm : Int) (sz : Nat) (ts : List Int) (es : List En) (j : Nat) : 0 ≤ (putK pg tm sz ts es j).2.1 ∧ (putK pg tm sz ts es j).2.1 ≤ j := by
  induction j with
  | zero => simp [putK]
  | succ j ih =>
    have hb : ∀ p, putE pg tm ts (ts.take ((j + 1) * sz)) (putK pg tm sz ts es j).1 = some p → 0 ≤ p.2 ∧ p.2 ≤ 1 := by
      intro p hp
      unfold putE at hp
      split at hp
      · cases hp; simp
      · split at hp
        · split at hp
          · cases hp
          · cases hp; simp
        · cases hp; simp
    rw [putK]
    split
    · omega
    · split
      · simp only; omega
      · rename_i p hp
        have := hb p hp
        simp only
        omega
theorem putK_len (h : (es.length : Int) ≤ pg) (j : Nat) : ((putK pg tm sz ts es j).1.length : Int) ≤ pg := by
  induction j with
  | zero => simpa [putK] using h
  | succ j ih =>
    have hb : ∀ p, putE pg tm ts (ts.take ((j + 1) * sz)) (putK pg tm sz ts es j).1 = some p → (p.1.length : Int) ≤ pg := by
      intro p hp
      generalize (putK pg tm sz ts es j).1 = E at *
      unfold putE at hp
      split at hp
      · cases hp; simpa using ih
      · split at hp
        · split at hp
          · cases hp
          · cases hp
            have := oldK_bd E ts E.length
            simp only [List.length_append, List.length_singleton, List.length_eraseIdx]
            split <;> omega
        · cases hp; simp; omega
    rw [putK]
    split
    · exact ih
    · split
      · exact ih
      · rename_i p hp
        exact hb p hp
end
end Go.Proofs.YtdomjdfancpbbaaGreat
