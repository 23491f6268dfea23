/-
  A ring that nobody made answers an error, and has nothing.
-/
import Derived.Test.YtaiojhigomdocaaRnLaw
namespace Go.Proofs.Ytaiojhigomdocaa
open Go.RowKit Go.Maps Go.Shelf Go.Sort
set_option linter.unusedVariables false
set_option maxRecDepth 1000000

/-- A pointer to no ring, or to one that New did not give. -/
def RnNo (W : World) (p : Option Addr) : Prop := p = none ∨ ∃ B, p = some ⟨B, 0, none⟩ ∧ W.cell? ⟨B, 1, none⟩ = some (.int .i64 0)
theorem RnNo.below {W W' : World} {p : Option Addr} (h : RnNo W p) (hb : RowKit.Below W.heap.size W W') : RnNo W' p := h.imp id fun ⟨B, e, hc⟩ => ⟨B, e, (hb.cell (World.block_lt_of_cell? _ _ hc)).trans hc⟩
theorem made_no {W : World} {p : Option Addr} (h : RnNo W p) : Calls Try.prog 24 #[.pointer p] W fun r w' => r = .returned (.bool false) ∧ w' = W := by
  rcases h with rfl | ⟨B, rfl, hc⟩
  · exact made_nil W
  · exact made_zero hc
theorem no_pick {W : World} {p : Option Addr} (h : RnNo W p) (x fac : Int) (mv : Value) : Calls Try.prog 16 #[.pointer p, .int .u64 x, mv, .int .i64 fac] W fun r w' => r = .returned (.tuple #[.int .u64 0, .int .i64 2]) ∧ w' = W := by
  have hM := made_no h
  clear h
  go_enter Try.func16, Try.ntmps16
  go_wp2_with fail
  refine hM.mono ?_
  rintro r w1 ⟨rfl, rfl⟩
  go_wp2_with fail
  go_ret2
  exact ⟨rfl, rfl⟩
theorem no_add {W : World} {p : Option Addr} (h : RnNo W p) (x : Int) : Calls Try.prog 14 #[.pointer p, .int .u64 x] W fun r w' => r = .returned (.int .i64 2) ∧ w' = W := by
  have hM := made_no h
  clear h
  go_enter Try.func14, Try.ntmps14
  go_wp2_with fail
  refine hM.mono ?_
  rintro r w1 ⟨rfl, rfl⟩
  go_wp2_with fail
  go_ret
  exact ⟨rfl, rfl⟩
theorem no_drop {W : World} {p : Option Addr} (h : RnNo W p) (x : Int) : Calls Try.prog 12 #[.pointer p, .int .u64 x] W fun r w' => r = .returned (.int .i64 2) ∧ w' = W := by
  have hM := made_no h
  clear h
  go_enter Try.func12, Try.ntmps12
  go_wp2_with fail
  refine hM.mono ?_
  rintro r w1 ⟨rfl, rfl⟩
  go_wp2_with fail
  go_ret
  exact ⟨rfl, rfl⟩
theorem no_nodes {W : World} {p : Option Addr} (h : RnNo W p) : Calls Try.prog 19 #[.pointer p] W fun r w' => r = .returned (.slice none 0 0) ∧ w' = W := by
  have hM := made_no h
  clear h
  go_enter Try.func19, Try.ntmps19
  go_wp2_with fail
  refine hM.mono ?_
  rintro r w1 ⟨rfl, rfl⟩
  go_wp2_with fail
  go_ret
  exact ⟨rfl, rfl⟩
theorem no_order {W : World} {p : Option Addr} (h : RnNo W p) (x : Int) : Calls Try.prog 20 #[.pointer p, .int .u64 x] W fun r w' => r = .returned (.slice none 0 0) ∧ w' = W := by
  have hM := made_no h
  clear h
  go_enter Try.func20, Try.ntmps20
  go_wp2_with fail
  refine hM.mono ?_
  rintro r w1 ⟨rfl, rfl⟩
  go_wp2_with fail
  go_ret
  exact ⟨rfl, rfl⟩
theorem no_bound {W : World} {p : Option Addr} (h : RnNo W p) (mv : Value) (fac : Int) : Calls Try.prog 22 #[.pointer p, mv, .int .i64 fac] W fun r w' => r = .returned (.int .i64 0) ∧ w' = W := by
  have hM := made_no h
  clear h
  go_enter Try.func22, Try.ntmps22
  go_wp2_with fail
  refine hM.mono ?_
  rintro r w1 ⟨rfl, rfl⟩
  go_wp2_with fail
  go_ret
  exact ⟨rfl, rfl⟩
end Go.Proofs.Ytaiojhigomdocaa
