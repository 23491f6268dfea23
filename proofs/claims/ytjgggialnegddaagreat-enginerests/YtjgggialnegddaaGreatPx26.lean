/-
  De4: Contracts: slices.Grow of nothing, slices.Concat of two lists of ints.
-/
import Derived.Test.YtjgggialnegddaaGreatPx24
import Derived.Lib.AppendZeros
namespace Go.Proofs.YtjgggialnegddaaGreat
open Go.RowKit
set_option linter.unusedVariables false
set_option maxRecDepth 1000000

theorem grow_run (n : Nat) (w : World) (h0 : 0 < n) (hn : n ≤ 1000) (ty : TypeId) : ∃ (g cap : Nat) (w' : World), (Builtin.append_ #[41, 3] ty #[.slice none 0 0, .int .i64 (n : Int)]).run Tryz.prog w = .ok (.slice (some ⟨g, 0, none⟩) n cap) w' ∧ w'.ownsRow w.heap.size 3 1 (.slice (some ⟨g, 0, none⟩) 0 cap) 0 [] ∧ n ≤ cap ∧ cap ≤ 9223372036854775807 ∧ Below w.heap.size w w' := by
  obtain ⟨i0, hi, hz0, hz1, hz2⟩ := info_parts Tryz.info3
  have hr := Lib.run_append_nil_zeros (P := Tryz.prog) w 41 3 ty 3 i0 (.int .i64 0) .i64 .i64 Tryz.underlying41 Tryz.underlying3 hi hz0 n h0 (by omega) (by omega) (by rw [hz2]; omega)
  have hge := grownCap_ge w n 0 3
  have hcm : grownCap w n 0 3 ≤ maxLen := grownCap_le_maxLen w n 0 3 (by unfold maxLen; omega)
  refine ⟨_, _, _, hr, ?_, hge, by unfold maxLen at hcm; omega, ((Below.refl _ _).drew.alloc (by simp) _)⟩
  exact World.ownsRow_made (base := w.heap.size) (e := 3) (size := 1) w.drew _ _ (Nat.le_refl _) hcm (by
    have : (Value.int IntKind.i64 0).cells.size = 1 := rfl
    simp only [Array.size_append, size_zeroCells, this]
    omega)
end Go.Proofs.YtjgggialnegddaaGreat
