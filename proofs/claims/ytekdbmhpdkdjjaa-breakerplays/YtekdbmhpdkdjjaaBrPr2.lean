/-
  Package breaker: halfOpen, close, New.
-/
import Derived.Test.YtekdbmhpdkdjjaaBrPr
namespace Go.Proofs.Ytekdbmhpdkdjjaa
open Go.RowKit
set_option linter.unusedVariables false
set_option maxRecDepth 1000000
variable {b : Nat} {w w' : World} {P : Pk}

theorem bhalf_any (h : PkAt w b P) (n0 : 1 ≤ P.n) (n1 : P.n ≤ 1000) : Calls Try.prog 35 #[.pointer (some ⟨b, 0, none⟩)] w fun e w' => e = .returned (.tuple #[]) ∧ Hid (PkAt w' b P.half ∧ Tn b w w') := by
  have g1 : PkAt (w.setCell ⟨b, 5, none⟩ (.int .i64 2)) b { P with st := 2 } := h.set rfl
  have g2 : PkAt ((w.setCell ⟨b, 5, none⟩ (.int .i64 2)).setCell ⟨b, 10, none⟩ (.bool false)) b { P with st := 2, tr := false } := g1.set rfl
  have t2 : Tn b w ((w.setCell ⟨b, 5, none⟩ (.int .i64 2)).setCell ⟨b, 10, none⟩ (.bool false)) := ((Tn.refl b w).set _ _).set _ _
  obtain ⟨W2, hW2⟩ : ∃ W2, (w.setCell ⟨b, 5, none⟩ (.int .i64 2)).setCell ⟨b, 10, none⟩ (.bool false) = W2 := ⟨_, rfl⟩
  rw [hW2] at g2 t2
  have HN := bnone_any P.n W2 n0 n1
  have HG : Hid (∀ w1 : World, Below W2.heap.size W2 w1 → PkAt w1 b { P with st := 2, tr := false } ∧ Tn b w w1) := fun w1 hb => ⟨g2.below hb, t2.below hb⟩
  have c3 := g2.cells.2.2.2.1
  have f5 := h.frozen 5
  have f10 := g1.frozen 10
  have x5 := h.cells.2.2.2.2.2.1
  have x10 := g1.cells.2.2.2.2.2.2.2.2.2.2.1
  change W2.cell? _ = some (.int .i64 P.n) at c3
  clear h g1 g2 t2
  go_enter Try.func35, Try.ntmps35
  go_wp2_with fail
  try rw [hW2]
  clear hW2 x5 f5 x10 f10
  go_wp2_with fail
  refine HN.mono ?_
  rintro e w1 ⟨rfl, hb⟩
  obtain ⟨g3, t3⟩ := HG.out _ hb.out
  have x11 := g3.cells.2.2.2.2.2.2.2.2.2.2.2.1
  have x12 := g3.cells.2.2.2.2.2.2.2.2.2.2.2.2
  have f11 := g3.frozen 11
  have f12 := g3.frozen 12
  have HE : Hid (PkAt ((w1.setCell ⟨b, 11, none⟩ (.int .u32 0)).setCell ⟨b, 12, none⟩ (.int .u32 P.n)) b P.half ∧ Tn b w ((w1.setCell ⟨b, 11, none⟩ (.int .u32 0)).setCell ⟨b, 12, none⟩ (.int .u32 P.n))) := ⟨(g3.set (P' := { P with st := 2, tr := false, sn := 0 }) rfl).set rfl, (t3.set _ _).set _ _⟩
  clear g3 t3 hb HN HG c3
  go_wp2_with fail
  go_end0
  exact ⟨rfl, HE⟩
end Go.Proofs.Ytekdbmhpdkdjjaa
