/-
  Contract of the document's Rows; the statements' own 'alive'.
-/
import Derived.Test.YtpllffekebkacaaRModels
namespace Go.Proofs.Ytpllffekebkacaa
open Go.RowKit
set_option linter.unusedVariables false
set_option maxRecDepth 1000000

/-- The call hands back a table. -/
def GivesT (w : World) (n : Nat) (ls : List (List Int)) (e : Ending) (w' : World) : Prop := ∃ a c hs, e = .returned (.slice a n c) ∧ Tbl w' a n c hs ls ∧ Below w.heap.size w w'
theorem MadeT.gives {w w' : World} {n m : Nat} {F : Nat → List Int} {e : Ending} (h : MadeT w n m F e w') (hm : m ≤ 1000) : GivesT w n (tblK F n) e w' := by
  obtain ⟨G, hs, rfl, hU⟩ := h
  exact ⟨_, _, hs, rfl, hU.tbl hm, hU.old⟩
theorem may_al : mayB ⟨0, 2, 1, 1, 1, 0⟩ = true := by decide
end Go.Proofs.Ytpllffekebkacaa
