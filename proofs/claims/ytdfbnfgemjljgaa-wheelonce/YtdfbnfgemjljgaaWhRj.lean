/-
  The document's wheel: Set.
-/
import Derived.Test.YtdfbnfgemjljgaaWhRi
namespace Go.Proofs.Ytdfbnfgemjljgaa
open Go.RowKit
set_option linter.unusedVariables false
set_option maxRecDepth 1000000

theorem setC_arg {last after : Int} {L : List Tm} (h : after < 0 ∨ 1099511627776 < after) : setC last L after = 1 := if_pos h
theorem setC_many {last after : Int} {L : List Tm} (h : ¬ (after < 0 ∨ 1099511627776 < after)) (h2 : 4096 ≤ L.length ∨ 2147483647 ≤ last) : setC last L after = 5 := by unfold setC; rw [if_neg h, if_pos h2]
theorem setC_ok {last after : Int} {L : List Tm} (h : ¬ (after < 0 ∨ 1099511627776 < after)) (h2 : ¬ (4096 ≤ L.length ∨ 2147483647 ≤ last)) : setC last L after = 0 := by unfold setC; rw [if_neg h, if_neg h2]
/-- The wheel behind Set. -/
def setL (T last after kind label : Int) (L : List Tm) : List Tm := if setC last L after = 0 then insT (newT T last after kind label) L else L
end Go.Proofs.Ytdfbnfgemjljgaa
