/-
  No cell of these rows narrows 'for every input' (looked for: loops, veiled, ifaces, maps, wideKeys, modest, calm, conditions, laid).
  DERIVED. THE GIVEN ROWS OF THIS SEAT. 6 by the template 'for every input the law returns true; each argument reads behind the call as it read before'; 0 by the template 'total and deterministic' (their statements: YthfblcdlibkchaaTotals.lean).
  GIVEN WITH THE SEED: the statements are not yours to turn. If you find one false, say at which input.
  Laid BY PROGRAM, IN A SANDBOX (cutbox-rows.mjs): the forced cells as the released guide's own fill.sh prints them over the translation 4654a5e51d3ad496… (all of the seat's roots in one cut). By AI agents, Wed Nov 11 2026. No macro, syntax, notation, axiom, sorry.
-/
import Derived.Test.YthfblcdlibkchaaChecked
import GoSem.Claim
import GoSem.ClaimJoined
import GoSem.ClaimMapViews
import Derived.JoinedTies
import Derived.KernelRfl
namespace Go.Proofs.Ythfblcdlibkchaa
/- THE CELL 'sum', in the pinned program and in every row, IS THE sha256 OF THE DUMP (.gsa) THAT YthfblcdlibkchaaProg.lean LOADS. Nothing in Lean hashes anything: it is a label: what it is worth is what the hold of that sum in a sandbox is worth. -/
noncomputable def Try.pinned : Pinned := { name := "ythfblcdlibkchaa", sum := "4654a5e51d3ad49633ebd9e1498c6457c1e8fcdf82924cd7a19a60b2f01a4377", checked := Try.checked }
namespace Rows
def none {H : Type} : Left H := { results := [], args := [] }

/-- 'garboardlaw08.VecSums': WHATEVER THE INPUT: true; the input reads as it did. -/
def vecSumsSpec : ChangeSpec := { name := "vecSums", fn := fun _ => fun
  | [d1, d2, d3] => { results := [.lit (.bool true)], args := [d1, d2, d3] }
  | _ => none }
def vecSumsRow : OpenClaim := { program := "ythfblcdlibkchaa", sum := "4654a5e51d3ad49633ebd9e1498c6457c1e8fcdf82924cd7a19a60b2f01a4377", func := "garboard/garboardlaw08.VecSums", spec := "vecSums", unfollowed := true, recurses := true, apart := false }
def VecSumsSaid : Prop := vecSumsRow.holds Try.pinned (OpenSpec.ofChange vecSumsSpec)

/-- ITS FALSE NEIGHBOUR: 'it returns false'. Refute it at one input. -/
def vecSumsWrong : ChangeSpec := { name := "vecSums", fn := fun _ => fun
  | [d1, d2, d3] => { results := [.lit (.bool false)], args := [d1, d2, d3] }
  | _ => none }
def VecSumsWrongFalsely : Prop := vecSumsRow.holds Try.pinned (OpenSpec.ofChange vecSumsWrong)

/-- 'garboardlaw08.VecTables': WHATEVER THE INPUT: true; the input reads as it did. -/
def vecTablesSpec : ChangeSpec := { name := "vecTables", fn := fun _ => fun
  | [d1, d2] => { results := [.lit (.bool true)], args := [d1, d2] }
  | _ => none }
def vecTablesRow : OpenClaim := { program := "ythfblcdlibkchaa", sum := "4654a5e51d3ad49633ebd9e1498c6457c1e8fcdf82924cd7a19a60b2f01a4377", func := "garboard/garboardlaw08.VecTables", spec := "vecTables", unfollowed := true, recurses := true, apart := false }
def VecTablesSaid : Prop := vecTablesRow.holds Try.pinned (OpenSpec.ofChange vecTablesSpec)

/-- ITS FALSE NEIGHBOUR: 'it returns false'. Refute it at one input. -/
def vecTablesWrong : ChangeSpec := { name := "vecTables", fn := fun _ => fun
  | [d1, d2] => { results := [.lit (.bool false)], args := [d1, d2] }
  | _ => none }
def VecTablesWrongFalsely : Prop := vecTablesRow.holds Try.pinned (OpenSpec.ofChange vecTablesWrong)

/-- 'garboardlaw08.VecWeights': WHATEVER THE INPUT: true; the input reads as it did. -/
def vecWeightsSpec : ChangeSpec := { name := "vecWeights", fn := fun _ => fun
  | [d] => { results := [.lit (.bool true)], args := [d] }
  | _ => none }
def vecWeightsRow : OpenClaim := { program := "ythfblcdlibkchaa", sum := "4654a5e51d3ad49633ebd9e1498c6457c1e8fcdf82924cd7a19a60b2f01a4377", func := "garboard/garboardlaw08.VecWeights", spec := "vecWeights", unfollowed := true, recurses := true, apart := false }
def VecWeightsSaid : Prop := vecWeightsRow.holds Try.pinned (OpenSpec.ofChange vecWeightsSpec)

/-- ITS FALSE NEIGHBOUR: 'it returns false'. Refute it at one input. -/
def vecWeightsWrong : ChangeSpec := { name := "vecWeights", fn := fun _ => fun
  | [d] => { results := [.lit (.bool false)], args := [d] }
  | _ => none }
def VecWeightsWrongFalsely : Prop := vecWeightsRow.holds Try.pinned (OpenSpec.ofChange vecWeightsWrong)

/-- 'garboardlaw08.VecTops': WHATEVER THE INPUT: true; the input reads as it did. -/
def vecTopsSpec : ChangeSpec := { name := "vecTops", fn := fun _ => fun
  | [d1, d2] => { results := [.lit (.bool true)], args := [d1, d2] }
  | _ => none }
def vecTopsRow : OpenClaim := { program := "ythfblcdlibkchaa", sum := "4654a5e51d3ad49633ebd9e1498c6457c1e8fcdf82924cd7a19a60b2f01a4377", func := "garboard/garboardlaw08.VecTops", spec := "vecTops", unfollowed := true, recurses := true, apart := false }
def VecTopsSaid : Prop := vecTopsRow.holds Try.pinned (OpenSpec.ofChange vecTopsSpec)

/-- ITS FALSE NEIGHBOUR: 'it returns false'. Refute it at one input. -/
def vecTopsWrong : ChangeSpec := { name := "vecTops", fn := fun _ => fun
  | [d1, d2] => { results := [.lit (.bool false)], args := [d1, d2] }
  | _ => none }
def VecTopsWrongFalsely : Prop := vecTopsRow.holds Try.pinned (OpenSpec.ofChange vecTopsWrong)

/-- 'garboardlaw08.VecTurned': WHATEVER THE INPUT: true; the input reads as it did. -/
def vecTurnedSpec : ChangeSpec := { name := "vecTurned", fn := fun _ => fun
  | [d1, d2] => { results := [.lit (.bool true)], args := [d1, d2] }
  | _ => none }
def vecTurnedRow : OpenClaim := { program := "ythfblcdlibkchaa", sum := "4654a5e51d3ad49633ebd9e1498c6457c1e8fcdf82924cd7a19a60b2f01a4377", func := "garboard/garboardlaw08.VecTurned", spec := "vecTurned", unfollowed := true, recurses := true, apart := false }
def VecTurnedSaid : Prop := vecTurnedRow.holds Try.pinned (OpenSpec.ofChange vecTurnedSpec)

/-- ITS FALSE NEIGHBOUR: 'it returns false'. Refute it at one input. -/
def vecTurnedWrong : ChangeSpec := { name := "vecTurned", fn := fun _ => fun
  | [d1, d2] => { results := [.lit (.bool false)], args := [d1, d2] }
  | _ => none }
def VecTurnedWrongFalsely : Prop := vecTurnedRow.holds Try.pinned (OpenSpec.ofChange vecTurnedWrong)

/-- 'garboardlaw08.VecSoft': WHATEVER THE INPUT: true; the input reads as it did. -/
def vecSoftSpec : ChangeSpec := { name := "vecSoft", fn := fun _ => fun
  | [d] => { results := [.lit (.bool true)], args := [d] }
  | _ => none }
def vecSoftRow : OpenClaim := { program := "ythfblcdlibkchaa", sum := "4654a5e51d3ad49633ebd9e1498c6457c1e8fcdf82924cd7a19a60b2f01a4377", func := "garboard/garboardlaw08.VecSoft", spec := "vecSoft", unfollowed := true, recurses := true, apart := false }
def VecSoftSaid : Prop := vecSoftRow.holds Try.pinned (OpenSpec.ofChange vecSoftSpec)

/-- ITS FALSE NEIGHBOUR: 'it returns false'. Refute it at one input. -/
def vecSoftWrong : ChangeSpec := { name := "vecSoft", fn := fun _ => fun
  | [d] => { results := [.lit (.bool false)], args := [d] }
  | _ => none }
def VecSoftWrongFalsely : Prop := vecSoftRow.holds Try.pinned (OpenSpec.ofChange vecSoftWrong)

/- THE SECOND FORM. 'bulk': how many values and letters a reading holds, each counted each time it is reached (what is shared counts as often as it is met; a slice's spare places count too). A statement '..UptoSaid' is the law's where the arguments, and the package variables that the reading takes, are together of bulk at most 1048576: NARROWER than '..Said'. Prove '..Said' where nothing that the law and all that it calls make is longer than what came in: it says more and counts as full. Else prove '..UptoSaid'. A law counts once. -/
mutual
def uptoBulk {H : Type} : DataW H → Nat
  | .lit (.string bytes) => bytes.length + 1
  | .lit _ => 1
  | .nil => 1
  | .ptr d => uptoBulk d + 1
  | .slice elems spare => uptoBulkAll elems + uptoBulkAll spare + 1
  | .agg parts => uptoBulkAll parts + 1
  | .iface _ d => uptoBulk d + 1
  | .map entries => uptoBulkEntries entries + 1
  | .held _ => 1
def uptoBulkAll {H : Type} : List (DataW H) → Nat
  | [] => 0
  | d :: r => uptoBulk d + uptoBulkAll r
def uptoBulkEntries {H : Type} : List (Lit × DataW H) → Nat
  | [] => 0
  | x :: r => uptoBulkEntry x + uptoBulkEntries r
def uptoBulkEntry {H : Type} : Lit × DataW H → Nat
  | (.string bytes, d) => bytes.length + uptoBulk d + 1
  | (_, d) => uptoBulk d + 1
 end
def uptoSmall : (H : Type) → List (DataW H) → Bool := fun _ ds => decide (uptoBulkAll ds ≤ 1048576)
def OpenSpec.upto (s : _root_.Go.ChangeSpec) : _root_.Go.OpenSpec := { _root_.Go.OpenSpec.ofChange s with cond := some uptoSmall }

/-- 'garboardlaw08.VecSums', WHERE WHAT IT READS IS OF BULK AT MOST 1048576: true; the input reads as it did. -/
def vecSumsUptoRow : OpenClaim := { program := "ythfblcdlibkchaa", sum := "4654a5e51d3ad49633ebd9e1498c6457c1e8fcdf82924cd7a19a60b2f01a4377", func := "garboard/garboardlaw08.VecSums", spec := "vecSums", unfollowed := true, recurses := true, apart := false, narrowed := true }
def VecSumsUptoSaid : Prop := vecSumsUptoRow.holds Try.pinned (OpenSpec.upto vecSumsSpec)

/-- 'garboardlaw08.VecTables', WHERE WHAT IT READS IS OF BULK AT MOST 1048576: true; the input reads as it did. -/
def vecTablesUptoRow : OpenClaim := { program := "ythfblcdlibkchaa", sum := "4654a5e51d3ad49633ebd9e1498c6457c1e8fcdf82924cd7a19a60b2f01a4377", func := "garboard/garboardlaw08.VecTables", spec := "vecTables", unfollowed := true, recurses := true, apart := false, narrowed := true }
def VecTablesUptoSaid : Prop := vecTablesUptoRow.holds Try.pinned (OpenSpec.upto vecTablesSpec)

/-- 'garboardlaw08.VecWeights', WHERE WHAT IT READS IS OF BULK AT MOST 1048576: true; the input reads as it did. -/
def vecWeightsUptoRow : OpenClaim := { program := "ythfblcdlibkchaa", sum := "4654a5e51d3ad49633ebd9e1498c6457c1e8fcdf82924cd7a19a60b2f01a4377", func := "garboard/garboardlaw08.VecWeights", spec := "vecWeights", unfollowed := true, recurses := true, apart := false, narrowed := true }
def VecWeightsUptoSaid : Prop := vecWeightsUptoRow.holds Try.pinned (OpenSpec.upto vecWeightsSpec)

/-- 'garboardlaw08.VecTops', WHERE WHAT IT READS IS OF BULK AT MOST 1048576: true; the input reads as it did. -/
def vecTopsUptoRow : OpenClaim := { program := "ythfblcdlibkchaa", sum := "4654a5e51d3ad49633ebd9e1498c6457c1e8fcdf82924cd7a19a60b2f01a4377", func := "garboard/garboardlaw08.VecTops", spec := "vecTops", unfollowed := true, recurses := true, apart := false, narrowed := true }
def VecTopsUptoSaid : Prop := vecTopsUptoRow.holds Try.pinned (OpenSpec.upto vecTopsSpec)

/-- 'garboardlaw08.VecTurned', WHERE WHAT IT READS IS OF BULK AT MOST 1048576: true; the input reads as it did. -/
def vecTurnedUptoRow : OpenClaim := { program := "ythfblcdlibkchaa", sum := "4654a5e51d3ad49633ebd9e1498c6457c1e8fcdf82924cd7a19a60b2f01a4377", func := "garboard/garboardlaw08.VecTurned", spec := "vecTurned", unfollowed := true, recurses := true, apart := false, narrowed := true }
def VecTurnedUptoSaid : Prop := vecTurnedUptoRow.holds Try.pinned (OpenSpec.upto vecTurnedSpec)

/-- 'garboardlaw08.VecSoft', WHERE WHAT IT READS IS OF BULK AT MOST 1048576: true; the input reads as it did. -/
def vecSoftUptoRow : OpenClaim := { program := "ythfblcdlibkchaa", sum := "4654a5e51d3ad49633ebd9e1498c6457c1e8fcdf82924cd7a19a60b2f01a4377", func := "garboard/garboardlaw08.VecSoft", spec := "vecSoft", unfollowed := true, recurses := true, apart := false, narrowed := true }
def VecSoftUptoSaid : Prop := vecSoftUptoRow.holds Try.pinned (OpenSpec.upto vecSoftSpec)

end Rows
end Go.Proofs.Ythfblcdlibkchaa
