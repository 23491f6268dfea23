/-
  No cell of these rows narrows 'for every input' (looked for: loops, veiled, ifaces, maps, wideKeys, modest, calm, conditions, laid).
  DERIVED. THE GIVEN ROWS OF THIS SEAT. 4 by the template 'for every input the law returns true; each argument reads behind the call as it read before'; 0 by the template 'total and deterministic' (their statements: YtpllffekebkacaaTotals.lean).
  GIVEN WITH THE SEED: the statements are not yours to turn. If you find one false, say at which input.
  Laid BY PROGRAM, IN A SANDBOX (cutbox-rows.mjs): the forced cells as the released guide's own fill.sh prints them over the translation 07a9e1efb49b6f58… (all of the seat's roots in one cut). By AI agents, Wed Nov 11 2026. No macro, syntax, notation, axiom, sorry.
-/
import Derived.Test.YtpllffekebkacaaChecked
import GoSem.Claim
import GoSem.ClaimJoined
import GoSem.ClaimMapViews
import Derived.JoinedTies
import Derived.KernelRfl
namespace Go.Proofs.Ytpllffekebkacaa
/- THE CELL 'sum', in the pinned program and in every row, IS THE sha256 OF THE DUMP (.gsa) THAT YtpllffekebkacaaProg.lean LOADS. Nothing in Lean hashes anything: it is a label: what it is worth is what the hold of that sum in a sandbox is worth. -/
noncomputable def Try.pinned : Pinned := { name := "ytpllffekebkacaa", sum := "07a9e1efb49b6f5800c8ef47864f1dec70ee378a846991d7a6c9f50a3e2a772c", checked := Try.checked }
namespace Rows
def none {H : Type} : Left H := { results := [], args := [] }

/-- 'garboardlaw11.SampleDraws': WHATEVER THE INPUT: true; the input reads as it did. -/
def sampleDrawsSpec : ChangeSpec := { name := "sampleDraws", fn := fun _ => fun
  | [d1, d2] => { results := [.lit (.bool true)], args := [d1, d2] }
  | _ => none }
def sampleDrawsRow : OpenClaim := { program := "ytpllffekebkacaa", sum := "07a9e1efb49b6f5800c8ef47864f1dec70ee378a846991d7a6c9f50a3e2a772c", func := "garboard/garboardlaw11.SampleDraws", spec := "sampleDraws", unfollowed := true, recurses := true, apart := false }
def SampleDrawsSaid : Prop := sampleDrawsRow.holds Try.pinned (OpenSpec.ofChange sampleDrawsSpec)

/-- ITS FALSE NEIGHBOUR: 'it returns false'. Refute it at one input. -/
def sampleDrawsWrong : ChangeSpec := { name := "sampleDraws", fn := fun _ => fun
  | [d1, d2] => { results := [.lit (.bool false)], args := [d1, d2] }
  | _ => none }
def SampleDrawsWrongFalsely : Prop := sampleDrawsRow.holds Try.pinned (OpenSpec.ofChange sampleDrawsWrong)

/-- 'garboardlaw11.SampleMarks': WHATEVER THE INPUT: true; the input reads as it did. -/
def sampleMarksSpec : ChangeSpec := { name := "sampleMarks", fn := fun _ => fun
  | [d1, d2, d3] => { results := [.lit (.bool true)], args := [d1, d2, d3] }
  | _ => none }
def sampleMarksRow : OpenClaim := { program := "ytpllffekebkacaa", sum := "07a9e1efb49b6f5800c8ef47864f1dec70ee378a846991d7a6c9f50a3e2a772c", func := "garboard/garboardlaw11.SampleMarks", spec := "sampleMarks", unfollowed := true, recurses := true, apart := false }
def SampleMarksSaid : Prop := sampleMarksRow.holds Try.pinned (OpenSpec.ofChange sampleMarksSpec)

/-- ITS FALSE NEIGHBOUR: 'it returns false'. Refute it at one input. -/
def sampleMarksWrong : ChangeSpec := { name := "sampleMarks", fn := fun _ => fun
  | [d1, d2, d3] => { results := [.lit (.bool false)], args := [d1, d2, d3] }
  | _ => none }
def SampleMarksWrongFalsely : Prop := sampleMarksRow.holds Try.pinned (OpenSpec.ofChange sampleMarksWrong)

/-- 'garboardlaw11.SampleTops': WHATEVER THE INPUT: true; the input reads as it did. -/
def sampleTopsSpec : ChangeSpec := { name := "sampleTops", fn := fun _ => fun
  | [d1, d2] => { results := [.lit (.bool true)], args := [d1, d2] }
  | _ => none }
def sampleTopsRow : OpenClaim := { program := "ytpllffekebkacaa", sum := "07a9e1efb49b6f5800c8ef47864f1dec70ee378a846991d7a6c9f50a3e2a772c", func := "garboard/garboardlaw11.SampleTops", spec := "sampleTops", unfollowed := true, recurses := true, apart := false }
def SampleTopsSaid : Prop := sampleTopsRow.holds Try.pinned (OpenSpec.ofChange sampleTopsSpec)

/-- ITS FALSE NEIGHBOUR: 'it returns false'. Refute it at one input. -/
def sampleTopsWrong : ChangeSpec := { name := "sampleTops", fn := fun _ => fun
  | [d1, d2] => { results := [.lit (.bool false)], args := [d1, d2] }
  | _ => none }
def SampleTopsWrongFalsely : Prop := sampleTopsRow.holds Try.pinned (OpenSpec.ofChange sampleTopsWrong)

/-- 'garboardlaw11.SampleStays': WHATEVER THE INPUT: true; the input reads as it did. -/
def sampleStaysSpec : ChangeSpec := { name := "sampleStays", fn := fun _ => fun
  | [d1, d2, d3] => { results := [.lit (.bool true)], args := [d1, d2, d3] }
  | _ => none }
def sampleStaysRow : OpenClaim := { program := "ytpllffekebkacaa", sum := "07a9e1efb49b6f5800c8ef47864f1dec70ee378a846991d7a6c9f50a3e2a772c", func := "garboard/garboardlaw11.SampleStays", spec := "sampleStays", unfollowed := true, recurses := true, apart := false }
def SampleStaysSaid : Prop := sampleStaysRow.holds Try.pinned (OpenSpec.ofChange sampleStaysSpec)

/-- ITS FALSE NEIGHBOUR: 'it returns false'. Refute it at one input. -/
def sampleStaysWrong : ChangeSpec := { name := "sampleStays", fn := fun _ => fun
  | [d1, d2, d3] => { results := [.lit (.bool false)], args := [d1, d2, d3] }
  | _ => none }
def SampleStaysWrongFalsely : Prop := sampleStaysRow.holds Try.pinned (OpenSpec.ofChange sampleStaysWrong)

/- THE SECOND FORM. 'bulk': how many values and letters a reading holds, each counted each time it is reached (what is shared counts as often as it is met; a slice's spare places count too). A statement '..UptoSaid' is the law's where the arguments, and the package variables that the reading takes, are together of bulk at most 1048576: NARROWER than '..Said'. Prove '..Said' where nothing that the law and all that it calls make is longer than what came in: it says more and counts as full. Else prove '..UptoSaid'. A law counts once. -/
mutual
def uptoBulk {H : Type} : DataW H → Nat
  | .lit (.string bytes) => bytes.length + 1
  | .lit _ => 1
  | .nil => 1
  | .ptr d => uptoBulk d + 1
  | .slice elems spare => uptoBulkAll elems + uptoBulkAll spare + 1
  | .agg parts => uptoBulkAll parts + 1
  | .iface _ d => uptoBulk d + 1
  | .map entries => uptoBulkEntries entries + 1
  | .held _ => 1
def uptoBulkAll {H : Type} : List (DataW H) → Nat
  | [] => 0
  | d :: r => uptoBulk d + uptoBulkAll r
def uptoBulkEntries {H : Type} : List (Lit × DataW H) → Nat
  | [] => 0
  | x :: r => uptoBulkEntry x + uptoBulkEntries r
def uptoBulkEntry {H : Type} : Lit × DataW H → Nat
  | (.string bytes, d) => bytes.length + uptoBulk d + 1
  | (_, d) => uptoBulk d + 1
 end
def uptoSmall : (H : Type) → List (DataW H) → Bool := fun _ ds => decide (uptoBulkAll ds ≤ 1048576)
def OpenSpec.upto (s : _root_.Go.ChangeSpec) : _root_.Go.OpenSpec := { _root_.Go.OpenSpec.ofChange s with cond := some uptoSmall }

/-- 'garboardlaw11.SampleDraws', WHERE WHAT IT READS IS OF BULK AT MOST 1048576: true; the input reads as it did. -/
def sampleDrawsUptoRow : OpenClaim := { program := "ytpllffekebkacaa", sum := "07a9e1efb49b6f5800c8ef47864f1dec70ee378a846991d7a6c9f50a3e2a772c", func := "garboard/garboardlaw11.SampleDraws", spec := "sampleDraws", unfollowed := true, recurses := true, apart := false, narrowed := true }
def SampleDrawsUptoSaid : Prop := sampleDrawsUptoRow.holds Try.pinned (OpenSpec.upto sampleDrawsSpec)

/-- 'garboardlaw11.SampleMarks', WHERE WHAT IT READS IS OF BULK AT MOST 1048576: true; the input reads as it did. -/
def sampleMarksUptoRow : OpenClaim := { program := "ytpllffekebkacaa", sum := "07a9e1efb49b6f5800c8ef47864f1dec70ee378a846991d7a6c9f50a3e2a772c", func := "garboard/garboardlaw11.SampleMarks", spec := "sampleMarks", unfollowed := true, recurses := true, apart := false, narrowed := true }
def SampleMarksUptoSaid : Prop := sampleMarksUptoRow.holds Try.pinned (OpenSpec.upto sampleMarksSpec)

/-- 'garboardlaw11.SampleTops', WHERE WHAT IT READS IS OF BULK AT MOST 1048576: true; the input reads as it did. -/
def sampleTopsUptoRow : OpenClaim := { program := "ytpllffekebkacaa", sum := "07a9e1efb49b6f5800c8ef47864f1dec70ee378a846991d7a6c9f50a3e2a772c", func := "garboard/garboardlaw11.SampleTops", spec := "sampleTops", unfollowed := true, recurses := true, apart := false, narrowed := true }
def SampleTopsUptoSaid : Prop := sampleTopsUptoRow.holds Try.pinned (OpenSpec.upto sampleTopsSpec)

/-- 'garboardlaw11.SampleStays', WHERE WHAT IT READS IS OF BULK AT MOST 1048576: true; the input reads as it did. -/
def sampleStaysUptoRow : OpenClaim := { program := "ytpllffekebkacaa", sum := "07a9e1efb49b6f5800c8ef47864f1dec70ee378a846991d7a6c9f50a3e2a772c", func := "garboard/garboardlaw11.SampleStays", spec := "sampleStays", unfollowed := true, recurses := true, apart := false, narrowed := true }
def SampleStaysUptoSaid : Prop := sampleStaysUptoRow.holds Try.pinned (OpenSpec.upto sampleStaysSpec)

end Rows
end Go.Proofs.Ytpllffekebkacaa
