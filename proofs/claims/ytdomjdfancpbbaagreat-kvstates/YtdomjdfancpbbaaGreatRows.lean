/-
  No cell of these rows narrows 'for every input' (looked for: loops, veiled, ifaces, maps, wideKeys, modest, calm, conditions, laid).
  DERIVED. THE GIVEN ROWS OF THIS SEAT. 4 by the template 'for every input the law returns true; each argument reads behind the call as it read before'; 0 by the template 'total and deterministic' (their statements: YtdomjdfancpbbaaGreatTotals.lean).
  GIVEN WITH THE SEED: the statements are not yours to turn. If you find one false, say at which input.
  Laid BY PROGRAM, IN A SANDBOX (cutbox-rows.mjs): the forced cells as the released guide's own fill.sh prints them over the translation e393368210c64249… (all of the seat's roots in one cut). By AI agents, Wed Nov 11 2026. No macro, syntax, notation, axiom, sorry.
-/
import Derived.Test.YtdomjdfancpbbaaGreatChecked
import GoSem.Claim
import GoSem.ClaimJoined
import GoSem.ClaimMapViews
import Derived.JoinedTies
import Derived.KernelRfl
namespace Go.Proofs.YtdomjdfancpbbaaGreat
/- THE CELL 'sum', in the pinned program and in every row, IS THE sha256 OF THE DUMP (.gsa) THAT YtdomjdfancpbbaaGreatProg.lean LOADS. Nothing in Lean hashes anything: it is a label: what it is worth is what the hold of that sum in a sandbox is worth. -/
noncomputable def Tryz.pinned : Pinned := { name := "ytdomjdfancpbbaagreat", sum := "e393368210c64249d0ce741ea8835901320c9948496843ea1354f40a56abaebb", checked := Tryz.checked }
namespace Rows
def none {H : Type} : Left H := { results := [], args := [] }

/-- 'garboardlaw14.KvPlays': WHATEVER THE INPUT: true; the input reads as it did. -/
def kvPlaysSpec : ChangeSpec := { name := "kvPlays", fn := fun _ => fun
  | [d1, d2, d3] => { results := [.lit (.bool true)], args := [d1, d2, d3] }
  | _ => none }
def kvPlaysRow : OpenClaim := { program := "ytdomjdfancpbbaagreat", sum := "e393368210c64249d0ce741ea8835901320c9948496843ea1354f40a56abaebb", func := "garboard/garboardlaw14.KvPlays", spec := "kvPlays", unfollowed := true, recurses := true, plainKeys := false, apart := false }
def KvPlaysSaid : Prop := kvPlaysRow.holds Tryz.pinned (OpenSpec.ofChange kvPlaysSpec)

/-- ITS FALSE NEIGHBOUR: 'it returns false'. Refute it at one input. -/
def kvPlaysWrong : ChangeSpec := { name := "kvPlays", fn := fun _ => fun
  | [d1, d2, d3] => { results := [.lit (.bool false)], args := [d1, d2, d3] }
  | _ => none }
def KvPlaysWrongFalsely : Prop := kvPlaysRow.holds Tryz.pinned (OpenSpec.ofChange kvPlaysWrong)

/-- 'garboardlaw14.KvStates': WHATEVER THE INPUT: true; the input reads as it did. -/
def kvStatesSpec : ChangeSpec := { name := "kvStates", fn := fun _ => fun
  | [d1, d2, d3] => { results := [.lit (.bool true)], args := [d1, d2, d3] }
  | _ => none }
def kvStatesRow : OpenClaim := { program := "ytdomjdfancpbbaagreat", sum := "e393368210c64249d0ce741ea8835901320c9948496843ea1354f40a56abaebb", func := "garboard/garboardlaw14.KvStates", spec := "kvStates", unfollowed := true, recurses := true, plainKeys := false, apart := false }
def KvStatesSaid : Prop := kvStatesRow.holds Tryz.pinned (OpenSpec.ofChange kvStatesSpec)

/-- ITS FALSE NEIGHBOUR: 'it returns false'. Refute it at one input. -/
def kvStatesWrong : ChangeSpec := { name := "kvStates", fn := fun _ => fun
  | [d1, d2, d3] => { results := [.lit (.bool false)], args := [d1, d2, d3] }
  | _ => none }
def KvStatesWrongFalsely : Prop := kvStatesRow.holds Tryz.pinned (OpenSpec.ofChange kvStatesWrong)

/-- 'garboardlaw14.KvTrees': WHATEVER THE INPUT: true; the input reads as it did. -/
def kvTreesSpec : ChangeSpec := { name := "kvTrees", fn := fun _ => fun
  | [d1, d2, d3] => { results := [.lit (.bool true)], args := [d1, d2, d3] }
  | _ => none }
def kvTreesRow : OpenClaim := { program := "ytdomjdfancpbbaagreat", sum := "e393368210c64249d0ce741ea8835901320c9948496843ea1354f40a56abaebb", func := "garboard/garboardlaw14.KvTrees", spec := "kvTrees", unfollowed := true, recurses := true, plainKeys := false, apart := false }
def KvTreesSaid : Prop := kvTreesRow.holds Tryz.pinned (OpenSpec.ofChange kvTreesSpec)

/-- ITS FALSE NEIGHBOUR: 'it returns false'. Refute it at one input. -/
def kvTreesWrong : ChangeSpec := { name := "kvTrees", fn := fun _ => fun
  | [d1, d2, d3] => { results := [.lit (.bool false)], args := [d1, d2, d3] }
  | _ => none }
def KvTreesWrongFalsely : Prop := kvTreesRow.holds Tryz.pinned (OpenSpec.ofChange kvTreesWrong)

/-- 'garboardlaw14.KvNobody': WHATEVER THE INPUT: true; the input reads as it did. -/
def kvNobodySpec : ChangeSpec := { name := "kvNobody", fn := fun _ => fun
  | [d1, d2, d3] => { results := [.lit (.bool true)], args := [d1, d2, d3] }
  | _ => none }
def kvNobodyRow : OpenClaim := { program := "ytdomjdfancpbbaagreat", sum := "e393368210c64249d0ce741ea8835901320c9948496843ea1354f40a56abaebb", func := "garboard/garboardlaw14.KvNobody", spec := "kvNobody", unfollowed := true, recurses := true, plainKeys := false, apart := false }
def KvNobodySaid : Prop := kvNobodyRow.holds Tryz.pinned (OpenSpec.ofChange kvNobodySpec)

/-- ITS FALSE NEIGHBOUR: 'it returns false'. Refute it at one input. -/
def kvNobodyWrong : ChangeSpec := { name := "kvNobody", fn := fun _ => fun
  | [d1, d2, d3] => { results := [.lit (.bool false)], args := [d1, d2, d3] }
  | _ => none }
def KvNobodyWrongFalsely : Prop := kvNobodyRow.holds Tryz.pinned (OpenSpec.ofChange kvNobodyWrong)

/- THE SECOND FORM. 'bulk': how many values and letters a reading holds, each counted each time it is reached (what is shared counts as often as it is met; a slice's spare places count too). A statement '..UptoSaid' is the law's where the arguments, and the package variables that the reading takes, are together of bulk at most 1048576: NARROWER than '..Said'. Prove '..Said' where nothing that the law and all that it calls make is longer than what came in: it says more and counts as full. Else prove '..UptoSaid'. A law counts once. -/
mutual
def uptoBulk {H : Type} : DataW H → Nat
  | .lit (.string bytes) => bytes.length + 1
  | .lit _ => 1
  | .nil => 1
  | .ptr d => uptoBulk d + 1
  | .slice elems spare => uptoBulkAll elems + uptoBulkAll spare + 1
  | .agg parts => uptoBulkAll parts + 1
  | .iface _ d => uptoBulk d + 1
  | .map entries => uptoBulkEntries entries + 1
  | .held _ => 1
def uptoBulkAll {H : Type} : List (DataW H) → Nat
  | [] => 0
  | d :: r => uptoBulk d + uptoBulkAll r
def uptoBulkEntries {H : Type} : List (Lit × DataW H) → Nat
  | [] => 0
  | x :: r => uptoBulkEntry x + uptoBulkEntries r
def uptoBulkEntry {H : Type} : Lit × DataW H → Nat
  | (.string bytes, d) => bytes.length + uptoBulk d + 1
  | (_, d) => uptoBulk d + 1
 end
def uptoSmall : (H : Type) → List (DataW H) → Bool := fun _ ds => decide (uptoBulkAll ds ≤ 1048576)
def OpenSpec.upto (s : _root_.Go.ChangeSpec) : _root_.Go.OpenSpec := { _root_.Go.OpenSpec.ofChange s with cond := some uptoSmall }

/-- 'garboardlaw14.KvPlays', WHERE WHAT IT READS IS OF BULK AT MOST 1048576: true; the input reads as it did. -/
def kvPlaysUptoRow : OpenClaim := { program := "ytdomjdfancpbbaagreat", sum := "e393368210c64249d0ce741ea8835901320c9948496843ea1354f40a56abaebb", func := "garboard/garboardlaw14.KvPlays", spec := "kvPlays", unfollowed := true, recurses := true, plainKeys := false, apart := false, narrowed := true }
def KvPlaysUptoSaid : Prop := kvPlaysUptoRow.holds Tryz.pinned (OpenSpec.upto kvPlaysSpec)

/-- 'garboardlaw14.KvStates', WHERE WHAT IT READS IS OF BULK AT MOST 1048576: true; the input reads as it did. -/
def kvStatesUptoRow : OpenClaim := { program := "ytdomjdfancpbbaagreat", sum := "e393368210c64249d0ce741ea8835901320c9948496843ea1354f40a56abaebb", func := "garboard/garboardlaw14.KvStates", spec := "kvStates", unfollowed := true, recurses := true, plainKeys := false, apart := false, narrowed := true }
def KvStatesUptoSaid : Prop := kvStatesUptoRow.holds Tryz.pinned (OpenSpec.upto kvStatesSpec)

/-- 'garboardlaw14.KvTrees', WHERE WHAT IT READS IS OF BULK AT MOST 1048576: true; the input reads as it did. -/
def kvTreesUptoRow : OpenClaim := { program := "ytdomjdfancpbbaagreat", sum := "e393368210c64249d0ce741ea8835901320c9948496843ea1354f40a56abaebb", func := "garboard/garboardlaw14.KvTrees", spec := "kvTrees", unfollowed := true, recurses := true, plainKeys := false, apart := false, narrowed := true }
def KvTreesUptoSaid : Prop := kvTreesUptoRow.holds Tryz.pinned (OpenSpec.upto kvTreesSpec)

/-- 'garboardlaw14.KvNobody', WHERE WHAT IT READS IS OF BULK AT MOST 1048576: true; the input reads as it did. -/
def kvNobodyUptoRow : OpenClaim := { program := "ytdomjdfancpbbaagreat", sum := "e393368210c64249d0ce741ea8835901320c9948496843ea1354f40a56abaebb", func := "garboard/garboardlaw14.KvNobody", spec := "kvNobody", unfollowed := true, recurses := true, plainKeys := false, apart := false, narrowed := true }
def KvNobodyUptoSaid : Prop := kvNobodyUptoRow.holds Tryz.pinned (OpenSpec.upto kvNobodySpec)

end Rows
end Go.Proofs.YtdomjdfancpbbaaGreat
