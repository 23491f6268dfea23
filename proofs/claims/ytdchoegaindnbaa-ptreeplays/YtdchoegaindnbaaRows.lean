/-
  No cell of these rows narrows 'for every input' (looked for: loops, veiled, ifaces, maps, wideKeys, modest, calm, conditions, laid).
  DERIVED. THE GIVEN ROWS OF THIS SEAT. 4 by the template 'for every input the law returns true; each argument reads behind the call as it read before'; 0 by the template 'total and deterministic' (their statements: YtdchoegaindnbaaTotals.lean).
  GIVEN WITH THE SEED: the statements are not yours to turn. If you find one false, say at which input.
  Laid BY PROGRAM, IN A SANDBOX (cutbox-rows.mjs): the forced cells as the released guide's own fill.sh prints them over the translation 4bb1d3fdc8257c6d… (all of the seat's roots in one cut). By AI agents, Wed Nov 11 2026. No macro, syntax, notation, axiom, sorry.
-/
import Derived.Test.YtdchoegaindnbaaChecked
import GoSem.Claim
import GoSem.ClaimJoined
import GoSem.ClaimMapViews
import Derived.JoinedTies
import Derived.KernelRfl
namespace Go.Proofs.Ytdchoegaindnbaa
/- THE CELL 'sum', in the pinned program and in every row, IS THE sha256 OF THE DUMP (.gsa) THAT YtdchoegaindnbaaProg.lean LOADS. Nothing in Lean hashes anything: it is a label: what it is worth is what the hold of that sum in a sandbox is worth. -/
noncomputable def Try.pinned : Pinned := { name := "ytdchoegaindnbaa", sum := "4bb1d3fdc8257c6d096ef83485b57659988198ef1b8befcc89e11ed68aaac24e", checked := Try.checked }
namespace Rows
def none {H : Type} : Left H := { results := [], args := [] }

/-- 'garboardlaw17.PtreePlays': WHATEVER THE INPUT: true; the input reads as it did. -/
def ptreePlaysSpec : ChangeSpec := { name := "ptreePlays", fn := fun _ => fun
  | [d1, d2, d3] => { results := [.lit (.bool true)], args := [d1, d2, d3] }
  | _ => none }
def ptreePlaysRow : OpenClaim := { program := "ytdchoegaindnbaa", sum := "4bb1d3fdc8257c6d096ef83485b57659988198ef1b8befcc89e11ed68aaac24e", func := "garboard/garboardlaw17.PtreePlays", spec := "ptreePlays", unfollowed := true, recurses := true, apart := false }
def PtreePlaysSaid : Prop := ptreePlaysRow.holds Try.pinned (OpenSpec.ofChange ptreePlaysSpec)

/-- ITS FALSE NEIGHBOUR: 'it returns false'. Refute it at one input. -/
def ptreePlaysWrong : ChangeSpec := { name := "ptreePlays", fn := fun _ => fun
  | [d1, d2, d3] => { results := [.lit (.bool false)], args := [d1, d2, d3] }
  | _ => none }
def PtreePlaysWrongFalsely : Prop := ptreePlaysRow.holds Try.pinned (OpenSpec.ofChange ptreePlaysWrong)

/-- 'garboardlaw17.PtreeRooms': WHATEVER THE INPUT: true; the input reads as it did. -/
def ptreeRoomsSpec : ChangeSpec := { name := "ptreeRooms", fn := fun _ => fun
  | [d1, d2, d3] => { results := [.lit (.bool true)], args := [d1, d2, d3] }
  | _ => none }
def ptreeRoomsRow : OpenClaim := { program := "ytdchoegaindnbaa", sum := "4bb1d3fdc8257c6d096ef83485b57659988198ef1b8befcc89e11ed68aaac24e", func := "garboard/garboardlaw17.PtreeRooms", spec := "ptreeRooms", unfollowed := true, recurses := true, apart := false }
def PtreeRoomsSaid : Prop := ptreeRoomsRow.holds Try.pinned (OpenSpec.ofChange ptreeRoomsSpec)

/-- ITS FALSE NEIGHBOUR: 'it returns false'. Refute it at one input. -/
def ptreeRoomsWrong : ChangeSpec := { name := "ptreeRooms", fn := fun _ => fun
  | [d1, d2, d3] => { results := [.lit (.bool false)], args := [d1, d2, d3] }
  | _ => none }
def PtreeRoomsWrongFalsely : Prop := ptreeRoomsRow.holds Try.pinned (OpenSpec.ofChange ptreeRoomsWrong)

/-- 'garboardlaw17.PtreeForgets': WHATEVER THE INPUT: true; the input reads as it did. -/
def ptreeForgetsSpec : ChangeSpec := { name := "ptreeForgets", fn := fun _ => fun
  | [d1, d2] => { results := [.lit (.bool true)], args := [d1, d2] }
  | _ => none }
def ptreeForgetsRow : OpenClaim := { program := "ytdchoegaindnbaa", sum := "4bb1d3fdc8257c6d096ef83485b57659988198ef1b8befcc89e11ed68aaac24e", func := "garboard/garboardlaw17.PtreeForgets", spec := "ptreeForgets", unfollowed := true, recurses := true, apart := false }
def PtreeForgetsSaid : Prop := ptreeForgetsRow.holds Try.pinned (OpenSpec.ofChange ptreeForgetsSpec)

/-- ITS FALSE NEIGHBOUR: 'it returns false'. Refute it at one input. -/
def ptreeForgetsWrong : ChangeSpec := { name := "ptreeForgets", fn := fun _ => fun
  | [d1, d2] => { results := [.lit (.bool false)], args := [d1, d2] }
  | _ => none }
def PtreeForgetsWrongFalsely : Prop := ptreeForgetsRow.holds Try.pinned (OpenSpec.ofChange ptreeForgetsWrong)

/-- 'garboardlaw17.PtreeNobody': WHATEVER THE INPUT: true; the input reads as it did. -/
def ptreeNobodySpec : ChangeSpec := { name := "ptreeNobody", fn := fun _ => fun
  | [d] => { results := [.lit (.bool true)], args := [d] }
  | _ => none }
def ptreeNobodyRow : OpenClaim := { program := "ytdchoegaindnbaa", sum := "4bb1d3fdc8257c6d096ef83485b57659988198ef1b8befcc89e11ed68aaac24e", func := "garboard/garboardlaw17.PtreeNobody", spec := "ptreeNobody", unfollowed := true, recurses := true, apart := false }
def PtreeNobodySaid : Prop := ptreeNobodyRow.holds Try.pinned (OpenSpec.ofChange ptreeNobodySpec)

/-- ITS FALSE NEIGHBOUR: 'it returns false'. Refute it at one input. -/
def ptreeNobodyWrong : ChangeSpec := { name := "ptreeNobody", fn := fun _ => fun
  | [d] => { results := [.lit (.bool false)], args := [d] }
  | _ => none }
def PtreeNobodyWrongFalsely : Prop := ptreeNobodyRow.holds Try.pinned (OpenSpec.ofChange ptreeNobodyWrong)

/- THE SECOND FORM. 'bulk': how many values and letters a reading holds, each counted each time it is reached (what is shared counts as often as it is met; a slice's spare places count too). A statement '..UptoSaid' is the law's where the arguments, and the package variables that the reading takes, are together of bulk at most 1048576: NARROWER than '..Said'. Prove '..Said' where nothing that the law and all that it calls make is longer than what came in: it says more and counts as full. Else prove '..UptoSaid'. A law counts once. -/
mutual
def uptoBulk {H : Type} : DataW H → Nat
  | .lit (.string bytes) => bytes.length + 1
  | .lit _ => 1
  | .nil => 1
  | .ptr d => uptoBulk d + 1
  | .slice elems spare => uptoBulkAll elems + uptoBulkAll spare + 1
  | .agg parts => uptoBulkAll parts + 1
  | .iface _ d => uptoBulk d + 1
  | .map entries => uptoBulkEntries entries + 1
  | .held _ => 1
def uptoBulkAll {H : Type} : List (DataW H) → Nat
  | [] => 0
  | d :: r => uptoBulk d + uptoBulkAll r
def uptoBulkEntries {H : Type} : List (Lit × DataW H) → Nat
  | [] => 0
  | x :: r => uptoBulkEntry x + uptoBulkEntries r
def uptoBulkEntry {H : Type} : Lit × DataW H → Nat
  | (.string bytes, d) => bytes.length + uptoBulk d + 1
  | (_, d) => uptoBulk d + 1
 end
def uptoSmall : (H : Type) → List (DataW H) → Bool := fun _ ds => decide (uptoBulkAll ds ≤ 1048576)
def OpenSpec.upto (s : _root_.Go.ChangeSpec) : _root_.Go.OpenSpec := { _root_.Go.OpenSpec.ofChange s with cond := some uptoSmall }

/-- 'garboardlaw17.PtreePlays', WHERE WHAT IT READS IS OF BULK AT MOST 1048576: true; the input reads as it did. -/
def ptreePlaysUptoRow : OpenClaim := { program := "ytdchoegaindnbaa", sum := "4bb1d3fdc8257c6d096ef83485b57659988198ef1b8befcc89e11ed68aaac24e", func := "garboard/garboardlaw17.PtreePlays", spec := "ptreePlays", unfollowed := true, recurses := true, apart := false, narrowed := true }
def PtreePlaysUptoSaid : Prop := ptreePlaysUptoRow.holds Try.pinned (OpenSpec.upto ptreePlaysSpec)

/-- 'garboardlaw17.PtreeRooms', WHERE WHAT IT READS IS OF BULK AT MOST 1048576: true; the input reads as it did. -/
def ptreeRoomsUptoRow : OpenClaim := { program := "ytdchoegaindnbaa", sum := "4bb1d3fdc8257c6d096ef83485b57659988198ef1b8befcc89e11ed68aaac24e", func := "garboard/garboardlaw17.PtreeRooms", spec := "ptreeRooms", unfollowed := true, recurses := true, apart := false, narrowed := true }
def PtreeRoomsUptoSaid : Prop := ptreeRoomsUptoRow.holds Try.pinned (OpenSpec.upto ptreeRoomsSpec)

/-- 'garboardlaw17.PtreeForgets', WHERE WHAT IT READS IS OF BULK AT MOST 1048576: true; the input reads as it did. -/
def ptreeForgetsUptoRow : OpenClaim := { program := "ytdchoegaindnbaa", sum := "4bb1d3fdc8257c6d096ef83485b57659988198ef1b8befcc89e11ed68aaac24e", func := "garboard/garboardlaw17.PtreeForgets", spec := "ptreeForgets", unfollowed := true, recurses := true, apart := false, narrowed := true }
def PtreeForgetsUptoSaid : Prop := ptreeForgetsUptoRow.holds Try.pinned (OpenSpec.upto ptreeForgetsSpec)

/-- 'garboardlaw17.PtreeNobody', WHERE WHAT IT READS IS OF BULK AT MOST 1048576: true; the input reads as it did. -/
def ptreeNobodyUptoRow : OpenClaim := { program := "ytdchoegaindnbaa", sum := "4bb1d3fdc8257c6d096ef83485b57659988198ef1b8befcc89e11ed68aaac24e", func := "garboard/garboardlaw17.PtreeNobody", spec := "ptreeNobody", unfollowed := true, recurses := true, apart := false, narrowed := true }
def PtreeNobodyUptoSaid : Prop := ptreeNobodyUptoRow.holds Try.pinned (OpenSpec.upto ptreeNobodySpec)

end Rows
end Go.Proofs.Ytdchoegaindnbaa
