/-
  No cell of these rows narrows 'for every input' (looked for: loops, veiled, ifaces, maps, wideKeys, modest, calm, conditions, laid).
  DERIVED. THE GIVEN ROWS OF THIS SEAT. 4 by the template 'for every input the law returns true; each argument reads behind the call as it read before'; 0 by the template 'total and deterministic' (their statements: YtjgggialnegddaaGreatTotals.lean).
  GIVEN WITH THE SEED: the statements are not yours to turn. If you find one false, say at which input.
  Laid BY PROGRAM, IN A SANDBOX (cutbox-rows.mjs): the forced cells as the released guide's own fill.sh prints them over the translation 56a2a3d89eb66531… (all of the seat's roots in one cut). By AI agents, Wed Nov 11 2026. No macro, syntax, notation, axiom, sorry.
-/
import Derived.Test.YtjgggialnegddaaGreatChecked
import GoSem.Claim
import GoSem.ClaimJoined
import GoSem.ClaimMapViews
import Derived.JoinedTies
import Derived.KernelRfl
namespace Go.Proofs.YtjgggialnegddaaGreat
/- THE CELL 'sum', in the pinned program and in every row, IS THE sha256 OF THE DUMP (.gsa) THAT YtjgggialnegddaaGreatProg.lean LOADS. Nothing in Lean hashes anything: it is a label: what it is worth is what the hold of that sum in a sandbox is worth. -/
noncomputable def Tryz.pinned : Pinned := { name := "ytjgggialnegddaagreat", sum := "56a2a3d89eb6653103163c91359d65e14008db92522b92e2e804f449d3fc6544", checked := Tryz.checked }
namespace Rows
def none {H : Type} : Left H := { results := [], args := [] }

/-- 'garboardlaw15.EnginePlays': WHATEVER THE INPUT: true; the input reads as it did. -/
def enginePlaysSpec : ChangeSpec := { name := "enginePlays", fn := fun _ => fun
  | [d1, d2] => { results := [.lit (.bool true)], args := [d1, d2] }
  | _ => none }
def enginePlaysRow : OpenClaim := { program := "ytjgggialnegddaagreat", sum := "56a2a3d89eb6653103163c91359d65e14008db92522b92e2e804f449d3fc6544", func := "garboard/garboardlaw15.EnginePlays", spec := "enginePlays", unfollowed := true, recurses := true, plainKeys := false, apart := false }
def EnginePlaysSaid : Prop := enginePlaysRow.holds Tryz.pinned (OpenSpec.ofChange enginePlaysSpec)

/-- ITS FALSE NEIGHBOUR: 'it returns false'. Refute it at one input. -/
def enginePlaysWrong : ChangeSpec := { name := "enginePlays", fn := fun _ => fun
  | [d1, d2] => { results := [.lit (.bool false)], args := [d1, d2] }
  | _ => none }
def EnginePlaysWrongFalsely : Prop := enginePlaysRow.holds Tryz.pinned (OpenSpec.ofChange enginePlaysWrong)

/-- 'garboardlaw15.EngineRests': WHATEVER THE INPUT: true; the input reads as it did. -/
def engineRestsSpec : ChangeSpec := { name := "engineRests", fn := fun _ => fun
  | [d1, d2, d3] => { results := [.lit (.bool true)], args := [d1, d2, d3] }
  | _ => none }
def engineRestsRow : OpenClaim := { program := "ytjgggialnegddaagreat", sum := "56a2a3d89eb6653103163c91359d65e14008db92522b92e2e804f449d3fc6544", func := "garboard/garboardlaw15.EngineRests", spec := "engineRests", unfollowed := true, recurses := true, plainKeys := false, apart := false }
def EngineRestsSaid : Prop := engineRestsRow.holds Tryz.pinned (OpenSpec.ofChange engineRestsSpec)

/-- ITS FALSE NEIGHBOUR: 'it returns false'. Refute it at one input. -/
def engineRestsWrong : ChangeSpec := { name := "engineRests", fn := fun _ => fun
  | [d1, d2, d3] => { results := [.lit (.bool false)], args := [d1, d2, d3] }
  | _ => none }
def EngineRestsWrongFalsely : Prop := engineRestsRow.holds Tryz.pinned (OpenSpec.ofChange engineRestsWrong)

/-- 'garboardlaw15.EngineRooms': WHATEVER THE INPUT: true; the input reads as it did. -/
def engineRoomsSpec : ChangeSpec := { name := "engineRooms", fn := fun _ => fun
  | [d1, d2] => { results := [.lit (.bool true)], args := [d1, d2] }
  | _ => none }
def engineRoomsRow : OpenClaim := { program := "ytjgggialnegddaagreat", sum := "56a2a3d89eb6653103163c91359d65e14008db92522b92e2e804f449d3fc6544", func := "garboard/garboardlaw15.EngineRooms", spec := "engineRooms", unfollowed := true, recurses := true, plainKeys := false, apart := false }
def EngineRoomsSaid : Prop := engineRoomsRow.holds Tryz.pinned (OpenSpec.ofChange engineRoomsSpec)

/-- ITS FALSE NEIGHBOUR: 'it returns false'. Refute it at one input. -/
def engineRoomsWrong : ChangeSpec := { name := "engineRooms", fn := fun _ => fun
  | [d1, d2] => { results := [.lit (.bool false)], args := [d1, d2] }
  | _ => none }
def EngineRoomsWrongFalsely : Prop := engineRoomsRow.holds Tryz.pinned (OpenSpec.ofChange engineRoomsWrong)

/-- 'garboardlaw15.EngineNobody': WHATEVER THE INPUT: true; the input reads as it did. -/
def engineNobodySpec : ChangeSpec := { name := "engineNobody", fn := fun _ => fun
  | [d] => { results := [.lit (.bool true)], args := [d] }
  | _ => none }
def engineNobodyRow : OpenClaim := { program := "ytjgggialnegddaagreat", sum := "56a2a3d89eb6653103163c91359d65e14008db92522b92e2e804f449d3fc6544", func := "garboard/garboardlaw15.EngineNobody", spec := "engineNobody", unfollowed := true, recurses := true, plainKeys := false, apart := false }
def EngineNobodySaid : Prop := engineNobodyRow.holds Tryz.pinned (OpenSpec.ofChange engineNobodySpec)

/-- ITS FALSE NEIGHBOUR: 'it returns false'. Refute it at one input. -/
def engineNobodyWrong : ChangeSpec := { name := "engineNobody", fn := fun _ => fun
  | [d] => { results := [.lit (.bool false)], args := [d] }
  | _ => none }
def EngineNobodyWrongFalsely : Prop := engineNobodyRow.holds Tryz.pinned (OpenSpec.ofChange engineNobodyWrong)

/- THE SECOND FORM. 'bulk': how many values and letters a reading holds, each counted each time it is reached (what is shared counts as often as it is met; a slice's spare places count too). A statement '..UptoSaid' is the law's where the arguments, and the package variables that the reading takes, are together of bulk at most 1048576: NARROWER than '..Said'. Prove '..Said' where nothing that the law and all that it calls make is longer than what came in: it says more and counts as full. Else prove '..UptoSaid'. A law counts once. -/
mutual
def uptoBulk {H : Type} : DataW H → Nat
  | .lit (.string bytes) => bytes.length + 1
  | .lit _ => 1
  | .nil => 1
  | .ptr d => uptoBulk d + 1
  | .slice elems spare => uptoBulkAll elems + uptoBulkAll spare + 1
  | .agg parts => uptoBulkAll parts + 1
  | .iface _ d => uptoBulk d + 1
  | .map entries => uptoBulkEntries entries + 1
  | .held _ => 1
def uptoBulkAll {H : Type} : List (DataW H) → Nat
  | [] => 0
  | d :: r => uptoBulk d + uptoBulkAll r
def uptoBulkEntries {H : Type} : List (Lit × DataW H) → Nat
  | [] => 0
  | x :: r => uptoBulkEntry x + uptoBulkEntries r
def uptoBulkEntry {H : Type} : Lit × DataW H → Nat
  | (.string bytes, d) => bytes.length + uptoBulk d + 1
  | (_, d) => uptoBulk d + 1
 end
def uptoSmall : (H : Type) → List (DataW H) → Bool := fun _ ds => decide (uptoBulkAll ds ≤ 1048576)
def OpenSpec.upto (s : _root_.Go.ChangeSpec) : _root_.Go.OpenSpec := { _root_.Go.OpenSpec.ofChange s with cond := some uptoSmall }

/-- 'garboardlaw15.EnginePlays', WHERE WHAT IT READS IS OF BULK AT MOST 1048576: true; the input reads as it did. -/
def enginePlaysUptoRow : OpenClaim := { program := "ytjgggialnegddaagreat", sum := "56a2a3d89eb6653103163c91359d65e14008db92522b92e2e804f449d3fc6544", func := "garboard/garboardlaw15.EnginePlays", spec := "enginePlays", unfollowed := true, recurses := true, plainKeys := false, apart := false, narrowed := true }
def EnginePlaysUptoSaid : Prop := enginePlaysUptoRow.holds Tryz.pinned (OpenSpec.upto enginePlaysSpec)

/-- 'garboardlaw15.EngineRests', WHERE WHAT IT READS IS OF BULK AT MOST 1048576: true; the input reads as it did. -/
def engineRestsUptoRow : OpenClaim := { program := "ytjgggialnegddaagreat", sum := "56a2a3d89eb6653103163c91359d65e14008db92522b92e2e804f449d3fc6544", func := "garboard/garboardlaw15.EngineRests", spec := "engineRests", unfollowed := true, recurses := true, plainKeys := false, apart := false, narrowed := true }
def EngineRestsUptoSaid : Prop := engineRestsUptoRow.holds Tryz.pinned (OpenSpec.upto engineRestsSpec)

/-- 'garboardlaw15.EngineRooms', WHERE WHAT IT READS IS OF BULK AT MOST 1048576: true; the input reads as it did. -/
def engineRoomsUptoRow : OpenClaim := { program := "ytjgggialnegddaagreat", sum := "56a2a3d89eb6653103163c91359d65e14008db92522b92e2e804f449d3fc6544", func := "garboard/garboardlaw15.EngineRooms", spec := "engineRooms", unfollowed := true, recurses := true, plainKeys := false, apart := false, narrowed := true }
def EngineRoomsUptoSaid : Prop := engineRoomsUptoRow.holds Tryz.pinned (OpenSpec.upto engineRoomsSpec)

/-- 'garboardlaw15.EngineNobody', WHERE WHAT IT READS IS OF BULK AT MOST 1048576: true; the input reads as it did. -/
def engineNobodyUptoRow : OpenClaim := { program := "ytjgggialnegddaagreat", sum := "56a2a3d89eb6653103163c91359d65e14008db92522b92e2e804f449d3fc6544", func := "garboard/garboardlaw15.EngineNobody", spec := "engineNobody", unfollowed := true, recurses := true, plainKeys := false, apart := false, narrowed := true }
def EngineNobodyUptoSaid : Prop := engineNobodyUptoRow.holds Tryz.pinned (OpenSpec.upto engineNobodySpec)

end Rows
end Go.Proofs.YtjgggialnegddaaGreat
