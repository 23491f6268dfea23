/-
  No cell of these rows narrows 'for every input' (looked for: loops, veiled, ifaces, maps, wideKeys, modest, calm, conditions, laid).
  DERIVED. THE GIVEN ROWS OF THIS SEAT. 6 by the template 'for every input the law returns true; each argument reads behind the call as it read before'; 0 by the template 'total and deterministic' (their statements: YtahpilgbabjebaaGreatTotals.lean).
  GIVEN WITH THE SEED: the statements are not yours to turn. If you find one false, say at which input.
  Laid BY PROGRAM, IN A SANDBOX (cutbox-rows.mjs): the forced cells as the released guide's own fill.sh prints them over the translation 2682ea8c236d3fa1… (all of the seat's roots in one cut). By AI agents, Wed Nov 11 2026. No macro, syntax, notation, axiom, sorry.
-/
import Derived.Test.YtahpilgbabjebaaGreatChecked
import GoSem.Claim
import GoSem.ClaimJoined
import GoSem.ClaimMapViews
import Derived.JoinedTies
import Derived.KernelRfl
namespace Go.Proofs.YtahpilgbabjebaaGreat
/- THE CELL 'sum', in the pinned program and in every row, IS THE sha256 OF THE DUMP (.gsa) THAT YtahpilgbabjebaaGreatProg.lean LOADS. Nothing in Lean hashes anything: it is a label: what it is worth is what the hold of that sum in a sandbox is worth. -/
noncomputable def Tryz.pinned : Pinned := { name := "ytahpilgbabjebaagreat", sum := "2682ea8c236d3fa15b8b751b26dc92ced68a15f79212d92e05232ba6f1045992", checked := Tryz.checked }
namespace Rows
def none {H : Type} : Left H := { results := [], args := [] }

/-- 'garboardlaw12.DecodeRefs': WHATEVER THE INPUT: true; the input reads as it did. -/
def decodeRefsSpec : ChangeSpec := { name := "decodeRefs", fn := fun _ => fun
  | [d1, d2] => { results := [.lit (.bool true)], args := [d1, d2] }
  | _ => none }
def decodeRefsRow : OpenClaim := { program := "ytahpilgbabjebaagreat", sum := "2682ea8c236d3fa15b8b751b26dc92ced68a15f79212d92e05232ba6f1045992", func := "garboard/garboardlaw12.DecodeRefs", spec := "decodeRefs", unfollowed := true, recurses := true, apart := false }
def DecodeRefsSaid : Prop := decodeRefsRow.holds Tryz.pinned (OpenSpec.ofChange decodeRefsSpec)

/-- ITS FALSE NEIGHBOUR: 'it returns false'. Refute it at one input. -/
def decodeRefsWrong : ChangeSpec := { name := "decodeRefs", fn := fun _ => fun
  | [d1, d2] => { results := [.lit (.bool false)], args := [d1, d2] }
  | _ => none }
def DecodeRefsWrongFalsely : Prop := decodeRefsRow.holds Tryz.pinned (OpenSpec.ofChange decodeRefsWrong)

/-- 'garboardlaw12.DecodeNexts': WHATEVER THE INPUT: true; the input reads as it did. -/
def decodeNextsSpec : ChangeSpec := { name := "decodeNexts", fn := fun _ => fun
  | [d1, d2, d3] => { results := [.lit (.bool true)], args := [d1, d2, d3] }
  | _ => none }
def decodeNextsRow : OpenClaim := { program := "ytahpilgbabjebaagreat", sum := "2682ea8c236d3fa15b8b751b26dc92ced68a15f79212d92e05232ba6f1045992", func := "garboard/garboardlaw12.DecodeNexts", spec := "decodeNexts", unfollowed := true, recurses := true, apart := false }
def DecodeNextsSaid : Prop := decodeNextsRow.holds Tryz.pinned (OpenSpec.ofChange decodeNextsSpec)

/-- ITS FALSE NEIGHBOUR: 'it returns false'. Refute it at one input. -/
def decodeNextsWrong : ChangeSpec := { name := "decodeNexts", fn := fun _ => fun
  | [d1, d2, d3] => { results := [.lit (.bool false)], args := [d1, d2, d3] }
  | _ => none }
def DecodeNextsWrongFalsely : Prop := decodeNextsRow.holds Tryz.pinned (OpenSpec.ofChange decodeNextsWrong)

/-- 'garboardlaw12.DecodeRests': WHATEVER THE INPUT: true; the input reads as it did. -/
def decodeRestsSpec : ChangeSpec := { name := "decodeRests", fn := fun _ => fun
  | [d1, d2, d3] => { results := [.lit (.bool true)], args := [d1, d2, d3] }
  | _ => none }
def decodeRestsRow : OpenClaim := { program := "ytahpilgbabjebaagreat", sum := "2682ea8c236d3fa15b8b751b26dc92ced68a15f79212d92e05232ba6f1045992", func := "garboard/garboardlaw12.DecodeRests", spec := "decodeRests", unfollowed := true, recurses := true, apart := false }
def DecodeRestsSaid : Prop := decodeRestsRow.holds Tryz.pinned (OpenSpec.ofChange decodeRestsSpec)

/-- ITS FALSE NEIGHBOUR: 'it returns false'. Refute it at one input. -/
def decodeRestsWrong : ChangeSpec := { name := "decodeRests", fn := fun _ => fun
  | [d1, d2, d3] => { results := [.lit (.bool false)], args := [d1, d2, d3] }
  | _ => none }
def DecodeRestsWrongFalsely : Prop := decodeRestsRow.holds Tryz.pinned (OpenSpec.ofChange decodeRestsWrong)

/-- 'garboardlaw12.DecodeCuts': WHATEVER THE INPUT: true; the input reads as it did. -/
def decodeCutsSpec : ChangeSpec := { name := "decodeCuts", fn := fun _ => fun
  | [d1, d2, d3] => { results := [.lit (.bool true)], args := [d1, d2, d3] }
  | _ => none }
def decodeCutsRow : OpenClaim := { program := "ytahpilgbabjebaagreat", sum := "2682ea8c236d3fa15b8b751b26dc92ced68a15f79212d92e05232ba6f1045992", func := "garboard/garboardlaw12.DecodeCuts", spec := "decodeCuts", unfollowed := true, recurses := true, apart := false }
def DecodeCutsSaid : Prop := decodeCutsRow.holds Tryz.pinned (OpenSpec.ofChange decodeCutsSpec)

/-- ITS FALSE NEIGHBOUR: 'it returns false'. Refute it at one input. -/
def decodeCutsWrong : ChangeSpec := { name := "decodeCuts", fn := fun _ => fun
  | [d1, d2, d3] => { results := [.lit (.bool false)], args := [d1, d2, d3] }
  | _ => none }
def DecodeCutsWrongFalsely : Prop := decodeCutsRow.holds Tryz.pinned (OpenSpec.ofChange decodeCutsWrong)

/-- 'garboardlaw12.DecodeLess': WHATEVER THE INPUT: true; the input reads as it did. -/
def decodeLessSpec : ChangeSpec := { name := "decodeLess", fn := fun _ => fun
  | [d1, d2, d3] => { results := [.lit (.bool true)], args := [d1, d2, d3] }
  | _ => none }
def decodeLessRow : OpenClaim := { program := "ytahpilgbabjebaagreat", sum := "2682ea8c236d3fa15b8b751b26dc92ced68a15f79212d92e05232ba6f1045992", func := "garboard/garboardlaw12.DecodeLess", spec := "decodeLess", unfollowed := true, recurses := true, apart := false }
def DecodeLessSaid : Prop := decodeLessRow.holds Tryz.pinned (OpenSpec.ofChange decodeLessSpec)

/-- ITS FALSE NEIGHBOUR: 'it returns false'. Refute it at one input. -/
def decodeLessWrong : ChangeSpec := { name := "decodeLess", fn := fun _ => fun
  | [d1, d2, d3] => { results := [.lit (.bool false)], args := [d1, d2, d3] }
  | _ => none }
def DecodeLessWrongFalsely : Prop := decodeLessRow.holds Tryz.pinned (OpenSpec.ofChange decodeLessWrong)

/-- 'garboardlaw12.DecodeNobody': WHATEVER THE INPUT: true; the input reads as it did. -/
def decodeNobodySpec : ChangeSpec := { name := "decodeNobody", fn := fun _ => fun
  | [d1, d2, d3] => { results := [.lit (.bool true)], args := [d1, d2, d3] }
  | _ => none }
def decodeNobodyRow : OpenClaim := { program := "ytahpilgbabjebaagreat", sum := "2682ea8c236d3fa15b8b751b26dc92ced68a15f79212d92e05232ba6f1045992", func := "garboard/garboardlaw12.DecodeNobody", spec := "decodeNobody", unfollowed := true, recurses := true, apart := false }
def DecodeNobodySaid : Prop := decodeNobodyRow.holds Tryz.pinned (OpenSpec.ofChange decodeNobodySpec)

/-- ITS FALSE NEIGHBOUR: 'it returns false'. Refute it at one input. -/
def decodeNobodyWrong : ChangeSpec := { name := "decodeNobody", fn := fun _ => fun
  | [d1, d2, d3] => { results := [.lit (.bool false)], args := [d1, d2, d3] }
  | _ => none }
def DecodeNobodyWrongFalsely : Prop := decodeNobodyRow.holds Tryz.pinned (OpenSpec.ofChange decodeNobodyWrong)

/- THE SECOND FORM. 'bulk': how many values and letters a reading holds, each counted each time it is reached (what is shared counts as often as it is met; a slice's spare places count too). A statement '..UptoSaid' is the law's where the arguments, and the package variables that the reading takes, are together of bulk at most 1048576: NARROWER than '..Said'. Prove '..Said' where nothing that the law and all that it calls make is longer than what came in: it says more and counts as full. Else prove '..UptoSaid'. A law counts once. -/
mutual
def uptoBulk {H : Type} : DataW H → Nat
  | .lit (.string bytes) => bytes.length + 1
  | .lit _ => 1
  | .nil => 1
  | .ptr d => uptoBulk d + 1
  | .slice elems spare => uptoBulkAll elems + uptoBulkAll spare + 1
  | .agg parts => uptoBulkAll parts + 1
  | .iface _ d => uptoBulk d + 1
  | .map entries => uptoBulkEntries entries + 1
  | .held _ => 1
def uptoBulkAll {H : Type} : List (DataW H) → Nat
  | [] => 0
  | d :: r => uptoBulk d + uptoBulkAll r
def uptoBulkEntries {H : Type} : List (Lit × DataW H) → Nat
  | [] => 0
  | x :: r => uptoBulkEntry x + uptoBulkEntries r
def uptoBulkEntry {H : Type} : Lit × DataW H → Nat
  | (.string bytes, d) => bytes.length + uptoBulk d + 1
  | (_, d) => uptoBulk d + 1
 end
def uptoSmall : (H : Type) → List (DataW H) → Bool := fun _ ds => decide (uptoBulkAll ds ≤ 1048576)
def OpenSpec.upto (s : _root_.Go.ChangeSpec) : _root_.Go.OpenSpec := { _root_.Go.OpenSpec.ofChange s with cond := some uptoSmall }

/-- 'garboardlaw12.DecodeRefs', WHERE WHAT IT READS IS OF BULK AT MOST 1048576: true; the input reads as it did. -/
def decodeRefsUptoRow : OpenClaim := { program := "ytahpilgbabjebaagreat", sum := "2682ea8c236d3fa15b8b751b26dc92ced68a15f79212d92e05232ba6f1045992", func := "garboard/garboardlaw12.DecodeRefs", spec := "decodeRefs", unfollowed := true, recurses := true, apart := false, narrowed := true }
def DecodeRefsUptoSaid : Prop := decodeRefsUptoRow.holds Tryz.pinned (OpenSpec.upto decodeRefsSpec)

/-- 'garboardlaw12.DecodeNexts', WHERE WHAT IT READS IS OF BULK AT MOST 1048576: true; the input reads as it did. -/
def decodeNextsUptoRow : OpenClaim := { program := "ytahpilgbabjebaagreat", sum := "2682ea8c236d3fa15b8b751b26dc92ced68a15f79212d92e05232ba6f1045992", func := "garboard/garboardlaw12.DecodeNexts", spec := "decodeNexts", unfollowed := true, recurses := true, apart := false, narrowed := true }
def DecodeNextsUptoSaid : Prop := decodeNextsUptoRow.holds Tryz.pinned (OpenSpec.upto decodeNextsSpec)

/-- 'garboardlaw12.DecodeRests', WHERE WHAT IT READS IS OF BULK AT MOST 1048576: true; the input reads as it did. -/
def decodeRestsUptoRow : OpenClaim := { program := "ytahpilgbabjebaagreat", sum := "2682ea8c236d3fa15b8b751b26dc92ced68a15f79212d92e05232ba6f1045992", func := "garboard/garboardlaw12.DecodeRests", spec := "decodeRests", unfollowed := true, recurses := true, apart := false, narrowed := true }
def DecodeRestsUptoSaid : Prop := decodeRestsUptoRow.holds Tryz.pinned (OpenSpec.upto decodeRestsSpec)

/-- 'garboardlaw12.DecodeCuts', WHERE WHAT IT READS IS OF BULK AT MOST 1048576: true; the input reads as it did. -/
def decodeCutsUptoRow : OpenClaim := { program := "ytahpilgbabjebaagreat", sum := "2682ea8c236d3fa15b8b751b26dc92ced68a15f79212d92e05232ba6f1045992", func := "garboard/garboardlaw12.DecodeCuts", spec := "decodeCuts", unfollowed := true, recurses := true, apart := false, narrowed := true }
def DecodeCutsUptoSaid : Prop := decodeCutsUptoRow.holds Tryz.pinned (OpenSpec.upto decodeCutsSpec)

/-- 'garboardlaw12.DecodeLess', WHERE WHAT IT READS IS OF BULK AT MOST 1048576: true; the input reads as it did. -/
def decodeLessUptoRow : OpenClaim := { program := "ytahpilgbabjebaagreat", sum := "2682ea8c236d3fa15b8b751b26dc92ced68a15f79212d92e05232ba6f1045992", func := "garboard/garboardlaw12.DecodeLess", spec := "decodeLess", unfollowed := true, recurses := true, apart := false, narrowed := true }
def DecodeLessUptoSaid : Prop := decodeLessUptoRow.holds Tryz.pinned (OpenSpec.upto decodeLessSpec)

/-- 'garboardlaw12.DecodeNobody', WHERE WHAT IT READS IS OF BULK AT MOST 1048576: true; the input reads as it did. -/
def decodeNobodyUptoRow : OpenClaim := { program := "ytahpilgbabjebaagreat", sum := "2682ea8c236d3fa15b8b751b26dc92ced68a15f79212d92e05232ba6f1045992", func := "garboard/garboardlaw12.DecodeNobody", spec := "decodeNobody", unfollowed := true, recurses := true, apart := false, narrowed := true }
def DecodeNobodyUptoSaid : Prop := decodeNobodyUptoRow.holds Tryz.pinned (OpenSpec.upto decodeNobodySpec)

end Rows
end Go.Proofs.YtahpilgbabjebaaGreat
