/-
  No cell of these rows narrows 'for every input' (looked for: loops, veiled, ifaces, maps, wideKeys, modest, calm, conditions, laid).
  DERIVED. THE GIVEN ROWS OF THIS SEAT. 4 by the template 'for every input the law returns true; each argument reads behind the call as it read before'; 0 by the template 'total and deterministic' (their statements: YtmhpgkkaolcncaaTotals.lean).
  GIVEN WITH THE SEED: the statements are not yours to turn. If you find one false, say at which input.
  Laid BY PROGRAM, IN A SANDBOX (cutbox-rows.mjs): the forced cells as the released guide's own fill.sh prints them over the translation 1768a8416c8f898b… (all of the seat's roots in one cut). By AI agents, Wed Nov 11 2026. No macro, syntax, notation, axiom, sorry.
-/
import Derived.Test.YtmhpgkkaolcncaaChecked
import GoSem.Claim
import GoSem.ClaimJoined
import GoSem.ClaimMapViews
import Derived.JoinedTies
import Derived.KernelRfl
namespace Go.Proofs.Ytmhpgkkaolcncaa
/- THE CELL 'sum', in the pinned program and in every row, IS THE sha256 OF THE DUMP (.gsa) THAT YtmhpgkkaolcncaaProg.lean LOADS. Nothing in Lean hashes anything: it is a label: what it is worth is what the hold of that sum in a sandbox is worth. -/
noncomputable def Try.pinned : Pinned := { name := "ytmhpgkkaolcncaa", sum := "1768a8416c8f898b6277021be7b75752e761eede35771587f8bc6b4ff9d184b2", checked := Try.checked }
namespace Rows
def none {H : Type} : Left H := { results := [], args := [] }

/-- 'garboardlaw19.RankOrders': WHATEVER THE INPUT: true; the input reads as it did. -/
def rankOrdersSpec : ChangeSpec := { name := "rankOrders", fn := fun _ => fun
  | [d1, d2] => { results := [.lit (.bool true)], args := [d1, d2] }
  | _ => none }
def rankOrdersRow : OpenClaim := { program := "ytmhpgkkaolcncaa", sum := "1768a8416c8f898b6277021be7b75752e761eede35771587f8bc6b4ff9d184b2", func := "garboard/garboardlaw19.RankOrders", spec := "rankOrders", unfollowed := true, recurses := true, apart := false }
def RankOrdersSaid : Prop := rankOrdersRow.holds Try.pinned (OpenSpec.ofChange rankOrdersSpec)

/-- ITS FALSE NEIGHBOUR: 'it returns false'. Refute it at one input. -/
def rankOrdersWrong : ChangeSpec := { name := "rankOrders", fn := fun _ => fun
  | [d1, d2] => { results := [.lit (.bool false)], args := [d1, d2] }
  | _ => none }
def RankOrdersWrongFalsely : Prop := rankOrdersRow.holds Try.pinned (OpenSpec.ofChange rankOrdersWrong)

/-- 'garboardlaw19.RankBests': WHATEVER THE INPUT: true; the input reads as it did. -/
def rankBestsSpec : ChangeSpec := { name := "rankBests", fn := fun _ => fun
  | [d1, d2, d3] => { results := [.lit (.bool true)], args := [d1, d2, d3] }
  | _ => none }
def rankBestsRow : OpenClaim := { program := "ytmhpgkkaolcncaa", sum := "1768a8416c8f898b6277021be7b75752e761eede35771587f8bc6b4ff9d184b2", func := "garboard/garboardlaw19.RankBests", spec := "rankBests", unfollowed := true, recurses := true, apart := false }
def RankBestsSaid : Prop := rankBestsRow.holds Try.pinned (OpenSpec.ofChange rankBestsSpec)

/-- ITS FALSE NEIGHBOUR: 'it returns false'. Refute it at one input. -/
def rankBestsWrong : ChangeSpec := { name := "rankBests", fn := fun _ => fun
  | [d1, d2, d3] => { results := [.lit (.bool false)], args := [d1, d2, d3] }
  | _ => none }
def RankBestsWrongFalsely : Prop := rankBestsRow.holds Try.pinned (OpenSpec.ofChange rankBestsWrong)

/-- 'garboardlaw19.RankLess': WHATEVER THE INPUT: true; the input reads as it did. -/
def rankLessSpec : ChangeSpec := { name := "rankLess", fn := fun _ => fun
  | [d1, d2, d3] => { results := [.lit (.bool true)], args := [d1, d2, d3] }
  | _ => none }
def rankLessRow : OpenClaim := { program := "ytmhpgkkaolcncaa", sum := "1768a8416c8f898b6277021be7b75752e761eede35771587f8bc6b4ff9d184b2", func := "garboard/garboardlaw19.RankLess", spec := "rankLess", unfollowed := true, recurses := true, apart := false }
def RankLessSaid : Prop := rankLessRow.holds Try.pinned (OpenSpec.ofChange rankLessSpec)

/-- ITS FALSE NEIGHBOUR: 'it returns false'. Refute it at one input. -/
def rankLessWrong : ChangeSpec := { name := "rankLess", fn := fun _ => fun
  | [d1, d2, d3] => { results := [.lit (.bool false)], args := [d1, d2, d3] }
  | _ => none }
def RankLessWrongFalsely : Prop := rankLessRow.holds Try.pinned (OpenSpec.ofChange rankLessWrong)

/-- 'garboardlaw19.RankOnce': WHATEVER THE INPUT: true; the input reads as it did. -/
def rankOnceSpec : ChangeSpec := { name := "rankOnce", fn := fun _ => fun
  | [d1, d2] => { results := [.lit (.bool true)], args := [d1, d2] }
  | _ => none }
def rankOnceRow : OpenClaim := { program := "ytmhpgkkaolcncaa", sum := "1768a8416c8f898b6277021be7b75752e761eede35771587f8bc6b4ff9d184b2", func := "garboard/garboardlaw19.RankOnce", spec := "rankOnce", unfollowed := true, recurses := true, apart := false }
def RankOnceSaid : Prop := rankOnceRow.holds Try.pinned (OpenSpec.ofChange rankOnceSpec)

/-- ITS FALSE NEIGHBOUR: 'it returns false'. Refute it at one input. -/
def rankOnceWrong : ChangeSpec := { name := "rankOnce", fn := fun _ => fun
  | [d1, d2] => { results := [.lit (.bool false)], args := [d1, d2] }
  | _ => none }
def RankOnceWrongFalsely : Prop := rankOnceRow.holds Try.pinned (OpenSpec.ofChange rankOnceWrong)

/- THE SECOND FORM. 'bulk': how many values and letters a reading holds, each counted each time it is reached (what is shared counts as often as it is met; a slice's spare places count too). A statement '..UptoSaid' is the law's where the arguments, and the package variables that the reading takes, are together of bulk at most 1048576: NARROWER than '..Said'. Prove '..Said' where nothing that the law and all that it calls make is longer than what came in: it says more and counts as full. Else prove '..UptoSaid'. A law counts once. -/
mutual
def uptoBulk {H : Type} : DataW H → Nat
  | .lit (.string bytes) => bytes.length + 1
  | .lit _ => 1
  | .nil => 1
  | .ptr d => uptoBulk d + 1
  | .slice elems spare => uptoBulkAll elems + uptoBulkAll spare + 1
  | .agg parts => uptoBulkAll parts + 1
  | .iface _ d => uptoBulk d + 1
  | .map entries => uptoBulkEntries entries + 1
  | .held _ => 1
def uptoBulkAll {H : Type} : List (DataW H) → Nat
  | [] => 0
  | d :: r => uptoBulk d + uptoBulkAll r
def uptoBulkEntries {H : Type} : List (Lit × DataW H) → Nat
  | [] => 0
  | x :: r => uptoBulkEntry x + uptoBulkEntries r
def uptoBulkEntry {H : Type} : Lit × DataW H → Nat
  | (.string bytes, d) => bytes.length + uptoBulk d + 1
  | (_, d) => uptoBulk d + 1
 end
def uptoSmall : (H : Type) → List (DataW H) → Bool := fun _ ds => decide (uptoBulkAll ds ≤ 1048576)
def OpenSpec.upto (s : _root_.Go.ChangeSpec) : _root_.Go.OpenSpec := { _root_.Go.OpenSpec.ofChange s with cond := some uptoSmall }

/-- 'garboardlaw19.RankOrders', WHERE WHAT IT READS IS OF BULK AT MOST 1048576: true; the input reads as it did. -/
def rankOrdersUptoRow : OpenClaim := { program := "ytmhpgkkaolcncaa", sum := "1768a8416c8f898b6277021be7b75752e761eede35771587f8bc6b4ff9d184b2", func := "garboard/garboardlaw19.RankOrders", spec := "rankOrders", unfollowed := true, recurses := true, apart := false, narrowed := true }
def RankOrdersUptoSaid : Prop := rankOrdersUptoRow.holds Try.pinned (OpenSpec.upto rankOrdersSpec)

/-- 'garboardlaw19.RankBests', WHERE WHAT IT READS IS OF BULK AT MOST 1048576: true; the input reads as it did. -/
def rankBestsUptoRow : OpenClaim := { program := "ytmhpgkkaolcncaa", sum := "1768a8416c8f898b6277021be7b75752e761eede35771587f8bc6b4ff9d184b2", func := "garboard/garboardlaw19.RankBests", spec := "rankBests", unfollowed := true, recurses := true, apart := false, narrowed := true }
def RankBestsUptoSaid : Prop := rankBestsUptoRow.holds Try.pinned (OpenSpec.upto rankBestsSpec)

/-- 'garboardlaw19.RankLess', WHERE WHAT IT READS IS OF BULK AT MOST 1048576: true; the input reads as it did. -/
def rankLessUptoRow : OpenClaim := { program := "ytmhpgkkaolcncaa", sum := "1768a8416c8f898b6277021be7b75752e761eede35771587f8bc6b4ff9d184b2", func := "garboard/garboardlaw19.RankLess", spec := "rankLess", unfollowed := true, recurses := true, apart := false, narrowed := true }
def RankLessUptoSaid : Prop := rankLessUptoRow.holds Try.pinned (OpenSpec.upto rankLessSpec)

/-- 'garboardlaw19.RankOnce', WHERE WHAT IT READS IS OF BULK AT MOST 1048576: true; the input reads as it did. -/
def rankOnceUptoRow : OpenClaim := { program := "ytmhpgkkaolcncaa", sum := "1768a8416c8f898b6277021be7b75752e761eede35771587f8bc6b4ff9d184b2", func := "garboard/garboardlaw19.RankOnce", spec := "rankOnce", unfollowed := true, recurses := true, apart := false, narrowed := true }
def RankOnceUptoSaid : Prop := rankOnceUptoRow.holds Try.pinned (OpenSpec.upto rankOnceSpec)

end Rows
end Go.Proofs.Ytmhpgkkaolcncaa
