/-
  What Load and Lay hand back, said once for both ways: the bytes (none of a message that may not be) and the error.
-/
import Derived.Test.YtlcfjhlchpeedaaRLay
import Derived.Test.YtlcfjhlchpeedaaBytes
namespace Go.Proofs.Ytlcfjhlchpeedaa
open Go.RowKit
open M
set_option linter.unusedVariables false
set_option maxRecDepth 1000000

/-- The load's bytes, the frame's, and the error. -/
structure Outs (m : Mg) (Z Y : List Int) (E : Int) : Prop where
  yes : mayA m = true → Z = loadF m ∧ Y = layL (loadF m) ∧ E = 0
  no : mayA m = false → Z = [] ∧ Y = [] ∧ E = 1
theorem outs_any (m : Mg) : Outs m (if mayA m = true then loadF m else []) (if mayA m = true then layL (loadF m) else []) (if mayA m = true then 0 else 1) :=
  ⟨fun h => by simp [h], fun h => by simp [h]⟩
theorem Outs.bytes {m : Mg} {Z Y : List Int} {E : Int} (h : Outs m Z Y E) : IsBytes Z ∧ IsBytes Y := by
  rcases hm : mayA m with _ | _
  · obtain ⟨rfl, rfl, rfl⟩ := h.no hm
    exact ⟨fun x hx => by simp at hx, fun x hx => by simp at hx⟩
  · obtain ⟨rfl, rfl, rfl⟩ := h.yes hm
    exact ⟨load_bytes m, layL_bytes (load_bytes m)⟩
theorem load_outs {m : Mg} {Z Y : List Int} {E : Int} {w w' : World} {x : Ending} (h : Outs m Z Y E) (hO : LoadOut m w x w') :
    ∃ (a : Option Addr) (l k : Nat), x = .returned (.tuple #[.slice a l k, .int .i64 E]) ∧ Reads .u8 w' a l k Z ∧ Below w.heap.size w w' := by
  rcases hO with ⟨h1, ⟨v, rfl, h2⟩, h3⟩ | ⟨h1, rfl, h3⟩
  · obtain ⟨rfl, rfl, rfl⟩ := h.yes h1
    obtain ⟨a, c, rfl, hr⟩ := Reads.own h2
    exact ⟨a, _, c, rfl, hr, h3⟩
  · obtain ⟨rfl, rfl, rfl⟩ := h.no h1
    exact ⟨none, 0, 0, rfl, Reads.nil _ _, h3⟩
theorem lay_outs {m : Mg} {Z Y : List Int} {E : Int} {w w' : World} {x : Ending} (h : Outs m Z Y E) (hO : LayOut m w x w') :
    ∃ (a : Option Addr) (l k : Nat), x = .returned (.tuple #[.slice a l k, .int .i64 E]) ∧ Reads .u8 w' a l k Y ∧ Below w.heap.size w w' := by
  rcases hO with ⟨h1, ⟨v, rfl, h2⟩, h3⟩ | ⟨h1, rfl, h3⟩
  · obtain ⟨rfl, rfl, rfl⟩ := h.yes h1
    obtain ⟨a, c, rfl, hr⟩ := Reads.own h2
    exact ⟨a, _, c, rfl, hr, h3⟩
  · obtain ⟨rfl, rfl, rfl⟩ := h.no h1
    exact ⟨none, 0, 0, rfl, Reads.nil _ _, h3⟩
theorem str_same {Z : List Int} (h : IsBytes Z) : ((strOfNums Z).toList == (strOfNums Z).toList) = true := by simp
end Go.Proofs.Ytlcfjhlchpeedaa
