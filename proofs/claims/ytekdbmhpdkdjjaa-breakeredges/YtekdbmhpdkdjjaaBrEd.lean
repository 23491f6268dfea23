/-
  BreakerEdges: its mathematics.
-/
import Derived.Test.YtekdbmhpdkdjjaaBrEn
namespace Go.Proofs.Ytekdbmhpdkdjjaa
open Go.RowKit
set_option linter.unusedVariables false
set_option maxRecDepth 1000000

/-- At each round's beginning. -/
structure EdI (k : Nat) (now tl : Int) (P : Pk) : Prop where
  nw : P.now = now
  bd : 0 ≤ now ∧ now ≤ k * 1073741824
  tl : tl = 0 ∨ (tl = 1 ∧ P.st = 2 ∧ P.tr = true)
theorem EdI.new (s : Sg) : EdI 0 0 0 (Pk.new s) := ⟨rfl, ⟨Int.le_refl _, by omega⟩, .inl rfl⟩
theorem EdI.go {k : Nat} {now tl t : Int} {P : Pk} (h : EdI k now tl P) (hk : k ≤ 400) (h0 : now ≤ t) (h1 : t ≤ now + 1073741824) : EdI (k + 1) t tl (P.go t) := by
  have hb := h.bd
  have hn := h.nw
  by_cases ht : P.now < t
  · by_cases hu : P.st = 1 ∧ P.un ≤ t
    · have e : P.go t = ({ P with now := t } : Pk).half := by unfold Pk.go; rw [if_pos ⟨ht, by omega⟩, if_pos hu]
      rw [e]
      exact ⟨rfl, by omega, .inl (h.tl.elim id fun hx => by have := hu.1; omega)⟩
    · have e : P.go t = { P with now := t } := by unfold Pk.go; rw [if_pos ⟨ht, by omega⟩, if_neg hu]
      rw [e]
      exact ⟨rfl, by omega, h.tl⟩
  · rw [Pk.go_same (by omega)]
    exact ⟨by omega, by omega, h.tl⟩
/-- How a state may turn in a call. -/
def Way (a b : Int) : Prop := (a = 0 → b = 0 ∨ b = 1) ∧ (a = 1 → b = 1)
theorem way_refl (a : Int) (h : a = 0 ∨ a = 1 ∨ a = 2) : Way a a := ⟨fun e => .inl e, fun e => e⟩
variable {k : Nat} {now tl : Int} {P : Pk}
theorem EdI.oks (h : EdI k now tl P) : EdI k now 0 P.oks ∧ Way P.st P.oks.st := by
  unfold Pk.oks
  split
  · rename_i h0
    exact ⟨⟨h.nw, h.bd, .inl rfl⟩, fun _ => .inl h0, fun e => by have e' : P.st = 1 := e; omega⟩
  · split
    · rename_i h0 h2
      split
      · exact ⟨⟨h.nw, h.bd, .inl rfl⟩, fun e => by have e' : P.st = 0 := e; omega, fun e => by have e' : P.st = 1 := e; omega⟩
      · exact ⟨⟨h.nw, h.bd, .inl rfl⟩, fun e => by have e' : P.st = 0 := e; omega, fun e => by have e' : P.st = 1 := e; omega⟩
    · rename_i h0 h2
      exact ⟨⟨h.nw, h.bd, .inl rfl⟩, fun e => absurd e h0, fun e => e⟩
theorem EdI.fls (h : EdI k now tl P) : EdI k now 0 P.fls ∧ Way P.st P.fls.st := by
  unfold Pk.fls
  split
  · rename_i h0
    split
    · exact ⟨⟨h.nw, h.bd, .inl rfl⟩, fun _ => .inr rfl, fun e => rfl⟩
    · exact ⟨⟨h.nw, h.bd, .inl rfl⟩, fun _ => .inl h0, fun e => by have e' : P.st = 1 := e; omega⟩
  · split
    · rename_i h0 h2
      exact ⟨⟨h.nw, h.bd, .inl rfl⟩, fun e => absurd e h0, fun e => rfl⟩
    · rename_i h0 h2
      exact ⟨⟨h.nw, h.bd, .inl rfl⟩, fun e => absurd e h0, fun e => e⟩
theorem EdI.lve (h : EdI k now tl P) : EdI k now 0 P.lve ∧ Way P.st P.lve.st := ⟨⟨h.nw, h.bd, .inl rfl⟩, fun e => .inl e, fun e => e⟩
/-- A trial is begun. -/
theorem EdI.alw_yes (h : EdI k now tl P) (h2 : P.st = 2) (ht : P.tr = false) : tl = 0 ∧ P.may = true ∧ EdI k now 1 P.alw ∧ Way P.st P.alw.st := by
  have e : P.alw = { P with tr := true } := if_pos h2
  rw [e]
  refine ⟨h.tl.elim id fun hx => by rw [ht] at hx; exact absurd hx.2.2 (by decide), by unfold Pk.may; rw [if_pos h2, ht]; rfl, ⟨h.nw, h.bd, .inr ⟨rfl, h2, rfl⟩⟩, fun e => .inl e, fun e => e⟩
theorem EdI.alw_no (h : EdI k now tl P) (h2 : P.st = 2) (ht : P.tr = true) : P.may = false ∧ EdI k now tl P.alw ∧ Way P.st P.alw.st := by
  have e : P.alw = { P with tr := true } := if_pos h2
  rw [e]
  refine ⟨by unfold Pk.may; rw [if_pos h2, ht]; rfl, ⟨h.nw, h.bd, h.tl.imp id fun hx => ⟨hx.1, h2, rfl⟩⟩, fun e => .inl e, fun e => e⟩
theorem EdI.alw_else (h : EdI k now tl P) (h2 : ¬ P.st = 2) : tl = 0 ∧ P.may = decide (P.st = 0) ∧ EdI k now 0 P.alw ∧ Way P.st P.alw.st := by
  have e : P.alw = P := if_neg h2
  have e0 : tl = 0 := h.tl.elim id fun hx => absurd hx.2.1 h2
  rw [e]
  exact ⟨e0, if_neg h2, ⟨h.nw, h.bd, .inl rfl⟩, fun e => .inl e, fun e => e⟩
theorem EdI.tl_bd (h : EdI k now tl P) : 0 ≤ tl ∧ tl ≤ 1 := by rcases h.tl with h | h <;> omega
/-- The breaker and a step's block. -/
structure EdM (w : World) (b sb : Nat) (x : Sp) (P : Pk) (W : World) : Prop where
  br : BrS w b P W
  st : W.heap[sb]? = some (.cells (SpV x) 38 (0, 0))
  ne : sb ≠ b
theorem EdM.new {w W W' : World} {b : Nat} {P : Pk} (h : BrS w b P W) (x : Sp) (hW : W' = W.alloc (.cells (SpV x) 38)) : EdM w b W.heap.size x P W' := by
  subst hW
  refine ⟨h.below ((Below.refl _ _).alloc (Nat.le_refl _) _), heap_alloc_new W _, ?_⟩
  have := h.at'.lt
  omega
theorem EdM.go {w W : World} {b sb : Nat} {x : Sp} {P P' : Pk} {f : Nat} {ar : Array Value} {v : Value} (h : EdM w b sb x P W) (ok : PkOk P') (hc : Calls Try.prog f ar W fun e w' => e = .returned v ∧ Hid (PkAt w' b P' ∧ Tn b W w')) : Calls Try.prog f ar W fun e w' => e = .returned v ∧ Hid (EdM w b sb x P' w') :=
  hc.mono fun e w' ⟨he, H⟩ => ⟨he, h.br.step ok H.out, H.out.2.one h.st h.ne, h.ne⟩
theorem EdM.below {w W W' : World} {b sb : Nat} {x : Sp} {P : Pk} (h : EdM w b sb x P W) (hb : Below W.heap.size W W') : EdM w b sb x P W' := ⟨h.br.below hb, block_bel h.st hb, h.ne⟩
theorem EdM.cells {w W : World} {b sb : Nat} {x : Sp} {P : Pk} (h : EdM w b sb x P W) : W.cell? ⟨sb, 0, none⟩ = some (.int .u8 x.kd) ∧ W.cell? ⟨sb, 1, none⟩ = some (.int .i64 x.later) := cells_two h.st
theorem EdM.cState {w W : World} {b sb : Nat} {x : Sp} {P : Pk} (h : EdM w b sb x P W) (t : Int) : Calls Try.prog 23 #[.pointer (some ⟨b, 0, none⟩), .int .i64 t] W fun e w' => e = .returned (.int .i64 (P.go t).st) ∧ Hid (EdM w b sb x (P.go t) w') := h.go (h.br.ok.go t) (bstate_any h.br.at' h.br.ok t)
end Go.Proofs.Ytekdbmhpdkdjjaa
