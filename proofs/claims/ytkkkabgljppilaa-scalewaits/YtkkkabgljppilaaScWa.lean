/-
  ScaleWaits: its mathematics.
-/
import Derived.Test.YtkkkabgljppilaaScRe
import Derived.Test.YtkkkabgljppilaaScNo
namespace Go.Proofs.Ytkkkabgljppilaa
open Go.RowKit
set_option linter.unusedVariables false
set_option maxRecDepth 1000000

/-- Ahead of step k: the time, the last step up, the last step down. -/
structure WaI (s : Sg) (k : Nat) (now up dn : Int) (P : Pk) : Prop where
  mn : P.mn = s.mn
  mx : P.mx = s.mx
  uw : P.uw = s.uw
  dw : P.dw = s.dw
  nw : P.now = now
  eu : P.up = up
  ed : P.dn = dn
  bd : 0 ≤ now ∧ now ≤ k * 1048576
  ub : -1 ≤ up ∧ up ≤ now
  db : -1 ≤ dn ∧ dn ≤ now
theorem WaI.new (s : Sg) : WaI s 0 0 (-1) (-1) (Pk.new s) := ⟨rfl, rfl, rfl, rfl, rfl, rfl, rfl, by omega, by omega, by omega⟩
theorem WaI.step {s : Sg} {k : Nat} {now up dn : Int} {P : Pk} (hk : k < 300) (h : WaI s k now up dn P) {t : Int} (h1 : now ≤ t) (h2 : t ≤ now + 1048576) {l : Int} (hl : 0 ≤ l) (load : Int) :
    (P.stp t l load = 0 ∧ WaI s (k + 1) t up dn (P.stpd t l load)) ∨ (P.stp t l load = 1 ∧ WaI s (k + 1) t t dn (P.stpd t l load) ∧ (s.mn ≤ l → l ≤ s.mx → up < 0 ∨ s.uw ≤ t - up)) ∨ (P.stp t l load = -1 ∧ WaI s (k + 1) t up t (P.stpd t l load) ∧ (s.mn ≤ l → l ≤ s.mx → mx2 up dn < 0 ∨ s.dw ≤ t - mx2 up dn)) := by
  have hb := h.bd
  have hu := h.ub
  have hd := h.db
  have e : P.tm t = { P with now := t } := Pk.tm_to (by rw [h.nw]; exact h1) (by omega)
  unfold Pk.stp Pk.stpd
  rw [e]
  have eU : ({ P with now := t } : Pk).agU = (decide (up < 0) || decide (s.uw ≤ t - up)) := by
    rw [← h.eu, ← h.uw]
    rfl
  have eD : ({ P with now := t } : Pk).agD = (decide (mx2 up dn < 0) || decide (s.dw ≤ t - mx2 up dn)) := by
    rw [← h.eu, ← h.ed, ← h.dw]
    rfl
  have edr : ({ P with now := t } : Pk).dir l load = (if s.mx < l then -1 else if l < s.mn then 1 else if l < ({ P with now := t } : Pk).want load ∧ ({ P with now := t } : Pk).agU = true then 1 else if ({ P with now := t } : Pk).want load < l ∧ ({ P with now := t } : Pk).spr l load = true ∧ ({ P with now := t } : Pk).agD = true then -1 else 0) := by
    unfold Pk.dir
    rw [lv_of hl, ← h.mn, ← h.mx]
  rw [eU, eD] at edr
  generalize ({ P with now := t } : Pk).want load = wa at *
  generalize ({ P with now := t } : Pk).spr l load = sp at *
  have b2 : 0 ≤ t ∧ t ≤ ((k + 1 : Nat) : Int) * 1048576 := by push_cast; omega
  have w0 : WaI s (k + 1) t up dn (({ P with now := t } : Pk).went 0) := ⟨h.mn, h.mx, h.uw, h.dw, rfl, h.eu, h.ed, b2, by omega, by omega⟩
  have w1 : WaI s (k + 1) t t dn (({ P with now := t } : Pk).went 1) := ⟨h.mn, h.mx, h.uw, h.dw, rfl, rfl, h.ed, b2, by omega, by omega⟩
  have w2 : WaI s (k + 1) t up t (({ P with now := t } : Pk).went (-1)) := ⟨h.mn, h.mx, h.uw, h.dw, rfl, h.eu, rfl, b2, by omega, by omega⟩
  by_cases k1 : s.mx < l
  · rw [if_pos k1] at edr
    rw [edr]
    exact .inr (.inr ⟨rfl, w2, fun _ h => by omega⟩)
  rw [if_neg k1] at edr
  by_cases k2 : l < s.mn
  · rw [if_pos k2] at edr
    rw [edr]
    exact .inr (.inl ⟨rfl, w1, fun h _ => by omega⟩)
  rw [if_neg k2] at edr
  by_cases k3 : l < wa ∧ (decide (up < 0) || decide (s.uw ≤ t - up)) = true
  · rw [if_pos k3] at edr
    rw [edr]
    refine .inr (.inl ⟨rfl, w1, fun _ _ => ?_⟩)
    have := k3.2
    simp at this
    exact this
  rw [if_neg k3] at edr
  by_cases k4 : wa < l ∧ sp = true ∧ (decide (mx2 up dn < 0) || decide (s.dw ≤ t - mx2 up dn)) = true
  · rw [if_pos k4] at edr
    rw [edr]
    refine .inr (.inr ⟨rfl, w2, fun _ _ => ?_⟩)
    have := k4.2.2
    simp at this
    exact this
  rw [if_neg k4] at edr
  rw [edr]
  exact .inl ⟨rfl, w0⟩
/-- How many live there: from 0 to 20. -/
def l20 (n : Int) : Int := if lv n ≤ 20 then lv n else 20
theorem l20_bd (n : Int) : 0 ≤ l20 n ∧ l20 n ≤ 20 := by
  have : 0 ≤ lv n := by unfold lv; split <;> omega
  unfold l20
  split <;> omega
theorem bmin_lv (n : Int) (W : World) : (Builtin.min_ #[3, 3] 3 #[.int .i64 (lv n), .int .i64 20]).run Try.prog W = .ok (.int .i64 (l20 n)) W := bmin_i (lv n) 20 W
/-- And a step's block. -/
structure WaX (w : World) (q b sb : Nat) (s : Sg) (x : Sp) (P : Pk) (W : World) : Prop where
  up : UpW w q b s P W
  st : W.heap[sb]? = some (.cells (SpV x) 38 (0, 0))
theorem WaX.new {w W W' : World} {q b : Nat} {s : Sg} {P : Pk} (h : UpW w q b s P W) (x : Sp) (hW : W' = W.alloc (.cells (SpV x) 38)) : WaX w q b W.heap.size s x P W' := by
  subst hW
  exact ⟨h.below ((Below.refl _ _).alloc (Nat.le_refl _) _), heap_alloc_new W _⟩
/-- A step's cells. -/
structure StCs (W : World) (sb : Nat) (x : Sp) : Prop where
  kd : W.cell? ⟨sb, 0, none⟩ = some (.bool x.sb)
  later : W.cell? ⟨sb, 1, none⟩ = some (.int .i64 x.later)
  live : W.cell? ⟨sb, 2, none⟩ = some (.int .i64 x.live)
  load : W.cell? ⟨sb, 3, none⟩ = some (.int .i64 x.load)
theorem WaX.cells {w W : World} {q b sb : Nat} {s : Sg} {x : Sp} {P : Pk} (h : WaX w q b sb s x P W) : StCs W sb x := by
  have hc := h.st
  refine ⟨?_, ?_, ?_, ?_⟩ <;> (rw [cell_of_row _ _ _ _ _ _ hc]; rfl)
end Go.Proofs.Ytkkkabgljppilaa
