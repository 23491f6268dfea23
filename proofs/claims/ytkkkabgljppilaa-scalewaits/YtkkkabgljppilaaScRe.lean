/-
  ScaleRests: its mathematics. What stands in the loops of ScaleRests and ScaleWaits (UpW).
-/
import Derived.Test.YtkkkabgljppilaaScAl
namespace Go.Proofs.Ytkkkabgljppilaa
open Go.RowKit
set_option linter.unusedVariables false
set_option maxRecDepth 1000000

theorem mx2_of (a b : Int) : a ≤ mx2 a b ∧ b ≤ mx2 a b ∧ (mx2 a b = a ∨ mx2 a b = b) := by
  unfold mx2
  by_cases h : a ≤ b
  · rw [if_pos h]; exact ⟨h, Int.le_refl _, .inr rfl⟩
  · rw [if_neg h]; exact ⟨Int.le_refl _, by omega, .inl rfl⟩
/-- Which way, when no wait is left. -/
def rst (s : Sg) (n load : Int) : Int :=
  if s.mx < n then -1
  else if n < s.mn then 1
  else if n < (Pk.new s).want load then 1
  else if (Pk.new s).want load < n ∧ (Pk.new s).spr n load = true then -1
  else 0
/-- Ahead of step k, at T: no wait is left. -/
structure ReI (s : Sg) (k : Nat) (T : Int) (P : Pk) : Prop where
  mn : P.mn = s.mn
  mx : P.mx = s.mx
  pr : P.pr = s.pr
  sl : P.sl = s.sl
  uw : P.uw = s.uw
  dw : P.dw = s.dw
  nw : P.now ≤ T
  bd : 0 ≤ T ∧ T ≤ k * 4294967296
  up : P.up < 0 ∨ P.up + mx2 s.uw s.dw ≤ T
  dn : P.dn < 0 ∨ P.dn + mx2 s.uw s.dw ≤ T
theorem ReI.new (s : Sg) : ReI s 0 0 (Pk.new s) := ⟨rfl, rfl, rfl, rfl, rfl, rfl, Int.le_refl _, ⟨Int.le_refl _, by omega⟩, .inl (show (-1 : Int) < 0 by decide), .inl (show (-1 : Int) < 0 by decide)⟩
theorem ReI.want {s : Sg} {k : Nat} {T : Int} {P : Pk} (h : ReI s k T P) (load : Int) : P.want load = (Pk.new s).want load := by
  unfold Pk.want
  rw [h.pr, h.mn, h.mx]
  rfl
theorem Pk.tm_to {P : Pk} {t : Int} (h : P.now ≤ t) (h2 : t ≤ 1099511627776) : P.tm t = { P with now := t } := by
  unfold Pk.tm tmZ
  split
  · rfl
  · have : P.now = t := by omega
    rw [this]
theorem lv_of {n : Int} (h : 0 ≤ n) : lv n = n := by unfold lv; split <;> omega
theorem ReI.step {s : Sg} {k : Nat} {T : Int} {P : Pk} (hs : s.Is) (hk : k < 60) (h : ReI s k T P) {n : Int} (hn : 0 ≤ n) (load : Int) : P.stp T n load = rst s n load ∧ ReI s (k + 1) (T + mx2 s.uw s.dw) (P.stpd T n load) := by
  obtain ⟨hs1, hs2, hs3, hs4, hs5, ⟨hs6, hs7⟩, hs8, hs9⟩ := hs
  have hb := h.bd
  have hnw := h.nw
  obtain ⟨m1, m2, m3⟩ := mx2_of s.uw s.dw
  have e : P.tm T = { P with now := T } := Pk.tm_to h.nw (by omega)
  unfold Pk.stp Pk.stpd
  rw [e]
  have hU : ({ P with now := T } : Pk).agU = true := by
    unfold Pk.agU
    show (decide (P.up < 0) || decide (P.uw ≤ T - P.up)) = true
    rw [h.uw]
    rcases h.up with h1 | h1
    · rw [decide_eq_true h1]; rfl
    · rw [decide_eq_true (show s.uw ≤ T - P.up by omega)]; simp
  have hD : ({ P with now := T } : Pk).agD = true := by
    unfold Pk.agD
    show (decide (mx2 P.up P.dn < 0) || decide (P.dw ≤ T - mx2 P.up P.dn)) = true
    rw [h.dw]
    obtain ⟨n1, n2, n3⟩ := mx2_of P.up P.dn
    by_cases h0 : mx2 P.up P.dn < 0
    · rw [decide_eq_true h0]; rfl
    · rw [decide_eq_true (show s.dw ≤ T - mx2 P.up P.dn by have := h.up; have := h.dn; omega)]; simp
  have hw : ({ P with now := T } : Pk).want load = (Pk.new s).want load := h.want load
  have hsp : ({ P with now := T } : Pk).spr n load = (Pk.new s).spr n load := by
    unfold Pk.spr Pk.rm
    show decide (100 * load ≤ (n - 1) * P.pr * (100 - P.sl)) = decide (100 * load ≤ (n - 1) * s.pr * (100 - s.sl))
    rw [h.pr, h.sl]
  refine ⟨?_, ?_⟩
  · unfold Pk.dir rst
    rw [lv_of hn, hU, hD, hw, hsp]
    show (if P.mx < n then -1 else if n < P.mn then 1 else _) = _
    rw [h.mn, h.mx]
    simp
  · have hw2 : ∀ d : Int, ReI s (k + 1) (T + mx2 s.uw s.dw) (({ P with now := T } : Pk).went d) := fun d => by
      have b2 : 0 ≤ T + mx2 s.uw s.dw ∧ T + mx2 s.uw s.dw ≤ ((k + 1 : Nat) : Int) * 4294967296 := by omega
      have u2 : P.up < 0 ∨ P.up + mx2 s.uw s.dw ≤ T + mx2 s.uw s.dw := h.up.imp id fun _ => by omega
      have d2 : P.dn < 0 ∨ P.dn + mx2 s.uw s.dw ≤ T + mx2 s.uw s.dw := h.dn.imp id fun _ => by omega
      unfold Pk.went
      split
      · exact ⟨h.mn, h.mx, h.pr, h.sl, h.uw, h.dw, by show T ≤ _; omega, b2, .inr (Int.le_refl _), d2⟩
      · split
        · exact ⟨h.mn, h.mx, h.pr, h.sl, h.uw, h.dw, by show T ≤ _; omega, b2, u2, .inr (Int.le_refl _)⟩
        · exact ⟨h.mn, h.mx, h.pr, h.sl, h.uw, h.dw, by show T ≤ _; omega, b2, u2, d2⟩
    exact hw2 _
theorem rst_cases (s : Sg) (n load : Int) : (rst s n load = -1 ∧ s.mx < n) ∨ (rst s n load = 1 ∧ n ≤ s.mx ∧ n < s.mn) ∨ (rst s n load = 1 ∧ n ≤ s.mx ∧ s.mn ≤ n ∧ n < (Pk.new s).want load) ∨ (rst s n load = -1 ∧ n ≤ s.mx ∧ s.mn ≤ n ∧ (Pk.new s).want load < n) ∨ (rst s n load = 0 ∧ n ≤ s.mx ∧ s.mn ≤ n ∧ (Pk.new s).want load ≤ n) := by
  unfold rst
  by_cases h1 : s.mx < n
  · rw [if_pos h1]; exact .inl ⟨rfl, h1⟩
  rw [if_neg h1]
  by_cases h2 : n < s.mn
  · rw [if_pos h2]; exact .inr (.inl ⟨rfl, by omega, h2⟩)
  rw [if_neg h2]
  by_cases h3 : n < (Pk.new s).want load
  · rw [if_pos h3]; exact .inr (.inr (.inl ⟨rfl, by omega, by omega, h3⟩))
  rw [if_neg h3]
  by_cases h4 : (Pk.new s).want load < n ∧ (Pk.new s).spr n load = true
  · rw [if_pos h4]; exact .inr (.inr (.inr (.inl ⟨rfl, by omega, by omega, h4.1⟩)))
  · rw [if_neg h4]; exact .inr (.inr (.inr (.inr ⟨rfl, by omega, by omega, by omega⟩)))
/-- Ahead of step k: n live; the last step that was none was last. -/
structure ReN (s : Sg) (load : Int) (k : Nat) (n last : Int) : Prop where
  nb : 0 ≤ n ∧ n ≤ 19
  la : 0 ≤ last ∧ last ≤ 18
  st : rst s n load = 0 ∨ ((k : Int) + (n - (Pk.new s).want load) ≤ 19 ∧ (k : Int) + ((Pk.new s).want load - n) ≤ 19)
theorem ReN.new {s : Sg} (hs : s.Is) (load : Int) {n : Int} (h : 0 ≤ n ∧ n ≤ 19) : ReN s load 0 n 0 := by
  have hw := Pk.want_bd (PkOk.new hs) load
  obtain ⟨b1, b2, b3, b4⟩ := (PkOk.new hs).bd
  exact ⟨h, by omega, .inr (by omega)⟩
theorem ReN.step {s : Sg} (hs : s.Is) {load : Int} {k : Nat} {n last : Int} (h : ReN s load k n last) : (-1 ≤ rst s n load ∧ rst s n load ≤ 1) ∧ 0 ≤ n + rst s n load ∧ (n ≤ s.mx → n + rst s n load ≤ s.mx) ∧ (s.mn ≤ n → s.mn ≤ n + rst s n load) ∧ ReN s load (k + 1) (n + rst s n load) (if rst s n load = 0 then last else k) := by
  have hw : s.mn ≤ (Pk.new s).want load ∧ (Pk.new s).want load ≤ s.mx := Pk.want_bd (PkOk.new hs) load
  obtain ⟨b1, b2, b3, b4⟩ : Bnd s.mn s.mx := (PkOk.new hs).bd
  have hc := rst_cases s n load
  have hn := h.nb
  have hl := h.la
  refine ⟨by omega, by omega, by omega, by omega, ⟨by omega, ?_, ?_⟩⟩
  · have hst := h.st
    split <;> omega
  · have hst := h.st
    by_cases h0 : rst s n load = 0
    · rw [h0, Int.add_zero]
      exact .inl h0
    · refine .inr ?_
      push_cast
      omega
theorem ReN.last {s : Sg} {load : Int} {n last : Int} (hs : s.Is) (h : ReN s load 60 n last) : s.mn ≤ n ∧ n ≤ s.mx ∧ (Pk.new s).want load ≤ n ∧ last < 45 := by
  have hc := rst_cases s n load
  have hst := h.st
  have hl := h.la
  omega
/-! ### What stands in the loop -/
/-- The setting's box, the scaler. -/
structure UpW (w : World) (q b : Nat) (s : Sg) (P : Pk) (W : World) : Prop where
  br : PkS (w.alloc (.cells (SgV s) 23)) b P W
  box : W.heap[q]? = some (.cells (SgV s) 23 (0, 0))
  q : w.heap.size = q
variable {w W W' : World} {q b : Nat} {s : Sg} {P P' : Pk}
theorem UpW.below (h : UpW w q b s P W) (hb : Below W.heap.size W W') : UpW w q b s P W' := ⟨h.br.below hb, block_bel h.box hb, h.q⟩
theorem UpW.drewN (h : UpW w q b s P W) (n : Nat) : UpW w q b s P (W.drewN n) := h.below ⟨rfl, rfl, rfl, Nat.le_refl _, fun _ _ => rfl⟩
theorem UpW.drew (h : UpW w q b s P W) : UpW w q b s P W.drew := h.drewN 1
theorem UpW.to (h : UpW w q b s P W) (hb : PkS (w.alloc (.cells (SgV s) 23)) b P' W') : UpW w q b s P' W' := ⟨hb, by
  have h1 : (w.alloc (.cells (SgV s) 23)).heap[q]? = some (.cells (SgV s) 23 (0, 0)) := by rw [← h.q]; exact heap_alloc_new w _
  exact block_bel h1 hb.bel, h.q⟩
/-- A setting's cells. -/
structure SgCs (W : World) (q : Nat) (s : Sg) : Prop where
  mn : W.cell? ⟨q, 0, none⟩ = some (.int .i64 s.mn)
  mx : W.cell? ⟨q, 1, none⟩ = some (.int .i64 s.mx)
  pr : W.cell? ⟨q, 2, none⟩ = some (.int .i64 s.pr)
  sl : W.cell? ⟨q, 3, none⟩ = some (.int .i64 s.sl)
  uw : W.cell? ⟨q, 4, none⟩ = some (.int .i64 s.uw)
  dw : W.cell? ⟨q, 5, none⟩ = some (.int .i64 s.dw)
theorem sg_cells (h : W.heap[q]? = some (.cells (SgV s) 23 (0, 0))) : SgCs W q s := by
  refine ⟨?_, ?_, ?_, ?_, ?_, ?_⟩ <;> (rw [cell_of_row _ _ _ _ _ _ h]; rfl)
theorem UpW.cells (h : UpW w q b s P W) : SgCs W q s := sg_cells h.box
theorem UpW.bel (h : UpW w q b s P W) : Below w.heap.size w W := by
  have h1 : Below w.heap.size w (w.alloc (.cells (SgV s) 23)) := (Below.refl _ _).alloc (Nat.le_refl _) _
  exact h1.trans (h.br.bel.mono h1.size)
theorem UpW.go (h : UpW w q b s P W) {f : Nat} {ar : Array Value} {v : Value} (hc : Calls Try.prog f ar W fun e w' => e = .returned v ∧ Hid (PkS (w.alloc (.cells (SgV s) 23)) b P' w')) : Calls Try.prog f ar W fun e w' => e = .returned v ∧ Hid (UpW w q b s P' w') := hc.mono fun e w' ⟨he, H⟩ => ⟨he, h.to H.out⟩
end Go.Proofs.Ytkkkabgljppilaa
