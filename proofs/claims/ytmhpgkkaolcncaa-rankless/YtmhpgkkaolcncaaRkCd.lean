/-
  Candidates and weights in memory: a slice that reads as candidates (CsAt), rows of the call's own (flatC).
-/
import Derived.Test.YtmhpgkkaolcncaaRkMath
import Derived.Deep.QuietTactic
import Derived.BigQuiet
import Derived.Deep.DeepCutAuto
import Derived.Laws.AppendOwnNone
namespace Go.Proofs.Ytmhpgkkaolcncaa
open Go.RowKit
set_option linter.unusedVariables false
set_option maxRecDepth 1000000

def isU (x : Int) : Prop := 0 ≤ x ∧ x ≤ 18446744073709551615
def isI (x : Int) : Prop := -9223372036854775808 ≤ x ∧ x ≤ 9223372036854775807
/-- A candidate's cells. -/
def CdV (c : Cd) : Array Value := #[.int .u64 c.rep, .int .i64 c.load, .int .i64 c.known, .bool c.bnd, .int .i64 c.place, .bool c.opn]
/-- Weights' cells. -/
def WtV (w : Wt) : Array Value := #[.int .i64 w.kn, .int .i64 w.ld, .int .i64 w.bd, .int .i64 w.pl]
structure CdIn (c : Cd) : Prop where
  rep : isU c.rep
  load : isI c.load
  known : isI c.known
  place : isI c.place
structure WtIn (w : Wt) : Prop where
  kn : isI w.kn
  ld : isI w.ld
  bd : isI w.bd
  pl : isI w.pl
/-- A candidate's cells at a place. -/
structure CdAt (W : World) (b o : Nat) (c : Cd) : Prop where
  c0 : W.cell? ⟨b, o, none⟩ = some (.int .u64 c.rep)
  c1 : W.cell? ⟨b, o + 1, none⟩ = some (.int .i64 c.load)
  c2 : W.cell? ⟨b, o + 2, none⟩ = some (.int .i64 c.known)
  c3 : W.cell? ⟨b, o + 3, none⟩ = some (.bool c.bnd)
  c4 : W.cell? ⟨b, o + 4, none⟩ = some (.int .i64 c.place)
  c5 : W.cell? ⟨b, o + 5, none⟩ = some (.bool c.opn)
theorem CdAt.below {W W' : World} {b o : Nat} {c : Cd} (h : CdAt W b o c) (hb : Below W.heap.size W W') : CdAt W' b o c := by
  have f : ∀ {k : Nat} {v : Value}, W.cell? ⟨b, k, none⟩ = some v → W'.cell? ⟨b, k, none⟩ = some v := fun hc => (hb.cell (World.block_lt_of_cell? _ _ hc)).trans hc
  exact ⟨f h.c0, f h.c1, f h.c2, f h.c3, f h.c4, f h.c5⟩
/-- The candidate at a place. -/
def ck (l : List Cd) (i : Nat) : Cd := l[i]?.getD ⟨0, 0, 0, false, 0, false⟩
theorem ck_get {l : List Cd} {i : Nat} (h : i < l.length) : l[i]? = some (ck l i) := by unfold ck; rw [List.getElem?_eq_getElem h]; rfl
theorem ck_mem {l : List Cd} {i : Nat} (h : i < l.length) : ck l i ∈ l := List.mem_of_getElem? (ck_get h)
theorem ck_of {l : List Cd} {i : Nat} {c : Cd} (h : l[i]? = some c) : ck l i = c := by unfold ck; rw [h]; rfl
/-- The slice reads as these candidates. -/
structure CsAt (W : World) (a : Option Addr) (len cap : Nat) (l : List Cd) : Prop where
  size : l.length = len
  room : len ≤ cap
  most : cap ≤ 9223372036854775807
  bare : a = none → len = 0 ∧ cap = 0
  cell : ∀ i, i < len → ∃ b off, a = some ⟨b, off, none⟩ ∧ CdAt W b (off + i * 6) (ck l i)
theorem CsAt.below {W W' : World} {a : Option Addr} {len cap : Nat} {l : List Cd} (h : CsAt W a len cap l) (hb : Below W.heap.size W W') : CsAt W' a len cap l :=
  ⟨h.size, h.room, h.most, h.bare, fun i hi => by
    obtain ⟨b, off, e, hc⟩ := h.cell i hi
    exact ⟨b, off, e, hc.below hb⟩⟩
theorem CsAt.nil (W : World) : CsAt W none 0 0 [] := ⟨rfl, Nat.le_refl _, by omega, fun _ => ⟨rfl, rfl⟩, fun i hi => by omega⟩
def flatC : List Cd → List Value
  | [] => []
  | c :: l => .int .u64 c.rep :: .int .i64 c.load :: .int .i64 c.known :: .bool c.bnd :: .int .i64 c.place :: .bool c.opn :: flatC l
theorem flatC_len : ∀ l : List Cd, (flatC l).length = l.length * 6
  | [] => rfl
  | c :: l => by simp [flatC, flatC_len l]; omega
theorem flatC_app : ∀ l m : List Cd, flatC (l ++ m) = flatC l ++ flatC m
  | [], m => rfl
  | c :: l, m => by simp [flatC, flatC_app l m]
theorem flatC_at : ∀ (l : List Cd) (k : Nat), k < l.length → (flatC l)[k * 6]? = some (.int .u64 (ck l k).rep) ∧ (flatC l)[k * 6 + 1]? = some (.int .i64 (ck l k).load) ∧ (flatC l)[k * 6 + 2]? = some (.int .i64 (ck l k).known) ∧ (flatC l)[k * 6 + 3]? = some (.bool (ck l k).bnd) ∧ (flatC l)[k * 6 + 4]? = some (.int .i64 (ck l k).place) ∧ (flatC l)[k * 6 + 5]? = some (.bool (ck l k).opn)
  | [], k, h => by simp at h
  | c :: l, 0, h => by simp [flatC, ck]
  | c :: l, k + 1, h => by
    have := flatC_at l k (by simpa using h)
    have e : ck (c :: l) (k + 1) = ck l k := by simp [ck]
    rw [e, show (k + 1) * 6 = k * 6 + 6 by omega, show k * 6 + 6 + 1 = (k * 6 + 1) + 6 by omega, show k * 6 + 6 + 2 = (k * 6 + 2) + 6 by omega, show k * 6 + 6 + 3 = (k * 6 + 3) + 6 by omega, show k * 6 + 6 + 4 = (k * 6 + 4) + 6 by omega, show k * 6 + 6 + 5 = (k * 6 + 5) + 6 by omega]
    exact this
theorem own_sl19 {base e size n : Nat} {v : Value} {xs : List Value} {w : World} (h : w.ownsRow base e size v n xs) : ∃ a c, v = .slice a n c := by
  rcases h.2 with ⟨hv, h0⟩ | ⟨g, c, cur, hv, _⟩
  · exact ⟨none, 0, by rw [hv, h0]⟩
  · exact ⟨_, c, hv⟩
theorem CsAt.own {W : World} {base e n : Nat} {a : Option Addr} {cap : Nat} {l : List Cd} (h : W.ownsRow base e 6 (.slice a n cap) n (flatC l)) : CsAt W a n cap l := by
  have hl : l.length = n := by have := h.1; rw [flatC_len] at this; omega
  rcases id h.2 with ⟨hv, rfl⟩ | ⟨g, cap', cur, hv, hb, hg, hnc, hm, _⟩
  · cases hv
    exact ⟨hl, Nat.le_refl _, by omega, fun _ => ⟨rfl, rfl⟩, fun i hi => by omega⟩
  · cases hv
    refine ⟨hl, hnc, by unfold maxLen at hm; omega, (fun e => by cases e), fun i hi => ⟨g, 0, rfl, ?_⟩⟩
    obtain ⟨q0, q1, q2, q3, q4, q5⟩ := flatC_at l i (by omega)
    rw [Nat.zero_add]
    exact ⟨by rw [World.ownsRow.cellAt h _ (by omega)]; exact q0, by rw [World.ownsRow.cellAt h _ (by omega)]; exact q1, by rw [World.ownsRow.cellAt h _ (by omega)]; exact q2, by rw [World.ownsRow.cellAt h _ (by omega)]; exact q3, by rw [World.ownsRow.cellAt h _ (by omega)]; exact q4, by rw [World.ownsRow.cellAt h _ (by omega)]; exact q5⟩
theorem Try.infoCd : (Try.prog.info? 36).map (fun i => (i.zero, i.size, i.bytes)) = some (some (.agg #[.int .u64 0, .int .i64 0, .int .i64 0, .bool false, .int .i64 0, .bool false]), 6, 48) := by kernel_rfl
theorem cd_one (c : Cd) : ∀ u ∈ flatC [c], u.oneCell' = true := by
  intro u hu
  simp only [flatC, List.mem_cons, List.not_mem_nil, or_false] at hu
  rcases hu with rfl | rfl | rfl | rfl | rfl | rfl <;> rfl
end Go.Proofs.Ytmhpgkkaolcncaa
