/-
  Timers: what a wheel is behind each call (the document's list: by times, of one time by numbers).
-/
import Derived.Test.YtdfbnfgemjljgaaFrames
namespace Go.Proofs.Ytdfbnfgemjljgaa
open Go.RowKit
set_option linter.unusedVariables false
set_option maxRecDepth 1000000

def isU (x : Int) : Prop := 0 ≤ x ∧ x ≤ 18446744073709551615
def isI (x : Int) : Prop := -9223372036854775808 ≤ x ∧ x ≤ 9223372036854775807
/-- A timer. -/
structure Tm where
  num : Int
  kind : Int
  label : Int
  due : Int
/-- The time behind a call. -/
def timeZ (T now : Int) : Int := if T < now ∧ now ≤ 1099511627776 then now else T
theorem timeZ_bd {T now : Int} (h : 0 ≤ T ∧ T ≤ 1099511627776) : T ≤ timeZ T now ∧ 0 ≤ timeZ T now ∧ timeZ T now ≤ 1099511627776 := by unfold timeZ; split <;> omega
/-- Is it due until then? -/
def dueB (t : Int) (x : Tm) : Bool := decide (x.due ≤ t)
/-- One more. -/
def insT (x : Tm) (L : List Tm) : List Tm := L.takeWhile (dueB x.due) ++ x :: L.dropWhile (dueB x.due)
/-- One less. -/
def stpT (n : Int) (L : List Tm) : List Tm := L.eraseP fun t => decide (t.num = n)
/-- Those of other labels. -/
def allT (lb : Int) (L : List Tm) : List Tm := L.filter fun t => decide (t.label ≠ lb)
/-- Why one more may not be; 0: it may. -/
def setC (last : Int) (L : List Tm) (after : Int) : Int := if after < 0 ∨ 1099511627776 < after then 1 else if 4096 ≤ L.length ∨ 2147483647 ≤ last then 5 else 0
/-- The one more. -/
def newT (T last after kind label : Int) : Tm := ⟨last + 1, kind, label, min (T + after) 1099511627776⟩
/-- How many stand ahead: all of them are due until then, and the next one is not. -/
theorem tw_at {p : Tm → Bool} : ∀ {L : List Tm} {i : Nat}, (∀ x ∈ L.take i, p x = true) → (∀ x, L[i]? = some x → p x = false) → i ≤ L.length → L.takeWhile p = L.take i ∧ L.dropWhile p = L.drop i
  | [], i, _, _, hi => by simp at hi; subst hi; simp
  | y :: ys, 0, _, h2, _ => by
    have := h2 y rfl
    simp [List.takeWhile, List.dropWhile, this]
  | y :: ys, i + 1, h1, h2, hi => by
    have hy := h1 y (by simp)
    have ih := tw_at (p := p) (L := ys) (i := i) (fun x hx => h1 x (by simp [hx])) (fun x hx => h2 x (by simpa using hx)) (by simpa using hi)
    simp [List.takeWhile, List.dropWhile, hy, ih.1, ih.2]
theorem stp_at {n : Int} : ∀ {L : List Tm} {i : Nat} {x : Tm}, (∀ y ∈ L.take i, y.num ≠ n) → L[i]? = some x → x.num = n → stpT n L = L.take i ++ L.drop (i + 1)
  | [], i, x, _, h, _ => by simp at h
  | y :: ys, 0, x, _, h, e => by
    obtain rfl : y = x := by simpa using h
    unfold stpT
    rw [List.eraseP_cons_of_pos (by simpa using e)]
    simp
  | y :: ys, i + 1, x, h1, h, e => by
    have hy := h1 y (by simp)
    unfold stpT
    rw [List.eraseP_cons_of_neg (by simpa using hy)]
    have ih := stp_at (n := n) (L := ys) (i := i) (fun z hz => h1 z (by simp [hz])) (by simpa using h) e
    unfold stpT at ih
    rw [ih]
    simp
theorem stp_none {n : Int} {L : List Tm} (h : ∀ y ∈ L, y.num ≠ n) : stpT n L = L := by
  unfold stpT
  exact List.eraseP_of_forall_not (by simpa using h)
def tk (l : List Tm) (i : Nat) : Tm := l[i]?.getD ⟨0, 0, 0, 0⟩
theorem tk_get {l : List Tm} {i : Nat} (h : i < l.length) : l[i]? = some (tk l i) := by unfold tk; rw [List.getElem?_eq_getElem h]; rfl
theorem tk_mem {l : List Tm} {i : Nat} (h : i < l.length) : tk l i ∈ l := List.mem_of_getElem? (tk_get h)
theorem take_tk {l : List Tm} {i : Nat} (h : i < l.length) : l.take (i + 1) = l.take i ++ [tk l i] := by rw [List.take_add_one, tk_get h]; rfl
def flatT : List Tm → List Value
  | [] => []
  | t :: l => .int .i64 t.num :: .int .i64 t.kind :: .int .u64 t.label :: .int .i64 t.due :: flatT l
theorem flatT_len : ∀ l : List Tm, (flatT l).length = l.length * 4
  | [] => rfl
  | c :: l => by simp [flatT, flatT_len l]; omega
theorem flatT_app : ∀ l m : List Tm, flatT (l ++ m) = flatT l ++ flatT m
  | [], m => rfl
  | c :: l, m => by simp [flatT, flatT_app l m]
theorem flatT_at : ∀ (l : List Tm) (k : Nat), k < l.length → (flatT l)[k * 4]? = some (.int .i64 (tk l k).num) ∧ (flatT l)[k * 4 + 1]? = some (.int .i64 (tk l k).kind) ∧ (flatT l)[k * 4 + 2]? = some (.int .u64 (tk l k).label) ∧ (flatT l)[k * 4 + 3]? = some (.int .i64 (tk l k).due)
  | [], k, h => by simp at h
  | c :: l, 0, h => by simp [flatT, tk]
  | c :: l, k + 1, h => by
    have := flatT_at l k (by simpa using h)
    have e : tk (c :: l) (k + 1) = tk l k := by simp [tk]
    rw [e, show (k + 1) * 4 = k * 4 + 4 by omega, show k * 4 + 4 + 1 = (k * 4 + 1) + 4 by omega, show k * 4 + 4 + 2 = (k * 4 + 2) + 4 by omega, show k * 4 + 4 + 3 = (k * 4 + 3) + 4 by omega]
    exact this
theorem flatT_one (l : List Tm) : ∀ u ∈ flatT l, u.oneCell' = true := by
  induction l with
  | nil => simp [flatT]
  | cons c l ih =>
    intro u hu
    simp only [flatT, List.mem_cons] at hu
    rcases hu with rfl | rfl | rfl | rfl | hu
    · rfl
    · rfl
    · rfl
    · rfl
    · exact ih u hu
end Go.Proofs.Ytdfbnfgemjljgaa
