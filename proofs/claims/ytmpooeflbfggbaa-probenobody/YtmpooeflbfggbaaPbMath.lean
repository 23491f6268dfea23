/-
  Mathematics of stage 23: a prober (Pk) and what its calls make of it; the document's is the same one, but that it keeps when it asked last, in place of the wait's end (RkI).
-/
import Derived.Test.YtmpooeflbfggbaaFrames
namespace Go.Proofs.Ytmpooeflbfggbaa
open Go.RowKit
set_option linter.unusedVariables false
set_option maxRecDepth 1000000

/-- A setting: Every, Wait, Miss, Hit. -/
structure Sg where
  e : Int
  wt : Int
  m : Int
  h : Int
/-- Whether it may be. -/
def Sg.Is (s : Sg) : Prop := (1 ≤ s.e ∧ s.e ≤ 4294967296) ∧ (1 ≤ s.wt ∧ s.wt ≤ s.e) ∧ (1 ≤ s.m ∧ s.m ≤ 100) ∧ 1 ≤ s.h ∧ s.h ≤ 100
instance (s : Sg) : Decidable s.Is := by unfold Sg.Is; infer_instance
/-- A prober: setting, now, up, next, end, asked, open, misses, hits. -/
structure Pk where
  e : Int
  wt : Int
  m : Int
  h : Int
  now : Int
  up : Bool
  nx : Int
  en : Int
  ask : Int
  op : Bool
  ms : Int
  ht : Int
structure PkOk (P : Pk) : Prop where
  e : 1 ≤ P.e ∧ P.e ≤ 4294967296
  wt : 1 ≤ P.wt ∧ P.wt ≤ P.e
  m : 1 ≤ P.m ∧ P.m ≤ 100
  h : 1 ≤ P.h ∧ P.h ≤ 100
  now : 0 ≤ P.now ∧ P.now ≤ 1099511627776
  nx : 0 ≤ P.nx ∧ P.nx ≤ 1099511627776 + 4294967296
  ask : 0 ≤ P.ask ∧ P.ask ≤ P.nx
  en : P.op = true → P.en ≤ P.nx ∧ 0 ≤ P.en
  ms : 0 ≤ P.ms ∧ P.ms < P.m
  ht : 0 ≤ P.ht ∧ P.ht < P.h
/-- The time that is meant. -/
def tmZ (T now : Int) : Int := if T < now ∧ now ≤ 1099511627776 then now else T
theorem tmZ_bd {T now : Int} (h : 0 ≤ T ∧ T ≤ 1099511627776) : T ≤ tmZ T now ∧ 0 ≤ tmZ T now ∧ tmZ T now ≤ 1099511627776 := by unfold tmZ; split <;> omega
def Pk.tm (P : Pk) (t : Int) : Pk := { P with now := tmZ P.now t }
def Pk.miss (P : Pk) : Pk := if P.ms + 1 = P.m then { P with op := false, ht := 0, up := false, ms := 0 } else { P with op := false, ht := 0, ms := P.ms + 1 }
/-- Its time has come. -/
def Pk.late (P : Pk) : Bool := P.op && decide (P.en ≤ P.now)
def Pk.go (P : Pk) (t : Int) : Pk := if (P.tm t).late = true then (P.tm t).miss else P.tm t
def Pk.asks (P : Pk) : Pk := { P with ask := P.ask + 1, op := true, en := P.now + P.wt, nx := P.now + P.e }
def Pk.came (P : Pk) : Pk := if P.ht + 1 = P.h then { P with op := false, ms := 0, up := true, ht := 0 } else { P with op := false, ms := 0, ht := P.ht + 1 }
/-- Tick of a prober at the time of the call. -/
def Pk.tk (P : Pk) : Pk := if P.now < P.nx then P else P.asks
def Pk.tkn (P : Pk) : Int := if P.now < P.nx then 0 else P.ask + 1
def Pk.tkb (P : Pk) : Bool := decide (P.nx ≤ P.now)
/-- Pong of a prober at the time of the call. -/
def Pk.yes (P : Pk) (n : Int) : Bool := P.op && decide (n = P.ask)
def Pk.pg (P : Pk) (n : Int) : Pk := if P.yes n = true then P.came else P
def Pk.due (P : Pk) : Int := if P.op = true then (if P.nx ≤ P.en then P.nx else P.en) else P.nx
def Pk.new (s : Sg) : Pk := ⟨s.e, s.wt, s.m, s.h, 0, false, 0, 0, 0, false, 0, 0⟩
variable {P : Pk}
theorem PkOk.new {s : Sg} (h : s.Is) : PkOk (Pk.new s) := by
  obtain ⟨h1, h2, h3, h4⟩ := h
  exact ⟨h1, h2, h3, h4, ⟨Int.le_refl 0, show (0 : Int) ≤ 1099511627776 by decide⟩, ⟨Int.le_refl 0, show (0 : Int) ≤ 1099511627776 + 4294967296 by decide⟩, ⟨Int.le_refl 0, Int.le_refl 0⟩, fun e => absurd e (by show ¬ false = true; decide), ⟨Int.le_refl 0, by show (0 : Int) < s.m; omega⟩, ⟨Int.le_refl 0, by show (0 : Int) < s.h; omega⟩⟩
theorem PkOk.tm (h : PkOk P) (t : Int) : PkOk (P.tm t) := ⟨h.e, h.wt, h.m, h.h, (tmZ_bd h.now).2, h.nx, h.ask, h.en, h.ms, h.ht⟩
theorem PkOk.miss (h : PkOk P) : PkOk P.miss := by
  have hm := h.m
  have hh := h.h
  have hs := h.ms
  unfold Pk.miss
  split
  · exact ⟨h.e, h.wt, h.m, h.h, h.now, h.nx, h.ask, fun e => absurd e (by show ¬ false = true; decide), ⟨Int.le_refl 0, by show (0 : Int) < P.m; omega⟩, ⟨Int.le_refl 0, by show (0 : Int) < P.h; omega⟩⟩
  · exact ⟨h.e, h.wt, h.m, h.h, h.now, h.nx, h.ask, fun e => absurd e (by show ¬ false = true; decide), ⟨by show 0 ≤ P.ms + 1; omega, by show P.ms + 1 < P.m; omega⟩, ⟨Int.le_refl 0, by show (0 : Int) < P.h; omega⟩⟩
theorem PkOk.go (h : PkOk P) (t : Int) : PkOk (P.go t) := by
  unfold Pk.go
  split
  · exact (h.tm t).miss
  · exact h.tm t
theorem PkOk.asks (h : PkOk P) (hn : P.nx ≤ P.now) : PkOk P.asks := by
  have he := h.e
  have hw := h.wt
  have hn2 := h.now
  have ha := h.ask
  have hx := h.nx
  exact ⟨h.e, h.wt, h.m, h.h, h.now, ⟨by show 0 ≤ P.now + P.e; omega, by show P.now + P.e ≤ _; omega⟩, ⟨by show 0 ≤ P.ask + 1; omega, by show P.ask + 1 ≤ P.now + P.e; omega⟩, fun _ => ⟨by show P.now + P.wt ≤ P.now + P.e; omega, by show 0 ≤ P.now + P.wt; omega⟩, h.ms, h.ht⟩
theorem PkOk.tk (h : PkOk P) : PkOk P.tk := by
  unfold Pk.tk
  split
  · exact h
  · exact h.asks (by omega)
theorem PkOk.came (h : PkOk P) : PkOk P.came := by
  have hm := h.m
  have hh := h.h
  have hs := h.ht
  unfold Pk.came
  split
  · exact ⟨h.e, h.wt, h.m, h.h, h.now, h.nx, h.ask, fun e => absurd e (by show ¬ false = true; decide), ⟨Int.le_refl 0, by show (0 : Int) < P.m; omega⟩, ⟨Int.le_refl 0, by show (0 : Int) < P.h; omega⟩⟩
  · exact ⟨h.e, h.wt, h.m, h.h, h.now, h.nx, h.ask, fun e => absurd e (by show ¬ false = true; decide), ⟨Int.le_refl 0, by show (0 : Int) < P.m; omega⟩, ⟨by show 0 ≤ P.ht + 1; omega, by show P.ht + 1 < P.h; omega⟩⟩
theorem PkOk.pg (h : PkOk P) (n : Int) : PkOk (P.pg n) := by
  unfold Pk.pg
  split
  · exact h.came
  · exact h
/-- Behind goOn none is open whose time has come. -/
theorem Pk.go_late (P : Pk) (t : Int) : (P.go t).late = false := by
  unfold Pk.go
  split
  · unfold Pk.miss
    split <;> rfl
  · rename_i h
    simpa using h
theorem Pk.go_open {P : Pk} (t : Int) (h : (P.go t).op = true) : (P.go t).now < (P.go t).en := by
  have := Pk.go_late P t
  unfold Pk.late at this
  rw [h] at this
  simpa using this
/-- At the time of a question none is open. -/
theorem Pk.go_shut {P : Pk} (ok : PkOk P) (t : Int) (h : (P.go t).nx ≤ (P.go t).now) : (P.go t).op = false := by
  cases hb : (P.go t).op
  · rfl
  · have h1 := Pk.go_open t hb
    have h2 := ((ok.go t).en hb).1
    omega
/-- The last question's time, as the document keeps it. -/
structure RkI (P : Pk) (a : Int) : Prop where
  at' : P.op = true → P.en = a + P.wt
  bd : 0 ≤ a ∧ a ≤ 1099511627776
theorem RkI.new (s : Sg) : RkI (Pk.new s) 0 := ⟨fun e => absurd e (by show ¬ false = true; decide), ⟨Int.le_refl 0, by decide⟩⟩
variable {a : Int}
theorem RkI.tm (h : RkI P a) (t : Int) : RkI (P.tm t) a := ⟨h.at', h.bd⟩
theorem RkI.go (h : RkI P a) (t : Int) : RkI (P.go t) a := by
  unfold Pk.go
  split
  · refine ⟨?_, h.bd⟩
    unfold Pk.miss
    split <;> exact fun e => absurd e (by show ¬ false = true; decide)
  · exact h.tm t
/-- What the document keeps behind Tick. -/
def Pk.tka (P : Pk) (a : Int) : Int := if P.now < P.nx then a else P.now
theorem RkI.tk (h : RkI P a) (ok : PkOk P) : RkI P.tk (P.tka a) := by
  unfold Pk.tk Pk.tka
  split
  · exact h
  · exact ⟨fun _ => rfl, ok.now⟩
theorem RkI.pg (h : RkI P a) (n : Int) : RkI (P.pg n) a := by
  unfold Pk.pg
  split
  · refine ⟨?_, h.bd⟩
    unfold Pk.came
    split <;> exact fun e => absurd e (by show ¬ false = true; decide)
  · exact h
theorem Pk.ask_miss (P : Pk) : P.miss.ask = P.ask := by unfold Pk.miss; split <;> rfl
theorem Pk.ask_go (P : Pk) (t : Int) : (P.go t).ask = P.ask := by
  unfold Pk.go
  split
  · rw [Pk.ask_miss]; rfl
  · rfl
theorem Pk.ask_pg (P : Pk) (n : Int) : (P.pg n).ask = P.ask := by
  unfold Pk.pg
  split
  · unfold Pk.came; split <;> rfl
  · rfl
end Go.Proofs.Ytmpooeflbfggbaa
