/-
  Mathematics of stage 25: a scaler (Pk) and what its calls make of it; program and document keep the same record, read in two ways.
-/
import Derived.Test.YtkkkabgljppilaaFrames
namespace Go.Proofs.Ytkkkabgljppilaa
open Go.RowKit
set_option linter.unusedVariables false
set_option maxRecDepth 1000000

/-- A setting: Min, Max, Per, Slack, UpWait, DownWait. -/
structure Sg where
  mn : Int
  mx : Int
  pr : Int
  sl : Int
  uw : Int
  dw : Int
/-- Whether these may be bounds. -/
def Bnd (a b : Int) : Prop := 0 ≤ a ∧ a ≤ b ∧ 1 ≤ b ∧ b ≤ 8
instance (a b : Int) : Decidable (Bnd a b) := by unfold Bnd; infer_instance
/-- Whether it may be. -/
def Sg.Is (s : Sg) : Prop := Bnd s.mn s.mx ∧ 1 ≤ s.pr ∧ s.pr ≤ 1000 ∧ 0 ≤ s.sl ∧ s.sl ≤ 99 ∧ (0 ≤ s.uw ∧ s.uw ≤ 4294967296) ∧ 0 ≤ s.dw ∧ s.dw ≤ 4294967296
instance (s : Sg) : Decidable s.Is := by unfold Sg.Is; infer_instance
/-- A scaler: setting, now, the last step up, the last step down (-1: never). -/
structure Pk where
  mn : Int
  mx : Int
  pr : Int
  sl : Int
  uw : Int
  dw : Int
  now : Int
  up : Int
  dn : Int
/-- The later one of two. -/
def mx2 (a b : Int) : Int := if a ≤ b then b else a
/-- When the last step was. -/
def Pk.ls (P : Pk) : Int := mx2 P.up P.dn
/-- Whether it ever was, and when. -/
def ev (t : Int) : Bool := decide (0 ≤ t)
def ea (t : Int) : Int := if 0 ≤ t then t else 0
structure PkOk (P : Pk) : Prop where
  bd : Bnd P.mn P.mx
  pr : 1 ≤ P.pr ∧ P.pr ≤ 1000
  sl : 0 ≤ P.sl ∧ P.sl ≤ 99
  uw : 0 ≤ P.uw ∧ P.uw ≤ 4294967296
  dw : 0 ≤ P.dw ∧ P.dw ≤ 4294967296
  now : 0 ≤ P.now ∧ P.now ≤ 1099511627776
  up : -1 ≤ P.up ∧ P.up ≤ P.now
  dn : -1 ≤ P.dn ∧ P.dn ≤ P.now
/-- The time that is meant. -/
def tmZ (T now : Int) : Int := if T < now ∧ now ≤ 1099511627776 then now else T
theorem tmZ_bd {T now : Int} (h : 0 ≤ T ∧ T ≤ 1099511627776) : T ≤ tmZ T now ∧ 0 ≤ tmZ T now ∧ tmZ T now ≤ 1099511627776 := by unfold tmZ; split <;> omega
def Pk.tm (P : Pk) (t : Int) : Pk := { P with now := tmZ P.now t }
/-- How many have room for a load, at most eight. -/
def nd (pr load : Int) : Int := if load ≤ 0 then 0 else if load ≤ pr then 1 else if load ≤ 2 * pr then 2 else if load ≤ 3 * pr then 3 else if load ≤ 4 * pr then 4 else if load ≤ 5 * pr then 5 else if load ≤ 6 * pr then 6 else if load ≤ 7 * pr then 7 else 8
theorem nd_cases (pr load : Int) (hp : 1 ≤ pr) : (nd pr load = 0 ∧ load ≤ 0) ∨ (nd pr load = 1 ∧ 0 < load ∧ load ≤ pr) ∨ (nd pr load = 2 ∧ pr < load ∧ load ≤ 2 * pr) ∨ (nd pr load = 3 ∧ 2 * pr < load ∧ load ≤ 3 * pr) ∨ (nd pr load = 4 ∧ 3 * pr < load ∧ load ≤ 4 * pr) ∨ (nd pr load = 5 ∧ 4 * pr < load ∧ load ≤ 5 * pr) ∨ (nd pr load = 6 ∧ 5 * pr < load ∧ load ≤ 6 * pr) ∨ (nd pr load = 7 ∧ 6 * pr < load ∧ load ≤ 7 * pr) ∨ (nd pr load = 8 ∧ 7 * pr < load) := by
  unfold nd
  by_cases h0 : load ≤ 0
  · rw [if_pos h0]; exact .inl ⟨rfl, h0⟩
  rw [if_neg h0]
  by_cases h1 : load ≤ pr
  · rw [if_pos h1]; exact .inr (.inl ⟨rfl, by omega, h1⟩)
  rw [if_neg h1]
  by_cases h2 : load ≤ 2 * pr
  · rw [if_pos h2]; exact .inr (.inr (.inl ⟨rfl, by omega, h2⟩))
  rw [if_neg h2]
  by_cases h3 : load ≤ 3 * pr
  · rw [if_pos h3]; exact .inr (.inr (.inr (.inl ⟨rfl, by omega, h3⟩)))
  rw [if_neg h3]
  by_cases h4 : load ≤ 4 * pr
  · rw [if_pos h4]; exact .inr (.inr (.inr (.inr (.inl ⟨rfl, by omega, h4⟩))))
  rw [if_neg h4]
  by_cases h5 : load ≤ 5 * pr
  · rw [if_pos h5]; exact .inr (.inr (.inr (.inr (.inr (.inl ⟨rfl, by omega, h5⟩)))))
  rw [if_neg h5]
  by_cases h6 : load ≤ 6 * pr
  · rw [if_pos h6]; exact .inr (.inr (.inr (.inr (.inr (.inr (.inl ⟨rfl, by omega, h6⟩))))))
  rw [if_neg h6]
  by_cases h7 : load ≤ 7 * pr
  · rw [if_pos h7]; exact .inr (.inr (.inr (.inr (.inr (.inr (.inr (.inl ⟨rfl, by omega, h7⟩)))))))
  rw [if_neg h7]
  exact .inr (.inr (.inr (.inr (.inr (.inr (.inr (.inr ⟨rfl, by omega⟩)))))))
theorem nd_bd {pr : Int} (hp : 1 ≤ pr) (load : Int) : 0 ≤ nd pr load ∧ nd pr load ≤ 8 := by
  rcases nd_cases pr load hp with h | h | h | h | h | h | h | h | h <;> omega
theorem nd_le {pr load k : Int} (hp : 1 ≤ pr) (h0 : 0 ≤ k) (h7 : k ≤ 7) : load ≤ k * pr ↔ nd pr load ≤ k := by
  have hc := nd_cases pr load hp
  generalize nd pr load = n at *
  rcases (by omega : k = 0 ∨ k = 1 ∨ k = 2 ∨ k = 3 ∨ k = 4 ∨ k = 5 ∨ k = 6 ∨ k = 7) with rfl | rfl | rfl | rfl | rfl | rfl | rfl | rfl <;> rcases hc with h | h | h | h | h | h | h | h | h <;> omega
theorem nd_top {pr load : Int} (hp : 1 ≤ pr) (h : 7 * pr < load) : nd pr load = 8 := by
  rcases nd_cases pr load hp with h | h | h | h | h | h | h | h | h <;> omega
theorem kpr_bd {pr k : Int} (hp : 1 ≤ pr ∧ pr ≤ 1000) (h : 0 ≤ k ∧ k ≤ 8) : 0 ≤ k * pr ∧ k * pr ≤ 8000 := by
  rcases (by omega : k = 0 ∨ k = 1 ∨ k = 2 ∨ k = 3 ∨ k = 4 ∨ k = 5 ∨ k = 6 ∨ k = 7 ∨ k = 8) with rfl | rfl | rfl | rfl | rfl | rfl | rfl | rfl | rfl <;> omega
/-- A load, as the document counts it in a step. -/
def ldc (load : Int) : Int := if (if load ≤ 0 then 0 else load) ≤ 1099511627776 then (if load ≤ 0 then 0 else load) else 1099511627776
theorem ldc_of (load : Int) : (load ≤ 0 ∧ ldc load = 0) ∨ (0 < load ∧ load ≤ 1099511627776 ∧ ldc load = load) ∨ (1099511627776 < load ∧ ldc load = 1099511627776) := by
  unfold ldc
  by_cases h1 : load ≤ 0
  · rw [if_pos h1, if_pos (by decide)]
    exact .inl ⟨h1, rfl⟩
  · rw [if_neg h1]
    by_cases h2 : load ≤ 1099511627776
    · rw [if_pos h2]
      exact .inr (.inl ⟨by omega, h2, rfl⟩)
    · rw [if_neg h2]
      exact .inr (.inr ⟨by omega, rfl⟩)
theorem ldc_bd (load : Int) : 0 ≤ ldc load ∧ ldc load ≤ 1099511627776 := by
  rcases ldc_of load with h | h | h <;> omega
theorem nd_ldc {pr : Int} (hp : 1 ≤ pr ∧ pr ≤ 1000) (load : Int) : nd pr (ldc load) = nd pr load := by
  rcases ldc_of load with ⟨h1, e⟩ | ⟨h1, h2, e⟩ | ⟨h1, e⟩
  · rw [e]
    unfold nd
    rw [if_pos h1, if_pos (Int.le_refl 0)]
  · rw [e]
  · rw [e, nd_top hp.1 (by omega), nd_top hp.1 (by omega)]
/-- Want: the lesser of the greater. -/
def Pk.want (P : Pk) (load : Int) : Int := if mx2 (nd P.pr load) P.mn ≤ P.mx then mx2 (nd P.pr load) P.mn else P.mx
variable {P : Pk}
theorem Pk.want_bd (ok : PkOk P) (load : Int) : P.mn ≤ P.want load ∧ P.want load ≤ P.mx := by
  obtain ⟨b1, b2, b3, b4⟩ := ok.bd
  unfold Pk.want mx2
  repeat' split
  all_goals omega
theorem Pk.want_ldc (ok : PkOk P) (load : Int) : P.want (ldc load) = P.want load := by unfold Pk.want; rw [nd_ldc ok.pr]
/-- The program's loop: this many it is. -/
theorem Pk.want_hit (ok : PkOk P) {load k : Int} (h0 : 0 ≤ k) (hm : k < P.mx) (hk : k ≤ mx2 (nd P.pr load) P.mn) (h1 : P.mn ≤ k) (h2 : load ≤ k * P.pr) : P.want load = k := by
  obtain ⟨b1, b2, b3, b4⟩ := ok.bd
  have := (nd_le (load := load) ok.pr.1 h0 (by omega)).1 h2
  unfold Pk.want
  have e : mx2 (nd P.pr load) P.mn = k := by
    unfold mx2 at *
    split at hk <;> omega
  rw [e, if_pos (by omega)]
/-- One more. -/
theorem Pk.want_miss (ok : PkOk P) {load k : Int} (h0 : 0 ≤ k) (hm : k < P.mx) (hk : k ≤ mx2 (nd P.pr load) P.mn) (h : ¬ (P.mn ≤ k ∧ load ≤ k * P.pr)) : k + 1 ≤ mx2 (nd P.pr load) P.mn := by
  obtain ⟨b1, b2, b3, b4⟩ := ok.bd
  have := nd_le (load := load) ok.pr.1 h0 (by omega)
  rw [this] at h
  unfold mx2 at *
  split at hk <;> omega
/-- None below Max. -/
theorem Pk.want_end {load : Int} (hk : P.mx ≤ mx2 (nd P.pr load) P.mn) : P.want load = P.mx := by
  unfold Pk.want
  split <;> omega
/-- How many live, from 0. -/
def lv (live : Int) : Int := if live ≤ 0 then 0 else live
/-- The last step up was long enough ago. -/
def Pk.agU (P : Pk) : Bool := decide (P.up < 0) || decide (P.uw ≤ P.now - P.up)
def Pk.agD (P : Pk) : Bool := decide (P.ls < 0) || decide (P.dw ≤ P.now - P.ls)
/-- What one less may bear, a hundred times. -/
def Pk.rm (P : Pk) (l : Int) : Int := (l - 1) * P.pr * (100 - P.sl)
def Pk.spr (P : Pk) (l load : Int) : Bool := decide (100 * load ≤ P.rm l)
theorem Pk.rm_bd (ok : PkOk P) {l : Int} (h1 : 1 ≤ l) (h8 : l ≤ 8) : (0 ≤ (l - 1) * P.pr ∧ (l - 1) * P.pr ≤ 8000) ∧ 0 ≤ P.rm l ∧ P.rm l ≤ 800000 := by
  have hb := kpr_bd (k := l - 1) ok.pr ⟨by omega, by omega⟩
  have hs := ok.sl
  refine ⟨hb, ?_⟩
  unfold Pk.rm
  generalize (l - 1) * P.pr = x at *
  have h2 : x * (100 - P.sl) ≤ 8000 * 100 := Int.mul_le_mul hb.2 (by omega) (by omega) (by omega)
  exact ⟨Int.mul_nonneg hb.1 (by omega), by omega⟩
/-- As the program asks it. -/
theorem Pk.spr_quo (ok : PkOk P) {l : Int} (h1 : 1 ≤ l) (h8 : l ≤ 8) (load : Int) : decide (load ≤ (P.rm l).tdiv 100) = P.spr l load := by
  have hb := (Pk.rm_bd ok h1 h8).2
  unfold Pk.spr
  rw [Int.tdiv_eq_ediv_of_nonneg hb.1]
  generalize P.rm l = x at *
  have : load ≤ x / 100 ↔ 100 * load ≤ x := by omega
  simp [this]
/-- As the document asks it. -/
theorem Pk.spr_ldc (ok : PkOk P) {l : Int} (h1 : 1 ≤ l) (h8 : l ≤ 8) (load : Int) : decide (100 * ldc load ≤ P.rm l) = P.spr l load := by
  have hb := (Pk.rm_bd ok h1 h8).2
  unfold Pk.spr
  generalize P.rm l = x at *
  have : 100 * ldc load ≤ x ↔ 100 * load ≤ x := by
    rcases ldc_of load with h | h | h <;> omega
  simp [this]
/-- Which way. -/
def Pk.dir (P : Pk) (live load : Int) : Int :=
  if P.mx < lv live then -1
  else if lv live < P.mn then 1
  else if lv live < P.want load ∧ P.agU = true then 1
  else if P.want load < lv live ∧ P.spr (lv live) load = true ∧ P.agD = true then -1
  else 0
def Pk.went (P : Pk) (d : Int) : Pk := if d = 1 then { P with up := P.now } else if d = -1 then { P with dn := P.now } else P
/-- Step. -/
def Pk.stp (P : Pk) (t live load : Int) : Int := (P.tm t).dir live load
def Pk.stpd (P : Pk) (t live load : Int) : Pk := (P.tm t).went ((P.tm t).dir live load)
/-- Set. -/
def Pk.put (P : Pk) (a b : Int) : Pk := if Bnd a b then { P with mn := a, mx := b } else P
def Pk.new (s : Sg) : Pk := ⟨s.mn, s.mx, s.pr, s.sl, s.uw, s.dw, 0, -1, -1⟩
theorem PkOk.new {s : Sg} (h : s.Is) : PkOk (Pk.new s) := by
  obtain ⟨h1, h2, h3, h4, h5, h6, h7⟩ := h
  exact ⟨h1, ⟨h2, h3⟩, ⟨h4, h5⟩, h6, h7, ⟨Int.le_refl 0, show (0 : Int) ≤ 1099511627776 by decide⟩, ⟨Int.le_refl _, show (-1 : Int) ≤ 0 by decide⟩, ⟨Int.le_refl _, show (-1 : Int) ≤ 0 by decide⟩⟩
theorem PkOk.tm (h : PkOk P) (t : Int) : PkOk (P.tm t) := by
  have hb := tmZ_bd (now := t) h.now
  have hu := h.up
  have hd := h.dn
  exact ⟨h.bd, h.pr, h.sl, h.uw, h.dw, hb.2, ⟨hu.1, by show P.up ≤ tmZ P.now t; omega⟩, ⟨hd.1, by show P.dn ≤ tmZ P.now t; omega⟩⟩
theorem PkOk.went (h : PkOk P) (d : Int) : PkOk (P.went d) := by
  have hn := h.now
  unfold Pk.went
  split
  · exact ⟨h.bd, h.pr, h.sl, h.uw, h.dw, h.now, ⟨by show (-1 : Int) ≤ P.now; omega, Int.le_refl _⟩, h.dn⟩
  · split
    · exact ⟨h.bd, h.pr, h.sl, h.uw, h.dw, h.now, h.up, ⟨by show (-1 : Int) ≤ P.now; omega, Int.le_refl _⟩⟩
    · exact h
theorem PkOk.stpd (h : PkOk P) (t live load : Int) : PkOk (P.stpd t live load) := (h.tm t).went _
theorem PkOk.put (h : PkOk P) (a b : Int) : PkOk (P.put a b) := by
  unfold Pk.put
  split
  · rename_i hb
    exact ⟨hb, h.pr, h.sl, h.uw, h.dw, h.now, h.up, h.dn⟩
  · exact h
/-- Behind a step that was done now, that was the last one. -/
theorem Pk.ls_up (h : PkOk P) : ({ P with up := P.now } : Pk).ls = P.now := by
  have := h.dn
  unfold Pk.ls mx2
  show (if P.now ≤ P.dn then P.dn else P.now) = P.now
  split <;> omega
theorem Pk.ls_dn (h : PkOk P) : ({ P with dn := P.now } : Pk).ls = P.now := by
  have := h.up
  unfold Pk.ls mx2
  show (if P.up ≤ P.now then P.now else P.up) = P.now
  split <;> omega
theorem Pk.ls_bd (h : PkOk P) : -1 ≤ P.ls ∧ P.ls ≤ P.now := by
  have := h.up
  have := h.dn
  unfold Pk.ls mx2
  split <;> omega
theorem ev_now {t : Int} (h : 0 ≤ t) : ev t = true := decide_eq_true h
theorem ea_now {t : Int} (h : 0 ≤ t) : ea t = t := if_pos h
theorem Pk.dir_in (P : Pk) (live load : Int) : P.dir live load = 1 ∨ P.dir live load = -1 ∨ P.dir live load = 0 := by
  unfold Pk.dir
  repeat' split
  all_goals simp
end Go.Proofs.Ytkkkabgljppilaa
