/-
  Mathematics of stage 22: a breaker of the program cell by cell (Pk) and what its calls make of it; a breaker by the document (Rk); how they are alike (Sim).
-/
import Derived.Test.YtekdbmhpdkdjjaaFrames
namespace Go.Proofs.Ytekdbmhpdkdjjaa
open Go.RowKit
set_option linter.unusedVariables false
set_option maxRecDepth 1000000

theorem x01 : ¬ (0 : Int) = 1 := by decide
theorem x02 : ¬ (0 : Int) = 2 := by decide
theorem x10 : ¬ (1 : Int) = 0 := by decide
theorem x12 : ¬ (1 : Int) = 2 := by decide
theorem x20 : ¬ (2 : Int) = 0 := by decide
theorem x21 : ¬ (2 : Int) = 1 := by decide
/-- A setting. -/
structure Sg where
  f : Int
  c : Int
  m : Int
  n : Int
/-- Whether it may be. -/
def Sg.Is (s : Sg) : Prop := (1 ≤ s.f ∧ s.f ≤ 1000) ∧ (1 ≤ s.n ∧ s.n ≤ 1000) ∧ 1 ≤ s.c ∧ s.c ≤ s.m ∧ s.m ≤ 4294967296
/-- A breaker of the program: setting, now, state, cool, failures, until, trial, successes. -/
structure Pk where
  f : Int
  c : Int
  m : Int
  n : Int
  now : Int
  st : Int
  cool : Int
  fn : Int
  fm : Int
  un : Int
  tr : Bool
  sn : Int
  sm : Int
structure PkOk (P : Pk) : Prop where
  f : 1 ≤ P.f ∧ P.f ≤ 1000
  n : 1 ≤ P.n ∧ P.n ≤ 1000
  c : 1 ≤ P.c ∧ P.c ≤ P.m
  m : P.m ≤ 4294967296
  now : 0 ≤ P.now ∧ P.now ≤ 1099511627776
  st : P.st = 0 ∨ P.st = 1 ∨ P.st = 2
  cool : P.c ≤ P.cool ∧ P.cool ≤ P.m
  fm : P.fm = P.f
  cl : P.st = 0 → 0 ≤ P.fn ∧ P.fn < P.f
  op : P.st = 1 → P.now < P.un
  ha : P.st = 2 → 0 ≤ P.sn ∧ P.sn < P.n ∧ P.sm = P.n
/-- What opening asks. -/
structure PkT (P : Pk) : Prop where
  c : 1 ≤ P.c ∧ P.c ≤ P.m
  m : P.m ≤ 4294967296
  now : 0 ≤ P.now ∧ P.now ≤ 1099511627776
  cool : P.c ≤ P.cool ∧ P.cool ≤ P.m
theorem PkOk.tt {P : Pk} (h : PkOk P) : PkT P := ⟨h.c, h.m, h.now, h.cool⟩
/-- The time that is meant. -/
def tmZ (T now : Int) : Int := if T < now ∧ now ≤ 1099511627776 then now else T
theorem tmZ_bd {T now : Int} (h : 0 ≤ T ∧ T ≤ 1099511627776) : T ≤ tmZ T now ∧ 0 ≤ tmZ T now ∧ tmZ T now ≤ 1099511627776 := by unfold tmZ; split <;> omega
/-- Twice as long, but at most the most. -/
def twZ (x m : Int) : Int := if 2 * x ≤ m then 2 * x else m
def Pk.half (P : Pk) : Pk := { P with st := 2, tr := false, sn := 0, sm := P.n }
def Pk.go (P : Pk) (t : Int) : Pk := if P.now < t ∧ t ≤ 1099511627776 then (if P.st = 1 ∧ P.un ≤ t then ({ P with now := t } : Pk).half else { P with now := t }) else P
def Pk.shut (P : Pk) : Pk := ⟨P.f, P.c, P.m, P.n, P.now, 0, P.c, 0, P.f, 0, false, 0, 0⟩
def Pk.opn (P : Pk) : Pk := { P with st := 1, un := P.now + P.cool, cool := twZ P.cool P.m }
/-- Of a breaker at the time of the call. -/
def Pk.alw (P : Pk) : Pk := if P.st = 2 then { P with tr := true } else P
def Pk.may (P : Pk) : Bool := if P.st = 2 then !P.tr else decide (P.st = 0)
def Pk.oks (P : Pk) : Pk := if P.st = 0 then { P with fn := 0, fm := P.f } else if P.st = 2 then (if P.sn + 1 = P.sm then P.shut else { P with tr := false, sn := P.sn + 1 }) else P
def Pk.fls (P : Pk) : Pk := if P.st = 0 then (if P.fn + 1 = P.fm then ({ P with fn := P.fn + 1 } : Pk).opn else { P with fn := P.fn + 1 }) else if P.st = 2 then P.opn else P
def Pk.lve (P : Pk) : Pk := { P with tr := false }
def Pk.new (s : Sg) : Pk := ⟨s.f, s.c, s.m, s.n, 0, 0, s.c, 0, s.f, 0, false, 0, 0⟩
variable {P : Pk}
theorem PkOk.new {s : Sg} (h : s.Is) : PkOk (Pk.new s) := by
  obtain ⟨h1, h2, h3, h4, h5⟩ := h
  exact ⟨h1, h2, ⟨h3, h4⟩, h5, ⟨Int.le_refl 0, show (0 : Int) ≤ 1099511627776 by decide⟩, .inl rfl, ⟨Int.le_refl _, h4⟩, rfl, fun _ => ⟨Int.le_refl _, by show (0 : Int) < s.f; omega⟩, fun e => absurd e x01, fun e => absurd e x02⟩
theorem PkOk.half (h : PkOk P) : PkOk P.half := ⟨h.f, h.n, h.c, h.m, h.now, .inr (.inr rfl), h.cool, h.fm, fun e => absurd e x20, fun e => absurd e x21, fun _ => ⟨Int.le_refl _, by have := h.n; show (0 : Int) < P.n; omega, rfl⟩⟩
theorem PkOk.go (h : PkOk P) (t : Int) : PkOk (P.go t) := by
  unfold Pk.go
  split
  · rename_i ht
    have hn := h.now
    split
    · exact ⟨h.f, h.n, h.c, h.m, ⟨by show 0 ≤ t; omega, ht.2⟩, .inr (.inr rfl), h.cool, h.fm, fun e => absurd e x20, fun e => absurd e x21, fun _ => ⟨Int.le_refl _, by have := h.n; show (0 : Int) < P.n; omega, rfl⟩⟩
    · rename_i hu
      exact ⟨h.f, h.n, h.c, h.m, ⟨by show 0 ≤ t; omega, ht.2⟩, h.st, h.cool, h.fm, h.cl, fun (e : P.st = 1) => by
        show t < P.un
        have : ¬ P.un ≤ t := fun hx => hu ⟨e, hx⟩
        omega, h.ha⟩
  · exact h
theorem PkOk.shut (h : PkOk P) : PkOk P.shut := ⟨h.f, h.n, h.c, h.m, h.now, .inl rfl, ⟨Int.le_refl _, h.c.2⟩, rfl, fun _ => ⟨Int.le_refl _, by have := h.f; show (0 : Int) < P.f; omega⟩, fun e => absurd e x01, fun e => absurd e x02⟩
theorem twZ_bd {x c m : Int} (h0 : c ≤ x) (h1 : x ≤ m) (hc : 1 ≤ c) : c ≤ twZ x m ∧ twZ x m ≤ m := by unfold twZ; split <;> omega
theorem PkOk.opn (h : PkOk P) : PkOk P.opn := ⟨h.f, h.n, h.c, h.m, h.now, .inr (.inl rfl), twZ_bd h.cool.1 h.cool.2 h.c.1, h.fm, fun e => absurd e x10, fun _ => by have := h.cool; have := h.c; show P.now < P.now + P.cool; omega, fun e => absurd e x12⟩
theorem PkOk.alw (h : PkOk P) : PkOk P.alw := by
  unfold Pk.alw
  split
  · exact ⟨h.f, h.n, h.c, h.m, h.now, h.st, h.cool, h.fm, h.cl, h.op, h.ha⟩
  · exact h
theorem PkOk.oks (h : PkOk P) : PkOk P.oks := by
  unfold Pk.oks
  split
  · exact ⟨h.f, h.n, h.c, h.m, h.now, h.st, h.cool, rfl, fun _ => ⟨Int.le_refl _, by have := h.f; show (0 : Int) < P.f; omega⟩, h.op, h.ha⟩
  · split
    · rename_i h0 h2
      split
      · exact h.shut
      · have := h.ha h2
        exact ⟨h.f, h.n, h.c, h.m, h.now, h.st, h.cool, h.fm, h.cl, h.op, fun _ => ⟨by show 0 ≤ P.sn + 1; omega, by show P.sn + 1 < P.n; omega, this.2.2⟩⟩
    · exact h
theorem PkOk.fls (h : PkOk P) : PkOk P.fls := by
  unfold Pk.fls
  split
  · rename_i h0
    have h1 := h.cl h0
    have h2 := h.fm
    split
    · exact ⟨h.f, h.n, h.c, h.m, h.now, .inr (.inl rfl), twZ_bd h.cool.1 h.cool.2 h.c.1, h.fm, fun e => absurd e x10, fun _ => by have := h.cool; have := h.c; show P.now < P.now + P.cool; omega, fun e => absurd e x12⟩
    · exact ⟨h.f, h.n, h.c, h.m, h.now, h.st, h.cool, h.fm, fun _ => ⟨by show 0 ≤ P.fn + 1; omega, by show P.fn + 1 < P.f; omega⟩, h.op, h.ha⟩
  · split
    · exact h.opn
    · exact h
theorem PkOk.lve (h : PkOk P) : PkOk P.lve := ⟨h.f, h.n, h.c, h.m, h.now, h.st, h.cool, h.fm, h.cl, h.op, h.ha⟩
/-! ### The document's -/
/-- A breaker by the document: its setting, state, count, cool, until, trial, time. -/
structure Rk where
  f : Int
  c : Int
  m : Int
  n : Int
  st : Int
  cnt : Int
  cool : Int
  un : Int
  tr : Bool
  t : Int
def Rk.new (s : Sg) (t : Int) : Rk := ⟨s.f, s.c, s.m, s.n, 0, 0, s.c, 0, false, t⟩
def Rk.ltr (R : Rk) (now : Int) : Rk := if R.st = 1 ∧ R.un ≤ tmZ R.t now then { R with t := tmZ R.t now, st := 2, cnt := 0, tr := false } else { R with t := tmZ R.t now }
def Rk.alw (R : Rk) : Rk := if R.st = 2 ∧ R.tr = false then { R with tr := true } else R
def Rk.may (R : Rk) : Bool := if R.st = 2 ∧ R.tr = false then true else decide (R.st = 0)
def Rk.oks (R : Rk) : Rk := if R.st = 0 then { R with cnt := 0 } else if R.st = 2 then (if R.n ≤ R.cnt + 1 then { R with st := 0, cnt := 0, cool := R.c, tr := false } else { R with cnt := R.cnt + 1, tr := false }) else R
def Rk.lve (R : Rk) : Rk := if R.st = 2 then { R with tr := false } else R
def Rk.opn (R : Rk) : Rk := { R with st := 1, un := R.t + R.cool, cool := twZ R.cool R.m }
def Rk.fls (R : Rk) : Rk := if R.st = 1 then R else if R.st = 0 then (if R.cnt + 1 < R.f then { R with cnt := R.cnt + 1 } else ({ R with cnt := R.cnt + 1 } : Rk).opn) else R.opn
/-- They are alike. -/
structure Sim (P : Pk) (R : Rk) : Prop where
  ok : PkOk P
  f : R.f = P.f
  c : R.c = P.c
  m : R.m = P.m
  n : R.n = P.n
  t : R.t = P.now
  st : R.st = P.st
  cool : R.cool = P.cool
  cl : P.st = 0 → R.cnt = P.fn
  op : P.st = 1 → R.un = P.un
  ha : P.st = 2 → R.cnt = P.sn ∧ R.tr = P.tr
variable {R : Rk}
theorem Sim.new {s : Sg} (h : s.Is) : Sim (Pk.new s) (Rk.new s 0) := ⟨PkOk.new h, rfl, rfl, rfl, rfl, rfl, rfl, rfl, fun _ => rfl, fun _ => rfl, fun _ => ⟨rfl, rfl⟩⟩
theorem Sim.go (h : Sim P R) (t : Int) : Sim (P.go t) (R.ltr t) := by
  obtain ⟨ok, ef, ec, em, en, et, es, eo, cl, op, ha⟩ := h
  have ok2 := ok.go t
  obtain ⟨Rf, Rc, Rm, Rn, Rst, Rcnt, Rcool, Run, Rtr, Rt⟩ := R
  simp only at ef ec em en et es eo cl op ha
  subst ef ec em en et es eo
  by_cases ht : P.now < t ∧ t ≤ 1099511627776
  · have e : tmZ P.now t = t := if_pos ht
    by_cases h1 : P.st = 1
    · have e2 := op h1
      subst e2
      by_cases hu : P.un ≤ t
      · have eP : P.go t = ({ P with now := t } : Pk).half := by unfold Pk.go; rw [if_pos ht, if_pos ⟨h1, hu⟩]
        rw [eP] at ok2 ⊢
        unfold Rk.ltr
        simp only [e, h1, hu, and_self, if_true]
        exact ⟨ok2, rfl, rfl, rfl, rfl, rfl, rfl, rfl, fun e => absurd e x20, fun e => absurd e x21, fun _ => ⟨rfl, rfl⟩⟩
      · have eP : P.go t = { P with now := t } := by unfold Pk.go; rw [if_pos ht, if_neg (fun h => hu h.2)]
        rw [eP] at ok2 ⊢
        unfold Rk.ltr
        simp only [e, hu, and_false, if_false]
        exact ⟨ok2, rfl, rfl, rfl, rfl, rfl, rfl, rfl, cl, fun _ => rfl, ha⟩
    · have eP : P.go t = { P with now := t } := by unfold Pk.go; rw [if_pos ht, if_neg (fun h => h1 h.1)]
      rw [eP] at ok2 ⊢
      unfold Rk.ltr
      simp only [e, h1, false_and, if_false]
      exact ⟨ok2, rfl, rfl, rfl, rfl, rfl, rfl, rfl, cl, op, ha⟩
  · have e : tmZ P.now t = P.now := if_neg ht
    have eP : P.go t = P := by unfold Pk.go; rw [if_neg ht]
    rw [eP] at ok2 ⊢
    unfold Rk.ltr
    have hno : ¬ (P.st = 1 ∧ Run ≤ P.now) := fun ⟨h1, h2⟩ => by have := ok.op h1; have := op h1; omega
    simp only [e, hno, if_false]
    exact ⟨ok2, rfl, rfl, rfl, rfl, rfl, rfl, rfl, cl, op, ha⟩
theorem Sim.st3 (h : Sim P R) : P.st = 0 ∨ P.st = 1 ∨ P.st = 2 := h.ok.st
theorem Sim.may (h : Sim P R) : P.may = R.may := by
  unfold Pk.may Rk.may
  rw [h.st]
  rcases h.st3 with e | e | e
  · simp [e]
  · simp [e]
  · have := (h.ha e).2
    rw [this]
    cases hb : P.tr <;> simp [e]
theorem Sim.alw (h : Sim P R) : Sim P.alw R.alw := by
  have ok2 := h.ok.alw
  unfold Pk.alw at ok2 ⊢
  unfold Rk.alw
  rcases h.st3 with e | e | e
  · rw [if_neg (by omega)] at ok2 ⊢
    rw [if_neg (by rw [h.st]; omega)]
    exact h
  · rw [if_neg (by omega)] at ok2 ⊢
    rw [if_neg (by rw [h.st]; omega)]
    exact h
  · rw [if_pos e] at ok2 ⊢
    have hh := h.ha e
    split
    · exact ⟨ok2, h.f, h.c, h.m, h.n, h.t, h.st, h.cool, h.cl, h.op, fun _ => ⟨hh.1, rfl⟩⟩
    · rename_i hx
      have ht : R.tr = true := by
        cases hb : R.tr
        · exact absurd ⟨h.st.trans e, hb⟩ hx
        · rfl
      exact ⟨ok2, h.f, h.c, h.m, h.n, h.t, h.st, h.cool, h.cl, h.op, fun _ => ⟨hh.1, ht⟩⟩
theorem Sim.oks (h : Sim P R) : Sim P.oks R.oks := by
  have ok2 := h.ok.oks
  unfold Pk.oks at ok2 ⊢
  unfold Rk.oks
  have hs := h.st
  rcases h.st3 with e | e | e
  · have r0 : R.st = 0 := hs.trans e
    rw [if_pos e] at ok2 ⊢
    rw [if_pos r0]
    exact ⟨ok2, h.f, h.c, h.m, h.n, h.t, h.st, h.cool, fun _ => rfl, h.op, fun (e2 : P.st = 2) => absurd (e.symm.trans e2) x02⟩
  · have r0 : ¬ R.st = 0 := by omega
    have r2 : ¬ R.st = 2 := by omega
    have p0 : ¬ P.st = 0 := by omega
    have p2 : ¬ P.st = 2 := by omega
    rw [if_neg p0, if_neg p2] at ok2 ⊢
    rw [if_neg r0, if_neg r2]
    exact h
  · have r0 : ¬ R.st = 0 := by omega
    have r2 : R.st = 2 := by omega
    have p0 : ¬ P.st = 0 := by omega
    rw [if_neg p0, if_pos e] at ok2 ⊢
    rw [if_neg r0, if_pos r2]
    have hh := h.ha e
    have ho := h.ok.ha e
    have hn := h.n
    by_cases hc : P.sn + 1 = P.sm
    · have hc2 : R.n ≤ R.cnt + 1 := by omega
      rw [if_pos hc] at ok2 ⊢
      rw [if_pos hc2]
      exact ⟨ok2, h.f, h.c, h.m, h.n, h.t, rfl, h.c, fun _ => rfl, fun e => absurd e x01, fun e => absurd e x02⟩
    · have hc2 : ¬ R.n ≤ R.cnt + 1 := by omega
      rw [if_neg hc] at ok2 ⊢
      rw [if_neg hc2]
      exact ⟨ok2, h.f, h.c, h.m, h.n, h.t, h.st, h.cool, fun (e0 : P.st = 0) => absurd e0 p0, h.op, fun _ => ⟨by show R.cnt + 1 = P.sn + 1; rw [hh.1], rfl⟩⟩
theorem Sim.opn (h : Sim P R) : Sim P.opn R.opn :=
  ⟨h.ok.opn, h.f, h.c, h.m, h.n, h.t, rfl, by show twZ R.cool R.m = twZ P.cool P.m; rw [h.cool, h.m], fun e => absurd e x10, fun _ => by show R.t + R.cool = P.now + P.cool; rw [h.t, h.cool], fun e => absurd e x12⟩
theorem Sim.fls (h : Sim P R) : Sim P.fls R.fls := by
  have ok2 := h.ok.fls
  unfold Pk.fls at ok2 ⊢
  unfold Rk.fls
  have hs := h.st
  rcases h.st3 with e | e | e
  · have r0 : R.st = 0 := hs.trans e
    have r1 : ¬ R.st = 1 := by omega
    rw [if_pos e] at ok2 ⊢
    rw [if_neg r1, if_pos r0]
    have hh := h.cl e
    have ho := h.ok.cl e
    have hf := h.f
    have hm := h.ok.fm
    by_cases hc : P.fn + 1 = P.fm
    · have hc2 : ¬ R.cnt + 1 < R.f := by omega
      rw [if_pos hc] at ok2 ⊢
      rw [if_neg hc2]
      exact ⟨ok2, h.f, h.c, h.m, h.n, h.t, rfl, by show twZ R.cool R.m = twZ P.cool P.m; rw [h.cool, h.m], fun e => absurd e x10, fun _ => by show R.t + R.cool = P.now + P.cool; rw [h.t, h.cool], fun e => absurd e x12⟩
    · have hc2 : R.cnt + 1 < R.f := by omega
      rw [if_neg hc] at ok2 ⊢
      rw [if_pos hc2]
      exact ⟨ok2, h.f, h.c, h.m, h.n, h.t, h.st, h.cool, fun _ => by show R.cnt + 1 = P.fn + 1; rw [hh], h.op, fun (e2 : P.st = 2) => absurd (e.symm.trans e2) x02⟩
  · have r1 : R.st = 1 := by omega
    have p0 : ¬ P.st = 0 := by omega
    have p2 : ¬ P.st = 2 := by omega
    rw [if_neg p0, if_neg p2] at ok2 ⊢
    rw [if_pos r1]
    exact h
  · have r0 : ¬ R.st = 0 := by omega
    have r1 : ¬ R.st = 1 := by omega
    have p0 : ¬ P.st = 0 := by omega
    rw [if_neg p0, if_pos e] at ok2 ⊢
    rw [if_neg r1, if_neg r0]
    exact h.opn
theorem Sim.lve (h : Sim P R) : Sim P.lve R.lve := by
  have ok2 := h.ok.lve
  unfold Rk.lve
  split
  · exact ⟨ok2, h.f, h.c, h.m, h.n, h.t, h.st, h.cool, h.cl, h.op, fun e => ⟨(h.ha e).1, rfl⟩⟩
  · rename_i hx
    exact ⟨ok2, h.f, h.c, h.m, h.n, h.t, h.st, h.cool, h.cl, h.op, fun (e : P.st = 2) => absurd (h.st.trans e) hx⟩
theorem Sim.shut (h : Sim P R) : Sim P.shut (Rk.new ⟨P.f, P.c, P.m, P.n⟩ R.t) := ⟨h.ok.shut, rfl, rfl, rfl, rfl, h.t, rfl, rfl, fun _ => rfl, fun _ => rfl, fun e => absurd e x02⟩
end Go.Proofs.Ytekdbmhpdkdjjaa
