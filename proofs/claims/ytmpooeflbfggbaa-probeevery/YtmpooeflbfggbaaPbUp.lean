/-
  ProbeUp: its mathematics.
-/
import Derived.Test.YtmpooeflbfggbaaPbAl
namespace Go.Proofs.Ytmpooeflbfggbaa
open Go.RowKit
set_option linter.unusedVariables false
set_option maxRecDepth 1000000

/-- Behind i questions that were answered in time. -/
structure UpI (s : Sg) (i : Nat) (now : Int) (P : Pk) : Prop where
  e : P.e = s.e
  wt : P.wt = s.wt
  m : P.m = s.m
  h : P.h = s.h
  nx : P.nx = now
  nw : P.now ≤ now
  op : P.op = false
  ms : P.ms = 0
  bd : 0 ≤ now ∧ now ≤ i * 4294967296
  lo : (i : Int) < s.h → P.up = false ∧ P.ht = i
  hi : s.h ≤ (i : Int) → P.up = true
theorem UpI.new {s : Sg} (h : s.Is) : UpI s 0 0 (Pk.new s) := ⟨rfl, rfl, rfl, rfl, rfl, Int.le_refl _, rfl, rfl, ⟨Int.le_refl _, by omega⟩, fun _ => ⟨rfl, rfl⟩, fun hx => by have := h.2.2.2.1; have : s.h ≤ 0 := hx; omega⟩
/-- A time that is reached, none being open. -/
theorem Pk.go_to {P : Pk} {t : Int} (ho : P.op = false) (h : P.now ≤ t) (h2 : t ≤ 1099511627776) : P.go t = { P with now := t } := by
  have e : P.tm t = { P with now := t } := by
    unfold Pk.tm tmZ
    split
    · rfl
    · have : P.now = t := by omega
      rw [this]
  unfold Pk.go Pk.late
  rw [e]
  simp [ho]
/-- A time that is reached, one being open whose end is later. -/
theorem Pk.go_wait {P : Pk} {t : Int} (h : P.now ≤ t) (h2 : t ≤ 1099511627776) (h3 : t < P.en) : P.go t = { P with now := t } := by
  have e : P.tm t = { P with now := t } := by
    unfold Pk.tm tmZ
    split
    · rfl
    · have : P.now = t := by omega
      rw [this]
  have e2 : ({ P with now := t } : Pk).late = false := by
    unfold Pk.late
    rw [decide_eq_false (show ¬ P.en ≤ t by omega)]
    simp
  unfold Pk.go
  rw [e, e2, if_neg (by decide)]
/-- A time that is reached, one being open whose end has come. -/
theorem Pk.go_end {P : Pk} {t : Int} (ho : P.op = true) (h : P.now ≤ t) (h2 : t ≤ 1099511627776) (h3 : P.en ≤ t) : P.go t = ({ P with now := t } : Pk).miss := by
  have e : P.tm t = { P with now := t } := by
    unfold Pk.tm tmZ
    split
    · rfl
    · have : P.now = t := by omega
      rw [this]
  have e2 : ({ P with now := t } : Pk).late = true := by
    unfold Pk.late
    rw [decide_eq_true (show P.en ≤ t from h3)]
    simp [ho]
  unfold Pk.go
  rw [e, e2, if_pos rfl]
/-- A question is asked at its time, none being open. -/
theorem Pk.tick_to {P : Pk} {t : Int} (ho : P.op = false) (h : P.now ≤ t) (h2 : t ≤ 1099511627776) (h3 : P.nx = t) : (P.go t).tkn = P.ask + 1 ∧ (P.go t).tkb = true ∧ (P.go t).tk = { P with now := t, ask := P.ask + 1, op := true, en := t + P.wt, nx := t + P.e } := by
  rw [Pk.go_to ho h h2]
  refine ⟨if_neg (show ¬ t < P.nx by omega), decide_eq_true (show P.nx ≤ t by omega), ?_⟩
  exact if_neg (show ¬ t < P.nx by omega)
theorem UpI.tick {s : Sg} {i : Nat} {now : Int} {P : Pk} (hs : s.Is) (hi : i ≤ 150) (h : UpI s i now P) : (P.go now).tkb = true ∧ (((P.go now).tk).go (now + s.wt - 1)).yes (P.go now).tkn = true ∧ UpI s (i + 1) (now + s.e) ((((P.go now).tk).go (now + s.wt - 1)).pg (P.go now).tkn) ∧ ((((P.go now).tk).go (now + s.wt - 1)).pg (P.go now).tkn).up = decide (s.h ≤ (i : Int) + 1) := by
  obtain ⟨⟨e0, e1⟩, ⟨t0, t1⟩, ⟨m0, m1⟩, h0, h1⟩ := hs
  have hb := h.bd
  have ew := h.wt
  obtain ⟨q1, q2, q3⟩ := Pk.tick_to h.op h.nw (by omega) h.nx
  rw [q1, q2, q3]
  obtain ⟨P2, hP2⟩ : ∃ P2 : Pk, P2 = { P with now := now, ask := P.ask + 1, op := true, en := now + P.wt, nx := now + P.e } := ⟨_, rfl⟩
  have g : P2.go (now + s.wt - 1) = { P2 with now := now + s.wt - 1 } := Pk.go_wait (by rw [hP2]; show now ≤ _; omega) (by omega) (by rw [hP2]; show _ < now + P.wt; omega)
  rw [← hP2, g]
  have y : ({ P2 with now := now + s.wt - 1 } : Pk).yes (P.ask + 1) = true := by
    unfold Pk.yes
    rw [hP2]
    simp
  have eg : ({ P2 with now := now + s.wt - 1 } : Pk).pg (P.ask + 1) = ({ P2 with now := now + s.wt - 1 } : Pk).came := by
    unfold Pk.pg
    rw [y, if_pos rfl]
  rw [eg, y]
  refine ⟨rfl, rfl, ?_⟩
  subst hP2
  have hh := h.h
  have he := h.e
  unfold Pk.came
  by_cases hx : P.ht + 1 = P.h
  · rw [if_pos (show P.ht + 1 = P.h from hx)]
    have hge : s.h ≤ (i : Int) + 1 := by
      by_cases hl : (i : Int) < s.h
      · have := (h.lo hl).2
        omega
      · omega
    refine ⟨⟨h.e, h.wt, h.m, h.h, by show now + P.e = _; rw [he], by show now + s.wt - 1 ≤ _; omega, rfl, rfl, by omega, fun hy => by omega, fun _ => rfl⟩, ?_⟩
    exact (decide_eq_true hge).symm
  · rw [if_neg (show ¬ P.ht + 1 = P.h from hx)]
    by_cases hl : (i : Int) < s.h
    · obtain ⟨u1, u2⟩ := h.lo hl
      have hlt : ¬ s.h ≤ (i : Int) + 1 := by omega
      refine ⟨⟨h.e, h.wt, h.m, h.h, by show now + P.e = _; rw [he], by show now + s.wt - 1 ≤ _; omega, rfl, rfl, by omega, fun hy => ⟨u1, by show P.ht + 1 = _; omega⟩, fun hy => by omega⟩, ?_⟩
      show P.up = _
      rw [u1]
      exact (decide_eq_false hlt).symm
    · have u := h.hi (by omega)
      refine ⟨⟨h.e, h.wt, h.m, h.h, by show now + P.e = _; rw [he], by show now + s.wt - 1 ≤ _; omega, rfl, rfl, by omega, fun hy => by omega, fun _ => u⟩, ?_⟩
      show P.up = _
      rw [u]
      exact (decide_eq_true (by omega)).symm
/-- Behind j questions that were not answered. -/
structure DnI (s : Sg) (j : Nat) (now : Int) (P : Pk) : Prop where
  e : P.e = s.e
  wt : P.wt = s.wt
  m : P.m = s.m
  nx : P.nx = now
  nw : P.now ≤ now
  op : P.op = false
  bd : 0 ≤ now ∧ now ≤ (j + 130) * 4294967296
  lo : (j : Int) < s.m → P.up = true ∧ P.ms = j
theorem UpI.last {s : Sg} {i : Nat} {now : Int} {P : Pk} (h : UpI s i now P) (hi : s.h ≤ (i : Int)) (hi2 : i ≤ 130) : DnI s 0 now P := ⟨h.e, h.wt, h.m, h.nx, h.nw, h.op, by have := h.bd; omega, fun _ => ⟨h.hi hi, h.ms⟩⟩
/-- The question is asked; it is up still. -/
theorem DnI.tick {s : Sg} {j : Nat} {now : Int} {P : Pk} (hs : s.Is) (hj : (j : Int) < s.m) (h : DnI s j now P) : (P.go now).tkb = true ∧ (P.go now).tk.up = true ∧ DnI s (j + 1) (now + s.e) (((P.go now).tk.go (now + s.wt)).pg (P.go now).tk.ask) ∧ (((P.go now).tk.go (now + s.wt)).pg (P.go now).tk.ask).up = decide ((j : Int) + 1 < s.m) := by
  obtain ⟨⟨e0, e1⟩, ⟨t0, t1⟩, ⟨m0, m1⟩, h0, h1⟩ := hs
  have hb := h.bd
  have ew := h.wt
  have he := h.e
  have hm := h.m
  obtain ⟨u1, u2⟩ := h.lo hj
  obtain ⟨q1, q2, q3⟩ := Pk.tick_to h.op h.nw (by omega) h.nx
  rw [q2, q3]
  obtain ⟨P2, hP2⟩ : ∃ P2 : Pk, P2 = { P with now := now, ask := P.ask + 1, op := true, en := now + P.wt, nx := now + P.e } := ⟨_, rfl⟩
  have g : P2.go (now + s.wt) = ({ P2 with now := now + s.wt } : Pk).miss := Pk.go_end (by rw [hP2]) (by rw [hP2]; show now ≤ _; omega) (by omega) (by rw [hP2]; show now + P.wt ≤ _; omega)
  rw [← hP2, g]
  have y : (({ P2 with now := now + s.wt } : Pk).miss).yes P2.ask = false := by
    unfold Pk.yes Pk.miss
    split <;> rfl
  have eg : (({ P2 with now := now + s.wt } : Pk).miss).pg P2.ask = ({ P2 with now := now + s.wt } : Pk).miss := by
    unfold Pk.pg
    rw [y, if_neg (by decide)]
  rw [eg]
  refine ⟨rfl, by rw [hP2]; exact u1, ?_⟩
  subst hP2
  unfold Pk.miss
  by_cases hx : P.ms + 1 = P.m
  · rw [if_pos (show P.ms + 1 = P.m from hx)]
    refine ⟨⟨h.e, h.wt, h.m, by show now + P.e = _; rw [he], by show now + s.wt ≤ _; omega, rfl, by omega, fun hy => by omega⟩, ?_⟩
    exact (decide_eq_false (by omega)).symm
  · rw [if_neg (show ¬ P.ms + 1 = P.m from hx)]
    refine ⟨⟨h.e, h.wt, h.m, by show now + P.e = _; rw [he], by show now + s.wt ≤ _; omega, rfl, by omega, fun hy => ⟨u1, by show P.ms + 1 = _; omega⟩⟩, ?_⟩
    show P.up = _
    rw [u1]
    exact (decide_eq_true (by omega)).symm
end Go.Proofs.Ytmpooeflbfggbaa
