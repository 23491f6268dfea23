/-
  BreakerEnds.
-/
import Derived.Test.YtekdbmhpdkdjjaaBrAl
import Derived.Deep.RegionHeld3
namespace Go.Proofs.Ytekdbmhpdkdjjaa
open Go.RowKit
set_option linter.unusedVariables false
set_option maxRecDepth 1000000

/-- A time that the breaker has already. -/
theorem Pk.go_same {P : Pk} {t : Int} (h : t ≤ P.now) : P.go t = P := by unfold Pk.go; rw [if_neg (by omega)]
theorem bstate_same {b : Nat} {w : World} {P : Pk} (h : PkAt w b P) (ok : PkOk P) {t : Int} (ht : t ≤ P.now) : Calls Try.prog 23 #[.pointer (some ⟨b, 0, none⟩), .int .i64 t] w fun e w' => e = .returned (.int .i64 P.st) ∧ w' = w := by
  have hM := bmade_yes h ok
  have c4 := h.cells.2.2.2.2.1
  have c5 := h.cells.2.2.2.2.2.1
  have hG : Calls Try.prog 29 #[.pointer (some ⟨b, 0, none⟩), .int .i64 t] w fun e w' => e = .returned (.tuple #[]) ∧ w' = w := by
    clear hM c5 h ok
    go_enter Try.func29, Try.ntmps29
    go_wp2
    refine bodyPost_ret (results_none rfl _ _ _) rfl ?_
    exact ⟨rfl, rfl⟩
  clear h ok ht c4
  go_enter Try.func23, Try.ntmps23
  go_wp2_with fail
  refine hM.mono ?_
  rintro e w1 ⟨rfl, rfl⟩
  go_wp2_with fail
  refine hG.mono ?_
  rintro e w1 ⟨rfl, rfl⟩
  go_wp2_with fail
  go_ret
  exact ⟨rfl, rfl⟩
/-- Behind k failures. -/
structure EnI (s : Sg) (k : Nat) (now : Int) (P : Pk) : Prop where
  f : P.f = s.f
  c : P.c = s.c
  m : P.m = s.m
  n : P.n = s.n
  nw : P.now = now
  bd : 0 ≤ now ∧ now ≤ k * 4294967296
  cl : (k : Int) < s.f → P.st = 0 ∧ P.fn = k ∧ P.cool = s.c
  ha : s.f ≤ (k : Int) → P.st = 2 ∧ P.sn = 0 ∧ P.tr = false ∧ P.sm = s.n
theorem EnI.new {s : Sg} (h : s.Is) : EnI s 0 0 (Pk.new s) := ⟨rfl, rfl, rfl, rfl, rfl, ⟨Int.le_refl _, by omega⟩, fun _ => ⟨rfl, rfl, rfl⟩, fun hx => by have := h.1.1; omega⟩
theorem EnI.opened {s : Sg} {k : Nat} {now : Int} {P : Pk} (hs : s.Is) (hk : k ≤ 100) (h : EnI s k now P) (ok : PkOk P) (hf : s.f ≤ (k : Int) + 1) {P0 : Pk} (hP : P0 = { P with fn := P0.fn }) : P0.opn.st = 1 ∧ P0.opn.now = now ∧ (P0.opn.go (now + s.m)).st = 2 ∧ EnI s (k + 1) (now + s.m) (P0.opn.go (now + s.m)) := by
  obtain ⟨_, _, s1, s2, s3⟩ := hs
  have hbd := h.bd
  have e0 : P0.now = now := by rw [hP]; exact h.nw
  have ecool : P0.cool = P.cool := by rw [hP]
  have hc := ok.cool
  have hm := h.m
  have e1 : P0.opn.go (now + s.m) = ({ P0.opn with now := now + s.m } : Pk).half := by
    have h1 : P0.opn.now < now + s.m ∧ now + s.m ≤ 1099511627776 := by show P0.now < now + s.m ∧ now + s.m ≤ 1099511627776; omega
    have h2 : P0.opn.st = 1 ∧ P0.opn.un ≤ now + s.m := ⟨rfl, by show P0.now + P0.cool ≤ now + s.m; omega⟩
    unfold Pk.go
    rw [if_pos h1, if_pos h2]
  rw [e1]
  refine ⟨rfl, e0, rfl, ?_⟩
  refine ⟨by show P0.f = s.f; rw [hP]; exact h.f, by show P0.c = s.c; rw [hP]; exact h.c, by show P0.m = s.m; rw [hP]; exact h.m, by show P0.n = s.n; rw [hP]; exact h.n, rfl, by omega, fun hx => by omega, fun _ => ⟨rfl, rfl, rfl, by show P0.n = s.n; rw [hP]; exact h.n⟩⟩
theorem EnI.step {s : Sg} {k : Nat} {now : Int} {P : Pk} (hs : s.Is) (hk : k ≤ 100) (h : EnI s k now P) (ok : PkOk P) : ((P.go now).fls.st = 0 ∧ (P.go now).fls.now = now ∧ EnI s (k + 1) now (P.go now).fls) ∨ ((P.go now).fls.st = 1 ∧ (P.go now).fls.now = now ∧ ((P.go now).fls.go (now + s.m)).st = 2 ∧ EnI s (k + 1) (now + s.m) ((P.go now).fls.go (now + s.m))) := by
  rw [Pk.go_same (by rw [h.nw]; exact Int.le_refl _)]
  have hfm := ok.fm
  have hf := h.f
  have hbd := h.bd
  by_cases hkf : (k : Int) < s.f
  · obtain ⟨h1, h2, h3⟩ := h.cl hkf
    by_cases hx : (k : Int) + 1 = s.f
    · have e : P.fls = ({ P with fn := P.fn + 1 } : Pk).opn := by unfold Pk.fls; rw [if_pos h1, if_pos (by omega)]
      rw [e]
      exact .inr (EnI.opened hs hk h ok (by omega) rfl)
    · have e : P.fls = { P with fn := P.fn + 1 } := by unfold Pk.fls; rw [if_pos h1, if_neg (by omega)]
      rw [e]
      exact .inl ⟨h1, h.nw, h.f, h.c, h.m, h.n, h.nw, by omega, fun _ => ⟨h1, by show P.fn + 1 = _; omega, h3⟩, fun hy => by omega⟩
  · obtain ⟨h1, h2, h3, h4⟩ := h.ha (by omega)
    have e : P.fls = P.opn := by unfold Pk.fls; rw [if_neg (by omega), if_pos h1]
    rw [e]
    exact .inr (EnI.opened hs hk h ok (by omega) rfl)
/-- Behind j successes of a half open one. -/
structure EnK (s : Sg) (j : Nat) (now : Int) (P : Pk) : Prop where
  c : P.c = s.c
  n : P.n = s.n
  nw : P.now = now
  ha : (j : Int) < s.n → P.st = 2 ∧ P.sn = j ∧ P.tr = false ∧ P.sm = s.n
  cl : s.n ≤ (j : Int) → P.st = 0 ∧ P.cool = s.c
theorem EnI.last {s : Sg} {k : Nat} {now : Int} {P : Pk} (hs : s.Is) (h : EnI s k now P) (hk : s.f ≤ (k : Int)) : EnK s 0 now P := ⟨h.c, h.n, h.nw, fun _ => h.ha hk, fun hx => by have := hs.2.1.1; omega⟩
theorem EnK.may {s : Sg} {j : Nat} {now : Int} {P : Pk} (h : EnK s j now P) (hj : (j : Int) < s.n) : (P.go now).may = true ∧ EnK s (j + 1) now (((P.go now).alw).go now).oks := by
  obtain ⟨h1, h2, h3, h4⟩ := h.ha hj
  have e1 : P.go now = P := Pk.go_same (by rw [h.nw]; exact Int.le_refl _)
  have e2 : P.alw = { P with tr := true } := if_pos h1
  have e3 : ({ P with tr := true } : Pk).go now = { P with tr := true } := Pk.go_same (by show now ≤ P.now; rw [h.nw]; exact Int.le_refl _)
  rw [e1, e2, e3]
  refine ⟨by unfold Pk.may; rw [if_pos h1, h3]; rfl, ?_⟩
  by_cases hx : (j : Int) + 1 = s.n
  · have e : ({ P with tr := true } : Pk).oks = ({ P with tr := true } : Pk).shut := by
      unfold Pk.oks
      rw [if_neg (by show ¬ P.st = 0; omega), if_pos (show P.st = 2 from h1), if_pos (show P.sn + 1 = P.sm by omega)]
    rw [e]
    exact ⟨h.c, h.n, h.nw, fun hy => by omega, fun _ => ⟨rfl, h.c⟩⟩
  · have e : ({ P with tr := true } : Pk).oks = { P with tr := false, sn := P.sn + 1 } := by
      unfold Pk.oks
      rw [if_neg (by show ¬ P.st = 0; omega), if_pos (show P.st = 2 from h1), if_neg (show ¬ P.sn + 1 = P.sm by omega)]
    rw [e]
    exact ⟨h.c, h.n, h.nw, fun hy => ⟨h1, by show P.sn + 1 = _; omega, rfl, h4⟩, fun hy => by omega⟩
end Go.Proofs.Ytekdbmhpdkdjjaa
