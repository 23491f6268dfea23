/-
  BreakerPlays: both breakers side by side.
-/
import Derived.Test.YtekdbmhpdkdjjaaBrAl
import Derived.Test.YtekdbmhpdkdjjaaBrEn
import Derived.Test.YtekdbmhpdkdjjaaBrRf2
import Derived.Test.YtekdbmhpdkdjjaaBrRf3
namespace Go.Proofs.Ytekdbmhpdkdjjaa
open Go.RowKit
set_option linter.unusedVariables false
set_option maxRecDepth 1000000

theorem tmZ_idem (T t : Int) : tmZ (tmZ T t) t = tmZ T t := by unfold tmZ; split <;> (try split) <;> omega
/-- A time that was told already. -/
theorem Rk.ltr_idem (R : Rk) (t : Int) : (R.ltr t).ltr t = R.ltr t := by
  by_cases h : R.st = 1 ∧ R.un ≤ tmZ R.t t
  · rw [Rk.ltr_half h.1 h.2]
    rw [Rk.ltr_no (fun hx => absurd hx.1 x21)]
    simp only [tmZ_idem]
  · rw [Rk.ltr_no h]
    have h2 : ¬ (({ R with t := tmZ R.t t } : Rk).st = 1 ∧ ({ R with t := tmZ R.t t } : Rk).un ≤ tmZ ({ R with t := tmZ R.t t } : Rk).t t) := by
      simp only [tmZ_idem]
      exact h
    rw [Rk.ltr_no h2]
    simp only [tmZ_idem]
/-- The setting of a breaker. -/
def Pk.sg (P : Pk) : Sg := ⟨P.f, P.c, P.m, P.n⟩
theorem Pk.sg_go (P : Pk) (t : Int) : (P.go t).sg = P.sg := by unfold Pk.go; split <;> (try split) <;> rfl
theorem Pk.sg_alw (P : Pk) : P.alw.sg = P.sg := by unfold Pk.alw; split <;> rfl
theorem Pk.sg_oks (P : Pk) : P.oks.sg = P.sg := by unfold Pk.oks; split <;> (try split) <;> (try split) <;> rfl
theorem Pk.sg_fls (P : Pk) : P.fls.sg = P.sg := by unfold Pk.fls; split <;> (try split) <;> rfl
/-- Both breakers lie there, above w. -/
structure PlB (w : World) (b r : Nat) (P : Pk) (R : Rk) (W : World) : Prop where
  br : BrS w b P W
  rf : RkAt W r R
  ne : b ≠ r
  lo : w.heap.size ≤ r
variable {w W W' : World} {b r : Nat} {P P' : Pk} {R R' : Rk}
theorem PlB.below (h : PlB w b r P R W) (hb : Below W.heap.size W W') : PlB w b r P R W' := ⟨h.br.below hb, h.rf.below hb, h.ne, h.lo⟩
theorem PlB.toP (h : PlB w b r P R W) (ok : PkOk P') (H : PkAt W' b P' ∧ Tn b W W') : PlB w b r P' R W' := ⟨h.br.step ok H, H.2.one h.rf (fun e => h.ne (show r = b from e).symm), h.ne, h.lo⟩
theorem PlB.toR (h : PlB w b r P R W) (H : RkAt W' r R' ∧ Tn r W W') : PlB w b r P R' W' := ⟨⟨H.2.one h.br.at' (fun e => h.ne (show b = r from e)), h.br.ok, h.br.bel.trans (H.2.to (fun x hx => by rw [show x = r from hx]; exact h.lo) h.br.bel.size), h.br.lo⟩, H.1, h.ne, h.lo⟩
theorem PlB.goP {f : Nat} {ar : Array Value} {v : Value} (h : PlB w b r P R W) (ok : PkOk P') (hc : Calls Try.prog f ar W fun e w' => e = .returned v ∧ Hid (PkAt w' b P' ∧ Tn b W w')) : Calls Try.prog f ar W fun e w' => e = .returned v ∧ Hid (PlB w b r P' R w') := hc.mono fun e w' ⟨he, H⟩ => ⟨he, h.toP ok H.out⟩
theorem PlB.goR {f : Nat} {ar : Array Value} {v : Value} (h : PlB w b r P R W) (hc : Calls Try.prog f ar W fun e w' => e = .returned v ∧ Hid (RkAt w' r R' ∧ Tn r W w')) : Calls Try.prog f ar W fun e w' => e = .returned v ∧ Hid (PlB w b r P R' w') := hc.mono fun e w' ⟨he, H⟩ => ⟨he, h.toR H.out⟩
theorem PlB.allow1 (h : PlB w b r P R W) (t : Int) : Calls Try.prog 13 #[.pointer (some ⟨b, 0, none⟩), .int .i64 t] W fun e w' => e = .returned (.bool (P.go t).may) ∧ Hid (PlB w b r (P.go t).alw R w') := h.goP (h.br.ok.go t).alw (ballow_any h.br.at' h.br.ok t)
theorem PlB.ok1 (h : PlB w b r P R W) (t : Int) : Calls Try.prog 15 #[.pointer (some ⟨b, 0, none⟩), .int .i64 t] W fun e w' => e = .returned (.tuple #[]) ∧ Hid (PlB w b r (P.go t).oks R w') := h.goP (h.br.ok.go t).oks (bok_any h.br.at' h.br.ok t)
theorem PlB.fail1 (h : PlB w b r P R W) (t : Int) : Calls Try.prog 17 #[.pointer (some ⟨b, 0, none⟩), .int .i64 t] W fun e w' => e = .returned (.tuple #[]) ∧ Hid (PlB w b r (P.go t).fls R w') := h.goP (h.br.ok.go t).fls (bfail_any h.br.at' h.br.ok t)
theorem PlB.leave1 (h : PlB w b r P R W) (t : Int) : Calls Try.prog 20 #[.pointer (some ⟨b, 0, none⟩), .int .i64 t] W fun e w' => e = .returned (.tuple #[]) ∧ Hid (PlB w b r (P.go t).lve R w') := h.goP (h.br.ok.go t).lve (bleave_any h.br.at' h.br.ok t)
theorem PlB.reset1 (h : PlB w b r P R W) : Calls Try.prog 22 #[.pointer (some ⟨b, 0, none⟩)] W fun e w' => e = .returned (.tuple #[]) ∧ Hid (PlB w b r P.shut R w') := h.goP h.br.ok.shut (breset_any h.br.at' h.br.ok)
theorem PlB.state1 (h : PlB w b r P R W) (t : Int) : Calls Try.prog 23 #[.pointer (some ⟨b, 0, none⟩), .int .i64 t] W fun e w' => e = .returned (.int .i64 (P.go t).st) ∧ Hid (PlB w b r (P.go t) R w') := h.goP (h.br.ok.go t) (bstate_any h.br.at' h.br.ok t)
theorem PlB.allow2 (h : PlB w b r P R W) (t : Int) : Calls Try.prog 14 #[.pointer (some ⟨r, 0, none⟩), .int .i64 t] W fun e w' => e = .returned (.bool (R.ltr t).may) ∧ Hid (PlB w b r P (R.ltr t).alw w') := h.goR (rallow_any h.rf t)
theorem PlB.later2 (h : PlB w b r P R W) (t : Int) : Calls Try.prog 19 #[.pointer (some ⟨r, 0, none⟩), .int .i64 t] W fun e w' => e = .returned (.tuple #[]) ∧ Hid (PlB w b r P (R.ltr t) w') := h.goR (rlater_any h.rf t)
theorem PlB.leave2 (h : PlB w b r P R W) (t : Int) : Calls Try.prog 21 #[.pointer (some ⟨r, 0, none⟩), .int .i64 t] W fun e w' => e = .returned (.tuple #[]) ∧ Hid (PlB w b r P (R.ltr t).lve w') := h.goR (rleave_any h.rf t)
theorem PlB.ok2 {Q : Pk} (h : PlB w b r P R W) (t : Int) (hs : Sim Q (R.ltr t)) : Calls Try.prog 16 #[.pointer (some ⟨r, 0, none⟩), .int .i64 t] W fun e w' => e = .returned (.tuple #[]) ∧ Hid (PlB w b r P (R.ltr t).oks w') := h.goR (rok_any h.rf t (fun e => by
  have e2 : Q.st = 2 := hs.st.symm.trans e
  have h1 := (hs.ha e2).1
  have h2 := hs.ok.ha e2
  have h3 := hs.ok.n
  omega))
theorem PlB.fail2 {Q : Pk} (h : PlB w b r P R W) (t : Int) (hs : Sim Q (R.ltr t)) : Calls Try.prog 18 #[.pointer (some ⟨r, 0, none⟩), .int .i64 t] W fun e w' => e = .returned (.tuple #[]) ∧ Hid (PlB w b r P (R.ltr t).fls w') := h.goR (rfail_any h.rf t (fun e => by
  have e2 : Q.st = 0 := hs.st.symm.trans e
  have h1 := hs.cl e2
  have h2 := hs.ok.cl e2
  have h3 := hs.ok.f
  omega) (by
  have h1 := hs.t
  have h2 := hs.ok.now
  have h3 := hs.cool
  have h4 := hs.ok.cool
  have h5 := hs.ok.m
  have h6 := hs.ok.c
  exact ⟨⟨by omega, by omega⟩, by omega, by omega⟩))
/-- What is to hold behind each case of the switch, at the time that now is. -/
structure PlC (w : World) (b r : Nat) (s : Sg) (now : Int) (P : Pk) (R : Rk) (W : World) : Prop where
  bo : PlB w b r P R W
  sim : Sim (P.go now) (R.ltr now)
  sg : P.sg = s
end Go.Proofs.Ytekdbmhpdkdjjaa
