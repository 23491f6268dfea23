/-
  ProbePlays: both probers side by side.
-/
import Derived.Test.YtmpooeflbfggbaaPbAl
import Derived.Test.YtmpooeflbfggbaaPbRg
namespace Go.Proofs.Ytmpooeflbfggbaa
open Go.RowKit
set_option linter.unusedVariables false
set_option maxRecDepth 1000000

/-- The setting of a prober. -/
def Pk.sg (P : Pk) : Sg := ⟨P.e, P.wt, P.m, P.h⟩
/-- Both probers lie there, above w. -/
structure PlB (w : World) (b r : Nat) (P Q : Pk) (a : Int) (W : World) : Prop where
  br : PkS w b P W
  rf : RkAt W r Q a
  okr : PkOk Q
  ri : RkI Q a
  ne : b ≠ r
  lo : w.heap.size ≤ r
variable {w W W' : World} {b r : Nat} {P P' Q Q' : Pk} {a a' : Int}
theorem PlB.below (h : PlB w b r P Q a W) (hb : Below W.heap.size W W') : PlB w b r P Q a W' := ⟨h.br.below hb, h.rf.below hb, h.okr, h.ri, h.ne, h.lo⟩
theorem PlB.drewN (h : PlB w b r P Q a W) (n : Nat) : PlB w b r P Q a (W.drewN n) := h.below ⟨rfl, rfl, rfl, Nat.le_refl _, fun _ _ => rfl⟩
theorem PlB.toP (h : PlB w b r P Q a W) (ok : PkOk P') (H : PkAt W' b P' ∧ Tn b W W') : PlB w b r P' Q a W' := ⟨h.br.step ok H, H.2.one h.rf (fun e => h.ne (show r = b from e).symm), h.okr, h.ri, h.ne, h.lo⟩
theorem PlB.toR (h : PlB w b r P Q a W) (ok : PkOk Q') (hI : RkI Q' a') (H : RkAt W' r Q' a' ∧ Tn r W W') : PlB w b r P Q' a' W' := ⟨⟨H.2.one h.br.at' (fun e => h.ne (show b = r from e)), h.br.ok, h.br.bel.trans (H.2.to (fun x hx => by rw [show x = r from hx]; exact h.lo) h.br.bel.size), h.br.lo⟩, H.1, ok, hI, h.ne, h.lo⟩
theorem PlB.tick1 (h : PlB w b r P Q a W) (t : Int) : Calls Try.prog 12 #[.pointer (some ⟨b, 0, none⟩), .int .i64 t] W fun e w' => e = .returned (.tuple #[.int .u64 (P.go t).tkn, .bool (P.go t).tkb]) ∧ Hid (PlB w b r (P.go t).tk Q a w') :=
  (ptick_any h.br.at' h.br.ok t).mono fun e w' ⟨he, H⟩ => ⟨he, h.toP (h.br.ok.go t).tk H.out⟩
theorem PlB.pong1 (h : PlB w b r P Q a W) (t n : Int) : Calls Try.prog 14 #[.pointer (some ⟨b, 0, none⟩), .int .i64 t, .int .u64 n] W fun e w' => e = .returned (.bool ((P.go t).yes n)) ∧ Hid (PlB w b r ((P.go t).pg n) Q a w') :=
  (ppong_any h.br.at' h.br.ok t n).mono fun e w' ⟨he, H⟩ => ⟨he, h.toP ((h.br.ok.go t).pg n) H.out⟩
theorem PlB.tick2 (h : PlB w b r P Q a W) (t : Int) : Calls Try.prog 13 #[.pointer (some ⟨r, 0, none⟩), .int .i64 t] W fun e w' => e = .returned (.tuple #[.int .u64 (Q.go t).tkn, .bool (Q.go t).tkb]) ∧ Hid (PlB w b r P (Q.go t).tk ((Q.go t).tka a) w') :=
  (rtick_any h.rf h.okr h.ri t).mono fun e w' ⟨he, H⟩ => ⟨he, h.toR (h.okr.go t).tk ((h.ri.go t).tk (h.okr.go t)) H.out⟩
theorem PlB.pong2 (h : PlB w b r P Q a W) (t n : Int) : Calls Try.prog 15 #[.pointer (some ⟨r, 0, none⟩), .int .i64 t, .int .u64 n] W fun e w' => e = .returned (.bool ((Q.go t).yes n)) ∧ Hid (PlB w b r P ((Q.go t).pg n) a w') :=
  (rpong_any h.rf h.okr h.ri t n).mono fun e w' ⟨he, H⟩ => ⟨he, h.toR ((h.okr.go t).pg n) ((h.ri.go t).pg n) H.out⟩
theorem PlB.due2 (h : PlB w b r P Q a W) : Calls Try.prog 18 #[.pointer (some ⟨r, 0, none⟩)] W fun e w' => e = .returned (.int .i64 Q.due) ∧ ∃ m, w' = W.drewN m := rdue_any h.rf h.okr h.ri
/-- Both probers and a step's block. -/
structure PlX (w : World) (b r sb : Nat) (x : Sp) (P Q : Pk) (a : Int) (W : World) : Prop where
  bo : PlB w b r P Q a W
  st : W.heap[sb]? = some (.cells (SpV x) 38 (0, 0))
  nb : sb ≠ b
  nr : sb ≠ r
variable {sb : Nat} {x : Sp}
theorem PlX.new (h : PlB w b r P Q a W) (x : Sp) (hW : W' = W.alloc (.cells (SpV x) 38)) : PlX w b r W.heap.size x P Q a W' := by
  subst hW
  refine ⟨h.below ((Below.refl _ _).alloc (Nat.le_refl _) _), heap_alloc_new W _, ?_, ?_⟩
  · have := h.br.at'.lt
    omega
  · have := h.rf.lt
    omega
theorem PlX.drewN (h : PlX w b r sb x P Q a W) (n : Nat) : PlX w b r sb x P Q a (W.drewN n) := ⟨h.bo.drewN n, h.st, h.nb, h.nr⟩
theorem PlX.drew (h : PlX w b r sb x P Q a W) : PlX w b r sb x P Q a W.drew := h.drewN 1
theorem PlX.cells (h : PlX w b r sb x P Q a W) : W.cell? ⟨sb, 0, none⟩ = some (.int .u8 x.kd) ∧ W.cell? ⟨sb, 1, none⟩ = some (.int .i64 x.later) ∧ W.cell? ⟨sb, 2, none⟩ = some (.int .u64 x.n) :=
  ⟨by rw [cell_of_row _ _ _ _ _ _ h.st]; rfl, by rw [cell_of_row _ _ _ _ _ _ h.st]; rfl, by rw [cell_of_row _ _ _ _ _ _ h.st]; rfl⟩
theorem PlX.tick1 (h : PlX w b r sb x P Q a W) (t : Int) : Calls Try.prog 12 #[.pointer (some ⟨b, 0, none⟩), .int .i64 t] W fun e w' => e = .returned (.tuple #[.int .u64 (P.go t).tkn, .bool (P.go t).tkb]) ∧ Hid (PlX w b r sb x (P.go t).tk Q a w') :=
  (ptick_any h.bo.br.at' h.bo.br.ok t).mono fun e w' ⟨he, H⟩ => ⟨he, h.bo.toP (h.bo.br.ok.go t).tk H.out, H.out.2.one h.st (fun e => h.nb e), h.nb, h.nr⟩
theorem PlX.pong1 (h : PlX w b r sb x P Q a W) (t n : Int) : Calls Try.prog 14 #[.pointer (some ⟨b, 0, none⟩), .int .i64 t, .int .u64 n] W fun e w' => e = .returned (.bool ((P.go t).yes n)) ∧ Hid (PlX w b r sb x ((P.go t).pg n) Q a w') :=
  (ppong_any h.bo.br.at' h.bo.br.ok t n).mono fun e w' ⟨he, H⟩ => ⟨he, h.bo.toP ((h.bo.br.ok.go t).pg n) H.out, H.out.2.one h.st (fun e => h.nb e), h.nb, h.nr⟩
theorem PlX.tick2 (h : PlX w b r sb x P Q a W) (t : Int) : Calls Try.prog 13 #[.pointer (some ⟨r, 0, none⟩), .int .i64 t] W fun e w' => e = .returned (.tuple #[.int .u64 (Q.go t).tkn, .bool (Q.go t).tkb]) ∧ Hid (PlX w b r sb x P (Q.go t).tk ((Q.go t).tka a) w') :=
  (rtick_any h.bo.rf h.bo.okr h.bo.ri t).mono fun e w' ⟨he, H⟩ => ⟨he, h.bo.toR (h.bo.okr.go t).tk ((h.bo.ri.go t).tk (h.bo.okr.go t)) H.out, H.out.2.one h.st (fun e => h.nr e), h.nb, h.nr⟩
theorem PlX.pong2 (h : PlX w b r sb x P Q a W) (t n : Int) : Calls Try.prog 15 #[.pointer (some ⟨r, 0, none⟩), .int .i64 t, .int .u64 n] W fun e w' => e = .returned (.bool ((Q.go t).yes n)) ∧ Hid (PlX w b r sb x P ((Q.go t).pg n) a w') :=
  (rpong_any h.bo.rf h.bo.okr h.bo.ri t n).mono fun e w' ⟨he, H⟩ => ⟨he, h.bo.toR ((h.bo.okr.go t).pg n) ((h.bo.ri.go t).pg n) H.out, H.out.2.one h.st (fun e => h.nr e), h.nb, h.nr⟩
end Go.Proofs.Ytmpooeflbfggbaa
