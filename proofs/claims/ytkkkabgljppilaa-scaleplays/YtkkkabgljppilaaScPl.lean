/-
  ScalePlays: both scalers side by side.
-/
import Derived.Test.YtkkkabgljppilaaScAl
import Derived.Test.YtkkkabgljppilaaScRg
namespace Go.Proofs.Ytkkkabgljppilaa
open Go.RowKit
set_option linter.unusedVariables false
set_option maxRecDepth 1000000

/-- Both scalers lie there, above w. -/
structure PlB (w : World) (b r : Nat) (P Q : Pk) (W : World) : Prop where
  br : PkS w b P W
  rf : RkAt W r Q
  okr : PkOk Q
  ne : b ≠ r
  lo : w.heap.size ≤ r
variable {w W W' : World} {b r : Nat} {P P' Q Q' : Pk}
theorem PlB.below (h : PlB w b r P Q W) (hb : Below W.heap.size W W') : PlB w b r P Q W' := ⟨h.br.below hb, h.rf.below hb, h.okr, h.ne, h.lo⟩
theorem PlB.drewN (h : PlB w b r P Q W) (n : Nat) : PlB w b r P Q (W.drewN n) := h.below ⟨rfl, rfl, rfl, Nat.le_refl _, fun _ _ => rfl⟩
theorem PlB.toP (h : PlB w b r P Q W) (ok : PkOk P') (H : PkAt W' b P' ∧ Tn b W W') : PlB w b r P' Q W' := ⟨h.br.step ok H, H.2.one h.rf (fun e => h.ne (show r = b from e).symm), h.okr, h.ne, h.lo⟩
theorem PlB.toR (h : PlB w b r P Q W) (ok : PkOk Q') (H : RkAt W' r Q' ∧ Tn r W W') : PlB w b r P Q' W' := ⟨⟨H.2.one h.br.at' (fun e => h.ne (show b = r from e)), h.br.ok, h.br.bel.trans (H.2.to (fun x hx => by rw [show x = r from hx]; exact h.lo) h.br.bel.size), h.br.lo⟩, H.1, ok, h.ne, h.lo⟩
/-- Both scalers and a step's block. -/
structure PlX (w : World) (b r sb : Nat) (x : Sp) (P Q : Pk) (W : World) : Prop where
  bo : PlB w b r P Q W
  st : W.heap[sb]? = some (.cells (SpV x) 38 (0, 0))
  nb : sb ≠ b
  nr : sb ≠ r
variable {sb : Nat} {x : Sp}
theorem PlX.new (h : PlB w b r P Q W) (x : Sp) (hW : W' = W.alloc (.cells (SpV x) 38)) : PlX w b r W.heap.size x P Q W' := by
  subst hW
  refine ⟨h.below ((Below.refl _ _).alloc (Nat.le_refl _) _), heap_alloc_new W _, ?_, ?_⟩
  · have := h.br.at'.lt
    omega
  · have := h.rf.lt
    omega
theorem PlX.drewN (h : PlX w b r sb x P Q W) (n : Nat) : PlX w b r sb x P Q (W.drewN n) := ⟨h.bo.drewN n, h.st, h.nb, h.nr⟩
theorem PlX.drew (h : PlX w b r sb x P Q W) : PlX w b r sb x P Q W.drew := h.drewN 1
/-- A step's cells. -/
structure SpCs (W : World) (sb : Nat) (x : Sp) : Prop where
  kd : W.cell? ⟨sb, 0, none⟩ = some (.bool x.sb)
  later : W.cell? ⟨sb, 1, none⟩ = some (.int .i64 x.later)
  live : W.cell? ⟨sb, 2, none⟩ = some (.int .i64 x.live)
  load : W.cell? ⟨sb, 3, none⟩ = some (.int .i64 x.load)
  mn : W.cell? ⟨sb, 4, none⟩ = some (.int .i64 x.mn)
  mx : W.cell? ⟨sb, 5, none⟩ = some (.int .i64 x.mx)
theorem sp_cells (h : W.heap[sb]? = some (.cells (SpV x) 38 (0, 0))) : SpCs W sb x :=
  ⟨by rw [cell_of_row _ _ _ _ _ _ h]; rfl, by rw [cell_of_row _ _ _ _ _ _ h]; rfl, by rw [cell_of_row _ _ _ _ _ _ h]; rfl, by rw [cell_of_row _ _ _ _ _ _ h]; rfl, by rw [cell_of_row _ _ _ _ _ _ h]; rfl, by rw [cell_of_row _ _ _ _ _ _ h]; rfl⟩
theorem PlX.cells (h : PlX w b r sb x P Q W) : SpCs W sb x := sp_cells h.st
theorem PlX.step1 (h : PlX w b r sb x P Q W) (t live load : Int) : Calls Try.prog 15 #[.pointer (some ⟨b, 0, none⟩), .int .i64 t, .int .i64 live, .int .i64 load] W fun e w' => e = .returned (.int .i64 (P.stp t live load)) ∧ Hid (PlX w b r sb x (P.stpd t live load) Q w') :=
  (sstep_any h.bo.br.at' h.bo.br.ok t live load).mono fun e w' ⟨he, H⟩ => ⟨he, h.bo.toP (h.bo.br.ok.stpd t live load) H.out, H.out.2.one h.st (fun e => h.nb e), h.nb, h.nr⟩
theorem PlX.step2 (h : PlX w b r sb x P Q W) (t live load : Int) : Calls Try.prog 16 #[.pointer (some ⟨r, 0, none⟩), .int .i64 t, .int .i64 live, .int .i64 load] W fun e w' => e = .returned (.int .i64 (Q.stp t live load)) ∧ Hid (PlX w b r sb x P (Q.stpd t live load) w') :=
  (rstep_any h.bo.rf h.bo.okr t live load).mono fun e w' ⟨he, H⟩ => ⟨he, h.bo.toR (h.bo.okr.stpd t live load) H.out, H.out.2.one h.st (fun e => h.nr e), h.nb, h.nr⟩
theorem PlX.set1 (h : PlX w b r sb x P Q W) (u v : Int) : Calls Try.prog 13 #[.pointer (some ⟨b, 0, none⟩), .int .i64 u, .int .i64 v] W fun e w' => e = .returned (.int .i64 (if Bnd u v then 0 else 1)) ∧ Hid (PlX w b r sb x (P.put u v) Q w') :=
  (sset_any h.bo.br.at' h.bo.br.ok u v).mono fun e w' ⟨he, H⟩ => ⟨he, h.bo.toP (h.bo.br.ok.put u v) H.out, H.out.2.one h.st (fun e => h.nb e), h.nb, h.nr⟩
theorem PlX.set2 (h : PlX w b r sb x P Q W) (u v : Int) : Calls Try.prog 14 #[.pointer (some ⟨r, 0, none⟩), .int .i64 u, .int .i64 v] W fun e w' => e = .returned (.bool (decide (Bnd u v))) ∧ Hid (PlX w b r sb x P (Q.put u v) w') :=
  (rset_any h.bo.rf u v).mono fun e w' ⟨he, H⟩ => ⟨he, h.bo.toR (h.bo.okr.put u v) H.out, H.out.2.one h.st (fun e => h.nr e), h.nb, h.nr⟩
theorem PlX.want2 (h : PlX w b r sb x P Q W) (load : Int) : Calls Try.prog 19 #[.pointer (some ⟨r, 0, none⟩), .int .i64 load] W fun e w' => e = .returned (.int .i64 (Q.want load)) ∧ ∃ m, w' = W.drewN m := rwant_any h.bo.rf h.bo.okr load
end Go.Proofs.Ytkkkabgljppilaa
