/-
  Package probe in memory (PkAt); between, may, made; ask, came, missed.
-/
import Derived.Test.YtmpooeflbfggbaaPbMath
import Derived.BigQuiet
import Derived.Deep.RegionHeld3
import Derived.Deep.RegionLaw
import Derived.Deep.DrawnRows
import Derived.StillTailTactics
namespace Go.Proofs.Ytmpooeflbfggbaa
open Go.RowKit
set_option linter.unusedVariables false
set_option maxRecDepth 1000000
variable {b : Nat} {w w' : World} {P : Pk}

/-- Its cells. -/
def PkC (P : Pk) : Array Value := #[.int .i64 P.e, .int .i64 P.wt, .int .i64 P.m, .int .i64 P.h, .int .i64 P.now, .bool P.up, .int .i64 P.nx, .int .i64 P.en, .int .u64 P.ask, .bool P.op, .int .i64 P.ms, .int .i64 P.ht]
/-- It lies there. -/
def PkAt (W : World) (b : Nat) (P : Pk) : Prop := W.heap[b]? = some (.cells (PkC P) 48 (0, 0))
theorem PkAt.lt (h : PkAt w b P) : b < w.heap.size := lt_of_block h
theorem PkAt.below (h : PkAt w b P) (hb : Below w.heap.size w w') : PkAt w' b P := (hb.block b h.lt).trans h
theorem PkAt.cell (h : PkAt w b P) (k : Nat) : w.cell? ⟨b, k, none⟩ = (PkC P)[k]? := by
  have hc : w.heap[b]? = some (.cells (PkC P) 48 (0, 0)) := h
  rw [cell_of_row _ _ _ _ _ _ hc]
/-- The cells, one by one. -/
structure PkCs (w : World) (b : Nat) (P : Pk) : Prop where
  e : w.cell? ⟨b, 0, none⟩ = some (.int .i64 P.e)
  wt : w.cell? ⟨b, 1, none⟩ = some (.int .i64 P.wt)
  m : w.cell? ⟨b, 2, none⟩ = some (.int .i64 P.m)
  h : w.cell? ⟨b, 3, none⟩ = some (.int .i64 P.h)
  now : w.cell? ⟨b, 4, none⟩ = some (.int .i64 P.now)
  up : w.cell? ⟨b, 5, none⟩ = some (.bool P.up)
  nx : w.cell? ⟨b, 6, none⟩ = some (.int .i64 P.nx)
  en : w.cell? ⟨b, 7, none⟩ = some (.int .i64 P.en)
  ask : w.cell? ⟨b, 8, none⟩ = some (.int .u64 P.ask)
  op : w.cell? ⟨b, 9, none⟩ = some (.bool P.op)
  ms : w.cell? ⟨b, 10, none⟩ = some (.int .i64 P.ms)
  ht : w.cell? ⟨b, 11, none⟩ = some (.int .i64 P.ht)
theorem PkAt.cs (h : PkAt w b P) : PkCs w b P := ⟨h.cell 0, h.cell 1, h.cell 2, h.cell 3, h.cell 4, h.cell 5, h.cell 6, h.cell 7, h.cell 8, h.cell 9, h.cell 10, h.cell 11⟩
theorem PkAt.frozen (h : PkAt w b P) (k : Nat) : w.frozen? ⟨b, k, none⟩ = false := frozen_of_row _ _ k _ _ h
theorem PkAt.set {k : Nat} {u : Value} {P' : Pk} (h : PkAt w b P) (e : (PkC P).setIfInBounds k u = PkC P') : PkAt (w.setCell ⟨b, k, none⟩ u) b P' := by
  have := row_set (k := k) (u := u) h
  rw [e] at this
  exact this
theorem PkAt.drewN (h : PkAt w b P) (n : Nat) : PkAt (w.drewN n) b P := h
/-- Only this block has turned. -/
def Tn (b : Nat) (w w' : World) : Prop := Fb (at1 b) w w'
theorem Tn.refl (b : Nat) (w : World) : Tn b w w := Fb.refl _ _
theorem Tn.set (h : Tn b w w') (k : Nat) (u : Value) : Tn b w (w'.setCell ⟨b, k, none⟩ u) := Fb.trans h (Fb.set (F := at1 b) (p := ⟨b, k, none⟩) rfl u) fun x hx => .inl hx
theorem Tn.below {w2 : World} (h : Tn b w w') (hb : Below w'.heap.size w' w2) : Tn b w w2 := Fb.below h hb
theorem Tn.trans {w2 : World} (h : Tn b w w') (k : Tn b w' w2) : Tn b w w2 := Fb.trans h k fun x hx => .inl hx
theorem Tn.drew (h : Tn b w w') : Tn b w w'.drew := Fb.drew h
theorem Tn.drewN (h : Tn b w w') (n : Nat) : Tn b w (w'.drewN n) := ⟨h.os, h.tape, h.output, h.size, h.block⟩

/-! ### Between -/
theorem pbet_any (n lo hi : Int) (w : World) : Calls Try.prog 28 #[.int .i64 n, .int .i64 lo, .int .i64 hi] w fun e w' => e = .returned (.bool (decide (lo ≤ n ∧ n ≤ hi))) ∧ w' = w := by
  by_cases h : lo ≤ n
  · go_enter Try.func28, Try.ntmps28
    go_wp2
    go_ret
    exact ⟨ret_bool (by simp [h]), rfl⟩
  · go_enter Try.func28, Try.ntmps28
    go_wp2
    go_ret
    exact ⟨ret_bool (by simp; omega), rfl⟩
theorem pbei_any (n lo hi : Int) (w : World) : Calls Try.prog 29 #[.int .i64 n, .int .i64 lo, .int .i64 hi] w fun e w' => e = .returned (.bool (decide (lo ≤ n ∧ n ≤ hi))) ∧ w' = w := by
  by_cases h : lo ≤ n
  · go_enter Try.func29, Try.ntmps29
    go_wp2
    go_ret
    exact ⟨ret_bool (by simp [h]), rfl⟩
  · go_enter Try.func29, Try.ntmps29
    go_wp2
    go_ret
    exact ⟨ret_bool (by simp; omega), rfl⟩
/-- A setting's cells. -/
def SgV (s : Sg) : Array Value := #[.int .i64 s.e, .int .i64 s.wt, .int .i64 s.m, .int .i64 s.h]
theorem pmay_any (s : Sg) (w : World) : Calls Try.prog 21 #[.agg (SgV s)] w fun e w' => e = .returned (.bool (decide (s.Is))) ∧ Hid (Below w.heap.size w w') := by
  have HE : Hid (Below w.heap.size w (w.alloc (.cells #[.int .i64 s.e, .int .i64 s.wt, .int .i64 s.m, .int .i64 s.h] 29))) := (Below.refl _ _).alloc (Nat.le_refl _) _
  obtain ⟨b1, hb1⟩ : ∃ b1, decide (1 ≤ s.e ∧ s.e ≤ 4294967296) = b1 := ⟨_, rfl⟩
  obtain ⟨b2, hb2⟩ : ∃ b2, decide (1 ≤ s.wt ∧ s.wt ≤ s.e) = b2 := ⟨_, rfl⟩
  obtain ⟨b3, hb3⟩ : ∃ b3, decide (1 ≤ s.m ∧ s.m ≤ 100) = b3 := ⟨_, rfl⟩
  obtain ⟨b4, hb4⟩ : ∃ b4, decide (1 ≤ s.h ∧ s.h ≤ 100) = b4 := ⟨_, rfl⟩
  have H1 := hid fun W => pbet_any s.e 1 4294967296 W
  have H2 := hid fun W => pbet_any s.wt 1 s.e W
  have H3 := hid fun W => pbei_any s.m 1 100 W
  have H4 := hid fun W => pbei_any s.h 1 100 W
  rw [hb1] at H1
  rw [hb2] at H2
  rw [hb3] at H3
  rw [hb4] at H4
  have e : decide s.Is = (b1 && (b2 && (b3 && b4))) := by
    rw [← hb1, ← hb2, ← hb3, ← hb4, Bool.eq_iff_iff]
    simp only [decide_eq_true_eq, Bool.and_eq_true]
    exact Iff.rfl
  rw [e]
  clear e hb1 hb2 hb3 hb4
  unfold SgV
  cases b1 with
  | false =>
    go_enter Try.func21, Try.ntmps21
    go_wp2_with fail
    refine (H1.out _).mono ?_
    rintro e w1 ⟨rfl, rfl⟩
    go_wp2_with fail
    go_ret
    exact ⟨rfl, HE⟩
  | true =>
    cases b2 with
    | false =>
      go_enter Try.func21, Try.ntmps21
      go_wp2_with fail
      refine (H1.out _).mono ?_
      rintro e w1 ⟨rfl, rfl⟩
      go_wp2_with fail
      refine (H2.out _).mono ?_
      rintro e w1 ⟨rfl, rfl⟩
      go_wp2_with fail
      go_ret
      exact ⟨rfl, HE⟩
    | true =>
      cases b3 with
      | false =>
        go_enter Try.func21, Try.ntmps21
        go_wp2_with fail
        refine (H1.out _).mono ?_
        rintro e w1 ⟨rfl, rfl⟩
        go_wp2_with fail
        refine (H2.out _).mono ?_
        rintro e w1 ⟨rfl, rfl⟩
        go_wp2_with fail
        refine (H3.out _).mono ?_
        rintro e w1 ⟨rfl, rfl⟩
        go_wp2_with fail
        go_ret
        exact ⟨rfl, HE⟩
      | true =>
        go_enter Try.func21, Try.ntmps21
        go_wp2_with fail
        refine (H1.out _).mono ?_
        rintro e w1 ⟨rfl, rfl⟩
        go_wp2_with fail
        refine (H2.out _).mono ?_
        rintro e w1 ⟨rfl, rfl⟩
        go_wp2_with fail
        refine (H3.out _).mono ?_
        rintro e w1 ⟨rfl, rfl⟩
        go_wp2_with fail
        refine (H4.out _).mono ?_
        rintro e w1 ⟨rfl, rfl⟩
        go_wp2_with fail
        go_ret
        exact ⟨rfl, HE⟩
/-! ### Made -/
theorem pmade_yes (h : PkAt w b P) (ok : PkOk P) : Calls Try.prog 22 #[.pointer (some ⟨b, 0, none⟩)] w fun e w' => e = .returned (.bool true) ∧ w' = w := by
  have c0 := h.cs.e
  have r0 : 0 < P.e := by have := ok.e; omega
  clear h ok
  go_enter Try.func22, Try.ntmps22
  go_wp2
  go_ret
  exact ⟨rfl, rfl⟩
/-- A pointer to none, or to one that New did not give. -/
def PkNo (W : World) (p : Option Addr) : Prop := p = none ∨ ∃ b, p = some ⟨b, 0, none⟩ ∧ W.cell? ⟨b, 0, none⟩ = some (.int .i64 0)
theorem pmade_no {p : Option Addr} (h : PkNo w p) : Calls Try.prog 22 #[.pointer p] w fun e w' => e = .returned (.bool false) ∧ w' = w := by
  rcases h with rfl | ⟨b, rfl, c0⟩
  · go_enter Try.func22, Try.ntmps22
    go_wp2
    go_ret
    exact ⟨rfl, rfl⟩
  · go_enter Try.func22, Try.ntmps22
    go_wp2
    go_ret
    exact ⟨rfl, rfl⟩
end Go.Proofs.Ytmpooeflbfggbaa
