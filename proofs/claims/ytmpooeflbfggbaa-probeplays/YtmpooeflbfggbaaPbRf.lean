/-
  The document's prober: in memory (RkAt), May, missed, Later.
-/
import Derived.Test.YtmpooeflbfggbaaPbPr
namespace Go.Proofs.Ytmpooeflbfggbaa
open Go.RowKit
set_option linter.unusedVariables false
set_option maxRecDepth 1000000
variable {b : Nat} {w w' : World} {P : Pk} {a : Int}

/-- Its cells. -/
def RkC (P : Pk) (a : Int) : Array Value := #[.int .i64 P.e, .int .i64 P.wt, .int .i64 P.m, .int .i64 P.h, .int .i64 P.now, .int .i64 P.nx, .int .u64 P.ask, .bool P.op, .int .i64 a, .int .i64 P.ms, .int .i64 P.ht, .bool P.up]
/-- It lies there. -/
def RkAt (W : World) (b : Nat) (P : Pk) (a : Int) : Prop := W.heap[b]? = some (.cells (RkC P a) 35 (0, 0))
theorem RkAt.lt (h : RkAt w b P a) : b < w.heap.size := lt_of_block h
theorem RkAt.below (h : RkAt w b P a) (hb : Below w.heap.size w w') : RkAt w' b P a := (hb.block b h.lt).trans h
theorem RkAt.cell (h : RkAt w b P a) (k : Nat) : w.cell? ⟨b, k, none⟩ = (RkC P a)[k]? := by
  have hc : w.heap[b]? = some (.cells (RkC P a) 35 (0, 0)) := h
  rw [cell_of_row _ _ _ _ _ _ hc]
/-- The cells, one by one. -/
structure RkCs (w : World) (b : Nat) (P : Pk) (a : Int) : Prop where
  e : w.cell? ⟨b, 0, none⟩ = some (.int .i64 P.e)
  wt : w.cell? ⟨b, 1, none⟩ = some (.int .i64 P.wt)
  m : w.cell? ⟨b, 2, none⟩ = some (.int .i64 P.m)
  h : w.cell? ⟨b, 3, none⟩ = some (.int .i64 P.h)
  now : w.cell? ⟨b, 4, none⟩ = some (.int .i64 P.now)
  nx : w.cell? ⟨b, 5, none⟩ = some (.int .i64 P.nx)
  ask : w.cell? ⟨b, 6, none⟩ = some (.int .u64 P.ask)
  op : w.cell? ⟨b, 7, none⟩ = some (.bool P.op)
  at' : w.cell? ⟨b, 8, none⟩ = some (.int .i64 a)
  ms : w.cell? ⟨b, 9, none⟩ = some (.int .i64 P.ms)
  ht : w.cell? ⟨b, 10, none⟩ = some (.int .i64 P.ht)
  up : w.cell? ⟨b, 11, none⟩ = some (.bool P.up)
theorem RkAt.cs (h : RkAt w b P a) : RkCs w b P a := ⟨h.cell 0, h.cell 1, h.cell 2, h.cell 3, h.cell 4, h.cell 5, h.cell 6, h.cell 7, h.cell 8, h.cell 9, h.cell 10, h.cell 11⟩
theorem RkAt.frozen (h : RkAt w b P a) (k : Nat) : w.frozen? ⟨b, k, none⟩ = false := frozen_of_row _ _ k _ _ h
theorem RkAt.set {k : Nat} {u : Value} {P' : Pk} {a' : Int} (h : RkAt w b P a) (e : (RkC P a).setIfInBounds k u = RkC P' a') : RkAt (w.setCell ⟨b, k, none⟩ u) b P' a' := by
  have := row_set (k := k) (u := u) h
  rw [e] at this
  exact this
theorem RkAt.drewN (h : RkAt w b P a) (n : Nat) : RkAt (w.drewN n) b P a := h
theorem rmay_any (s : Sg) (w : World) : Calls Try.prog 9 #[.agg (SgV s)] w fun e w' => e = .returned (.bool (decide (s.Is))) ∧ Hid (Below w.heap.size w w') := by
  unfold SgV
  have HE : Hid (Below w.heap.size w (w.alloc (.cells #[.int .i64 s.e, .int .i64 s.wt, .int .i64 s.m, .int .i64 s.h] 23))) := (Below.refl _ _).alloc (Nat.le_refl _) _
  by_cases his : s.Is
  · rw [decide_eq_true his]
    obtain ⟨⟨h1, h2⟩, ⟨h3, h4⟩, ⟨h5, h6⟩, h7, h8⟩ := his
    go_enter Try.func9, Try.ntmps9
    go_wp2_with fail
    go_ret
    exact ⟨by first | rfl | exact ret_bool (by simp; omega), HE⟩
  · rw [decide_eq_false his]
    have HN := hid his
    clear his
    by_cases f1 : 1 ≤ s.e
    · by_cases f2 : s.e ≤ 4294967296
      · by_cases f3 : 1 ≤ s.wt
        · by_cases f4 : s.wt ≤ s.e
          · by_cases f5 : 1 ≤ s.m
            · by_cases f6 : s.m ≤ 100
              · by_cases f7 : 1 ≤ s.h
                · have f8 : ¬ s.h ≤ 100 := fun f8 => HN.out ⟨⟨f1, f2⟩, ⟨f3, f4⟩, ⟨f5, f6⟩, f7, f8⟩
                  have f9 : 100 < s.h := by omega
                  clear f8
                  go_enter Try.func9, Try.ntmps9
                  go_wp2_with fail
                  go_ret
                  exact ⟨by first | rfl | exact ret_bool (by simp; omega), HE⟩
                · have f9 : s.h < 1 := by omega
                  clear f7
                  go_enter Try.func9, Try.ntmps9
                  go_wp2_with fail
                  go_ret
                  exact ⟨by first | rfl | exact ret_bool (by simp; omega), HE⟩
              · have f9 : 100 < s.m := by omega
                clear f6
                go_enter Try.func9, Try.ntmps9
                go_wp2_with fail
                go_ret
                exact ⟨by first | rfl | exact ret_bool (by simp; omega), HE⟩
            · have f9 : s.m < 1 := by omega
              clear f5
              go_enter Try.func9, Try.ntmps9
              go_wp2_with fail
              go_ret
              exact ⟨by first | rfl | exact ret_bool (by simp; omega), HE⟩
          · have f9 : s.e < s.wt := by omega
            clear f4
            go_enter Try.func9, Try.ntmps9
            go_wp2_with fail
            go_ret
            exact ⟨by first | rfl | exact ret_bool (by simp; omega), HE⟩
        · have f9 : s.wt < 1 := by omega
          clear f3
          go_enter Try.func9, Try.ntmps9
          go_wp2_with fail
          go_ret
          exact ⟨by first | rfl | exact ret_bool (by simp; omega), HE⟩
      · have f9 : 4294967296 < s.e := by omega
        clear f2
        go_enter Try.func9, Try.ntmps9
        go_wp2_with fail
        go_ret
        exact ⟨by first | rfl | exact ret_bool (by simp; omega), HE⟩
    · have f9 : s.e < 1 := by omega
      clear f1
      go_enter Try.func9, Try.ntmps9
      go_wp2_with fail
      go_ret
      exact ⟨by first | rfl | exact ret_bool (by simp; omega), HE⟩
theorem rmissed_any (h : RkAt w b P a) (ok : PkOk P) : Calls Try.prog 26 #[.pointer (some ⟨b, 0, none⟩)] w fun e w' => e = .returned (.tuple #[]) ∧ Hid (RkAt w' b P.miss a ∧ Tn b w w') := by
  have hw1 : IntKind.i64.wrap (P.ms + 1) = P.ms + 1 := by have := ok.ms; have := ok.m; rw [IntKind.wrap_i64]; omega
  have hms := ok.ms
  have g1 : RkAt (w.setCell ⟨b, 7, none⟩ (.bool false)) b { P with op := false } a := h.set rfl
  have g2 : RkAt ((w.setCell ⟨b, 7, none⟩ (.bool false)).setCell ⟨b, 10, none⟩ (.int .i64 0)) b { P with op := false, ht := 0 } a := g1.set rfl
  have c9 := h.cs.op
  have f9 := h.frozen 7
  have c10 := g1.cs.ht
  have f10 := g1.frozen 10
  have c11 := g2.cs.ms
  have f11 := g2.frozen 9
  obtain ⟨W1, hW1⟩ : ∃ W1, ((w.setCell ⟨b, 7, none⟩ (.bool false)).setCell ⟨b, 10, none⟩ (.int .i64 0)).setCell ⟨b, 9, none⟩ (.int .i64 (P.ms + 1)) = W1 := ⟨_, rfl⟩
  have g3 : RkAt W1 b { P with op := false, ht := 0, ms := P.ms + 1 } a := by rw [← hW1]; exact g2.set rfl
  have t3 : Tn b w W1 := by rw [← hW1]; exact (((Tn.refl b w).set _ _).set _ _).set _ _
  have d11 := fun n : Nat => (g3.drewN n).cs.ms
  have d3 := fun n : Nat => (g3.drewN n).cs.m
  try simp only at c9 c10 c11
  simp only at d11 d3
  by_cases hx : P.ms + 1 = P.m
  · have e : P.miss = { P with op := false, ht := 0, up := false, ms := 0 } := if_pos hx
    rw [e]
    have db : decide (P.m ≤ P.ms + 1) = true := decide_eq_true (by omega)
    have d5 := fun n : Nat => (g3.drewN n).cs.up
    have k5 := fun n : Nat => (g3.drewN n).frozen 11
    have g4 := fun n : Nat => ((g3.drewN n).set (k := 11) (u := .bool false) (P' := { P with op := false, ht := 0, up := false, ms := P.ms + 1 }) (a' := a) rfl)
    have d11' := fun n : Nat => (g4 n).cs.ms
    have k11 := fun n : Nat => (g4 n).frozen 9
    have HF := hid fun n : Nat => And.intro ((g4 n).set (k := 9) (u := .int .i64 0) (P' := { P with op := false, ht := 0, up := false, ms := 0 }) (a' := a) rfl) (((t3.drewN n).set 11 (.bool false)).set 9 (.int .i64 0))
    simp only at d5 d11'
    clear h ok g1 g2 g3 g4 t3 e hx hms
    go_enter Try.func26, Try.ntmps26
    go_wp2_with fail
    try rw [hW1]
    clear hW1 c9 f9 c10 f10 c11 f11
    go_quiet (fail)
    go_wp2_with fail
    go_end0
    exact ⟨rfl, HF.out _⟩
  · have e : P.miss = { P with op := false, ht := 0, ms := P.ms + 1 } := if_neg hx
    rw [e]
    have db : decide (P.m ≤ P.ms + 1) = false := decide_eq_false (by omega)
    have HF := hid fun n : Nat => And.intro (g3.drewN n) (t3.drewN n)
    clear h ok g1 g2 g3 t3 e hx hms
    go_enter Try.func26, Try.ntmps26
    go_wp2_with fail
    try rw [hW1]
    clear hW1 c9 f9 c10 f10 c11 f11
    go_quiet (fail)
    go_wp2_with fail
    go_end0
    exact ⟨rfl, HF.out _⟩
end Go.Proofs.Ytmpooeflbfggbaa
