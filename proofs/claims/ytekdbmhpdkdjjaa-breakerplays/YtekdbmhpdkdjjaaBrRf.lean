/-
  The document's breaker: in memory (RkAt), May, New, Later, Leave, Allow.
-/
import Derived.Test.YtekdbmhpdkdjjaaBrPr
import Derived.StillTailTactics
namespace Go.Proofs.Ytekdbmhpdkdjjaa
open Go.RowKit
set_option linter.unusedVariables false
set_option maxRecDepth 1000000
variable {b : Nat} {w w' : World} {P : Pk} {R : Rk}

/-- Its cells. -/
def RkC (R : Rk) : Array Value := #[.int .i64 R.f, .int .i64 R.c, .int .i64 R.m, .int .i64 R.n, .int .i64 R.st, .int .i64 R.cnt, .int .i64 R.cool, .int .i64 R.un, .bool R.tr, .int .i64 R.t]
/-- It lies there. -/
def RkAt (W : World) (b : Nat) (R : Rk) : Prop := W.heap[b]? = some (.cells (RkC R) 34 (0, 0))
theorem RkAt.lt (h : RkAt w b R) : b < w.heap.size := lt_of_block h
theorem RkAt.below (h : RkAt w b R) (hb : Below w.heap.size w w') : RkAt w' b R := (hb.block b h.lt).trans h
theorem RkAt.cells (h : RkAt w b R) : w.cell? ⟨b, 0, none⟩ = some (.int .i64 R.f) ∧ w.cell? ⟨b, 1, none⟩ = some (.int .i64 R.c) ∧ w.cell? ⟨b, 2, none⟩ = some (.int .i64 R.m) ∧ w.cell? ⟨b, 3, none⟩ = some (.int .i64 R.n) ∧ w.cell? ⟨b, 4, none⟩ = some (.int .i64 R.st) ∧ w.cell? ⟨b, 5, none⟩ = some (.int .i64 R.cnt) ∧ w.cell? ⟨b, 6, none⟩ = some (.int .i64 R.cool) ∧ w.cell? ⟨b, 7, none⟩ = some (.int .i64 R.un) ∧ w.cell? ⟨b, 8, none⟩ = some (.bool R.tr) ∧ w.cell? ⟨b, 9, none⟩ = some (.int .i64 R.t) := by
  have hc : w.heap[b]? = some (.cells (RkC R) 34 (0, 0)) := h
  refine ⟨?_, ?_, ?_, ?_, ?_, ?_, ?_, ?_, ?_, ?_⟩ <;> (rw [cell_of_row _ _ _ _ _ _ hc]; rfl)
theorem RkAt.frozen (h : RkAt w b R) (k : Nat) : w.frozen? ⟨b, k, none⟩ = false := frozen_of_row _ _ k _ _ h
theorem RkAt.set {k : Nat} {u : Value} {R' : Rk} (h : RkAt w b R) (e : (RkC R).setIfInBounds k u = RkC R') : RkAt (w.setCell ⟨b, k, none⟩ u) b R' := by
  have := row_set (k := k) (u := u) h
  rw [e] at this
  exact this
theorem rmay_yes {s : Sg} (h : s.Is) (w : World) : Calls Try.prog 9 #[.agg (SgV s)] w fun e w' => e = .returned (.bool true) ∧ Hid (Below w.heap.size w w') := by
  obtain ⟨⟨h1, h2⟩, ⟨h3, h4⟩, h5, h6, h7⟩ := h
  unfold SgV
  have HE : Hid (Below w.heap.size w (w.alloc (.cells #[.int .i64 s.f, .int .i64 s.c, .int .i64 s.m, .int .i64 s.n] 23))) := (Below.refl _ _).alloc (Nat.le_refl _) _
  go_enter Try.func9, Try.ntmps9
  go_wp2_with fail
  go_ret
  exact ⟨by first | rfl | exact ret_bool (by simp; omega), HE⟩
theorem rmay_no {s : Sg} (h : ¬ s.Is) (w : World) : Calls Try.prog 9 #[.agg (SgV s)] w fun e w' => e = .returned (.bool false) ∧ Hid (Below w.heap.size w w') := by
  have HN := hid h
  clear h
  unfold SgV
  have HE : Hid (Below w.heap.size w (w.alloc (.cells #[.int .i64 s.f, .int .i64 s.c, .int .i64 s.m, .int .i64 s.n] 23))) := (Below.refl _ _).alloc (Nat.le_refl _) _
  by_cases f0 : 1 ≤ s.f
  · skip
    by_cases f1 : s.f ≤ 1000
    · skip
      by_cases c0 : 1 ≤ s.c
      · skip
        by_cases c1 : s.c ≤ s.m
        · skip
          by_cases m1 : s.m ≤ 4294967296
          · skip
            by_cases n0 : 1 ≤ s.n
            · skip
              by_cases n1 : s.n ≤ 1000
              · exact absurd ⟨⟨f0, f1⟩, ⟨n0, n1⟩, c0, c1, m1⟩ HN.out
              · have n1x : 1000 < s.n := by omega
                clear n1
                go_enter Try.func9, Try.ntmps9
                go_wp2_with fail
                go_ret
                exact ⟨by first | rfl | exact ret_bool (by simp; omega), HE⟩
            · have n0x : s.n < 1 := by omega
              clear n0
              go_enter Try.func9, Try.ntmps9
              go_wp2_with fail
              go_ret
              exact ⟨by first | rfl | exact ret_bool (by simp; omega), HE⟩
          · have m1x : 4294967296 < s.m := by omega
            clear m1
            go_enter Try.func9, Try.ntmps9
            go_wp2_with fail
            go_ret
            exact ⟨by first | rfl | exact ret_bool (by simp; omega), HE⟩
        · have c1x : s.m < s.c := by omega
          clear c1
          go_enter Try.func9, Try.ntmps9
          go_wp2_with fail
          go_ret
          exact ⟨by first | rfl | exact ret_bool (by simp; omega), HE⟩
      · have c0x : s.c < 1 := by omega
        clear c0
        go_enter Try.func9, Try.ntmps9
        go_wp2_with fail
        go_ret
        exact ⟨by first | rfl | exact ret_bool (by simp; omega), HE⟩
    · have f1x : 1000 < s.f := by omega
      clear f1
      go_enter Try.func9, Try.ntmps9
      go_wp2_with fail
      go_ret
      exact ⟨by first | rfl | exact ret_bool (by simp; omega), HE⟩
  · have f0x : s.f < 1 := by omega
    clear f0
    go_enter Try.func9, Try.ntmps9
    go_wp2_with fail
    go_ret
    exact ⟨by first | rfl | exact ret_bool (by simp; omega), HE⟩
theorem RkAt.drewN (h : RkAt w b R) (n : Nat) : RkAt (w.drewN n) b R := h
theorem Tn.drewN (h : Tn b w w') (n : Nat) : Tn b w (w'.drewN n) := ⟨h.os, h.tape, h.output, h.size, h.block⟩
/-- What Later does, its time being set. -/
theorem Rk.ltr_half {R : Rk} {t : Int} (h1 : R.st = 1) (h2 : R.un ≤ tmZ R.t t) : R.ltr t = { R with t := tmZ R.t t, st := 2, cnt := 0, tr := false } := if_pos ⟨h1, h2⟩
theorem Rk.ltr_no {R : Rk} {t : Int} (h : ¬ (R.st = 1 ∧ R.un ≤ tmZ R.t t)) : R.ltr t = { R with t := tmZ R.t t } := if_neg h
theorem rlater_any (h : RkAt w b R) (t : Int) : Calls Try.prog 19 #[.pointer (some ⟨b, 0, none⟩), .int .i64 t] w fun e w' => e = .returned (.tuple #[]) ∧ Hid (RkAt w' b (R.ltr t) ∧ Tn b w w') := by
  have c9 := h.cells.2.2.2.2.2.2.2.2.2
  have f9 := h.frozen 9
  obtain ⟨t', ht'⟩ : ∃ t', tmZ R.t t = t' := ⟨_, rfl⟩
  by_cases hm : R.t < t ∧ t ≤ 1099511627776
  · obtain ⟨h1, h2⟩ := hm
    obtain rfl : t = t' := by rw [← ht']; exact (if_pos ⟨h1, h2⟩).symm
    obtain ⟨W1, hW1⟩ : ∃ W1, w.setCell ⟨b, 9, none⟩ (.int .i64 t) = W1 := ⟨_, rfl⟩
    have g1 : RkAt W1 b { R with t := t } := by rw [← hW1]; exact h.set rfl
    have t1 : Tn b w W1 := by rw [← hW1]; exact (Tn.refl b w).set _ _
    have HT := hid ht'
    clear h ht'
    by_cases hs : R.st = 1
    · by_cases hu : R.un ≤ t
      · have e : R.ltr t = { R with t := t, st := 2, cnt := 0, tr := false } := by rw [Rk.ltr_half hs (by rw [HT.out]; exact hu), HT.out]
        rw [e]
        have HE := hid fun n : Nat => (⟨((((g1.drewN n).set (k := 4) (u := .int .i64 2) (R' := { R with t := t, st := 2 }) rfl).set (k := 5) (u := .int .i64 0) (R' := { R with t := t, st := 2, cnt := 0 }) rfl).set (k := 8) (u := .bool false) (R' := { R with t := t, st := 2, cnt := 0, tr := false }) rfl), (((t1.drewN n).set 4 (.int .i64 2)).set 5 (.int .i64 0)).set 8 (.bool false)⟩ : RkAt _ b { R with t := t, st := 2, cnt := 0, tr := false } ∧ Tn b w _)
        have d4 := fun n : Nat => (g1.drewN n).cells.2.2.2.2.1
        have d5 := fun n : Nat => (g1.drewN n).cells.2.2.2.2.2.1
        have d7 := fun n : Nat => (g1.drewN n).cells.2.2.2.2.2.2.2.1
        have d8 := fun n : Nat => (g1.drewN n).cells.2.2.2.2.2.2.2.2.1
        have d9 := fun n : Nat => (g1.drewN n).cells.2.2.2.2.2.2.2.2.2
        have k4 := fun n : Nat => (g1.drewN n).frozen 4
        have k5 := fun n : Nat => (g1.drewN n).frozen 5
        have k8 := fun n : Nat => (g1.drewN n).frozen 8
        try simp only at d4 d5 d7 d8 d9
        rw [hs] at d4
        have db : decide (R.un ≤ t) = true := decide_eq_true hu
        clear e g1 t1 hs HT
        go_enter Try.func19, Try.ntmps19
        go_wp2_with fail
        (try rw [hW1]); (try clear hW1)
        go_quiet (fail)
        go_wp2_with fail
        go_end0
        exact ⟨rfl, HE.out _⟩
      · have e : R.ltr t = { R with t := t } := by rw [Rk.ltr_no (fun hx => hu (by rw [← HT.out]; exact hx.2)), HT.out]
        rw [e]
        have HE := hid fun n : Nat => (⟨g1.drewN n, t1.drewN n⟩ : RkAt _ b { R with t := t } ∧ Tn b w _)
        have d4 := fun n : Nat => (g1.drewN n).cells.2.2.2.2.1
        have d7 := fun n : Nat => (g1.drewN n).cells.2.2.2.2.2.2.2.1
        have d9 := fun n : Nat => (g1.drewN n).cells.2.2.2.2.2.2.2.2.2
        try simp only at d4 d7 d9
        rw [hs] at d4
        have db : decide (R.un ≤ t) = false := decide_eq_false hu
        clear e g1 t1 hs HT
        go_enter Try.func19, Try.ntmps19
        go_wp2_with fail
        (try rw [hW1]); (try clear hW1)
        go_quiet (fail)
        go_wp2_with fail
        go_end0
        exact ⟨rfl, HE.out _⟩
    · have e : R.ltr t = { R with t := t } := by rw [Rk.ltr_no (fun hx => hs hx.1), HT.out]
      rw [e]
      have HE := hid fun n : Nat => (⟨g1.drewN n, t1.drewN n⟩ : RkAt _ b { R with t := t } ∧ Tn b w _)
      have d4 := fun n : Nat => (g1.drewN n).cells.2.2.2.2.1
      try simp only at d4
      have db : decide (R.st = 1) = false := decide_eq_false hs
      clear e g1 t1 HT
      go_enter Try.func19, Try.ntmps19
      go_wp2_with fail
      (try rw [hW1]); (try clear hW1)
      go_quiet (fail)
      go_wp2_with fail
      go_end0
      exact ⟨rfl, HE.out _⟩
  · have ht2 : t' = R.t := by rw [← ht']; exact if_neg hm
    subst ht2
    have hx : t ≤ R.t ∨ (R.t < t ∧ 1099511627776 < t) := by omega
    obtain ⟨W1, hW1⟩ : ∃ W1, w = W1 := ⟨_, rfl⟩
    have g1 : RkAt W1 b { R with t := R.t } := by rw [← hW1]; exact h
    have t1 : Tn b w W1 := by rw [← hW1]; exact Tn.refl b w
    subst hW1
    clear hm
    rcases hx with h1 | ⟨h1, h2⟩
    · skip
      have HT := hid ht'
      clear h ht'
      by_cases hs : R.st = 1
      · by_cases hu : R.un ≤ R.t
        · have e : R.ltr t = { R with t := R.t, st := 2, cnt := 0, tr := false } := by rw [Rk.ltr_half hs (by rw [HT.out]; exact hu), HT.out]
          rw [e]
          have HE := hid fun n : Nat => (⟨((((g1.drewN n).set (k := 4) (u := .int .i64 2) (R' := { R with t := R.t, st := 2 }) rfl).set (k := 5) (u := .int .i64 0) (R' := { R with t := R.t, st := 2, cnt := 0 }) rfl).set (k := 8) (u := .bool false) (R' := { R with t := R.t, st := 2, cnt := 0, tr := false }) rfl), (((t1.drewN n).set 4 (.int .i64 2)).set 5 (.int .i64 0)).set 8 (.bool false)⟩ : RkAt _ b { R with t := R.t, st := 2, cnt := 0, tr := false } ∧ Tn b w _)
          have d4 := fun n : Nat => (g1.drewN n).cells.2.2.2.2.1
          have d5 := fun n : Nat => (g1.drewN n).cells.2.2.2.2.2.1
          have d7 := fun n : Nat => (g1.drewN n).cells.2.2.2.2.2.2.2.1
          have d8 := fun n : Nat => (g1.drewN n).cells.2.2.2.2.2.2.2.2.1
          have d9 := fun n : Nat => (g1.drewN n).cells.2.2.2.2.2.2.2.2.2
          have k4 := fun n : Nat => (g1.drewN n).frozen 4
          have k5 := fun n : Nat => (g1.drewN n).frozen 5
          have k8 := fun n : Nat => (g1.drewN n).frozen 8
          try simp only at d4 d5 d7 d8 d9
          rw [hs] at d4
          have db : decide (R.un ≤ R.t) = true := decide_eq_true hu
          clear e g1 t1 hs HT
          go_enter Try.func19, Try.ntmps19
          go_wp2_with fail
          go_quiet (fail)
          go_wp2_with fail
          go_end0
          exact ⟨rfl, HE.out _⟩
        · have e : R.ltr t = { R with t := R.t } := by rw [Rk.ltr_no (fun hx => hu (by rw [← HT.out]; exact hx.2)), HT.out]
          rw [e]
          have HE := hid fun n : Nat => (⟨g1.drewN n, t1.drewN n⟩ : RkAt _ b { R with t := R.t } ∧ Tn b w _)
          have d4 := fun n : Nat => (g1.drewN n).cells.2.2.2.2.1
          have d7 := fun n : Nat => (g1.drewN n).cells.2.2.2.2.2.2.2.1
          have d9 := fun n : Nat => (g1.drewN n).cells.2.2.2.2.2.2.2.2.2
          try simp only at d4 d7 d9
          rw [hs] at d4
          have db : decide (R.un ≤ R.t) = false := decide_eq_false hu
          clear e g1 t1 hs HT
          go_enter Try.func19, Try.ntmps19
          go_wp2_with fail
          go_quiet (fail)
          go_wp2_with fail
          go_end0
          exact ⟨rfl, HE.out _⟩
      · have e : R.ltr t = { R with t := R.t } := by rw [Rk.ltr_no (fun hx => hs hx.1), HT.out]
        rw [e]
        have HE := hid fun n : Nat => (⟨g1.drewN n, t1.drewN n⟩ : RkAt _ b { R with t := R.t } ∧ Tn b w _)
        have d4 := fun n : Nat => (g1.drewN n).cells.2.2.2.2.1
        try simp only at d4
        have db : decide (R.st = 1) = false := decide_eq_false hs
        clear e g1 t1 HT
        go_enter Try.func19, Try.ntmps19
        go_wp2_with fail
        go_quiet (fail)
        go_wp2_with fail
        go_end0
        exact ⟨rfl, HE.out _⟩
    · skip
      have HT := hid ht'
      clear h ht'
      by_cases hs : R.st = 1
      · by_cases hu : R.un ≤ R.t
        · have e : R.ltr t = { R with t := R.t, st := 2, cnt := 0, tr := false } := by rw [Rk.ltr_half hs (by rw [HT.out]; exact hu), HT.out]
          rw [e]
          have HE := hid fun n : Nat => (⟨((((g1.drewN n).set (k := 4) (u := .int .i64 2) (R' := { R with t := R.t, st := 2 }) rfl).set (k := 5) (u := .int .i64 0) (R' := { R with t := R.t, st := 2, cnt := 0 }) rfl).set (k := 8) (u := .bool false) (R' := { R with t := R.t, st := 2, cnt := 0, tr := false }) rfl), (((t1.drewN n).set 4 (.int .i64 2)).set 5 (.int .i64 0)).set 8 (.bool false)⟩ : RkAt _ b { R with t := R.t, st := 2, cnt := 0, tr := false } ∧ Tn b w _)
          have d4 := fun n : Nat => (g1.drewN n).cells.2.2.2.2.1
          have d5 := fun n : Nat => (g1.drewN n).cells.2.2.2.2.2.1
          have d7 := fun n : Nat => (g1.drewN n).cells.2.2.2.2.2.2.2.1
          have d8 := fun n : Nat => (g1.drewN n).cells.2.2.2.2.2.2.2.2.1
          have d9 := fun n : Nat => (g1.drewN n).cells.2.2.2.2.2.2.2.2.2
          have k4 := fun n : Nat => (g1.drewN n).frozen 4
          have k5 := fun n : Nat => (g1.drewN n).frozen 5
          have k8 := fun n : Nat => (g1.drewN n).frozen 8
          try simp only at d4 d5 d7 d8 d9
          rw [hs] at d4
          have db : decide (R.un ≤ R.t) = true := decide_eq_true hu
          clear e g1 t1 hs HT
          go_enter Try.func19, Try.ntmps19
          go_wp2_with fail
          go_quiet (fail)
          go_wp2_with fail
          go_end0
          exact ⟨rfl, HE.out _⟩
        · have e : R.ltr t = { R with t := R.t } := by rw [Rk.ltr_no (fun hx => hu (by rw [← HT.out]; exact hx.2)), HT.out]
          rw [e]
          have HE := hid fun n : Nat => (⟨g1.drewN n, t1.drewN n⟩ : RkAt _ b { R with t := R.t } ∧ Tn b w _)
          have d4 := fun n : Nat => (g1.drewN n).cells.2.2.2.2.1
          have d7 := fun n : Nat => (g1.drewN n).cells.2.2.2.2.2.2.2.1
          have d9 := fun n : Nat => (g1.drewN n).cells.2.2.2.2.2.2.2.2.2
          try simp only at d4 d7 d9
          rw [hs] at d4
          have db : decide (R.un ≤ R.t) = false := decide_eq_false hu
          clear e g1 t1 hs HT
          go_enter Try.func19, Try.ntmps19
          go_wp2_with fail
          go_quiet (fail)
          go_wp2_with fail
          go_end0
          exact ⟨rfl, HE.out _⟩
      · have e : R.ltr t = { R with t := R.t } := by rw [Rk.ltr_no (fun hx => hs hx.1), HT.out]
        rw [e]
        have HE := hid fun n : Nat => (⟨g1.drewN n, t1.drewN n⟩ : RkAt _ b { R with t := R.t } ∧ Tn b w _)
        have d4 := fun n : Nat => (g1.drewN n).cells.2.2.2.2.1
        try simp only at d4
        have db : decide (R.st = 1) = false := decide_eq_false hs
        clear e g1 t1 HT
        go_enter Try.func19, Try.ntmps19
        go_wp2_with fail
        go_quiet (fail)
        go_wp2_with fail
        go_end0
        exact ⟨rfl, HE.out _⟩
end Go.Proofs.Ytekdbmhpdkdjjaa
