/-
  Package probe: ask, came, missed.
-/
import Derived.Test.YtmpooeflbfggbaaPbPr
namespace Go.Proofs.Ytmpooeflbfggbaa
open Go.RowKit
set_option linter.unusedVariables false
set_option maxRecDepth 1000000
variable {b : Nat} {w w' : World} {P : Pk}

theorem pask_any (h : PkAt w b P) (ok : PkOk P) : Calls Try.prog 24 #[.pointer (some ⟨b, 0, none⟩)] w fun e w' => e = .returned (.tuple #[]) ∧ Hid (PkAt w' b P.asks ∧ Tn b w w') := by
  have hw1 : IntKind.u64.wrap (P.ask + 1) = P.ask + 1 := by have := ok.ask; have := ok.nx; rw [IntKind.wrap_u64]; omega
  have hw2 : IntKind.i64.wrap (P.now + P.wt) = P.now + P.wt := by have := ok.now; have := ok.e; have := ok.wt; rw [IntKind.wrap_i64]; omega
  have hw3 : IntKind.i64.wrap (P.now + P.e) = P.now + P.e := by have := ok.now; have := ok.e; rw [IntKind.wrap_i64]; omega
  have c8 := h.cs.ask
  have f8 := h.frozen 8
  have g1 : PkAt (w.setCell ⟨b, 8, none⟩ (.int .u64 (P.ask + 1))) b { P with ask := P.ask + 1 } := h.set rfl
  have t1 : Tn b w (w.setCell ⟨b, 8, none⟩ (.int .u64 (P.ask + 1))) := (Tn.refl b w).set _ _
  have c9 := g1.cs.op
  have f9 := g1.frozen 9
  obtain ⟨W1, hW1⟩ : ∃ W1, (w.setCell ⟨b, 8, none⟩ (.int .u64 (P.ask + 1))).setCell ⟨b, 9, none⟩ (.bool true) = W1 := ⟨_, rfl⟩
  have g2 : PkAt W1 b { P with ask := P.ask + 1, op := true } := by rw [← hW1]; exact g1.set rfl
  have t2 : Tn b w W1 := by rw [← hW1]; exact t1.set _ _
  obtain ⟨W3, hW3⟩ : ∃ W3, W1.drew = W3 := ⟨_, rfl⟩
  have g3 : PkAt W3 b { P with ask := P.ask + 1, op := true } := by rw [← hW3]; exact PkAt.below g2 (Below.refl _ _).drew
  have t3 : Tn b w W3 := by rw [← hW3]; exact t2.drew
  have d4 := g3.cs.now
  have d1 := g3.cs.wt
  have d7 := g3.cs.en
  have k7 := g3.frozen 7
  obtain ⟨W4, hW4⟩ : ∃ W4, W3.setCell ⟨b, 7, none⟩ (.int .i64 (P.now + P.wt)) = W4 := ⟨_, rfl⟩
  obtain ⟨W5, hW5⟩ : ∃ W5, W4.drew = W5 := ⟨_, rfl⟩
  have g4 : PkAt W4 b { P with ask := P.ask + 1, op := true, en := P.now + P.wt } := by rw [← hW4]; exact g3.set rfl
  have t4 : Tn b w W4 := by rw [← hW4]; exact t3.set _ _
  have g5 : PkAt W5 b { P with ask := P.ask + 1, op := true, en := P.now + P.wt } := by rw [← hW5]; exact g4.below (Below.refl _ _).drew
  have t5 : Tn b w W5 := by rw [← hW5]; exact t4.drew
  have e4 := g5.cs.now
  have e0 := g5.cs.e
  have e6 := g5.cs.nx
  have k6 := g5.frozen 6
  have HF : Hid (PkAt (W5.setCell ⟨b, 6, none⟩ (.int .i64 (P.now + P.e))) b P.asks ∧ Tn b w (W5.setCell ⟨b, 6, none⟩ (.int .i64 (P.now + P.e)))) := ⟨g5.set rfl, t5.set _ _⟩
  simp only at c8 c9 d4 d1 d7 e4 e0 e6
  have HW4 := hid hW4
  have HW5 := hid hW5
  clear h ok g1 t1 g2 t2 g3 t3 g4 t4 g5 t5 hW4 hW5
  go_enter Try.func24, Try.ntmps24
  go_wp2_with fail
  try rw [hW1]
  clear hW1 c8 f8 c9 f9
  refine wp_region_still_tail 11 rfl (by kernel_rfl) ?_
  rw [show ({ W1 with drawn := W1.drawn + 1 } : World) = W3 from hW3]
  clear hW3
  simp only [List.take_succ_cons, List.take_zero, List.drop_succ_cons, List.drop_zero]
  repeat still_step
  try refine wpStill_nil ?_
  go_wp2_with fail
  try rw [HW4.out]
  clear d4 d1 d7 k7 HW4
  refine wp_region_still_tail 11 rfl (by kernel_rfl) ?_
  rw [show ({ W4 with drawn := W4.drawn + 1 } : World) = W5 from HW5.out]
  clear HW5
  simp only [List.take_succ_cons, List.take_zero, List.drop_succ_cons, List.drop_zero]
  repeat still_step
  try refine wpStill_nil ?_
  go_wp2_with fail
  go_end0
  exact ⟨rfl, HF⟩
theorem pcame_any (h : PkAt w b P) (ok : PkOk P) : Calls Try.prog 27 #[.pointer (some ⟨b, 0, none⟩)] w fun e w' => e = .returned (.tuple #[]) ∧ Hid (PkAt w' b P.came ∧ Tn b w w') := by
  have hw1 : IntKind.i64.wrap (P.ht + 1) = P.ht + 1 := by have := ok.ht; have := ok.h; rw [IntKind.wrap_i64]; omega
  have g1 : PkAt (w.setCell ⟨b, 9, none⟩ (.bool false)) b { P with op := false } := h.set rfl
  have g2 : PkAt ((w.setCell ⟨b, 9, none⟩ (.bool false)).setCell ⟨b, 10, none⟩ (.int .i64 0)) b { P with op := false, ms := 0 } := g1.set rfl
  have c9 := h.cs.op
  have f9 := h.frozen 9
  have c10 := g1.cs.ms
  have f10 := g1.frozen 10
  have c11 := g2.cs.ht
  have f11 := g2.frozen 11
  obtain ⟨W1, hW1⟩ : ∃ W1, ((w.setCell ⟨b, 9, none⟩ (.bool false)).setCell ⟨b, 10, none⟩ (.int .i64 0)).setCell ⟨b, 11, none⟩ (.int .i64 (P.ht + 1)) = W1 := ⟨_, rfl⟩
  have g3 : PkAt W1 b { P with op := false, ms := 0, ht := P.ht + 1 } := by rw [← hW1]; exact g2.set rfl
  have t3 : Tn b w W1 := by rw [← hW1]; exact (((Tn.refl b w).set _ _).set _ _).set _ _
  have d11 := fun n : Nat => (g3.drewN n).cs.ht
  have d3 := fun n : Nat => (g3.drewN n).cs.h
  try simp only at c9 c10 c11
  simp only at d11 d3
  by_cases hx : P.ht + 1 = P.h
  · have e : P.came = { P with op := false, ms := 0, up := true, ht := 0 } := if_pos hx
    rw [e]
    have db : decide (P.ht + 1 = P.h) = true := decide_eq_true hx
    have db2 : (P.ht + 1 == P.h) = true := beq_iff_eq.2 hx
    have d5 := fun n : Nat => (g3.drewN n).cs.up
    have k5 := fun n : Nat => (g3.drewN n).frozen 5
    have g4 := fun n : Nat => ((g3.drewN n).set (k := 5) (u := .bool true) (P' := { P with op := false, ms := 0, up := true, ht := P.ht + 1 }) rfl)
    have d11' := fun n : Nat => (g4 n).cs.ht
    have k11 := fun n : Nat => (g4 n).frozen 11
    have HF := hid fun n : Nat => And.intro ((g4 n).set (k := 11) (u := .int .i64 0) (P' := { P with op := false, ms := 0, up := true, ht := 0 }) rfl) (((t3.drewN n).set 5 (.bool true)).set 11 (.int .i64 0))
    simp only at d5 d11'
    clear h ok g1 g2 g3 g4 t3 e hx
    go_enter Try.func27, Try.ntmps27
    go_wp2_with fail
    try rw [hW1]
    clear hW1 c9 f9 c10 f10 c11 f11
    go_quiet (fail)
    go_wp2_with fail
    go_end0
    exact ⟨rfl, HF.out _⟩
  · have e : P.came = { P with op := false, ms := 0, ht := P.ht + 1 } := if_neg hx
    rw [e]
    have db : decide (P.ht + 1 = P.h) = false := decide_eq_false hx
    have db2 : (P.ht + 1 == P.h) = false := beq_eq_false_iff_ne.2 hx
    have HF := hid fun n : Nat => And.intro (g3.drewN n) (t3.drewN n)
    clear h ok g1 g2 g3 t3 e hx
    go_enter Try.func27, Try.ntmps27
    go_wp2_with fail
    try rw [hW1]
    clear hW1 c9 f9 c10 f10 c11 f11
    go_quiet (fail)
    go_wp2_with fail
    go_end0
    exact ⟨rfl, HF.out _⟩
theorem pmissed_any (h : PkAt w b P) (ok : PkOk P) : Calls Try.prog 30 #[.pointer (some ⟨b, 0, none⟩)] w fun e w' => e = .returned (.tuple #[]) ∧ Hid (PkAt w' b P.miss ∧ Tn b w w') := by
  have hw1 : IntKind.i64.wrap (P.ms + 1) = P.ms + 1 := by have := ok.ms; have := ok.m; rw [IntKind.wrap_i64]; omega
  have g1 : PkAt (w.setCell ⟨b, 9, none⟩ (.bool false)) b { P with op := false } := h.set rfl
  have g2 : PkAt ((w.setCell ⟨b, 9, none⟩ (.bool false)).setCell ⟨b, 11, none⟩ (.int .i64 0)) b { P with op := false, ht := 0 } := g1.set rfl
  have c9 := h.cs.op
  have f9 := h.frozen 9
  have c10 := g1.cs.ht
  have f10 := g1.frozen 11
  have c11 := g2.cs.ms
  have f11 := g2.frozen 10
  obtain ⟨W1, hW1⟩ : ∃ W1, ((w.setCell ⟨b, 9, none⟩ (.bool false)).setCell ⟨b, 11, none⟩ (.int .i64 0)).setCell ⟨b, 10, none⟩ (.int .i64 (P.ms + 1)) = W1 := ⟨_, rfl⟩
  have g3 : PkAt W1 b { P with op := false, ht := 0, ms := P.ms + 1 } := by rw [← hW1]; exact g2.set rfl
  have t3 : Tn b w W1 := by rw [← hW1]; exact (((Tn.refl b w).set _ _).set _ _).set _ _
  have d11 := fun n : Nat => (g3.drewN n).cs.ms
  have d3 := fun n : Nat => (g3.drewN n).cs.m
  try simp only at c9 c10 c11
  simp only at d11 d3
  by_cases hx : P.ms + 1 = P.m
  · have e : P.miss = { P with op := false, ht := 0, up := false, ms := 0 } := if_pos hx
    rw [e]
    have db : decide (P.ms + 1 = P.m) = true := decide_eq_true hx
    have db2 : (P.ms + 1 == P.m) = true := beq_iff_eq.2 hx
    have d5 := fun n : Nat => (g3.drewN n).cs.up
    have k5 := fun n : Nat => (g3.drewN n).frozen 5
    have g4 := fun n : Nat => ((g3.drewN n).set (k := 5) (u := .bool false) (P' := { P with op := false, ht := 0, up := false, ms := P.ms + 1 }) rfl)
    have d11' := fun n : Nat => (g4 n).cs.ms
    have k11 := fun n : Nat => (g4 n).frozen 10
    have HF := hid fun n : Nat => And.intro ((g4 n).set (k := 10) (u := .int .i64 0) (P' := { P with op := false, ht := 0, up := false, ms := 0 }) rfl) (((t3.drewN n).set 5 (.bool false)).set 10 (.int .i64 0))
    simp only at d5 d11'
    clear h ok g1 g2 g3 g4 t3 e hx
    go_enter Try.func30, Try.ntmps30
    go_wp2_with fail
    try rw [hW1]
    clear hW1 c9 f9 c10 f10 c11 f11
    go_quiet (fail)
    go_wp2_with fail
    go_end0
    exact ⟨rfl, HF.out _⟩
  · have e : P.miss = { P with op := false, ht := 0, ms := P.ms + 1 } := if_neg hx
    rw [e]
    have db : decide (P.ms + 1 = P.m) = false := decide_eq_false hx
    have db2 : (P.ms + 1 == P.m) = false := beq_eq_false_iff_ne.2 hx
    have HF := hid fun n : Nat => And.intro (g3.drewN n) (t3.drewN n)
    clear h ok g1 g2 g3 t3 e hx
    go_enter Try.func30, Try.ntmps30
    go_wp2_with fail
    try rw [hW1]
    clear hW1 c9 f9 c10 f10 c11 f11
    go_quiet (fail)
    go_wp2_with fail
    go_end0
    exact ⟨rfl, HF.out _⟩
end Go.Proofs.Ytmpooeflbfggbaa
