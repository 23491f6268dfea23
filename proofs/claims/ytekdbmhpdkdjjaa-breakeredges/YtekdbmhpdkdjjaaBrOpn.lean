/-
  Package breaker: open.
-/
import Derived.Test.YtekdbmhpdkdjjaaBrPr2
import Derived.StillTailTactics
namespace Go.Proofs.Ytekdbmhpdkdjjaa
open Go.RowKit
set_option linter.unusedVariables false
set_option maxRecDepth 1000000
variable {b : Nat} {w w' : World} {P : Pk}

theorem badd_any (x y : Int) (w : World) (hx : 0 ≤ x) (hx1 : x ≤ 1099511627776) (hy : 1 ≤ y) (hy1 : y ≤ 4294967296) : Calls Try.prog 37 #[.int .i64 x, .int .i64 y] w fun e w' => e = .returned (.int .i64 (x + y)) ∧ w' = w := by
  have h1 : ¬ y < 0 := by omega
  go_enter Try.func37, Try.ntmps37
  go_wp2
  go_ret
  exact ⟨rfl, rfl⟩
theorem bwithin_any (x c m : Int) (w : World) (h : c ≤ m) (hx : c ≤ x) (hx1 : 0 ≤ x) : Calls Try.prog 38 #[.int .i64 (x + x), .int .i64 c, .int .i64 m] w fun e w' => e = .returned (.int .i64 (twZ x m)) ∧ w' = w := by
  have h1 : ¬ m < c := by omega
  have h2 : ¬ x + x < c := by omega
  by_cases h3 : x + x ≤ m
  · have e : twZ x m = x + x := by unfold twZ; rw [if_pos (by omega)]; omega
    have h4 : ¬ m < x + x := by omega
    rw [e]
    clear h3
    go_enter Try.func38, Try.ntmps38
    go_wp2
    go_ret
    exact ⟨rfl, rfl⟩
  · have e : twZ x m = m := by unfold twZ; rw [if_neg (by omega)]
    have h4 : m < x + x := by omega
    rw [e]
    clear h3
    go_enter Try.func38, Try.ntmps38
    go_wp2
    go_ret
    exact ⟨rfl, rfl⟩
set_option maxHeartbeats 4000000 in
theorem bopen_any (h : PkAt w b P) (ok : PkT P) : Calls Try.prog 33 #[.pointer (some ⟨b, 0, none⟩)] w fun e w' => e = .returned (.tuple #[]) ∧ Hid (PkAt w' b P.opn ∧ Tn b w w') := by
  have hA := fun W : World => badd_any P.now P.cool W ok.now.1 ok.now.2 (by have := ok.c; have := ok.cool; omega) (by have := ok.m; have := ok.cool; omega)
  have hA2 := fun W : World => badd_any P.cool P.cool W (by have := ok.c; have := ok.cool; omega) (by have := ok.m; have := ok.cool; omega) (by have := ok.c; have := ok.cool; omega) (by have := ok.m; have := ok.cool; omega)
  have hI := fun W : World => bwithin_any P.cool P.c P.m W ok.c.2 ok.cool.1 (by have := ok.c; have := ok.cool; omega)
  have HA := hid hA
  have HA2 := hid hA2
  have HI := hid hI
  have x5 := h.cells.2.2.2.2.2.1
  have f5 := h.frozen 5
  obtain ⟨W1, hW1⟩ : ∃ W1, w.setCell ⟨b, 5, none⟩ (.int .i64 1) = W1 := ⟨_, rfl⟩
  have g1 : PkAt W1 b { P with st := 1 } := by rw [← hW1]; exact h.set rfl
  have t1 : Tn b w W1 := by rw [← hW1]; exact (Tn.refl b w).set _ _
  obtain ⟨W3, hW3⟩ : ∃ W3, W1.drew = W3 := ⟨_, rfl⟩
  have g3 : PkAt W3 b { P with st := 1 } := by rw [← hW3]; exact PkAt.below g1 (Below.refl _ _).drew
  have t3 : Tn b w W3 := by rw [← hW3]; exact t1.drew
  obtain ⟨d0, d1, d2, d3, d4, d5, d6, d7, d8, d9, d10, d11, d12⟩ := g3.cells
  have f9 := g3.frozen 9
  clear d0 d1 d2 d3 d5 d7 d8 d10 d11 d12
  simp only at d4 d6
  obtain ⟨W4, hW4⟩ : ∃ W4, W3.setCell ⟨b, 9, none⟩ (.int .i64 (P.now + P.cool)) = W4 := ⟨_, rfl⟩
  obtain ⟨W5, hW5⟩ : ∃ W5, W4.drew = W5 := ⟨_, rfl⟩
  have g4 : PkAt W4 b { P with st := 1, un := P.now + P.cool } := by rw [← hW4]; exact g3.set rfl
  have t4 : Tn b w W4 := by rw [← hW4]; exact t3.set _ _
  have g5 : PkAt W5 b { P with st := 1, un := P.now + P.cool } := by rw [← hW5]; exact g4.below (Below.refl _ _).drew
  have t5 : Tn b w W5 := by rw [← hW5]; exact t4.drew
  have HF : Hid (PkAt (W5.setCell ⟨b, 6, none⟩ (.int .i64 (twZ P.cool P.m))) b P.opn ∧ Tn b w (W5.setCell ⟨b, 6, none⟩ (.int .i64 (twZ P.cool P.m)))) := ⟨g5.set rfl, t5.set _ _⟩
  obtain ⟨e0, e1, e2, e3, e4, e5, e6, e7, e8, e9, e10, e11, e12⟩ := g5.cells
  have f6 := g5.frozen 6
  simp only at e1 e2 e6
  clear e0 e3 e4 e5 e7 e8 e9 e10 e11 e12 h ok hA hA2 hI g1 t1 g3 t3 g4 t4 g5 t5
  have HW4 := hid hW4
  have HW5 := hid hW5
  clear hW4 hW5
  go_enter Try.func33, Try.ntmps33
  go_wp2_with fail
  try rw [hW1]
  clear hW1 x5 f5
  refine wp_region_still_tail 10 rfl (by kernel_rfl) ?_
  rw [show ({ W1 with drawn := W1.drawn + 1 } : World) = W3 from hW3]
  clear hW3
  simp only [List.take_succ_cons, List.take_zero, List.drop_succ_cons, List.drop_zero]
  repeat still_step
  still_call (HA.out _)
  repeat still_step
  try refine wpStill_nil ?_
  go_wp2_with fail
  try rw [HW4.out]
  clear d4 d6 d9 f9 HA HW4
  refine wp_region_still_tail 21 rfl (by kernel_rfl) ?_
  rw [show ({ W4 with drawn := W4.drawn + 1 } : World) = W5 from HW5.out]
  clear HW5
  simp only [List.take_succ_cons, List.take_zero, List.drop_succ_cons, List.drop_zero]
  repeat still_step
  still_call (HA2.out _)
  repeat still_step
  still_call (HI.out _)
  repeat still_step
  try refine wpStill_nil ?_
  go_wp2_with fail
  go_end0
  exact ⟨rfl, HF⟩
end Go.Proofs.Ytekdbmhpdkdjjaa
