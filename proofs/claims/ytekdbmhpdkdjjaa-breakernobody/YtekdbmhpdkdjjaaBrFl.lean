/-
  Package breaker: Fail, New; a breaker that nobody made.
-/
import Derived.Test.YtekdbmhpdkdjjaaBrOp
namespace Go.Proofs.Ytekdbmhpdkdjjaa
open Go.RowKit
set_option linter.unusedVariables false
set_option maxRecDepth 1000000
variable {b : Nat} {w w' : World} {P : Pk}

theorem bfail_any (h : PkAt w b P) (ok : PkOk P) (t : Int) : Calls Try.prog 17 #[.pointer (some ⟨b, 0, none⟩), .int .i64 t] w fun e w' => e = .returned (.tuple #[]) ∧ Hid (PkAt w' b (P.go t).fls ∧ Tn b w w') := by
  have hM := bmade_yes h ok
  have hG := bgo_any h ok t
  have hok := ok.go t
  clear h ok
  generalize P.go t = Q at *
  have hst := hok.st
  rcases hst with h0 | h1 | h2
  · obtain ⟨s0, s1⟩ := hok.cl h0
    have hf := hok.f
    have hfm := hok.fm
    have HU := hid fun W => bup_any Q.fn Q.fm W s0 (by omega) (by omega)
    have HF := hid fun W => bfull_any (Q.fn + 1) Q.fm W
    have HC := hid fun (W : World) (g : PkAt W b { Q with fn := Q.fn + 1 }) => bopen_any g ⟨hok.c, hok.m, hok.now, hok.cool⟩
    have H0 := hid h0
    obtain ⟨fu, hfu⟩ : ∃ fu, decide (Q.fn + 1 = Q.fm) = fu := ⟨_, rfl⟩
    rw [hfu] at HF
    have e : Q.fls = if fu = true then ({ Q with fn := Q.fn + 1 } : Pk).opn else { Q with fn := Q.fn + 1 } := by
      unfold Pk.fls
      rw [if_pos h0]
      by_cases hx : Q.fn + 1 = Q.fm
      · rw [if_pos hx, if_pos (by rw [← hfu]; exact decide_eq_true hx)]
      · rw [if_neg hx, if_neg (by rw [← hfu, decide_eq_false hx]; decide)]
    rw [e]
    clear e h0 hok s0 s1 hf hfm hfu
    go_enter Try.func17, Try.ntmps17
    go_wp2_with fail
    refine hM.mono ?_
    rintro e w1 ⟨rfl, rfl⟩
    go_wp2_with fail
    refine hG.mono ?_
    rintro e w2 ⟨rfl, H⟩
    have c5 := H.out.1.cells.2.2.2.2.2.1
    have x7 := H.out.1.cells.2.2.2.2.2.2.2.1
    have x8 := H.out.1.cells.2.2.2.2.2.2.2.2.1
    rw [H0.out] at c5
    clear hM hG
    go_wp2_with fail
    refine (HU.out _).mono ?_
    rintro e w3 ⟨rfl, hb⟩
    have g4 := H.out.1.below hb.out
    have t4 := H.out.2.below hb.out
    obtain ⟨W5, hW5⟩ : ∃ W5, (w3.setCell ⟨b, 7, none⟩ (.int .u32 (Q.fn + 1))).setCell ⟨b, 8, none⟩ (.int .u32 Q.fm) = W5 := ⟨_, rfl⟩
    have H5 : Hid (PkAt W5 b { Q with fn := Q.fn + 1 } ∧ Tn b w1 W5) := by rw [← hW5]; exact ⟨(g4.set (P' := { Q with fn := Q.fn + 1 }) rfl).set rfl, (t4.set _ _).set _ _⟩
    have f7 := g4.frozen 7
    have f8 := g4.frozen 8
    have z7 := g4.cells.2.2.2.2.2.2.2.1
    have z8 := g4.cells.2.2.2.2.2.2.2.2.1
    have y7 := H5.out.1.cells.2.2.2.2.2.2.2.1
    have y8 := H5.out.1.cells.2.2.2.2.2.2.2.2.1
    simp only at y7 y8
    clear H g4 t4 hb HU x7 x8 c5
    go_wp2_with fail
    try rw [hW5]
    clear hW5 z7 z8 f7 f8
    go_wp2_with fail
    refine (HF.out _).mono ?_
    rintro e w6 ⟨rfl, hb⟩
    have H6 : Hid (PkAt w6 b { Q with fn := Q.fn + 1 } ∧ Tn b w1 w6) := ⟨H5.out.1.below hb.out, H5.out.2.below hb.out⟩
    clear H5 hb y7 y8 HF
    cases fu with
    | true =>
      have HX := hid (HC.out _ H6.out.1)
      clear HC
      go_wp2_with fail
      refine HX.out.mono ?_
      rintro e w7 ⟨rfl, H7⟩
      have HE := hid (And.intro H7.out.1 (H6.out.2.trans H7.out.2))
      clear HX H7 H6
      go_wp2_with fail
      go_end0
      exact ⟨rfl, HE⟩
    | false =>
      clear HC
      go_wp2_with fail
      go_end0
      exact ⟨rfl, H6⟩
  · have e : Q.fls = Q := by unfold Pk.fls; rw [if_neg (by omega), if_neg (by omega)]
    rw [e]
    have H1 := hid h1
    clear e h1 hok
    go_enter Try.func17, Try.ntmps17
    go_wp2_with fail
    refine hM.mono ?_
    rintro e w1 ⟨rfl, rfl⟩
    go_wp2_with fail
    refine hG.mono ?_
    rintro e w2 ⟨rfl, H⟩
    have c5 := H.out.1.cells.2.2.2.2.2.1
    rw [H1.out] at c5
    clear hM hG
    go_wp2_with fail
    go_end0
    exact ⟨rfl, H⟩
  · have e : Q.fls = Q.opn := by unfold Pk.fls; rw [if_neg (by omega), if_pos h2]
    rw [e]
    have H2 := hid h2
    have HC := hid fun (W : World) (g : PkAt W b Q) => bopen_any g hok.tt
    clear e h2 hok
    go_enter Try.func17, Try.ntmps17
    go_wp2_with fail
    refine hM.mono ?_
    rintro e w1 ⟨rfl, rfl⟩
    go_wp2_with fail
    refine hG.mono ?_
    rintro e w2 ⟨rfl, H⟩
    have c5 := H.out.1.cells.2.2.2.2.2.1
    rw [H2.out] at c5
    have HX := hid (HC.out _ H.out.1)
    clear hM hG HC
    go_wp2_with fail
    refine HX.out.mono ?_
    rintro e w7 ⟨rfl, H7⟩
    have HE := hid (And.intro H7.out.1 (H.out.2.trans H7.out.2))
    clear HX H7 H
    go_wp2_with fail
    go_end0
    exact ⟨rfl, HE⟩
/-! ### New -/
theorem bnew_yes {s : Sg} (h : s.Is) (w : World) : Calls Try.prog 7 #[.agg (SgV s)] w fun e w' => ∃ b, e = .returned (.tuple #[.pointer (some ⟨b, 0, none⟩), .int .i64 0]) ∧ Hid (PkAt w' b (Pk.new s) ∧ Below w.heap.size w w' ∧ w.heap.size ≤ b) := by
  obtain ⟨W0, hW0⟩ : ∃ W0, W0 = w.alloc (.cells (SgV s) 29) := ⟨_, rfl⟩
  have hb0 : Below w.heap.size w W0 := by rw [hW0]; exact (Below.refl _ _).alloc (Nat.le_refl _) _
  have hv0 : W0.heap[w.heap.size]? = some (.cells (SgV s) 29 (0, 0)) := by rw [hW0]; exact heap_alloc_new w _
  have HM := bmay_yes h W0
  have HK : Hid (∀ W : World, Below W0.heap.size W0 W → W.heap[w.heap.size]? = some (.cells (SgV s) 29 (0, 0)) ∧ Below w.heap.size w W) := fun W hb => ⟨block_bel hv0 hb, hb0.trans (hb.mono hb0.size)⟩
  have c0 : W0.cell? ⟨w.heap.size, 0, none⟩ = some (.int .i64 s.f) := by rw [cell_of_row _ _ _ _ _ _ hv0]; rfl
  have c1 : W0.cell? ⟨w.heap.size, 1, none⟩ = some (.int .i64 s.c) := by rw [cell_of_row _ _ _ _ _ _ hv0]; rfl
  have c2 : W0.cell? ⟨w.heap.size, 2, none⟩ = some (.int .i64 s.m) := by rw [cell_of_row _ _ _ _ _ _ hv0]; rfl
  have c3 : W0.cell? ⟨w.heap.size, 3, none⟩ = some (.int .i64 s.n) := by rw [cell_of_row _ _ _ _ _ _ hv0]; rfl
  have HC := hid fun (W : World) (b : Nat) (g : PkAt W b ⟨s.f, s.c, s.m, s.n, 0, 0, 0, 0, 0, 0, false, 0, 0⟩) => bclose_any g h.1.1 h.1.2
  unfold SgV at hW0 HM ⊢
  obtain ⟨q, hq⟩ : ∃ q, w.heap.size = q := ⟨_, rfl⟩
  have HQ := hid hq
  rw [hq] at c0 c1 c2 c3
  clear hb0 hv0 hq
  go_enter Try.func7, Try.ntmps7
  go_wp2_with fail
  try rw [← hW0]
  try rw [HQ.out]
  refine HM.mono ?_
  rintro e w1 ⟨rfl, hb⟩
  obtain ⟨k1, k2⟩ := HK.out _ hb.out
  rw [HQ.out] at k1
  have d0 : w1.cell? ⟨q, 0, none⟩ = some (.int .i64 s.f) := by rw [cell_of_row _ _ _ _ _ _ k1]; rfl
  have d1 : w1.cell? ⟨q, 1, none⟩ = some (.int .i64 s.c) := by rw [cell_of_row _ _ _ _ _ _ k1]; rfl
  have d2 : w1.cell? ⟨q, 2, none⟩ = some (.int .i64 s.m) := by rw [cell_of_row _ _ _ _ _ _ k1]; rfl
  have d3 : w1.cell? ⟨q, 3, none⟩ = some (.int .i64 s.n) := by rw [cell_of_row _ _ _ _ _ _ k1]; rfl
  have K2 := hid k2
  have HX := hid (HC.out _ _ (heap_alloc_new w1 (.cells #[.int .i64 s.f, .int .i64 s.c, .int .i64 s.m, .int .i64 s.n, .int .i64 0, .int .i64 0, .int .i64 0, .int .u32 0, .int .u32 0, .int .i64 0, .bool false, .int .u32 0, .int .u32 0] 49)))
  clear k1 k2 hb c0 c1 c2 c3 HK HM hW0 HC
  go_wp2_with fail
  refine HX.out.mono ?_
  rintro e w2 ⟨rfl, H2⟩
  have HE : Hid (PkAt w2 w1.heap.size (Pk.new s) ∧ Below w.heap.size w w2 ∧ w.heap.size ≤ w1.heap.size) := by
    have hs := K2.out.size
    refine ⟨H2.out.1, ?_, hs⟩
    exact (K2.out.alloc hs _).trans (H2.out.2.to (fun x hx => by rw [show x = w1.heap.size from hx]; exact hs) (by simp; omega))
  clear HX H2 K2 d0 d1 d2 d3 HQ
  go_wp2_with fail
  go_ret2
  exact ⟨_, rfl, HE⟩
theorem bnew_no {s : Sg} (h : ¬ s.Is) (w : World) : Calls Try.prog 7 #[.agg (SgV s)] w fun e w' => e = .returned (.tuple #[.pointer none, .int .i64 1]) ∧ Hid (Below w.heap.size w w') := by
  obtain ⟨W0, hW0⟩ : ∃ W0, W0 = w.alloc (.cells (SgV s) 29) := ⟨_, rfl⟩
  have hb0 : Below w.heap.size w W0 := by rw [hW0]; exact (Below.refl _ _).alloc (Nat.le_refl _) _
  have hv0 : W0.heap[w.heap.size]? = some (.cells (SgV s) 29 (0, 0)) := by rw [hW0]; exact heap_alloc_new w _
  have HM := bmay_no h W0
  have HK : Hid (∀ W : World, Below W0.heap.size W0 W → Below w.heap.size w W) := fun W hb => hb0.trans (hb.mono hb0.size)
  have c0 : W0.cell? ⟨w.heap.size, 0, none⟩ = some (.int .i64 s.f) := by rw [cell_of_row _ _ _ _ _ _ hv0]; rfl
  have c1 : W0.cell? ⟨w.heap.size, 1, none⟩ = some (.int .i64 s.c) := by rw [cell_of_row _ _ _ _ _ _ hv0]; rfl
  have c2 : W0.cell? ⟨w.heap.size, 2, none⟩ = some (.int .i64 s.m) := by rw [cell_of_row _ _ _ _ _ _ hv0]; rfl
  have c3 : W0.cell? ⟨w.heap.size, 3, none⟩ = some (.int .i64 s.n) := by rw [cell_of_row _ _ _ _ _ _ hv0]; rfl
  unfold SgV at hW0 HM ⊢
  clear hb0 hv0 h
  go_enter Try.func7, Try.ntmps7
  go_wp2_with fail
  try rw [← hW0]
  refine HM.mono ?_
  rintro e w1 ⟨rfl, hb⟩
  have HE := hid (HK.out _ hb.out)
  clear hb HK HM hW0 c0 c1 c2 c3
  go_wp2_with fail
  go_ret2
  exact ⟨rfl, HE⟩
end Go.Proofs.Ytekdbmhpdkdjjaa
