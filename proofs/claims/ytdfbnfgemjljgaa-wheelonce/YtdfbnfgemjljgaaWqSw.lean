/-
  Contract: the queue's Swap.
-/
import Derived.Test.YtdfbnfgemjljgaaWqSt
namespace Go.Proofs.Ytdfbnfgemjljgaa
open Go.RowKit
set_option linter.unusedVariables false
set_option maxRecDepth 1000000

/-- What the four stores of a swap leave. -/
theorem wswap_end {g cap i j : Nat} {ms : List Qe} {w : World} (h : QrAt g cap ms w) (hi : i < ms.length) (hj : j < ms.length) {W1 W2 W3 : World}
    (h1 : W1 = ((w.setCell ⟨g, i, none⟩ (ptQ (gq ms j).blk)).setCell ⟨g, j, none⟩ (ptQ (gq ms i).blk)).drew) (h2 : W2 = W1.setCell ⟨(gq ms j).blk, 4, none⟩ (.int .i64 i)) (h3 : W3 = (W2.setCell ⟨(gq ms i).blk, 4, none⟩ (.int .i64 j)).drew) :
    (W1.cell? ⟨g, i, none⟩ = some (ptQ (gq ms j).blk) ∧ W1.cell? ⟨g, j, none⟩ = some (ptQ (gq ms i).blk)) ∧ (W1.cell? ⟨(gq ms j).blk, 4, none⟩ = some (.int .i64 j) ∧ ∀ k, W1.frozen? ⟨(gq ms j).blk, k, none⟩ = false) ∧ ((∃ z, W2.cell? ⟨(gq ms i).blk, 4, none⟩ = some (.int .i64 z)) ∧ ∀ k, W2.frozen? ⟨(gq ms i).blk, k, none⟩ = false) ∧ QrAt g cap (swq ms i j) W3 ∧ Fb (frQ g ms) w W3 := by
  have o1 := (World.ownsRow.stored h.own i (ptQ (gq ms j).blk)).1
  have o2 := (World.ownsRow.stored o1 j (ptQ (gq ms i).blk)).1
  have o2 : (((w.setCell ⟨g, i, none⟩ (ptQ (gq ms j).blk)).setCell ⟨g, j, none⟩ (ptQ (gq ms i).blk)).drew).ownsRow 0 62 1 _ _ _ := o2
  rw [← h1] at o2
  have hp : ((ptsQ ms).set i (ptQ (gq ms j).blk)).set j (ptQ (gq ms i).blk) = ptsQ (swq ms i j) := by unfold swq; rw [ptsQ_set, ptsQ_set]
  rw [hp] at o2
  have hl := swq_len ms i j
  have hG := gq_swq hi hj
  have f1 : Fb (at1 g) w W1 := by
    rw [h1]
    exact ((Fb.set (F := at1 g) (p := ⟨g, i, none⟩) rfl _).trans (Fb.set (F := at1 g) (p := ⟨g, j, none⟩) rfl _) fun x hx => .inl hx).drew
  have e1 : ∀ k : Nat, k < ms.length → QbAt W1 (gq ms k) (k : Int) := fun k hk => f1.one (h.els k hk) (h.ne hk)
  have c1 : W1.cell? ⟨g, i, none⟩ = some (ptQ (gq (swq ms i j) i).blk) := by
    rw [World.ownsRow.cellAt o2 i (by omega)]; exact ptsQ_at (by omega)
  have c2 : W1.cell? ⟨g, j, none⟩ = some (ptQ (gq (swq ms i j) j).blk) := by
    rw [World.ownsRow.cellAt o2 j (by omega)]; exact ptsQ_at (by omega)
  rw [hG, if_pos rfl] at c2
  have c1' : W1.cell? ⟨g, i, none⟩ = some (ptQ (gq ms j).blk) := by
    rw [hG] at c1
    by_cases e : i = j
    · subst e; rw [if_pos rfl] at c1; exact c1
    · rw [if_neg e, if_pos rfl] at c1; exact c1
  have p1 : QbAt W2 (gq ms j) (i : Int) := by rw [h2]; exact (e1 j hj).place _
  have f2 : Fb (at1 (gq ms j).blk) W1 W2 := by rw [h2]; exact Fb.set (F := at1 (gq ms j).blk) (p := ⟨(gq ms j).blk, 4, none⟩) rfl _
  have p2 : ∃ z, QbAt W2 (gq ms i) z := by
    by_cases e : i = j
    · subst e; exact ⟨_, p1⟩
    · exact ⟨i, f2.one (e1 i hi) fun e2 => e (h.nd.one hi hj e2)⟩
  obtain ⟨z, p2⟩ := p2
  have p3 : QbAt W3 (gq ms i) (j : Int) := by rw [h3]; exact p2.place _
  have f3 : Fb (at1 (gq ms i).blk) W2 W3 := by rw [h3]; exact (Fb.set (F := at1 (gq ms i).blk) (p := ⟨(gq ms i).blk, 4, none⟩) rfl _).drew
  have p4 : i ≠ j → QbAt W3 (gq ms j) (i : Int) := fun e => f3.one p1 fun e2 => e (h.nd.one hi hj e2.symm)
  refine ⟨⟨c1', c2⟩, ⟨(e1 j hj).cells.2.2.2.2, fun k => (e1 j hj).frozen k⟩, ⟨⟨z, p2.cells.2.2.2.2⟩, fun k => p2.frozen k⟩, ⟨?_, fun k hk => ?_, h.nd.perm (swq_perm hi hj)⟩, ?_⟩
  · rw [hl]
    refine own_blk o2 fun b e => ?_
    obtain rfl : g = b := by cases e; rfl
    exact ((f3.block g (by rw [h2]; simp [World.setCell]; have := h.glt; have := f1.size; omega) (h.ne hi).symm)).trans (f2.block g (by have := h.glt; have := f1.size; omega) (h.ne hj).symm)
  · rw [hl] at hk
    rw [hG]
    by_cases e1' : k = j
    · subst e1'; rw [if_pos rfl]; exact p3
    · rw [if_neg e1']
      by_cases e2 : k = i
      · subst e2; rw [if_pos rfl]; exact p4 e1'
      · rw [if_neg e2]
        exact f3.one (f2.one (e1 k hk) fun e => e1' (h.nd.one hk hj e)) fun e => e2 (h.nd.one hk hi e)
  · exact ((f1.mono fun x hx => .inl hx).trans f2 fun x hx => .inl (.inr ⟨_, gq_mem hj, hx.symm⟩)).trans f3 fun x hx => .inl (.inr ⟨_, gq_mem hi, hx.symm⟩)
set_option maxHeartbeats 2000000 in
theorem wswap_any (g cap i j : Nat) (ms : List Qe) (w : World) (h : QrAt g cap ms w) (hi : i < ms.length) (hj : j < ms.length) (hn : ms.length ≤ 5000) :
    Calls Try.prog 53 #[.slice (some ⟨g, 0, none⟩) ms.length cap, .int .i64 i, .int .i64 j] w fun e w' => e = .returned (.tuple #[]) ∧ QrAt g cap (swq ms i j) w' ∧ Fb (frQ g ms) w w' := by
  have ci := h.cell hi
  have cj := h.cell hj
  have fi := h.frozen i
  have fj := h.frozen j
  have o1 := (World.ownsRow.stored h.own i (ptQ (gq ms j).blk))
  have c2 : ∃ v, (w.setCell ⟨g, i, none⟩ (ptQ (gq ms j).blk)).cell? ⟨g, j, none⟩ = some v := by
    rw [World.ownsRow.cellAt o1.1 j (by omega)]
    exact ⟨_, List.getElem?_eq_getElem (by simp [ptsQ_len]; exact hj)⟩
  obtain ⟨v2, c2⟩ := c2
  have f2 := World.ownsRow.frozenAt o1.1
  obtain ⟨W1, hW1⟩ : ∃ W1, W1 = ((w.setCell ⟨g, i, none⟩ (ptQ (gq ms j).blk)).setCell ⟨g, j, none⟩ (ptQ (gq ms i).blk)).drew := ⟨_, rfl⟩
  obtain ⟨W2, hW2⟩ : ∃ W2, W2 = W1.setCell ⟨(gq ms j).blk, 4, none⟩ (.int .i64 i) := ⟨_, rfl⟩
  obtain ⟨W3, hW3⟩ : ∃ W3, W3 = (W2.setCell ⟨(gq ms i).blk, 4, none⟩ (.int .i64 j)).drew := ⟨_, rfl⟩
  obtain ⟨⟨e1, e2⟩, ⟨e3, e4⟩, ⟨⟨z, e5⟩, e6⟩, e7, e8⟩ := wswap_end h hi hj hW1 hW2 hW3
  have HE := hid (And.intro e7 e8)
  have e4 := e4 4
  have e6 := e6 4
  clear e7 e8 h o1
  unfold ptQ at *
  obtain ⟨n, hnn⟩ : ∃ n, ms.length = n := ⟨_, rfl⟩
  rw [hnn] at hi hj hn
  rw [hnn]
  clear hnn
  have f2 := f2 j
  generalize (gq ms i).blk = bi at *
  generalize (gq ms j).blk = bj at *
  rw [hW2] at e5 e6
  rw [hW2] at hW3
  clear hW2
  go_enter Try.func53, Try.ntmps53
  go_wp2_with fail
  go_region
  rw [← hW1]
  clear hW1 ci cj fi fj c2 f2
  go_wp2_with fail
  go_region
  rw [← hW3]
  clear hW3
  go_wp2
  go_end0
  exact ⟨rfl, HE.out.1, HE.out.2⟩
end Go.Proofs.Ytdfbnfgemjljgaa
