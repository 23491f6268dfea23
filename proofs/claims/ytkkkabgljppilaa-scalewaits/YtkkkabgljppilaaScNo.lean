/-
  ScaleNobody.
-/
import Derived.Test.YtkkkabgljppilaaScAl
namespace Go.Proofs.Ytkkkabgljppilaa
open Go.RowKit
set_option linter.unusedVariables false
set_option maxRecDepth 1000000

theorem cells_two25 {W : World} {g : Nat} {x y : Value} {T : TypeId} (h : W.heap[g]? = some (.cells #[x, y] T (0, 0))) : W.cell? ⟨g, 0, none⟩ = some x ∧ W.cell? ⟨g, 1, none⟩ = some y :=
  ⟨by rw [cell_of_row _ _ _ _ _ _ h]; rfl, by rw [cell_of_row _ _ _ _ _ _ h]; rfl⟩
set_option maxHeartbeats 8000000 in
theorem nobody_any (s : Sp) (w : World) : Calls Try.prog 6 #[.agg (SpV s)] w fun e w' => e = .returned (.bool true) ∧ Hid (Below w.heap.size w w') := by
  unfold SpV
  obtain ⟨W1, hW1⟩ : ∃ W1, W1 = w.alloc (.cells #[.bool s.sb, .int .i64 s.later, .int .i64 s.live, .int .i64 s.load, .int .i64 s.mn, .int .i64 s.mx] 38) := ⟨_, rfl⟩
  obtain ⟨W2, hW2⟩ : ∃ W2, W2 = W1.alloc (.cells #[.int .i64 0, .int .i64 0, .int .i64 0, .int .i64 0, .int .i64 0, .int .i64 0, .int .i64 0, .bool false, .int .i64 0, .bool false, .int .i64 0] 51) := ⟨_, rfl⟩
  obtain ⟨W3, hW3⟩ : ∃ W3, W3 = W2.alloc (.cells #[.pointer none, .pointer (some ⟨w.heap.size + 1, 0, none⟩)] 25) := ⟨_, rfl⟩
  have e1 : W1.heap.size = w.heap.size + 1 := by rw [hW1]; simp
  have e2 : W2.heap.size = w.heap.size + 1 + 1 := by rw [hW2]; simp [e1]
  have b1 : Below w.heap.size w W1 := by rw [hW1]; exact (Below.refl _ _).alloc (Nat.le_refl _) _
  have b2 : Below W1.heap.size W1 W2 := by rw [hW2]; exact (Below.refl _ _).alloc (Nat.le_refl _) _
  have b3 : Below W2.heap.size W2 W3 := by rw [hW3]; exact (Below.refl _ _).alloc (Nat.le_refl _) _
  have b13 : Below W1.heap.size W1 W3 := b2.trans (b3.mono b2.size)
  have HB : Hid (Below w.heap.size w W3) := b1.trans (b13.mono b1.size)
  have v1 : W3.heap[w.heap.size]? = some (.cells #[.bool s.sb, .int .i64 s.later, .int .i64 s.live, .int .i64 s.load, .int .i64 s.mn, .int .i64 s.mx] 38 (0, 0)) := block_bel (by rw [hW1]; exact heap_alloc_new w _) b13
  have v2 : W3.heap[W1.heap.size]? = some (.cells #[.int .i64 0, .int .i64 0, .int .i64 0, .int .i64 0, .int .i64 0, .int .i64 0, .int .i64 0, .bool false, .int .i64 0, .bool false, .int .i64 0] 51 (0, 0)) := block_bel (by rw [hW2]; exact heap_alloc_new W1 _) b3
  have v3 : W3.heap[W2.heap.size]? = some (.cells #[.pointer none, .pointer (some ⟨w.heap.size + 1, 0, none⟩)] 25 (0, 0)) := by rw [hW3]; exact heap_alloc_new W2 _
  rw [e1] at v2
  rw [e2] at v3
  have q1 : W3.cell? ⟨w.heap.size, 1, none⟩ = some (.int .i64 s.later) := by rw [cell_of_row _ _ _ _ _ _ v1]; rfl
  have q2 : W3.cell? ⟨w.heap.size, 2, none⟩ = some (.int .i64 s.live) := by rw [cell_of_row _ _ _ _ _ _ v1]; rfl
  have q3 : W3.cell? ⟨w.heap.size, 3, none⟩ = some (.int .i64 s.load) := by rw [cell_of_row _ _ _ _ _ _ v1]; rfl
  have q4 : W3.cell? ⟨w.heap.size, 4, none⟩ = some (.int .i64 s.mn) := by rw [cell_of_row _ _ _ _ _ _ v1]; rfl
  have q5 : W3.cell? ⟨w.heap.size, 5, none⟩ = some (.int .i64 s.mx) := by rw [cell_of_row _ _ _ _ _ _ v1]; rfl
  obtain ⟨p0, p1⟩ := cells_two25 v3
  have HN0 : Hid (PkNo W3 none) := .inl rfl
  have HN1 : Hid (PkNo W3 (some ⟨w.heap.size + 1, 0, none⟩)) := .inr ⟨_, rfl, by rw [cell_of_row _ _ _ _ _ _ v2]; rfl⟩
  have HK := hid (fun (p : Option Addr) (h : PkNo W3 p) => And.intro (nbounds h) (And.intro (nwant h s.load) (And.intro (nstep h s.later s.live s.load) (And.intro (nset h s.mn s.mx) (nnow h)))))
  have HA := hid (alive25_any W3)
  obtain ⟨q, hq⟩ : ∃ q, w.heap.size = q := ⟨_, rfl⟩
  have HQ := hid hq
  rw [hq] at q1 q2 q3 q4 q5 p0 p1 HN1 hW3
  clear b1 b2 b3 b13 v1 v2 v3 e1 e2 hq
  go_enter Try.func6, Try.ntmps6
  go_wp2_with fail
  rw [HQ.out, ← hW1, ← hW2, ← hW3]
  clear hW1 hW2 hW3
  go_loopw [11] (fun z W' => ∃ k : Nat, k ≤ 2 ∧ z = .int .i64 k ∧ W' = W3) (fun z _ => 2 - (intOf z).toNat)
  case atStart => exact ⟨0, by omega, rfl, rfl⟩
  case round =>
  obtain ⟨k, hk, rfl, hW⟩ := hrel
  rename World => wr
  subst hW
  by_cases hlt : k < 2
  · obtain ⟨p, hp, HNp⟩ : ∃ p, wr.cell? ⟨q + 1 + 1, k, none⟩ = some (.pointer p) ∧ Hid (PkNo wr p) := by
      rcases (by omega : k = 0 ∨ k = 1) with rfl | rfl
      · exact ⟨none, p0, HN0⟩
      · exact ⟨_, p1, HN1⟩
    obtain ⟨h1, h2, h3, h4, h5⟩ := HK.out p HNp.out
    clear HK HN0 HN1 p0 p1
    have g1 : (k : Int) < 2 := by omega
    go_wp2_with (first
      | (go_at_call 17; (with_reducible refine h1.mono ?_); rintro e w' ⟨rfl, rfl⟩)
      | (go_at_call 18; (with_reducible refine h2.mono ?_); rintro e w' ⟨rfl, rfl⟩)
      | (go_at_call 15; (with_reducible refine h3.mono ?_); rintro e w' ⟨rfl, rfl⟩)
      | (go_at_call 13; (with_reducible refine h4.mono ?_); rintro e w' ⟨rfl, rfl⟩)
      | (go_at_call 20; (with_reducible refine h5.mono ?_); rintro e w' ⟨rfl, rfl⟩))
    go_round
    case rel => exact ⟨k + 1, by omega, by go_num, trivial⟩
    case measure => simp [intOf]; omega
  · obtain rfl : k = 2 := by omega
    clear HK HN0 HN1 p0 p1 q1 q2 q3 q4 q5
    go_wp2_with fail
    refine HA.out.mono ?_
    rintro e w4 ⟨rfl, H⟩
    have HE : Hid (Below w.heap.size w w4) := HB.out.trans (H.out.mono HB.out.size)
    clear HA H
    go_wp2_with fail
    go_ret
    exact ⟨rfl, HE⟩
end Go.Proofs.Ytkkkabgljppilaa
