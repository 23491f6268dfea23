/-
  The statements' alive.
-/
import Derived.Test.YtmhpgkkaolcncaaRkCons
namespace Go.Proofs.Ytmhpgkkaolcncaa
open Go.RowKit
set_option linter.unusedVariables false
set_option maxRecDepth 1000000

/-- alive's candidates. -/
def lv19 : List Cd := [⟨5, 0, 0, false, 1, true⟩, ⟨6, 0, 0, false, 0, true⟩, ⟨7, 0, 9, false, 0, false⟩]
def wt0 : Wt := ⟨0, 0, 0, 0⟩
theorem lv_ord : ordC wt0 lv19 = [⟨6, 0, 0, false, 0, true⟩, ⟨5, 0, 0, false, 1, true⟩] := by rfl
theorem lv_best : bestC wt0 lv19 1 [6] = (5, true) := by decide
theorem lv_in : ∀ c ∈ lv19, CdIn c := by
  intro c hc
  simp only [lv19, List.mem_cons, List.not_mem_nil, or_false] at hc
  rcases hc with rfl | rfl | rfl <;> exact ⟨⟨by decide, by decide⟩, ⟨by decide, by decide⟩, ⟨by decide, by decide⟩, ⟨by decide, by decide⟩⟩
theorem wt0_in : WtIn wt0 := ⟨⟨by simp [wt0], by simp [wt0]⟩, ⟨by simp [wt0], by simp [wt0]⟩, ⟨by simp [wt0], by simp [wt0]⟩, ⟨by simp [wt0], by simp [wt0]⟩⟩
theorem Reads.two {k : IntKind} {w : World} {a : Option Addr} {n cap : Nat} {x y : Int} (h : Reads k w a n cap [x, y]) : ∃ b off, a = some ⟨b, off, none⟩ ∧ w.cell? ⟨b, off, none⟩ = some (.int k x) ∧ w.cell? ⟨b, off + 1, none⟩ = some (.int k y) := by
  have hs : n = 2 := h.size.symm
  obtain ⟨b, off, e, c0⟩ := h.cell 0 (by omega)
  obtain ⟨b', off', e', c1⟩ := h.cell 1 (by omega)
  rw [e] at e'
  cases e'
  exact ⟨b, off, e, c0, c1⟩
set_option maxHeartbeats 4000000 in
theorem alive19_any (W : World) : Calls Try.prog 8 #[] W fun e w' => e = .returned (.bool true) ∧ Hid (Below W.heap.size W w') := by
  obtain ⟨w1, hw1⟩ : ∃ w1, w1 = W.alloc (.cells #[.int .u64 5, .int .i64 0, .int .i64 0, .bool false, .int .i64 1, .bool true, .int .u64 6, .int .i64 0, .int .i64 0, .bool false, .int .i64 0, .bool true, .int .u64 7, .int .i64 0, .int .i64 9, .bool false, .int .i64 0, .bool false] 37) := ⟨_, rfl⟩
  have hb1 : Below W.heap.size W w1 := by rw [hw1]; exact (Below.refl _ _).alloc (Nat.le_refl _) _
  have hc1 : w1.heap[W.heap.size]? = some (.cells #[.int .u64 5, .int .i64 0, .int .i64 0, .bool false, .int .i64 1, .bool true, .int .u64 6, .int .i64 0, .int .i64 0, .bool false, .int .i64 0, .bool true, .int .u64 7, .int .i64 0, .int .i64 9, .bool false, .int .i64 0, .bool false] 37 (0, 0)) := by rw [hw1]; exact heap_alloc_new W _
  have hcs : CsAt w1 (some ⟨W.heap.size, 0, none⟩) 3 3 lv19 := by
    refine ⟨rfl, by omega, by omega, (fun e => by cases e), fun i hi => ⟨W.heap.size, 0, rfl, ?_⟩⟩
    obtain rfl | rfl | rfl : i = 0 ∨ i = 1 ∨ i = 2 := by omega
    all_goals refine ⟨?_, ?_, ?_, ?_, ?_, ?_⟩ <;> (rw [cell_of_row _ _ _ _ _ _ hc1]; rfl)
  have HCs : Hid (∀ W', Below w1.heap.size w1 W' → CsAt W' (some ⟨W.heap.size, 0, none⟩) 3 3 lv19) := fun W' hb => hcs.below hb
  have hO := order_any _ _ _ lv19 wt0 w1 hcs (by omega) lv_in wt0_in
  rw [lv_ord] at hO
  have hS := fun (W' : World) (hb : Below w1.heap.size w1 W') => second_any (some ⟨W.heap.size, 0, none⟩) 3 3 lv19 wt0 1 (some ⟨W'.heap.size, 0, none⟩) 1 1 [6] (W'.alloc (.cells #[.int .u64 6] 34)) (HCs.out _ (hb.alloc hb.size _)) (by omega) lv_in wt0_in ⟨by omega, by omega⟩ (Reads.one W' 6 34) (by omega) (fun x hx => by rw [List.mem_singleton.1 hx]; exact ⟨by omega, by omega⟩)
  rw [lv_best] at hS
  have HS := hid hS
  have HB := hid hb1
  unfold WtV wt0 at *
  simp only [List.length_cons, List.length_nil, List.map_cons, List.map_nil] at hO
  simp only at HS
  clear hcs hc1 HCs hS hb1
  go_enter Try.func8, Try.ntmps8
  go_wp2_with fail
  rw [← hw1]
  clear hw1
  refine hO.mono ?_
  rintro e w2 ⟨a2, c2, rfl, H2⟩
  have HS2 := HS.out w2 H2.out.2
  obtain ⟨b, off, rfl, k0, k1⟩ := H2.out.1.two
  have HB2 : Hid (∀ o, Below W.heap.size W (w2.alloc o)) := fun o => (HB.out.trans (H2.out.2.mono HB.out.size)).alloc (HB.out.trans (H2.out.2.mono HB.out.size)).size o
  have HKp : Hid (∀ (o : Obj) (w3 : World), Below (w2.alloc o).heap.size (w2.alloc o) w3 → w3.cell? ⟨b, off, none⟩ = some (.int .u64 6) ∧ w3.cell? ⟨b, off + 1, none⟩ = some (.int .u64 5)) := fun o w3 hb => by
    have f : ∀ {p : Addr} {v : Value}, w2.cell? p = some v → w3.cell? p = some v := fun {p} {v} hc => by
      have hlt := World.block_lt_of_cell? _ _ hc
      have h1 := ((Below.refl w2.heap.size w2).alloc (Nat.le_refl _) o).trans (hb.mono (by simp))
      exact (h1.cell hlt).trans hc
    exact ⟨f k0, f k1⟩
  clear H2 HS HB k0 k1 hO
  go_wp2_with fail
  refine HS2.mono ?_
  rintro e w3 ⟨rfl, H3⟩
  obtain ⟨k0, k1⟩ := HKp.out _ w3 H3.out
  have HE : Hid (Below W.heap.size W w3) := (HB2.out _).trans (H3.out.mono (HB2.out _).size)
  clear HS2 HKp H3 HB2
  go_wp2_with fail
  go_ret
  exact ⟨rfl, HE⟩
end Go.Proofs.Ytmhpgkkaolcncaa
