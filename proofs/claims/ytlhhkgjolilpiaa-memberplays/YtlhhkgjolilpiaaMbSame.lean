/-
  The statement's own function: same, of two rows that read as the same replicas.
-/
import Derived.Test.YtlhhkgjolilpiaaMbRj
namespace Go.Proofs.Ytlhhkgjolilpiaa
open Go.RowKit
set_option linter.unusedVariables false
set_option maxRecDepth 1000000

set_option maxHeartbeats 8000000 in
theorem same24_yes {av bv : Option Addr} {n ca cb b1 b2 : Nat} {L : List Mr} {W : World} (hn : L.length = n) (h1 : RwM 55 W b1 (.slice av n ca) L) (h2 : RwM 67 W b2 (.slice bv n cb) L) (hl : n ≤ 5000) :
    Calls Try.prog 20 #[.slice av n ca, .slice bv n cb] W fun e w' => e = .returned (.bool true) ∧ Hid (Below W.heap.size W w') := by
  have H1 := hid fun (W' : World) (hb : Below W.heap.size W W') => h1.below hb
  have H2 := hid fun (W' : World) (hb : Below W.heap.size W W') => h2.below hb
  obtain ⟨a1, c1, e1, hrm, hms, _⟩ := h1.isSl
  rw [hn] at e1 hrm
  cases e1
  obtain ⟨a2, c2, e2, hrm2, hms2, _⟩ := h2.isSl
  rw [hn] at e2 hrm2
  cases e2
  have hnn : ((n : Int) != (n : Int)) = false := by simp
  have HN := hid hn
  clear h1 h2 hn
  go_enter Try.func20, Try.ntmps20
  go_wp2_with fail
  go_loopw [14] (fun z W' => ∃ i : Nat, i ≤ n ∧ z = .int .i64 i ∧ Hid (Below W.heap.size W W')) (fun z _ => n - (intOf z).toNat)
  case atStart => exact ⟨0, Nat.zero_le _, rfl, Below.refl _ _⟩
  case round =>
  obtain ⟨i, hi, rfl, HR⟩ := hrel
  rename World => wr
  by_cases hin : i < n
  · have g1 : (i : Int) < (n : Int) := by omega
    have hil : i < L.length := by rw [HN.out]; exact hin
    obtain ⟨ga, _, _, ev1, _, _⟩ := (H1.out wr HR.out).isSome hil
    obtain ⟨gb, _, _, ev2, _, _⟩ := (H2.out wr HR.out).isSome hil
    have ea : av = some ⟨ga, 0, none⟩ := by cases ev1; rfl
    have eb : bv = some ⟨gb, 0, none⟩ := by cases ev2; rfl
    subst ea eb
    have hc := (H1.out wr HR.out).at hil
    have hd := (H2.out wr HR.out).at hil
    clear ev1 ev2 hil
    generalize atM L i = x at *
    obtain ⟨y0, y1, y2, y3, y4⟩ := x
    obtain ⟨e0, e1, e2, e3, e4⟩ := hc
    obtain ⟨d0, d1, d2, d3, d4⟩ := hd
    simp only at e0 e1 e2 e3 e4 d0 d1 d2 d3 d4
    obtain ⟨wB, hwB⟩ : ∃ wB, wB = wr.alloc (.cells #[.int .u64 y0, .int .i64 y1, .int .u64 y2, .int .i64 y3, .int .i64 y4] 55) := ⟨_, rfl⟩
    have hbB : Below wr.heap.size wr wB := by rw [hwB]; exact (Below.refl _ _).alloc (Nat.le_refl _) _
    have hnB : wB.heap[wr.heap.size]? = some (.cells #[.int .u64 y0, .int .i64 y1, .int .u64 y2, .int .i64 y3, .int .i64 y4] 55 (0, 0)) := by rw [hwB]; exact heap_alloc_new wr _
    have HB : Hid (Below W.heap.size W wB.drew) := (HR.out.trans (hbB.mono HR.out.size)).drew
    have q0 : wB.cell? ⟨wr.heap.size, 0, none⟩ = some (.int .u64 y0) := by rw [cell_of_row _ _ _ _ _ _ hnB]; rfl
    have q1 : wB.cell? ⟨wr.heap.size, 1, none⟩ = some (.int .i64 y1) := by rw [cell_of_row _ _ _ _ _ _ hnB]; rfl
    have q2 : wB.cell? ⟨wr.heap.size, 2, none⟩ = some (.int .u64 y2) := by rw [cell_of_row _ _ _ _ _ _ hnB]; rfl
    have q3 : wB.cell? ⟨wr.heap.size, 3, none⟩ = some (.int .i64 y3) := by rw [cell_of_row _ _ _ _ _ _ hnB]; rfl
    have q4 : wB.cell? ⟨wr.heap.size, 4, none⟩ = some (.int .i64 y4) := by rw [cell_of_row _ _ _ _ _ _ hnB]; rfl
    have f : ∀ {p : Addr} {v : Value}, wr.cell? p = some v → wB.cell? p = some v := fun hc => (hbB.cell (World.block_lt_of_cell? _ _ hc)).trans hc
    have p0 := f d0
    have p1 := f d1
    have p2 := f d2
    have p3 := f d3
    have p4 := f d4
    clear H1 H2 hbB hnB f
    go_wp2_with fail
    rw [← hwB]
    clear hwB e0 e1 e2 e3 e4 d0 d1 d2 d3 d4
    generalize wr.heap.size = s at *
    go_region
    all_goals
      go_wp2_with fail
      go_round
      case rel => exact ⟨i + 1, by omega, by go_num, HB.out⟩
      case measure => simp [intOf]; omega
  · have g1 : ¬ (i : Int) < (n : Int) := by omega
    clear H1 H2
    go_wp2_with fail
    go_ret
    exact ⟨rfl, HR⟩
end Go.Proofs.Ytlhhkgjolilpiaa
