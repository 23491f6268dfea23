/-
  The statement's own function: same, of two lists that read as the same timers.
-/
import Derived.Test.YtdfbnfgemjljgaaWhTs
namespace Go.Proofs.Ytdfbnfgemjljgaa
open Go.RowKit
set_option linter.unusedVariables false
set_option maxRecDepth 1000000

set_option maxHeartbeats 8000000 in
theorem same20_yes {Ew : TypeId} {a b : Option Addr} {len ca cb : Nat} {l : List Tm} {W : World} (h1 : TsAt Ew W a len ca l) (h2 : TsAt 49 W b len cb l) (hl : len ≤ 5000) :
    Calls Try.prog 12 #[.slice a len ca, .slice b len cb] W fun e w' => e = .returned (.bool true) ∧ Hid (Below W.heap.size W w') := by
  have H1 := hid fun (W' : World) (hb : Below W.heap.size W W') => h1.below hb
  have H2 := hid fun (W' : World) (hb : Below W.heap.size W W') => h2.below hb
  have hrm := h1.room
  have hms := h1.most
  have hrm2 := h2.room
  have hms2 := h2.most
  have hnn : ((len : Int) != (len : Int)) = false := by simp
  clear h1 h2
  go_enter Try.func12, Try.ntmps12
  go_wp2_with fail
  go_loopw [14] (fun z W' => ∃ i : Nat, i ≤ len ∧ z = .int .i64 i ∧ Hid (Below W.heap.size W W')) (fun z _ => len - (intOf z).toNat)
  case atStart => exact ⟨0, Nat.zero_le _, rfl, Below.refl _ _⟩
  case round =>
  obtain ⟨i, hi, rfl, HR⟩ := hrel
  rename World => wr
  by_cases hin : i < len
  · have g1 : (i : Int) < (len : Int) := by omega
    obtain ⟨b1, o1, rfl, hc⟩ := (H1.out wr HR.out).cell i hin
    obtain ⟨b2, o2, rfl, hd⟩ := (H2.out wr HR.out).cell i hin
    generalize tk l i = x at *
    obtain ⟨y0, y1, y2, y3⟩ := x
    obtain ⟨e0, e1, e2, e3⟩ := hc
    obtain ⟨d0, d1, d2, d3⟩ := hd
    simp only at e0 e1 e2 e3 d0 d1 d2 d3
    obtain ⟨wB, hwB⟩ : ∃ wB, wB = wr.alloc (.cells #[.int .i64 y0, .int .i64 y1, .int .u64 y2, .int .i64 y3] 54) := ⟨_, rfl⟩
    have hbB : Below wr.heap.size wr wB := by rw [hwB]; exact (Below.refl _ _).alloc (Nat.le_refl _) _
    have hnB : wB.heap[wr.heap.size]? = some (.cells #[.int .i64 y0, .int .i64 y1, .int .u64 y2, .int .i64 y3] 54 (0, 0)) := by rw [hwB]; exact heap_alloc_new wr _
    have HB : Hid (Below W.heap.size W wB.drew) := (HR.out.trans (hbB.mono HR.out.size)).drew
    have q0 : wB.cell? ⟨wr.heap.size, 0, none⟩ = some (.int .i64 y0) := by rw [cell_of_row _ _ _ _ _ _ hnB]; rfl
    have q1 : wB.cell? ⟨wr.heap.size, 1, none⟩ = some (.int .i64 y1) := by rw [cell_of_row _ _ _ _ _ _ hnB]; rfl
    have q2 : wB.cell? ⟨wr.heap.size, 2, none⟩ = some (.int .u64 y2) := by rw [cell_of_row _ _ _ _ _ _ hnB]; rfl
    have q3 : wB.cell? ⟨wr.heap.size, 3, none⟩ = some (.int .i64 y3) := by rw [cell_of_row _ _ _ _ _ _ hnB]; rfl
    have f : ∀ {p : Addr} {v : Value}, wr.cell? p = some v → wB.cell? p = some v := fun hc => (hbB.cell (World.block_lt_of_cell? _ _ hc)).trans hc
    have p0 := f d0
    have p1 := f d1
    have p2 := f d2
    have p3 := f d3
    clear H1 H2 hbB hnB f
    go_wp2_with fail
    rw [← hwB]
    clear hwB e0 e1 e2 e3 d0 d1 d2 d3
    generalize wr.heap.size = s at *
    go_region
    all_goals
      go_wp2_with fail
      go_round
      case rel => exact ⟨i + 1, by omega, by go_num, HB.out⟩
      case measure => simp [intOf]; omega
  · have g1 : ¬ (i : Int) < (len : Int) := by omega
    clear H1 H2
    go_wp2_with fail
    go_ret
    exact ⟨rfl, HR⟩
end Go.Proofs.Ytdfbnfgemjljgaa
