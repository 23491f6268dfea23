/-
  A row of numbers that the call owns (OwnI); contracts: places.change changes what stands at two places, shuffle all of them from the last down to the second, inOrder makes the numbers in order, and rand.Perm hands back permL.
-/
import Derived.Test.YtfnbkmhhiflkjaaDraws
import Derived.Test.YtfnbkmhhiflkjaaReads
import Derived.Test.YtfnbkmhhiflkjaaPMath
import Derived.Handy
import Derived.Laws.OwnMore
import Derived.OwnWalk
namespace Go.Proofs.Ytfnbkmhhiflkjaa
open Go.RowKit
set_option linter.unusedVariables false
set_option maxRecDepth 1000000

/-- The row in block g, not below base, holds these numbers. -/
def OwnI (base g m cap : Nat) (xs : List Int) (w : World) : Prop := w.ownsRow base 3 1 (.slice (some ⟨g, 0, none⟩) m cap) m (xs.map (Value.int .i64))
theorem OwnI.len {base g m cap : Nat} {xs : List Int} {w : World} (h : OwnI base g m cap xs w) : xs.length = m := by have := h.1; simpa using this
theorem OwnI.cell {base g m cap : Nat} {xs : List Int} {w : World} (h : OwnI base g m cap xs w) {k : Nat} (hk : k < m) : w.cell? ⟨g, k, none⟩ = some (.int .i64 (atL xs k)) := by
  have hl := h.len
  have := World.ownsRow.cellAt h k (by omega)
  rw [this]
  unfold atL
  simp [(by omega : k < xs.length)]
theorem OwnI.frozen {base g m cap : Nat} {xs : List Int} {w : World} (h : OwnI base g m cap xs w) (k : Nat) : w.frozen? ⟨g, k, none⟩ = false := World.ownsRow.frozenAt h k
theorem OwnI.set {base g m cap : Nat} {xs : List Int} {w : World} (h : OwnI base g m cap xs w) (k : Nat) (v : Int) : OwnI base g m cap (xs.set k v) (w.setCell ⟨g, k, none⟩ (.int .i64 v)) := by
  have := (World.ownsRow.stored h k (.int .i64 v)).1
  unfold OwnI
  rw [List.map_set]
  exact this
theorem OwnI.base {base g m cap : Nat} {xs : List Int} {w : World} (h : OwnI base g m cap xs w) : base ≤ g := (World.ownsRow.lt h g rfl).1
theorem OwnI.lt {base g m cap : Nat} {xs : List Int} {w : World} (h : OwnI base g m cap xs w) : g < w.heap.size := (World.ownsRow.lt h g rfl).2

theorem change_any (base g m cap i j : Nat) (xs : List Int) (w : World) (h : OwnI base g m cap xs w) (hi : i < m) (hj : j < m) (hm : m ≤ 4096) :
    Calls Try.prog 28 #[.slice (some ⟨g, 0, none⟩) m cap, .int .i64 i, .int .i64 j] w fun e w' => e = .returned (.tuple #[]) ∧ OwnI base g m cap (swapL xs i j) w' ∧ Below base w w' := by
  have ci := h.cell hi
  have cj := h.cell hj
  have fi := h.frozen i
  have fj := h.frozen j
  have h2 := h.set i (atL xs j)
  have c2 := h2.cell hj
  have f2 := h2.frozen j
  have H3 : Hid (OwnI base g m cap (swapL xs i j) ((w.setCell ⟨g, i, none⟩ (.int .i64 (atL xs j))).setCell ⟨g, j, none⟩ (.int .i64 (atL xs i)))) := h2.set j (atL xs i)
  have HB : Hid (base ≤ g) := h.base
  clear h h2
  generalize atL xs i = x at *
  generalize atL xs j = y at *
  generalize atL (xs.set i y) j = z at *
  go_enter Try.func28, Try.ntmps28
  go_wp2_with fail
  go_region
  go_wp2
  go_end0
  exact ⟨rfl, H3.out, (((Below.refl _ _).setCell HB.out _).setCell HB.out _).drew⟩
theorem Try.info3 : (Try.prog.info? 3).map (fun i => (i.zero, i.size, i.bytes)) = some (some (.int .i64 0), 1, 8) := by kernel_rfl
theorem Try.info4 : (Try.prog.info? 4).map (fun i => (i.zero, i.size, i.bytes)) = some (some (.bool false), 1, 1) := by kernel_rfl
theorem info_parts {t : TypeId} {z : Value} {a b : Nat} (h : (Try.prog.info? t).map (fun i => (i.zero, i.size, i.bytes)) = some (some z, a, b)) :
    ∃ i, Try.prog.info? t = some i ∧ i.zero = some z ∧ i.size = a ∧ i.bytes = b := by
  cases hi : Try.prog.info? t with
  | none => rw [hi] at h; simp at h
  | some i => rw [hi] at h; simp at h; exact ⟨i, rfl, h.1, h.2.1, h.2.2⟩
/-- 'make' of m numbers. -/
theorem make_ints (w : World) (m : Nat) (hm : m ≤ 4096) : (Instr.makeSlice 44 (.int .i64 (m : Int)) (.int .i64 (m : Int))).run Try.prog w = .ok (.slice (some ⟨w.heap.size, 0, none⟩) m m) (w.alloc (.cells (madeCells #[.int .i64 0] m) 3)) := by
  obtain ⟨i0, hi, hz0, hz1, hz2⟩ := info_parts Try.info3
  have := run_make (P := Try.prog) w 44 3 i0 (.int .i64 0) Try.underlying44 hi hz0 .i64 .i64 (m : Int) (m : Int) (by omega) (Int.le_refl _) (by rw [hz2]; omega) (by omega)
  rw [this, hz1, Int.toNat_natCast, Nat.mul_one]
  rfl
theorem own_made (w : World) (m : Nat) (hm : m ≤ 4096) : OwnI w.heap.size w.heap.size m m (List.replicate m 0) (w.alloc (.cells (madeCells #[.int .i64 0] m) 3)) := by
  have := World.ownsRow_lit (base := w.heap.size) (e := 3) (size := 1) w (madeCells #[.int .i64 0] m) m (Nat.le_refl _) (by unfold maxLen; omega) (by simp [madeCells])
  unfold OwnI
  rw [List.map_replicate, ← toList_madeCells_one]
  exact this
theorem idx_step {k m : Nat} (h : k < m) : (idxL k ++ List.replicate (m - k) 0).set k (k : Int) = idxL (k + 1) ++ List.replicate (m - (k + 1)) 0 := by
  rw [List.set_append_right _ _ (by rw [idxL_len]; omega), idxL_len, Nat.sub_self, idxL_snoc, List.append_assoc]
  congr 1
  rw [show m - k = m - (k + 1) + 1 by omega, List.replicate_succ]
  rfl

theorem inorder_pos (m : Nat) (w : World) (h0 : 0 < m) (hm : m ≤ 4096) :
    Calls Try.prog 26 #[.int .i64 (m : Int)] w fun e w' => e = .returned (.slice (some ⟨w.heap.size, 0, none⟩) m m) ∧ OwnI w.heap.size w.heap.size m m (idxL m) w' ∧ Below w.heap.size w w' := by
  have hmk := make_ints w m hm
  have HO : Hid (OwnI w.heap.size w.heap.size m m (idxL 0 ++ List.replicate (m - 0) 0) (w.alloc (.cells (madeCells #[.int .i64 0] m) 3))) := own_made w m hm
  have HB : Hid (Below w.heap.size w (w.alloc (.cells (madeCells #[.int .i64 0] m) 3))) := (Below.refl _ _).alloc (Nat.le_refl _) _
  go_enter Try.func26, Try.ntmps26
  go_wp2_with fail
  go_loopw [10] (fun i wr => ∃ k : Nat, k ≤ m ∧ i = .int .i64 k ∧ Hid (OwnI w.heap.size w.heap.size m m (idxL k ++ List.replicate (m - k) 0) wr) ∧ Hid (Below w.heap.size w wr)) (fun i _ => m - (intOf i).toNat)
  case atStart => exact ⟨0, Nat.zero_le _, rfl, HO, HB⟩
  case round =>
    obtain ⟨k, hk, rfl, HK, HW⟩ := hrel
    clear HO HB
    by_cases hlt : k < m
    · have ck := HK.out.cell hlt
      have fk := HK.out.frozen k
      have HS : Hid (OwnI w.heap.size w.heap.size m m (idxL (k + 1) ++ List.replicate (m - (k + 1)) 0) (wr.setCell ⟨w.heap.size, k, none⟩ (.int .i64 k))) := by
        unfold Hid
        rw [← idx_step hlt]
        exact HK.out.set k k
      generalize atL (idxL k ++ List.replicate (m - k) 0) k = z at *
      go_wp2_with fail
      go_round
      case rel => exact ⟨k + 1, by omega, by go_num, HS, HW.out.setCell (Nat.le_refl _) _⟩
      case measure => simp [intOf]; omega
    · obtain rfl : k = m := by omega
      have HE : Hid (OwnI w.heap.size w.heap.size k k (idxL k) wr) := by
        have := HK.out
        unfold Hid
        simpa using this
      go_wp2
      go_ret
      exact ⟨rfl, HE.out, HW.out⟩
theorem inorder_zero (n : Int) (w : World) (h0 : n ≤ 0) :
    Calls Try.prog 26 #[.int .i64 n] w fun e w' => e = .returned (.slice (some ⟨w.heap.size, 0, none⟩) 0 0) ∧ OwnI w.heap.size w.heap.size 0 0 (idxL 0) w' ∧ Below w.heap.size w w' := by
  have hmk : (Instr.makeSlice 44 (.int .i64 0) (.int .i64 0)).run Try.prog w = .ok (.slice (some ⟨w.heap.size, 0, none⟩) 0 0) (w.alloc (.cells (madeCells #[.int .i64 0] 0) 3)) := make_ints w 0 (by omega)
  have HO : Hid (OwnI w.heap.size w.heap.size 0 0 (idxL 0) (w.alloc (.cells (madeCells #[.int .i64 0] 0) 3))) := own_made w 0 (by omega)
  have HB : Hid (Below w.heap.size w (w.alloc (.cells (madeCells #[.int .i64 0] 0) 3))) := (Below.refl _ _).alloc (Nat.le_refl _) _
  rcases (by omega : n < 0 ∨ n = 0) with h | rfl
  · clear h0
    go_enter Try.func26, Try.ntmps26
    go_wp2_with fail
    go_loopw [10] (fun i wr => ∃ k : Nat, k ≤ 0 ∧ i = .int .i64 k ∧ wr = (w.alloc (.cells (madeCells #[.int .i64 0] 0) 3))) (fun i _ => 0 - (intOf i).toNat)
    case atStart => exact ⟨0, by omega, rfl, rfl⟩
    case round =>
      obtain ⟨k, hk, rfl, rfl⟩ := hrel
      obtain rfl : k = 0 := by omega
      go_wp2
      go_ret
      exact ⟨rfl, HO.out, HB.out⟩
  · clear h0
    go_enter Try.func26, Try.ntmps26
    go_wp2_with fail
    go_loopw [10] (fun i wr => ∃ k : Nat, k ≤ 0 ∧ i = .int .i64 k ∧ wr = (w.alloc (.cells (madeCells #[.int .i64 0] 0) 3))) (fun i _ => 0 - (intOf i).toNat)
    case atStart => exact ⟨0, by omega, rfl, rfl⟩
    case round =>
      obtain ⟨k, hk, rfl, rfl⟩ := hrel
      obtain rfl : k = 0 := by omega
      go_wp2
      go_ret
      exact ⟨rfl, HO.out, HB.out⟩
end Go.Proofs.Ytfnbkmhhiflkjaa
