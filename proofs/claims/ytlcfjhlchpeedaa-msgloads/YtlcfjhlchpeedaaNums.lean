/-
  Contracts: msg.listNumbers and the document's list hand back how many tokens there are, and these, in memory of the call's own; nothing that was there turns.
-/
import Derived.Test.YtlcfjhlchpeedaaToks
namespace Go.Proofs.Ytlcfjhlchpeedaa
open Go.RowKit
open M
set_option linter.unusedVariables false
set_option maxRecDepth 1000000

/-- A literal is a row of the call's own. -/
theorem own_litK (k : IntKind) (w : World) (xs : List Int) (t : TypeId) (h : xs.length ≤ 100000) :
    (w.alloc (.cells (xs.map (Value.int k)).toArray t)).ownsRow w.heap.size t 1 (.slice (some ⟨w.heap.size, 0, none⟩) xs.length xs.length) xs.length (xs.map (Value.int k)) :=
  ⟨by simp, .inr ⟨w.heap.size, xs.length, (xs.map (Value.int k)).toArray, rfl, Nat.le_refl _, heap_alloc_new w _, Nat.le_refl _, by unfold maxLen; omega, by simp, List.take_of_length_le (by simp)⟩⟩

set_option maxHeartbeats 1000000 in
theorem listnums_any (a : Option Addr) (len cap : Nat) (l : List Int) (w : World) (hr : Reads .i64 w a len cap l) (hl : toksB l = true) :
    Calls Try.prog 47 #[.slice a len cap] w fun e w' => ∃ v', e = .returned v' ∧ w'.ownsRow w.heap.size 22 1 v' (len + 1) (((len : Int) :: l).map (Value.int .u64)) ∧ Below w.heap.size w w' := by
  obtain ⟨i0, hi, hz0, hz1, hz2⟩ := info_parts Try.info22
  have HL : Hid (l.length = len) := hr.size
  have h256 : len ≤ 256 := by have := toksB_len hl; have := HL.out; omega
  have HT := hid (toksB_at hl)
  clear hl
  have hown : (w.alloc (.cells #[.int .u64 len] 22)).ownsRow w.heap.size 22 1 (.slice (some ⟨w.heap.size, 0, none⟩) 1 1) 1 ([(len : Int)].map (Value.int .u64)) := own_litK .u64 w [(len : Int)] 22 (by simp)
  go_enter Try.func47, Try.ntmps47
  go_wp2
  go_loopw [3, 12] (fun u i wr => ∃ (k : Nat), k ≤ len ∧ i = .int .i64 k ∧ wr.ownsRow w.heap.size 22 1 u (k + 1) (((len : Int) :: l.take k).map (Value.int .u64)) ∧ Below w.heap.size w wr) (fun _ i _ => len - (intOf i).toNat)
  case atStart => exact ⟨0, by omega, rfl, by simpa using hown, (Below.refl _ _).alloc (Nat.le_refl _) _⟩
  case round =>
    obtain ⟨k, hk, rfl, how, hb⟩ := hrel
    have hsz := hb.size
    by_cases hlt : k < len
    · obtain ⟨b, off, rfl, hc0⟩ := hr.cell k hlt
      have hc := (hb.cell (World.block_lt_of_cell? _ _ hc0)).trans hc0
      have hx : 0 ≤ l[k]?.getD 0 ∧ l[k]?.getD 0 ≤ 63 := HT.out _ (by
        have h1 : k < l.length := by have := HL.out; omega
        rw [List.getElem?_eq_getElem h1]; exact List.getElem_mem h1)
      have HS : Hid (((len : Int) :: l.take k) ++ [l[k]?.getD 0] = (len : Int) :: l.take (k + 1)) := by
        unfold Hid; rw [take_snoc (by have := HL.out; omega)]; rfl
      clear hc0 hr hown
      generalize l[k]?.getD 0 = x at *
      obtain ⟨x0, x1⟩ := hx
      go_wp2_with (at_builtin; refine append_any _ rfl (.tmp 16) (.tmp 19) 50 rfl w.heap.size 22 i0 (.int .u64 0) 8 Try.underlying50 hi hz0 hz1 hz2 rfl .u64 _ (k + 1) _ rfl (how.alloc _) _ 1 1 [x] rfl (Reads.one _ _ _) (by omega) (by omega) (by simp; omega) ?_; intro v' w1 how1 hb1)
      go_roundw
      case rel => exact ⟨k + 1, by omega, by go_num, by rw [← HS.out]; exact how1, hb.trans (((Below.refl _ _).alloc (by omega) _).trans hb1)⟩
      case measure => simp [intOf]; omega
    · have HT2 : Hid (l.take k = l) := List.take_of_length_le (by have := HL.out; omega)
      obtain rfl : k = len := by omega
      clear hr hown
      go_wp2
      go_ret
      exact ⟨_, rfl, by rw [HT2.out] at how; exact how, hb⟩

set_option maxHeartbeats 1000000 in
theorem rlist_any (a : Option Addr) (len cap : Nat) (l : List Int) (w : World) (hr : Reads .i64 w a len cap l) (hl : toksB l = true) :
    Calls Try.prog 48 #[.slice a len cap] w fun e w' => ∃ v', e = .returned v' ∧ w'.ownsRow w.heap.size 22 1 v' (len + 1) (((len : Int) :: l).map (Value.int .u64)) ∧ Below w.heap.size w w' := by
  obtain ⟨i0, hi, hz0, hz1, hz2⟩ := info_parts Try.info22
  have HL : Hid (l.length = len) := hr.size
  have h256 : len ≤ 256 := by have := toksB_len hl; have := HL.out; omega
  have HT := hid (toksB_at hl)
  clear hl
  have hown : (w.alloc (.cells #[.int .u64 len] 22)).ownsRow w.heap.size 22 1 (.slice (some ⟨w.heap.size, 0, none⟩) 1 1) 1 ([(len : Int)].map (Value.int .u64)) := own_litK .u64 w [(len : Int)] 22 (by simp)
  go_enter Try.func48, Try.ntmps48
  go_wp2
  go_loopw [3, 4] (fun u i wr => ∃ (k : Nat), k ≤ len ∧ i = .int .i64 k ∧ wr.ownsRow w.heap.size 22 1 u (k + 1) (((len : Int) :: l.take k).map (Value.int .u64)) ∧ Below w.heap.size w wr) (fun _ i _ => len - (intOf i).toNat)
  case atStart => exact ⟨0, by omega, rfl, by simpa using hown, (Below.refl _ _).alloc (Nat.le_refl _) _⟩
  case round =>
    obtain ⟨k, hk, rfl, how, hb⟩ := hrel
    have hsz := hb.size
    by_cases hlt : k < len
    · obtain ⟨b, off, rfl, hc0⟩ := hr.cell k hlt
      have hc := (hb.cell (World.block_lt_of_cell? _ _ hc0)).trans hc0
      have hx : 0 ≤ l[k]?.getD 0 ∧ l[k]?.getD 0 ≤ 63 := HT.out _ (by
        have h1 : k < l.length := by have := HL.out; omega
        rw [List.getElem?_eq_getElem h1]; exact List.getElem_mem h1)
      have HS : Hid (((len : Int) :: l.take k) ++ [l[k]?.getD 0] = (len : Int) :: l.take (k + 1)) := by
        unfold Hid; rw [take_snoc (by have := HL.out; omega)]; rfl
      clear hc0 hr hown
      generalize l[k]?.getD 0 = x at *
      obtain ⟨x0, x1⟩ := hx
      go_wp2_with (at_builtin; refine append_any _ rfl (.tmp 15) (.tmp 21) 50 rfl w.heap.size 22 i0 (.int .u64 0) 8 Try.underlying50 hi hz0 hz1 hz2 rfl .u64 _ (k + 1) _ rfl (how.alloc _) _ 1 1 [x] rfl (Reads.one _ _ _) (by omega) (by omega) (by simp; omega) ?_; intro v' w1 how1 hb1)
      go_roundw
      case rel => exact ⟨k + 1, by omega, by go_num, by rw [← HS.out]; exact how1, hb.trans (((Below.refl _ _).alloc (by omega) _).trans hb1)⟩
      case measure => simp [intOf]; omega
    · have HT2 : Hid (l.take k = l) := List.take_of_length_le (by have := HL.out; omega)
      obtain rfl : k = len := by omega
      clear hr hown
      go_wp2
      go_ret
      exact ⟨_, rfl, by rw [HT2.out] at how; exact how, hb⟩

end Go.Proofs.Ytlcfjhlchpeedaa
