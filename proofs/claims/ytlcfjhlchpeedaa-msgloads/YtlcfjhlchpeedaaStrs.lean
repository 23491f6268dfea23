/-
  A text of letters, gone through: by its iterator, and place by place.
-/
import Derived.Test.YtlcfjhlchpeedaaFlds
import Derived.Lib.OthersKept
namespace Go.Proofs.Ytlcfjhlchpeedaa
open Go.RowKit
open M
set_option linter.unusedVariables false
set_option maxRecDepth 1000000

theorem letter_bd {c : Int} (h : Letter c) : 0 ≤ c ∧ c < 128 := by unfold Letter at h; omega
theorem str_at {L : List Int} {i : Nat} (hi : i < L.length) (hc : 0 ≤ L[i] ∧ L[i] < 128) (h : i < (strOfNums L).size) : ((strOfNums L)[i]'h).toNat = (L[i]).toNat := by
  have e1 : (strOfNums L)[i]'h = UInt8.ofNat (L[i]).toNat := by
    show (strOfNums L).data[i] = _
    simp [strOfNums]
  rw [e1]
  simp
  omega

theorem next_letter {P : Program} {w : World} {k i : Nat} {L : List Int} {c : Int} (ty : TypeId) (hk : w.heap[k]? = some (.stringIter (strOfNums L) i)) (hi : L[i]? = some c) (hc : Letter c) :
    (Instr.next (.pointer (some ⟨k, 0, none⟩)) true ty).run P w = .ok (.tuple #[.bool true, .int .i64 i, .int .i32 c]) (w.iterAt k (strOfNums L) (i + 1)) := by
  obtain ⟨hlt, rfl⟩ := List.getElem?_eq_some_iff.1 hi
  have hs : i < (strOfNums L).size := by rw [strOfNums_size]; exact hlt
  have hb := letter_bd hc
  have ha := str_at hlt hb hs
  rw [Lib.run_next_ascii_at w k (strOfNums L) i ty hk hs (by rw [ha]; omega), ha, Int.toNat_of_nonneg hb.1]
theorem next_done {P : Program} {w : World} {k i : Nat} {L : List Int} (ty : TypeId) (hk : w.heap[k]? = some (.stringIter (strOfNums L) i)) (hi : L.length ≤ i) :
    (Instr.next (.pointer (some ⟨k, 0, none⟩)) true ty).run P w = .ok (.tuple #[.bool false]) w :=
  Lib.run_next_end_at w k (strOfNums L) i ty hk (by rw [strOfNums_size]; omega)
theorem But.iter {S : List Nat} {a w : World} (h : But S a w) {k : Nat} (hk : k ∈ S) (s : ByteArray) (pos : Nat) : But S a (w.iterAt k s pos) :=
  h.trans ⟨rfl, rfl, rfl, by rw [Lib.iterAt_size]; exact Nat.le_refl _, fun i hi hn => Lib.iterAt_other w k i s pos fun e => hn (e ▸ hk)⟩
theorem iterPos_at {w : World} {k pos : Nat} {s : ByteArray} (h : w.heap[k]? = some (.stringIter s pos)) : w.iterPos k = pos := by simp [World.iterPos, h]

/-- A letter at a place of the text. -/
theorem index_letter {P : Program} (t : TypeId) {L : List Int} {i : Nat} {c : Int} (w : World) (ht : P.underlying t = some .string) (hi : L[i]? = some c) (hc : Letter c) :
    (Instr.index t (.string (strOfNums L)) (.int .i64 (i : Int))).run P w = .ok (.int .u8 c) w := by
  obtain ⟨hlt, rfl⟩ := List.getElem?_eq_some_iff.1 hi
  have hs : i < (strOfNums L).size := by rw [strOfNums_size]; exact hlt
  have hb := letter_bd hc
  have ha := str_at hlt hb hs
  rw [run_index_string w t _ _ _ ht]
  simp only [Int.toNat_natCast]
  rw [dif_pos (by omega), ha, Int.toNat_of_nonneg hb.1]

end Go.Proofs.Ytlcfjhlchpeedaa
