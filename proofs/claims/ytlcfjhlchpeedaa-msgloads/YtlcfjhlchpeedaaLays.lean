/-
  Contracts: frame.Lay and the document's Lay refuse a load of more than 2048 bytes; else they hand back its frame, in memory of the call's own; frame.Size and the document's Size hand back how many bytes the frame has; the statements' own guard (far).
-/
import Derived.Test.YtlcfjhlchpeedaaFrames
namespace Go.Proofs.Ytlcfjhlchpeedaa
open Go.RowKit
open M
set_option linter.unusedVariables false
set_option maxRecDepth 1000000

/-- Numbers in a new block. -/
theorem Reads.block (k : IntKind) (w : World) (xs : List Int) (t : TypeId) (fz : Nat × Nat) (h : xs.length ≤ 100000) :
    Reads k (w.alloc (.cells (xs.map (Value.int k)).toArray t fz)) (some ⟨w.heap.size, 0, none⟩) xs.length xs.length xs :=
  ⟨rfl, Nat.le_refl _, by omega, (fun e => by cases e), fun i hi => ⟨w.heap.size, 0, rfl, (by
    have hn : (w.alloc (.cells (xs.map (Value.int k)).toArray t fz)).heap[w.heap.size]? = some (.cells (xs.map (Value.int k)).toArray t fz) := by
      show (w.heap.push _)[w.heap.size]? = _
      simp
    unfold World.cell?
    rw [hn]
    simp [hi])⟩⟩

theorem lay_many (a : Option Addr) (len cap : Nat) (w : World) (h : 2048 < len) (hl : len ≤ 100000) :
    Calls Try.prog 30 #[.slice a len cap] w fun e w' => e = .returned (.tuple #[.slice none 0 0, .int .i64 5]) ∧ w' = w := by
  go_enter Try.func30, Try.ntmps30
  go_wp2
  go_ret2
  exact ⟨rfl, rfl⟩

set_option maxHeartbeats 1000000 in
theorem lay_ok (a : Option Addr) (len cap : Nat) (zs : List Int) (w : World) (hr : Reads .u8 w a len cap zs) (hz : IsBytes zs) (hlen : len ≤ 2048) :
    Calls Try.prog 30 #[.slice a len cap] w fun e w' => ∃ v', e = .returned (.tuple #[v', .int .i64 0]) ∧ w'.ownsRow w.heap.size 5 1 v' (layL zs).length ((layL zs).map (Value.int .u8)) ∧ Below w.heap.size w w' := by
  have hsz := hr.size
  have hh : Reads .u8 (w.alloc (.cells #[.int .u8 71, .int .u8 98, .int .u8 1] 5)) (some ⟨w.heap.size, 0, none⟩) 3 3 [71, 98, 1] := Reads.block .u8 w [71, 98, 1] 5 (0, 0) (by simp)
  have hb0 : Below w.heap.size w (w.alloc (.cells #[.int .u8 71, .int .u8 98, .int .u8 1] 5)) := (Below.refl _ _).alloc (Nat.le_refl _) _
  have hP := putbytes_any _ 3 3 [71, 98, 1] a len cap zs _ hh (hr.below hb0) (by omega) (by omega)
  rw [encsZ_one, ← hsz, show [71, 98, 1] ++ encZ (zs.length : Int) ++ zs = bodyL zs from rfl, hsz] at hP
  have HL : Hid (3 + (encZ (len : Int)).length + len + 4 = (layL zs).length) := by rw [layL_len, hsz]; exact hid rfl
  have hk := encZ_len2 (n := len) hlen
  have HB := hid (bodyL_bytes hz)
  have HE : Hid (bodyL zs ++ text (crc (bodyL zs)) = layL zs) := rfl
  clear hr hz hh
  generalize bodyL zs = bs at *
  go_enter Try.func30, Try.ntmps30
  go_wp2_with fail
  refine hP.mono ?_
  rintro e w1 ⟨v1, rfl, how1, hb1⟩
  obtain ⟨a1, c1, rfl, hr1⟩ := Reads.own how1
  have hb01 : Below w.heap.size w w1 := hb0.trans (hb1.mono hb0.size)
  have hS := seal_any a1 _ c1 bs w1 hr1 HB.out (by omega)
  rw [HL.out, HE.out] at hS
  clear hP hr1 how1
  go_wp2_with fail
  refine hS.mono ?_
  rintro e w2 ⟨v2, rfl, how2, hb2⟩
  go_wp2
  go_ret2
  exact ⟨_, rfl, own_base how2 hb01.size, hb01.trans (hb2.mono hb01.size)⟩

theorem rlay_many (a : Option Addr) (len cap : Nat) (w : World) (h : 2048 < len) (hl : len ≤ 100000) :
    Calls Try.prog 31 #[.slice a len cap] w fun e w' => e = .returned (.tuple #[.slice none 0 0, .int .i64 5]) ∧ w' = w := by
  go_enter Try.func31, Try.ntmps31
  go_wp2
  go_ret2
  exact ⟨rfl, rfl⟩

/-- A literal is a row of the call's own. -/
theorem own_lit (w : World) (xs : List Int) (t : TypeId) (h : xs.length ≤ 100000) :
    (w.alloc (.cells (xs.map (Value.int .u8)).toArray t)).ownsRow w.heap.size t 1 (.slice (some ⟨w.heap.size, 0, none⟩) xs.length xs.length) xs.length (xs.map (Value.int .u8)) :=
  ⟨by simp, .inr ⟨w.heap.size, xs.length, (xs.map (Value.int .u8)).toArray, rfl, Nat.le_refl _, heap_alloc_new w _, Nat.le_refl _, by unfold maxLen; omega, by simp, List.take_of_length_le (by simp)⟩⟩

set_option maxHeartbeats 1000000 in
theorem rlay_ok (a : Option Addr) (len cap : Nat) (zs : List Int) (w : World) (hr : Reads .u8 w a len cap zs) (hz : IsBytes zs) (hlen : len ≤ 2048) :
    Calls Try.prog 31 #[.slice a len cap] w fun e w' => ∃ v', e = .returned (.tuple #[v', .int .i64 0]) ∧ w'.ownsRow w.heap.size 5 1 v' (layL zs).length ((layL zs).map (Value.int .u8)) ∧ Below w.heap.size w w' := by
  obtain ⟨i0, hi, hz0, hz1, hz2⟩ := info_parts Try.info5
  have hsz := hr.size
  have ho : (w.alloc (.cells #[.int .u8 71, .int .u8 98, .int .u8 1] 5)).ownsRow w.heap.size 5 1 (.slice (some ⟨w.heap.size, 0, none⟩) 3 3) 3 (([71, 98, 1] : List Int).map (Value.int .u8)) := own_lit w [71, 98, 1] 5 (by simp)
  have hb0 : Below w.heap.size w (w.alloc (.cells #[.int .u8 71, .int .u8 98, .int .u8 1] 5)) := (Below.refl _ _).alloc (Nat.le_refl _) _
  have hR := rbytes_any (len : Int) (w.alloc (.cells #[.int .u8 71, .int .u8 98, .int .u8 1] 5)) (by omega) (by omega)
  have HL : Hid (3 + (encZ (len : Int)).length + len + 4 = (layL zs).length) := by rw [layL_len, hsz]; exact hid rfl
  have hk := encZ_len2 (n := len) hlen
  have HB := hid (bodyL_bytes hz)
  have HD : Hid ([71, 98, 1] ++ encZ (len : Int) ++ zs = bodyL zs) := by unfold Hid bodyL; rw [hsz]
  have HE : Hid (bodyL zs ++ text (crc (bodyL zs)) = layL zs) := rfl
  have HR := hid hr
  clear hr hz
  go_enter Try.func31, Try.ntmps31
  go_wp2_with fail
  refine hR.mono ?_
  rintro e w1 ⟨v1, rfl, how1, hb1⟩
  obtain ⟨a1, c1, rfl, hr1⟩ := Reads.own how1
  have ho1 := own_stays ho hb1
  have hs1 := Nat.le_trans hb0.size hb1.size
  have hb01 : Below w.heap.size w w1 := hb0.trans (hb1.mono hb0.size)
  clear hR how1 ho hb1 hb0
  go_wp2_with (at_builtin; first | (refine append_any _ rfl (.tmp 8) (.tmp 12) 30 rfl w.heap.size 5 i0 (.int .u8 0) 1 Try.underlying30 hi hz0 hz1 hz2 rfl .u8 _ 3 _ rfl ho1 a1 _ c1 _ rfl hr1 (by omega) (by omega) (by omega) ?_; intro v2 w2 how2 hb2; have hb02 := hb01.trans hb2; have hr2 := HR.out.below hb02; have hs2 := hb02.size) | (refine append_any _ rfl (.tmp 14) (.tmp 15) 30 rfl w.heap.size 5 i0 (.int .u8 0) 1 Try.underlying30 hi hz0 hz1 hz2 rfl .u8 _ _ _ rfl how2 a len cap zs rfl hr2 (by omega) (by omega) (by omega) ?_; intro v3 w3 how3 hb3; have hb03 := hb02.trans hb3))
  rw [HD.out] at how3
  obtain ⟨a3, c3, rfl, hr3⟩ := Reads.own how3
  have hS := rseal_any a3 _ c3 (bodyL zs) w3 hr3 HB.out (by omega)
  rw [HL.out, HE.out] at hS
  clear hr3 how3 how2 hr2 hr1 ho1
  go_wp2_with fail
  refine hS.mono ?_
  rintro e w4 ⟨v4, rfl, how4, hb4⟩
  go_wp2
  go_ret2
  exact ⟨_, rfl, own_base how4 hb03.size, hb03.trans (hb4.mono hb03.size)⟩

/-- How many bytes the frame of a load of n bytes has, 0 if there is none. -/
def sizeF (n : Int) : Int := if n < 0 ∨ 2048 < n then 0 else 3 + (encZ n).length + n + 4

end Go.Proofs.Ytlcfjhlchpeedaa
