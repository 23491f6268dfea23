/-
  Contracts: crc.Seal and the document's Seal hand back the bytes and behind them their sum's bytes, in memory of the call's own; crc.sumText these bytes; bytes.Equal whether two are the same; the statements' own guard (long).
-/
import Derived.Test.YtlcfjhlchpeedaaSums
namespace Go.Proofs.Ytlcfjhlchpeedaa
open Go.RowKit
open M
set_option linter.unusedVariables false
set_option maxRecDepth 1000000

theorem Try.info5 : (Try.prog.info? 5).map (fun i => (i.zero, i.size, i.bytes)) = some (some (.int .u8 0), 1, 1) := by kernel_rfl

/-- A row of the call's own stays while only newer memory turns. -/
theorem own_stays {w w' : World} {B e n : Nat} {v : Value} {xs : List Value} (h : w.ownsRow B e 1 v n xs) (hb : Below w.heap.size w w') : w'.ownsRow B e 1 v n xs := by
  refine ⟨h.1, ?_⟩
  rcases h.2 with h' | ⟨g, c, cur, hv, hB, hg, rest⟩
  · exact .inl h'
  · exact .inr ⟨g, c, cur, hv, hB, (hb.block g (Array.getElem?_eq_some_iff.1 hg).1).trans hg, rest⟩
theorem own_base {w : World} {B B' e n : Nat} {v : Value} {xs : List Value} (h : w.ownsRow B' e 1 v n xs) (hB : B ≤ B') : w.ownsRow B e 1 v n xs :=
  ⟨h.1, h.2.imp id fun ⟨g, cap, cur, hv, hb, r⟩ => ⟨g, cap, cur, hv, Nat.le_trans hB hb, r⟩⟩

/-- The first bytes of the slice. -/
theorem Reads.head {k : IntKind} {w : World} {a : Option Addr} {len cap : Nat} {zs : List Int} (h : Reads k w a len cap zs) {p : Nat} (hp : p ≤ len) (ha : a ≠ none) : Reads k w a p cap (zs.take p) :=
  ⟨by rw [List.length_take, h.size]; omega, (by have := h.room; omega), h.most, (fun e => absurd e ha), fun i hi => by
    obtain ⟨b, off, ha, hc⟩ := h.cell i (by omega)
    exact ⟨b, off, ha, by rw [hc, List.getElem?_take_of_lt hi]⟩⟩

/-- Strings of bytes are the same just if the bytes are. -/
theorem str_eq {xs ys : List Int} (hx : IsBytes xs) (hy : IsBytes ys) : ((strOfNums xs).toList == (strOfNums ys).toList) = decide (xs = ys) := by
  rw [ByteArray.toList_eq, ByteArray.toList_eq, strOfNums_data, strOfNums_data]
  have h2 : ∀ (zs : List Int), IsBytes zs → (zs.map (fun n => UInt8.ofNat n.toNat)).map (fun u => (u.toNat : Int)) = zs := by
    intro zs hz
    rw [List.map_map]
    conv => rhs; rw [← List.map_id zs]
    apply List.map_congr_left
    intro x h
    have := hz x h
    simp
    omega
  by_cases h : xs = ys
  · rw [decide_eq_true h, h]; simp
  · rw [decide_eq_false h]
    simp only [beq_eq_false_iff_ne]
    intro e
    exact h (by rw [← h2 xs hx, e, h2 ys hy])

theorem equal_any (a : Option Addr) (len cap : Nat) (xs : List Int) (a2 : Option Addr) (l2 c2 : Nat) (ys : List Int) (w : World) (hr : Reads .u8 w a len cap xs) (hr2 : Reads .u8 w a2 l2 c2 ys) (hx : IsBytes xs) (hy : IsBytes ys) :
    Calls Try.prog 74 #[.slice a len cap, .slice a2 l2 c2] w fun e w' => e = .returned (.bool (decide (xs = ys))) ∧ w' = w := by
  have cv := hr.conv (P := Try.prog) 30 9 5 Try.underlying30 Try.underlying5 Try.underlying9
  have cv2 := hr2.conv (P := Try.prog) 30 9 5 Try.underlying30 Try.underlying5 Try.underlying9
  have HI := hid (str_eq hx hy)
  clear hr hr2 hx hy
  go_enter Try.func74, Try.ntmps74
  go_wp2
  go_ret
  exact ⟨by rw [← HI.out]; rfl, rfl⟩

theorem sumtext_any (n : Int) (w : World) (n0 : 0 ≤ n) (n1 : n ≤ 4294967295) :
    Calls Try.prog 63 #[.int .u32 n] w fun e w' => e = .returned (.slice (some ⟨w.heap.size, 0, none⟩) 4 4) ∧ Reads .u8 w' (some ⟨w.heap.size, 0, none⟩) 4 4 (text n.toNat) ∧ Below w.heap.size w w' := by
  go_enter Try.func63, Try.ntmps63
  go_wp2
  go_ret
  refine ⟨rfl, ?_, (Below.refl _ _).alloc (Nat.le_refl _) _⟩
  refine ⟨rfl, Nat.le_refl _, by omega, (fun e => by cases e), fun i hi => ⟨w.heap.size, 0, rfl, ?_⟩⟩
  obtain rfl | rfl | rfl | rfl : i = 0 ∨ i = 1 ∨ i = 2 ∨ i = 3 := by omega
  all_goals
    simp [text]
    try omega

theorem one_len {zs : List Int} {n : Nat} (h : zs.length ≤ n) : ∀ i : Nat, ([zs][i]?.getD []).length ≤ n := by
  intro i
  rcases i with _ | i
  · simpa using h
  · simp

set_option maxHeartbeats 1000000 in
theorem seal_any (a : Option Addr) (len cap : Nat) (zs : List Int) (w : World) (hr : Reads .u8 w a len cap zs) (hz : IsBytes zs) (hlen : len ≤ 100000) :
    Calls Try.prog 50 #[.slice a len cap] w fun e w' => ∃ v', e = .returned v' ∧ w'.ownsRow w.heap.size 5 1 v' (len + 4) ((zs ++ text (crc zs)).map (Value.int .u8)) ∧ Below w.heap.size w w' := by
  obtain ⟨i0, hi, hz0, hz1, hz2⟩ := info_parts Try.info5
  go_enter Try.func50, Try.ntmps50
  go_wp2_with (at_builtin; refine append_any _ rfl (.const (.slice none 0 0)) (.tmp 4) 30 rfl w.heap.size 5 i0 (.int .u8 0) 1 Try.underlying30 hi hz0 hz1 hz2 rfl .u8 _ 0 [] rfl (World.ownsRow_nil _ _ _ _) a len cap zs rfl hr (by omega) (by omega) (by omega) ?_; intro v' w1 how1 hb1)
  rw [List.nil_append, Nat.zero_add] at how1
  have hr1 := hr.below hb1
  have hs1 := hb1.size
  have hbA : Below w.heap.size w1 (w1.alloc (.cells #[.slice a len cap] 30)) := (Below.refl _ _).alloc hs1 _
  have hbA1 : Below w1.heap.size w1 (w1.alloc (.cells #[.slice a len cap] 30)) := (Below.refl _ _).alloc (Nat.le_refl _) _
  have hS := sum_any (some ⟨w1.heap.size, 0, none⟩) 1 1 [zs] (w1.alloc (.cells #[.slice a len cap] 30)) (Parts.one w1 30 hr1 hz) (by omega) (one_len (by rw [hr.size]; omega))
  rw [show [zs].flatten = zs from by simp] at hS
  have hlt : crc zs < 2 ^ 32 := crc_lt hz
  obtain ⟨s, HS⟩ : ∃ s : Int, Hid (s = (crc zs : Nat)) := ⟨_, rfl⟩
  rw [← HS.out] at hS
  have s0 : 0 ≤ s := by have := HS.out; omega
  have s1 : s ≤ 4294967295 := by have := HS.out; omega
  clear hr hr1 hz hlt
  go_wp2_with fail
  refine hS.mono ?_
  rintro e w2 ⟨rfl, hb2⟩
  have hT := sumtext_any s w2 s0 s1
  rw [show s.toNat = crc zs from by rw [HS.out]; simp] at hT
  clear hS
  go_wp2_with fail
  refine hT.mono ?_
  rintro e w3 ⟨rfl, hr3, hb3⟩
  have hb13 : Below w1.heap.size w1 w3 := hbA1.trans ((hb2.mono hbA1.size).trans (hb3.mono (Nat.le_trans hbA1.size hb2.size)))
  have how3 := own_stays how1 hb13
  have hs3 := hb13.size
  clear hT
  go_wp2_with (at_builtin; refine append_any _ rfl (.tmp 6) (.tmp 10) 30 rfl w.heap.size 5 i0 (.int .u8 0) 1 Try.underlying30 hi hz0 hz1 hz2 rfl .u8 _ _ _ rfl how3 _ 4 4 (text (crc zs)) rfl hr3 (by omega) (by omega) (by omega) ?_; intro v4 w4 how4 hb4)
  go_ret
  exact ⟨_, rfl, how4, hb1.trans ((hb13.mono hs1).trans hb4)⟩

/-- A sum's bytes in a new block. -/
theorem Reads.text (w : World) (s : Int) (s0 : 0 ≤ s) (s1 : s ≤ 4294967295) :
    Reads .u8 (w.alloc (.cells #[.int .u8 (s % 256), .int .u8 (s / 256 % 256), .int .u8 (s / 65536 % 256), .int .u8 (s / 16777216)] 5)) (some ⟨w.heap.size, 0, none⟩) 4 4 (text s.toNat) := by
  refine ⟨rfl, Nat.le_refl _, by omega, (fun e => by cases e), fun i hi => ⟨w.heap.size, 0, rfl, ?_⟩⟩
  obtain rfl | rfl | rfl | rfl : i = 0 ∨ i = 1 ∨ i = 2 ∨ i = 3 := by omega
  all_goals
    simp [M.text]
    try omega

set_option maxHeartbeats 1000000 in
theorem rseal_any (a : Option Addr) (len cap : Nat) (zs : List Int) (w : World) (hr : Reads .u8 w a len cap zs) (hz : IsBytes zs) (hlen : len ≤ 100000) :
    Calls Try.prog 52 #[.slice a len cap] w fun e w' => ∃ v', e = .returned v' ∧ w'.ownsRow w.heap.size 5 1 v' (len + 4) ((zs ++ text (crc zs)).map (Value.int .u8)) ∧ Below w.heap.size w w' := by
  obtain ⟨i0, hi, hz0, hz1, hz2⟩ := info_parts Try.info5
  have hS := rsum_any a len cap zs w hr hz (by omega)
  have hlt : crc zs < 2 ^ 32 := crc_lt hz
  obtain ⟨s, HS⟩ : ∃ s : Int, Hid (s = (crc zs : Nat)) := ⟨_, rfl⟩
  rw [← HS.out] at hS
  have s0 : 0 ≤ s := by have := HS.out; omega
  have s1 : s ≤ 4294967295 := by have := HS.out; omega
  clear hz hlt
  go_enter Try.func52, Try.ntmps52
  go_wp2_with fail
  refine hS.mono ?_
  rintro e w' ⟨rfl, rfl⟩
  have HR := hid hr
  have HT : Hid (s.toNat = crc zs) := by unfold Hid; rw [HS.out]; simp
  clear hS
  go_wp2_with (at_builtin; first | (refine append_any _ rfl (.const (.slice none 0 0)) (.tmp 6) 30 rfl w'.heap.size 5 i0 (.int .u8 0) 1 Try.underlying30 hi hz0 hz1 hz2 rfl .u8 _ 0 [] rfl (World.ownsRow_nil _ _ _ _) a len cap zs rfl hr (by omega) (by omega) (by omega) ?_; intro v1 w1 how1 hb1; have hs1 := hb1.size) | (refine append_any _ rfl (.tmp 7) (.tmp 19) 30 rfl w'.heap.size 5 i0 (.int .u8 0) 1 Try.underlying30 hi hz0 hz1 hz2 rfl .u8 _ _ _ rfl (how1.alloc _) _ 4 4 (text s.toNat) rfl (Reads.text _ s s0 s1) (by omega) (by omega) (by simp; omega) ?_; intro v4 w4 how4 hb4))
  go_ret
  refine ⟨_, rfl, ?_, hb1.trans (((Below.refl _ _).alloc hs1 _).trans hb4)⟩
  rw [HT.out] at how4
  simpa using how4

end Go.Proofs.Ytlcfjhlchpeedaa
