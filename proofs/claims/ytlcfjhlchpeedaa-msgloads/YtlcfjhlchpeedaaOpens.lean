/-
  Contracts: crc.Open and the document's Open refuse bytes that are fewer than 4, and bytes that are not sealed; else they hand back the bytes ahead of the sum, in memory of the call's own.
-/
import Derived.Test.YtlcfjhlchpeedaaSeals
import Derived.Deep.RegionHeld
import Derived.Deep.DeepCutAuto
namespace Go.Proofs.Ytlcfjhlchpeedaa
open Go.RowKit
open M
set_option linter.unusedVariables false
set_option maxRecDepth 1000000

/-- A part of the slice, as Go cuts it: at the capacity's end the address stays. -/
theorem Reads.part {k : IntKind} {w : World} {b off len cap : Nat} {zs : List Int} (h : Reads k w (some ⟨b, off, none⟩) len cap zs) {p n : Nat} (hp : p + n ≤ len) (hc : ¬ cap = p) :
    Reads k w (some ⟨b, off + p, none⟩) n (cap - p) ((zs.drop p).take n) :=
  ⟨by rw [List.length_take, List.length_drop, h.size]; omega, (by have := h.room; omega), (by have := h.most; omega), (fun e => by cases e), fun i hi => by
    obtain ⟨b', off', ha, hc⟩ := h.cell (p + i) (by omega)
    cases ha
    exact ⟨b, off + p, rfl, by rw [Nat.add_assoc, hc, List.getElem?_take_of_lt hi, List.getElem?_drop]⟩⟩

theorem open_short (a : Option Addr) (len cap : Nat) (w : World) (h : len < 4) :
    Calls Try.prog 69 #[.slice a len cap] w fun e w' => e = .returned (.tuple #[.slice none 0 0, .int .i64 4]) ∧ w' = w := by
  go_enter Try.func69, Try.ntmps69
  go_wp2
  go_ret2
  exact ⟨rfl, rfl⟩

set_option maxHeartbeats 1000000 in
theorem open_bad (b off n cap : Nat) (zs : List Int) (w : World) (hr : Reads .u8 w (some ⟨b, off, none⟩) (n + 4) cap zs) (hz : IsBytes zs) (hlen : n ≤ 100000) (hs : ¬ Sealed zs) :
    Calls Try.prog 69 #[.slice (some ⟨b, off, none⟩) (n + 4) cap] w fun e w' => e = .returned (.tuple #[.slice none 0 0, .int .i64 8]) ∧ Below w.heap.size w w' := by
  have hrm := hr.room
  have hmo := hr.most
  have hsz := hr.size
  have hh := hr.head (p := n) (by omega) (by simp)
  have ht := hr.part (p := n) (n := 4) (by omega) (by omega)
  have hbd : Below w.heap.size w w.drew := (Below.refl _ _).drew
  have hbA : Below w.heap.size w (w.drew.alloc (.cells #[.slice (some ⟨b, off, none⟩) n cap] 30)) := hbd.alloc (Nat.le_refl _) _
  have hS := sum_any (some ⟨w.heap.size, 0, none⟩) 1 1 [zs.take n] (w.drew.alloc (.cells #[.slice (some ⟨b, off, none⟩) n cap] 30)) (Parts.one w.drew 30 (hh.below hbd) (hz.take n)) (by omega) (one_len (by rw [hh.size]; omega))
  rw [show [zs.take n].flatten = zs.take n from by simp] at hS
  have hlt : crc (zs.take n) < 2 ^ 32 := crc_lt (hz.take n)
  have hne : ¬ text (crc (zs.take n)) = (zs.drop n).take 4 := by
    intro e
    refine hs ⟨by omega, ?_⟩
    rw [hsz, Nat.add_sub_cancel, e]
    exact List.take_of_length_le (by simp; omega)
  have HD : Hid (decide (text (crc (zs.take n)) = (zs.drop n).take 4) = false) := decide_eq_false hne
  have HB := hid ((hz.drop n).take 4)
  obtain ⟨s, HS⟩ : ∃ s : Int, Hid (s = (crc (zs.take n) : Nat)) := ⟨_, rfl⟩
  rw [← HS.out] at hS
  have s0 : 0 ≤ s := by have := HS.out; omega
  have s1 : s ≤ 4294967295 := by have := HS.out; omega
  have HT : Hid (s.toNat = crc (zs.take n)) := by unfold Hid; rw [HS.out]; simp
  have HP := hid ht
  have HH := hid hh
  have HC := hid hS
  clear hr hz hs hh ht hlt hne hS hsz
  go_enter Try.func69, Try.ntmps69
  go_wp2_with fail
  go_cut [21] (fun v wx => v = .bool true ∧ Below w.heap.size w wx)
  case first =>
    go_region_held (fun _ => True) (trivial) (first | (go_at_call 64; refine HC.out.mono ?_; rintro e w2 ⟨rfl, hb2⟩) | (go_at_call 63; refine (sumtext_any s _ s0 s1).mono ?_; rintro e w3 ⟨rfl, hr3, hb3⟩; have hb13 : Below w.heap.size w w3 := hbA.trans ((hb2.mono (by simp)).trans (hb3.mono (Nat.le_trans (by simp) hb2.size)))) | (go_at_call 74; refine (equal_any _ _ _ _ _ _ _ _ _ hr3 (HP.out.below hb13) (text_bytes _) HB.out).mono ?_; rw [HT.out, HD.out]; rintro e w4 ⟨rfl, rfl⟩))
    all_goals
      go_wp2_with fail
      go_meet
      case rel => exact ⟨rfl, hb13⟩
  case rest =>
    obtain ⟨rfl, hbc⟩ := hcut
    go_wp2
    go_ret2
    exact ⟨rfl, hbc⟩

set_option maxHeartbeats 1000000 in
theorem open_ok (b off n cap : Nat) (zs : List Int) (w : World) (hr : Reads .u8 w (some ⟨b, off, none⟩) (n + 4) cap zs) (hz : IsBytes zs) (hlen : n ≤ 100000) (hs : Sealed zs) :
    Calls Try.prog 69 #[.slice (some ⟨b, off, none⟩) (n + 4) cap] w fun e w' => ∃ v', e = .returned (.tuple #[v', .int .i64 0]) ∧ w'.ownsRow w.heap.size 5 1 v' n ((zs.take n).map (Value.int .u8)) ∧ Below w.heap.size w w' := by
  have hrm := hr.room
  have hmo := hr.most
  have hsz := hr.size
  have hh := hr.head (p := n) (by omega) (by simp)
  have ht := hr.part (p := n) (n := 4) (by omega) (by omega)
  have hbd : Below w.heap.size w w.drew := (Below.refl _ _).drew
  have hbA : Below w.heap.size w (w.drew.alloc (.cells #[.slice (some ⟨b, off, none⟩) n cap] 30)) := hbd.alloc (Nat.le_refl _) _
  have hS := sum_any (some ⟨w.heap.size, 0, none⟩) 1 1 [zs.take n] (w.drew.alloc (.cells #[.slice (some ⟨b, off, none⟩) n cap] 30)) (Parts.one w.drew 30 (hh.below hbd) (hz.take n)) (by omega) (one_len (by rw [hh.size]; omega))
  rw [show [zs.take n].flatten = zs.take n from by simp] at hS
  have hlt : crc (zs.take n) < 2 ^ 32 := crc_lt (hz.take n)
  have hne : text (crc (zs.take n)) = (zs.drop n).take 4 := by
    have := hs.2
    rw [hsz, Nat.add_sub_cancel] at this
    rw [this]
    exact (List.take_of_length_le (by simp; omega)).symm
  have HD : Hid (decide (text (crc (zs.take n)) = (zs.drop n).take 4) = true) := decide_eq_true hne
  have HB := hid ((hz.drop n).take 4)
  obtain ⟨s, HS⟩ : ∃ s : Int, Hid (s = (crc (zs.take n) : Nat)) := ⟨_, rfl⟩
  rw [← HS.out] at hS
  have s0 : 0 ≤ s := by have := HS.out; omega
  have s1 : s ≤ 4294967295 := by have := HS.out; omega
  have HT : Hid (s.toNat = crc (zs.take n)) := by unfold Hid; rw [HS.out]; simp
  have HP := hid ht
  have HH := hid hh
  have HC := hid hS
  clear hr hz hs hh ht hlt hne hS hsz
  obtain ⟨i0, hi, hz0, hz1, hz2⟩ := info_parts Try.info5
  go_enter Try.func69, Try.ntmps69
  go_wp2_with fail
  go_cut [21] (fun v wx => v = .bool false ∧ Below w.heap.size w wx)
  case first =>
    go_region_held (fun _ => True) (trivial) (first | (go_at_call 64; refine HC.out.mono ?_; rintro e w2 ⟨rfl, hb2⟩) | (go_at_call 63; refine (sumtext_any s _ s0 s1).mono ?_; rintro e w3 ⟨rfl, hr3, hb3⟩; have hb13 : Below w.heap.size w w3 := hbA.trans ((hb2.mono (by simp)).trans (hb3.mono (Nat.le_trans (by simp) hb2.size)))) | (go_at_call 74; refine (equal_any _ _ _ _ _ _ _ _ _ hr3 (HP.out.below hb13) (text_bytes _) HB.out).mono ?_; rw [HT.out, HD.out]; rintro e w4 ⟨rfl, rfl⟩))
    all_goals
      go_wp2_with fail
      go_meet
      case rel => exact ⟨rfl, hb13⟩
  case rest =>
    obtain ⟨rfl, hbc⟩ := hcut
    have hsc := hbc.size
    have hrc := HH.out.below hbc
    clear HC HP HH hbA
    go_wp2_with (at_builtin; refine append_any _ rfl (.const (.slice none 0 0)) (.tmp 24) 30 rfl w.heap.size 5 i0 (.int .u8 0) 1 Try.underlying30 hi hz0 hz1 hz2 rfl .u8 _ 0 [] rfl (World.ownsRow_nil _ _ _ _) _ n cap (zs.take n) rfl hrc (by omega) (by omega) (by omega) ?_; intro v1 w1 how1 hb1)
    go_ret2
    exact ⟨_, rfl, by simpa using how1, hbc.trans hb1⟩

end Go.Proofs.Ytlcfjhlchpeedaa
