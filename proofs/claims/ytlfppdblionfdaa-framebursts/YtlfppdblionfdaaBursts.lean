/-
  Contracts: crc.turnBit turns a bit of bytes that are the call's own, if it is one of theirs; crc.Burst and the document's Burst hand back the bytes of which a burst is turned, in memory of the call's own.
-/
import Derived.Test.YtlfppdblionfdaaTurns
import Derived.Test.YtlfppdblionfdaaSeals
import Derived.Laws.OwnMore
namespace Go.Proofs.Ytlfppdblionfdaa
open Go.RowKit
open M
set_option linter.unusedVariables false

set_option maxHeartbeats 1000000 in
theorem turnbit_out (a : Option Addr) (len cap : Nat) (p : Int) (w : World) (p0 : -9223372036854775808 ≤ p) (p1 : p ≤ 9223372036854775807) (h : ¬ (0 ≤ p ∧ p / 8 < len)) :
    Calls Try.prog 33 #[.slice a len cap, .int .i64 p] w fun e w' => e = .returned (.tuple #[]) ∧ w' = w := by
  rcases (by omega : p < 0 ∨ (0 ≤ p ∧ (len : Int) ≤ p / 8)) with h1 | ⟨h1, h2⟩
  · go_enter Try.func33, Try.ntmps33
    go_wp2
    exact bodyPost_ret (v := .tuple #[]) (by simp [results, Try.results33, go_sem]) rfl ⟨rfl, rfl⟩
  · go_enter Try.func33, Try.ntmps33
    go_wp2
    exact bodyPost_ret (v := .tuple #[]) (by simp [results, Try.results33, go_sem]) rfl ⟨rfl, rfl⟩

theorem pow_mod : ∀ r : Nat, r < 8 → ((2 : Int) ^ r % 256) = ((2 ^ r : Nat) : Int) ∧ (2 : Nat) ^ r < 256 := by decide

set_option maxHeartbeats 1000000 in
theorem turnbit_in (base g q r : Nat) (len cap : Nat) (zs : List Int) (p : Int) (w : World) (how : w.ownsRow base 5 1 (.slice (some ⟨g, 0, none⟩) len cap) len (zs.map (Value.int .u8))) (hz : IsBytes zs)
    (hp : p = 8 * q + r) (hr : r < 8) (hq : q < len) (hlen : len ≤ 100000) :
    Calls Try.prog 33 #[.slice (some ⟨g, 0, none⟩) len cap, .int .i64 p] w fun e w' => e = .returned (.tuple #[]) ∧ w'.ownsRow base 5 1 (.slice (some ⟨g, 0, none⟩) len cap) len ((turnL zs p).map (Value.int .u8)) ∧ Below base w w' := by
  have hl : zs.length = len := by have := how.1; simpa using this
  have hc : w.cell? ⟨g, q, none⟩ = some (.int .u8 (zs[q]?.getD 0)) := by
    rw [how.cellAt q (by omega)]
    simp [show q < zs.length from by omega]
  have hfz := how.frozenAt q
  obtain ⟨x0, x1⟩ := hz.at q
  have e1 : p / 8 = (q : Int) := by omega
  have e2 : p % 8 = (r : Int) := by omega
  have p0 : 0 ≤ p := by omega
  have p1 : p ≤ 800000 := by omega
  have e3 : Int.tdiv p 8 = (q : Int) := by rw [Int.tdiv_eq_ediv_of_nonneg p0, e1]
  have e4 : Int.tmod p 8 = (r : Int) := by rw [Int.tmod_eq_emod_of_nonneg p0, e2]
  clear hp
  generalize hx : zs[q]?.getD 0 = x at *
  have HX : Hid (bits .xor .u8 x (2 ^ r % 256) = ((x.toNat ^^^ 2 ^ r : Nat) : Int)) := by
    unfold Hid
    obtain ⟨h2, h3⟩ := pow_mod r hr
    rw [h2]
    generalize 2 ^ r = y at *
    rw [u8_xor _ _ (by omega) (by omega) (by omega) (by omega), Int.toNat_natCast]
  have HT : Hid (turnL zs p = zs.set q ((x.toNat ^^^ 2 ^ r : Nat) : Int)) := by
    unfold Hid turnL
    rw [if_pos ⟨p0, by omega⟩, e1, e2]
    simp [hx]
  have HB : Hid (base ≤ g) := (how.lt g rfl).1
  clear hx
  go_enter Try.func33, Try.ntmps33
  go_wp2_with fail
  go_region
  all_goals
    refine bodyPost_end (v := .tuple #[]) (by simp [results, Try.results33, go_sem]) rfl ⟨rfl, ?_, ?_⟩
    · rw [HX.out]
      have := (how.stored q (Value.int .u8 ((x.toNat ^^^ 2 ^ r : Nat) : Int))).1
      rw [HT.out, List.map_set]
      exact this
    · exact ((Below.refl _ _).setCell HB.out _).drew

/-- turnBit, of a row of the call's own. -/
theorem turnbit_any (base : Nat) (len cap : Nat) (a : Option Addr) (zs : List Int) (p : Int) (w : World) (how : w.ownsRow base 5 1 (.slice a len cap) len (zs.map (Value.int .u8))) (hz : IsBytes zs)
    (p0 : -9223372036854775808 ≤ p) (p1 : p ≤ 9223372036854775807) (hlen : len ≤ 100000) :
    Calls Try.prog 33 #[.slice a len cap, .int .i64 p] w fun e w' => e = .returned (.tuple #[]) ∧ w'.ownsRow base 5 1 (.slice a len cap) len ((turnL zs p).map (Value.int .u8)) ∧ Below base w w' := by
  have hl : zs.length = len := by have := how.1; simpa using this
  by_cases h : 0 ≤ p ∧ p / 8 < len
  · rcases how.2 with ⟨h', h0⟩ | ⟨g, c, cur, h', _⟩
    · cases h'
      omega
    · cases h'
      exact turnbit_in base g (p / 8).toNat (p % 8).toNat len cap zs p w how hz (by omega) (by omega) (by omega) hlen
  · refine (turnbit_out a len cap p w p0 p1 h).mono ?_
    rintro e w' ⟨rfl, rfl⟩
    exact ⟨rfl, by rw [turnL_out (by rw [hl]; exact h)]; exact how, Below.refl _ _⟩

set_option maxHeartbeats 1000000 in
theorem burst_any (a : Option Addr) (len cap : Nat) (zs : List Int) (p mask : Int) (w : World) (hr : Reads .u8 w a len cap zs) (hz : IsBytes zs) (hlen : len ≤ 10000)
    (p0 : -9223372036854775808 ≤ p) (p1 : p ≤ 9223372036854775807) (m0 : 0 ≤ mask) (m1 : mask ≤ 4294967295) :
    Calls Try.prog 20 #[.slice a len cap, .int .i64 p, .int .u32 mask] w fun e w' => ∃ v', e = .returned v' ∧ w'.ownsRow w.heap.size 5 1 v' len ((burstL zs p mask 32).map (Value.int .u8)) ∧ Below w.heap.size w w' := by
  obtain ⟨i0, hi, hz0, hz1, hz2⟩ := info_parts Try.info5
  have HL : Hid (zs.length = len) := hr.size
  have HZ := hid hz
  go_enter Try.func20, Try.ntmps20
  go_wp2_with (at_builtin; refine append_any _ rfl (.const (.slice none 0 0)) (.tmp 9) 22 rfl w.heap.size 5 i0 (.int .u8 0) 1 Try.underlying22 hi hz0 hz1 hz2 rfl .u8 _ 0 [] rfl (World.ownsRow_nil _ _ _ _) a len cap zs rfl hr (by omega) (by omega) (by omega) ?_; intro v' w1 how1 hb1)
  rw [List.nil_append, Nat.zero_add] at how1
  obtain ⟨a1, c1, rfl, hr1⟩ := Reads.own how1
  clear hr hz hr1
  go_loopw [11] (fun i wr => ∃ (k : Nat), k ≤ 32 ∧ i = .int .i64 k ∧ wr.ownsRow w.heap.size 5 1 (.slice a1 len c1) len ((burstL zs p mask k).map (Value.int .u8)) ∧ Below w.heap.size w wr) (fun i _ => 32 - (intOf i).toNat)
  case atStart => exact ⟨0, by omega, rfl, how1, hb1⟩
  case round =>
    obtain ⟨k, hk, rfl, how, hb⟩ := hrel
    have HW := hid how
    clear how how1 hb1
    by_cases hlt : k < 32
    · have htm : (mask / 2 ^ k).tmod 2 = mask / 2 ^ k % 2 := Int.tmod_eq_emod_of_nonneg (Int.ediv_nonneg m0 (Int.le_of_lt (Int.pow_pos (by omega))))
      rcases (by omega : mask / 2 ^ k % 2 = 1 ∨ mask / 2 ^ k % 2 = 0) with hbit | hbit
      · rw [hbit] at htm
        have HS : Hid (burstL zs p mask (k + 1) = turnL (burstL zs p mask k) (p + k)) := by
          unfold Hid; rw [burstL, if_pos hbit]
        rcases (by omega : p ≤ 9223372036854775807 - (k : Int) ∨ 9223372036854775807 - (k : Int) < p) with hp | hp
        · have hA := turnbit_any w.heap.size len c1 a1 (burstL zs p mask k) (p + k) wr HW.out (burstL_bytes HZ.out _ _ _) (by omega) (by omega) (by omega)
          go_wp2_with fail
          refine hA.mono ?_
          rintro e w2 ⟨rfl, how2, hb2⟩
          go_wp2_with fail
          go_roundw
          case rel => exact ⟨k + 1, by omega, by go_num, by rw [HS.out]; exact how2, hb.trans hb2⟩
          case measure => simp [intOf]; omega
        · have HO : Hid (turnL (burstL zs p mask k) (p + k) = burstL zs p mask k) := turnL_out (by rw [burstL_len, HL.out]; omega)
          go_wp2_with fail
          go_roundw
          case rel => exact ⟨k + 1, by omega, by go_num, by rw [HS.out, HO.out]; exact HW.out, hb⟩
          case measure => simp [intOf]; omega
      · rw [hbit] at htm
        have HS : Hid (burstL zs p mask (k + 1) = burstL zs p mask k) := by
          unfold Hid; rw [burstL, if_neg (by omega)]
        go_wp2_with fail
        go_roundw
        case rel => exact ⟨k + 1, by omega, by go_num, by rw [HS.out]; exact HW.out, hb⟩
        case measure => simp [intOf]; omega
    · obtain rfl : k = 32 := by omega
      go_wp2
      go_ret
      exact ⟨_, rfl, HW.out, hb⟩

end Go.Proofs.Ytlfppdblionfdaa
