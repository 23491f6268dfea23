/-
  Bytes of which a burst is turned (burstL): crc.turnBit, crc.Burst, and the document's Burst, of bytes as many as may come in.
-/
import Derived.Test.YtlhmalmmligkkaaFrames
import Derived.Laws.OwnMore
import Derived.Laws.BitsAllLaws
namespace Go.Proofs.Ytlhmalmmligkkaa
open Go.RowKit
set_option linter.unusedVariables false
set_option maxRecDepth 1000000

theorem Try.info5 : (Try.prog.info? 5).map (fun i => (i.zero, i.size, i.bytes)) = some (some (.int .u8 0), 1, 1) := by kernel_rfl
/-- The bytes, of which a bit is turned, if it is one of theirs. -/
def turnL (zs : List Int) (p : Int) : List Int :=
  if 0 ≤ p ∧ p / 8 < zs.length then zs.set (p / 8).toNat (((zs[(p / 8).toNat]?.getD 0).toNat ^^^ 2 ^ (p % 8).toNat : Nat) : Int) else zs
theorem turnL_out {zs : List Int} {p : Int} (h : ¬ (0 ≤ p ∧ p / 8 < zs.length)) : turnL zs p = zs := by rw [turnL, if_neg h]
theorem turnL_len (zs : List Int) (p : Int) : (turnL zs p).length = zs.length := by
  unfold turnL; split <;> simp
theorem turnL_bytes {zs : List Int} (h : IsBytes zs) (p : Int) : IsBytes (turnL zs p) := by
  unfold turnL
  split
  · intro x hx
    rcases List.mem_or_eq_of_mem_set hx with hm | rfl
    · exact h x hm
    · have h1 := h.at (p / 8).toNat
      have h2 : (2 : Nat) ^ (p % 8).toNat < 2 ^ 8 := Nat.pow_lt_pow_right (by omega) (by omega)
      have := Nat.xor_lt_two_pow (n := 8) (x := (zs[(p / 8).toNat]?.getD 0).toNat) (y := 2 ^ (p % 8).toNat) (by omega) h2
      omega
  · exact h

/-- The bytes, of which the first k bits of a burst are turned. -/
def burstL (zs : List Int) (p mask : Int) : Nat → List Int
  | 0 => zs
  | k + 1 => if mask / 2 ^ k % 2 = 1 then turnL (burstL zs p mask k) (p + k) else burstL zs p mask k

theorem burstL_len (zs : List Int) (p mask : Int) (k : Nat) : (burstL zs p mask k).length = zs.length := by
  induction k with
  | zero => rfl
  | succ k ih =>
    unfold burstL
    split
    · rw [turnL_len, ih]
    · exact ih
theorem burstL_bytes {zs : List Int} (h : IsBytes zs) (p mask : Int) (k : Nat) : IsBytes (burstL zs p mask k) := by
  induction k with
  | zero => exact h
  | succ k ih =>
    unfold burstL
    split
    · exact turnL_bytes ih _
    · exact ih

set_option maxHeartbeats 1000000 in
theorem turnbit_out (a : Option Addr) (len cap : Nat) (p : Int) (w : World) (p0 : -9223372036854775808 ≤ p) (p1 : p ≤ 9223372036854775807) (h : ¬ (0 ≤ p ∧ p / 8 < len)) :
    Calls Try.prog 43 #[.slice a len cap, .int .i64 p] w fun e w' => e = .returned (.tuple #[]) ∧ w' = w := by
  rcases (by omega : p < 0 ∨ (0 ≤ p ∧ (len : Int) ≤ p / 8)) with h1 | ⟨h1, h2⟩
  · go_enter Try.func43, Try.ntmps43
    go_wp2
    exact bodyPost_ret (v := .tuple #[]) (by simp [results, Try.results43, go_sem]) rfl ⟨rfl, rfl⟩
  · go_enter Try.func43, Try.ntmps43
    go_wp2
    exact bodyPost_ret (v := .tuple #[]) (by simp [results, Try.results43, go_sem]) rfl ⟨rfl, rfl⟩

theorem pow_mod : ∀ r : Nat, r < 8 → ((2 : Int) ^ r % 256) = ((2 ^ r : Nat) : Int) ∧ (2 : Nat) ^ r < 256 := by decide

set_option maxHeartbeats 1000000 in
theorem turnbit_in (base g q r : Nat) (len cap : Nat) (zs : List Int) (p : Int) (w : World) (how : w.ownsRow base 5 1 (.slice (some ⟨g, 0, none⟩) len cap) len (zs.map (Value.int .u8))) (hz : IsBytes zs)
    (hp : p = 8 * q + r) (hr : r < 8) (hq : q < len) (hlen : len ≤ 140737488351232) :
    Calls Try.prog 43 #[.slice (some ⟨g, 0, none⟩) len cap, .int .i64 p] w fun e w' => e = .returned (.tuple #[]) ∧ w'.ownsRow base 5 1 (.slice (some ⟨g, 0, none⟩) len cap) len ((turnL zs p).map (Value.int .u8)) ∧ Below base w w' := by
  have hl : zs.length = len := by have := how.1; simpa using this
  have hc : w.cell? ⟨g, q, none⟩ = some (.int .u8 (zs[q]?.getD 0)) := by
    rw [how.cellAt q (by omega)]
    simp [show q < zs.length from by omega]
  have hfz := how.frozenAt q
  obtain ⟨x0, x1⟩ := hz.at q
  have e1 : p / 8 = (q : Int) := by omega
  have e2 : p % 8 = (r : Int) := by omega
  have p0 : 0 ≤ p := by omega
  have p1 : p ≤ 1125899906809856 := by omega
  have e3 : Int.tdiv p 8 = (q : Int) := by rw [Int.tdiv_eq_ediv_of_nonneg p0, e1]
  have e4 : Int.tmod p 8 = (r : Int) := by rw [Int.tmod_eq_emod_of_nonneg p0, e2]
  clear hp
  generalize hx : zs[q]?.getD 0 = x at *
  have HX : Hid (bits .xor .u8 x (2 ^ r % 256) = ((x.toNat ^^^ 2 ^ r : Nat) : Int)) := by
    unfold Hid
    obtain ⟨h2, h3⟩ := pow_mod r hr
    rw [h2]
    generalize 2 ^ r = y at *
    rw [u8_xor _ _ (by omega) (by omega) (by omega) (by omega), Int.toNat_natCast]
  have HT : Hid (turnL zs p = zs.set q ((x.toNat ^^^ 2 ^ r : Nat) : Int)) := by
    unfold Hid turnL
    rw [if_pos ⟨p0, by omega⟩, e1, e2]
    simp [hx]
  have HB : Hid (base ≤ g) := (how.lt g rfl).1
  clear hx
  go_enter Try.func43, Try.ntmps43
  go_wp2_with fail
  go_region
  all_goals
    refine bodyPost_end (v := .tuple #[]) (by simp [results, Try.results43, go_sem]) rfl ⟨rfl, ?_, ?_⟩
    · rw [HX.out]
      have := (how.stored q (Value.int .u8 ((x.toNat ^^^ 2 ^ r : Nat) : Int))).1
      rw [HT.out, List.map_set]
      exact this
    · exact ((Below.refl _ _).setCell HB.out _).drew

/-- turnBit, of a row of the call's own. -/
theorem turnbit_any (base : Nat) (len cap : Nat) (a : Option Addr) (zs : List Int) (p : Int) (w : World) (how : w.ownsRow base 5 1 (.slice a len cap) len (zs.map (Value.int .u8))) (hz : IsBytes zs)
    (p0 : -9223372036854775808 ≤ p) (p1 : p ≤ 9223372036854775807) (hlen : len ≤ 140737488351232) :
    Calls Try.prog 43 #[.slice a len cap, .int .i64 p] w fun e w' => e = .returned (.tuple #[]) ∧ w'.ownsRow base 5 1 (.slice a len cap) len ((turnL zs p).map (Value.int .u8)) ∧ Below base w w' := by
  have hl : zs.length = len := by have := how.1; simpa using this
  by_cases h : 0 ≤ p ∧ p / 8 < len
  · rcases how.2 with ⟨h', h0⟩ | ⟨g, c, cur, h', _⟩
    · cases h'
      omega
    · cases h'
      exact turnbit_in base g (p / 8).toNat (p % 8).toNat len cap zs p w how hz (by omega) (by omega) (by omega) hlen
  · refine (turnbit_out a len cap p w p0 p1 h).mono ?_
    rintro e w' ⟨rfl, rfl⟩
    exact ⟨rfl, by rw [turnL_out (by rw [hl]; exact h)]; exact how, Below.refl _ _⟩

set_option maxHeartbeats 1000000 in
theorem burst_any (a : Option Addr) (len cap : Nat) (zs : List Int) (p mask : Int) (w : World) (hr : Reads .u8 w a len cap zs) (hz : IsBytes zs) (hlen : len ≤ 140737488351232)
    (p0 : -9223372036854775808 ≤ p) (p1 : p ≤ 9223372036854775807) (m0 : 0 ≤ mask) (m1 : mask ≤ 4294967295) :
    Calls Try.prog 38 #[.slice a len cap, .int .i64 p, .int .u32 mask] w fun e w' => ∃ v', e = .returned v' ∧ w'.ownsRow w.heap.size 5 1 v' len ((burstL zs p mask 32).map (Value.int .u8)) ∧ Below w.heap.size w w' := by
  obtain ⟨i0, hi, hz0, hz1, hz2⟩ := info_parts Try.info5
  have HL : Hid (zs.length = len) := hr.size
  have HZ := hid hz
  go_enter Try.func38, Try.ntmps38
  go_wp2_with (at_builtin; refine append_any _ rfl (.const (.slice none 0 0)) (.tmp 9) 36 rfl w.heap.size 5 i0 (.int .u8 0) 1 Try.underlying36 hi hz0 hz1 hz2 rfl .u8 _ 0 [] rfl (World.ownsRow_nil _ _ _ _) a len cap zs rfl hr (by omega) (by omega) (by omega) ?_; intro v' w1 how1 hb1)
  rw [List.nil_append, Nat.zero_add] at how1
  obtain ⟨a1, c1, rfl, hr1⟩ := Reads.own how1
  clear hr hz hr1
  go_loopw [11] (fun i wr => ∃ (k : Nat), k ≤ 32 ∧ i = .int .i64 k ∧ wr.ownsRow w.heap.size 5 1 (.slice a1 len c1) len ((burstL zs p mask k).map (Value.int .u8)) ∧ Below w.heap.size w wr) (fun i _ => 32 - (intOf i).toNat)
  case atStart => exact ⟨0, by omega, rfl, how1, hb1⟩
  case round =>
    obtain ⟨k, hk, rfl, how, hb⟩ := hrel
    have HW := hid how
    clear how how1 hb1
    by_cases hlt : k < 32
    · have htm : (mask / 2 ^ k).tmod 2 = mask / 2 ^ k % 2 := Int.tmod_eq_emod_of_nonneg (Int.ediv_nonneg m0 (Int.le_of_lt (Int.pow_pos (by omega))))
      rcases (by omega : mask / 2 ^ k % 2 = 1 ∨ mask / 2 ^ k % 2 = 0) with hbit | hbit
      · rw [hbit] at htm
        have HS : Hid (burstL zs p mask (k + 1) = turnL (burstL zs p mask k) (p + k)) := by
          unfold Hid; rw [burstL, if_pos hbit]
        rcases (by omega : p ≤ 9223372036854775807 - (k : Int) ∨ 9223372036854775807 - (k : Int) < p) with hp | hp
        · have hA := turnbit_any w.heap.size len c1 a1 (burstL zs p mask k) (p + k) wr HW.out (burstL_bytes HZ.out _ _ _) (by omega) (by omega) (by omega)
          go_wp2_with fail
          refine hA.mono ?_
          rintro e w2 ⟨rfl, how2, hb2⟩
          go_wp2_with fail
          go_roundw
          case rel => exact ⟨k + 1, by omega, by go_num, by rw [HS.out]; exact how2, hb.trans hb2⟩
          case measure => simp [intOf]; omega
        · have HO : Hid (turnL (burstL zs p mask k) (p + k) = burstL zs p mask k) := turnL_out (by rw [burstL_len, HL.out]; omega)
          go_wp2_with fail
          go_roundw
          case rel => exact ⟨k + 1, by omega, by go_num, by rw [HS.out, HO.out]; exact HW.out, hb⟩
          case measure => simp [intOf]; omega
      · rw [hbit] at htm
        have HS : Hid (burstL zs p mask (k + 1) = burstL zs p mask k) := by
          unfold Hid; rw [burstL, if_neg (by omega)]
        go_wp2_with fail
        go_roundw
        case rel => exact ⟨k + 1, by omega, by go_num, by rw [HS.out]; exact HW.out, hb⟩
        case measure => simp [intOf]; omega
    · obtain rfl : k = 32 := by omega
      go_wp2
      go_ret
      exact ⟨_, rfl, HW.out, hb⟩

theorem and_one {x : Int} (h0 : 0 ≤ x) (h1 : x ≤ 4294967295) : bits .and .u32 x 1 = x % 2 := by
  rw [u32_and _ _ (by omega) (by omega) (by omega) (by omega)]
  have : x.toNat &&& 1 = x.toNat % 2 := Nat.and_one_is_mod _
  rw [show (1 : Int).toNat = 1 from rfl, this]
  omega

set_option maxHeartbeats 2000000 in
theorem rburst_any (a : Option Addr) (len cap : Nat) (zs : List Int) (p mask : Int) (w : World) (hr : Reads .u8 w a len cap zs) (hz : IsBytes zs) (hlen : len ≤ 140737488351232)
    (p0 : -9223372036854775808 ≤ p) (p1 : p ≤ 9223372036854775807) (m0 : 0 ≤ mask) (m1 : mask ≤ 4294967295) :
    Calls Try.prog 39 #[.slice a len cap, .int .i64 p, .int .u32 mask] w fun e w' => ∃ v', e = .returned v' ∧ w'.ownsRow w.heap.size 5 1 v' len ((burstL zs p mask 32).map (Value.int .u8)) ∧ Below w.heap.size w w' := by
  obtain ⟨i0, hi, hz0, hz1, hz2⟩ := info_parts Try.info5
  have HL : Hid (zs.length = len) := hr.size
  have HZ := hid hz
  go_enter Try.func39, Try.ntmps39
  go_wp2_with (at_builtin; refine append_any _ rfl (.const (.slice none 0 0)) (.tmp 10) 36 rfl w.heap.size 5 i0 (.int .u8 0) 1 Try.underlying36 hi hz0 hz1 hz2 rfl .u8 _ 0 [] rfl (World.ownsRow_nil _ _ _ _) a len cap zs rfl hr (by omega) (by omega) (by omega) ?_; intro v' w1 how1 hb1)
  rw [List.nil_append, Nat.zero_add] at how1
  obtain ⟨a1, c1, rfl, hr1⟩ := Reads.own how1
  clear hr hz hr1
  go_loopw [8] (fun i wr => ∃ (k : Nat), k ≤ 32 ∧ i = .int .i64 k ∧ wr.ownsRow w.heap.size 5 1 (.slice a1 len c1) len ((burstL zs p mask k).map (Value.int .u8)) ∧ Below w.heap.size w wr) (fun i _ => 32 - (intOf i).toNat)
  case atStart => exact ⟨0, by omega, rfl, how1, hb1⟩
  case round =>
    obtain ⟨k, hk, rfl, how, hb⟩ := hrel
    have HW := hid how
    clear how how1 hb1
    by_cases hlt : k < 32
    · have hd0 : 0 ≤ mask / 2 ^ k := Int.ediv_nonneg m0 (Int.le_of_lt (Int.pow_pos (by omega)))
      have hd1 : mask / 2 ^ k ≤ mask := Int.ediv_le_self _ m0
      have hand : bits .and .u32 (mask / 2 ^ k) 1 = mask / 2 ^ k % 2 := and_one hd0 (by omega)
      rcases (by omega : mask / 2 ^ k % 2 = 1 ∨ mask / 2 ^ k % 2 = 0) with hbit | hbit
      · rw [hbit] at hand
        have HS : Hid (burstL zs p mask (k + 1) = turnL (burstL zs p mask k) (p + k)) := by
          unfold Hid; rw [burstL, if_pos hbit]
        clear hd0 hd1
        by_cases hin : 0 ≤ p + k ∧ (p + k) / 8 < len
        · obtain ⟨q, hq⟩ : ∃ q : Nat, (p + k) / 8 = q := ⟨((p + k) / 8).toNat, by omega⟩
          obtain ⟨r, hr⟩ : ∃ r : Nat, (p + k) % 8 = r := ⟨((p + k) % 8).toNat, by omega⟩
          have hr8 : r < 8 := by omega
          have hql : q < len := by omega
          have e3 : Int.tdiv (p + k) 8 = (q : Int) := by rw [Int.tdiv_eq_ediv_of_nonneg hin.1, hq]
          have e4 : Int.tmod (p + k) 8 = (r : Int) := by rw [Int.tmod_eq_emod_of_nonneg hin.1, hr]
          have b1 : -32 ≤ p := by omega
          have b2 : p ≤ 8 * (len : Int) := by omega
          have b3 : 0 ≤ p + k := by omega
          have b4 : p + k < 8 * (len : Int) := by omega
          have b5 : p + k ≤ 1125899906809856 := by omega
          obtain ⟨g, rfl⟩ : ∃ g, a1 = some ⟨g, 0, none⟩ := by
            rcases HW.out.2 with ⟨h', _⟩ | ⟨g, c, cur, h', _⟩
            · cases h'; omega
            · cases h'; exact ⟨g, rfl⟩
          obtain ⟨x, hc, x0, x1, HX, HK, HG⟩ : ∃ x : Int, wr.cell? ⟨g, q, none⟩ = some (.int .u8 x) ∧ 0 ≤ x ∧ x ≤ 255 ∧ Hid (bits .xor .u8 x (2 ^ r % 256) = ((x.toNat ^^^ 2 ^ r : Nat) : Int)) ∧
              Hid (turnL (burstL zs p mask k) (p + k) = (burstL zs p mask k).set q ((x.toNat ^^^ 2 ^ r : Nat) : Int)) ∧ Hid (w.heap.size ≤ g) := by
            have hl : (burstL zs p mask k).length = len := by rw [burstL_len, HL.out]
            obtain ⟨x0, x1⟩ := (burstL_bytes HZ.out p mask k).at q
            refine ⟨(burstL zs p mask k)[q]?.getD 0, ?_, x0, x1, ?_, ?_, (HW.out.lt g rfl).1⟩
            · rw [HW.out.cellAt q (by omega)]
              simp [show q < (burstL zs p mask k).length from by omega]
            · unfold Hid
              obtain ⟨h2, h3⟩ := pow_mod r hr8
              rw [h2]
              generalize 2 ^ r = y at *
              rw [u8_xor _ _ (by omega) (by omega) (by omega) (by omega), Int.toNat_natCast]
            · unfold Hid turnL
              rw [if_pos ⟨b3, by omega⟩, hq, hr]
              simp
          have hfz := HW.out.frozenAt q
          clear hin
          go_wp2_with fail
          go_region
          all_goals
            have how2 : ((wr.setCell ⟨g, q, none⟩ (.int .u8 (bits .xor .u8 x (2 ^ r % 256)))).drew).ownsRow w.heap.size 5 1 (.slice (some ⟨g, 0, none⟩) len c1) len ((burstL zs p mask (k + 1)).map (Value.int .u8)) := by
              have := (HW.out.stored q (Value.int .u8 ((x.toNat ^^^ 2 ^ r : Nat) : Int))).1
              rw [HX.out, HS.out, HK.out, List.map_set]
              exact this
            have hb2 : Below w.heap.size w (wr.setCell ⟨g, q, none⟩ (.int .u8 (bits .xor .u8 x (2 ^ r % 256)))).drew := (hb.setCell HG.out _).drew
            clear hc hfz HX HK HW
            generalize (wr.setCell ⟨g, q, none⟩ (.int .u8 (bits .xor .u8 x (2 ^ r % 256)))).drew = w2 at *
            have HW2 := hid how2
            clear how2
            go_wp2_with fail
            go_roundw
            case rel => exact ⟨k + 1, by omega, by go_num, HW2.out, hb2⟩
            case measure => simp [intOf]; omega
        · have HO : Hid (turnL (burstL zs p mask k) (p + k) = burstL zs p mask k) := turnL_out (by rw [burstL_len, HL.out]; exact hin)
          rcases (by omega : p < -32 ∨ (-32 ≤ p ∧ 8 * (len : Int) < p) ∨ (-32 ≤ p ∧ p ≤ 8 * (len : Int) ∧ p + k < 0) ∨ (-32 ≤ p ∧ p ≤ 8 * (len : Int) ∧ 0 ≤ p + k ∧ 8 * (len : Int) ≤ p + k)) with h1 | ⟨h1, h2⟩ | ⟨h1, h2, h3⟩ | ⟨h1, h2, h3, h4⟩
          all_goals
            clear hin
            go_wp2_with fail
            go_roundw
            case rel => exact ⟨k + 1, by omega, by go_num, by rw [HS.out, HO.out]; exact HW.out, hb⟩
            case measure => simp [intOf]; omega
      · rw [hbit] at hand
        have HS : Hid (burstL zs p mask (k + 1) = burstL zs p mask k) := by
          unfold Hid; rw [burstL, if_neg (by omega)]
        clear hd0 hd1
        go_wp2_with fail
        go_roundw
        case rel => exact ⟨k + 1, by omega, by go_num, by rw [HS.out]; exact HW.out, hb⟩
        case measure => simp [intOf]; omega
    · obtain rfl : k = 32 := by omega
      go_wp2
      go_ret
      exact ⟨_, rfl, HW.out, hb⟩

end Go.Proofs.Ytlhmalmmligkkaa
