/-
  Contract: the document's Burst hands back the bytes of which a burst is turned, in memory of the call's own.
-/
import Derived.Test.YtknhpeienllebaaBursts
namespace Go.Proofs.Ytknhpeienllebaa
open Go.RowKit
open M
set_option linter.unusedVariables false

theorem and_one {x : Int} (h0 : 0 ≤ x) (h1 : x ≤ 4294967295) : bits .and .u32 x 1 = x % 2 := by
  rw [u32_and _ _ (by omega) (by omega) (by omega) (by omega)]
  have : x.toNat &&& 1 = x.toNat % 2 := Nat.and_one_is_mod _
  rw [show (1 : Int).toNat = 1 from rfl, this]
  omega

set_option maxHeartbeats 2000000 in
theorem rburst_any (a : Option Addr) (len cap : Nat) (zs : List Int) (p mask : Int) (w : World) (hr : Reads .u8 w a len cap zs) (hz : IsBytes zs) (hlen : len ≤ 10000)
    (p0 : -9223372036854775808 ≤ p) (p1 : p ≤ 9223372036854775807) (m0 : 0 ≤ mask) (m1 : mask ≤ 4294967295) :
    Calls Try.prog 20 #[.slice a len cap, .int .i64 p, .int .u32 mask] w fun e w' => ∃ v', e = .returned v' ∧ w'.ownsRow w.heap.size 5 1 v' len ((burstL zs p mask 32).map (Value.int .u8)) ∧ Below w.heap.size w w' := by
  obtain ⟨i0, hi, hz0, hz1, hz2⟩ := info_parts Try.info5
  have HL : Hid (zs.length = len) := hr.size
  have HZ := hid hz
  go_enter Try.func20, Try.ntmps20
  go_wp2_with (at_builtin; refine append_any _ rfl (.const (.slice none 0 0)) (.tmp 10) 24 rfl w.heap.size 5 i0 (.int .u8 0) 1 Try.underlying24 hi hz0 hz1 hz2 rfl .u8 _ 0 [] rfl (World.ownsRow_nil _ _ _ _) a len cap zs rfl hr (by omega) (by omega) (by omega) ?_; intro v' w1 how1 hb1)
  rw [List.nil_append, Nat.zero_add] at how1
  obtain ⟨a1, c1, rfl, hr1⟩ := Reads.own how1
  clear hr hz hr1
  go_loopw [8] (fun i wr => ∃ (k : Nat), k ≤ 32 ∧ i = .int .i64 k ∧ wr.ownsRow w.heap.size 5 1 (.slice a1 len c1) len ((burstL zs p mask k).map (Value.int .u8)) ∧ Below w.heap.size w wr) (fun i _ => 32 - (intOf i).toNat)
  case atStart => exact ⟨0, by omega, rfl, how1, hb1⟩
  case round =>
    obtain ⟨k, hk, rfl, how, hb⟩ := hrel
    have HW := hid how
    clear how how1 hb1
    by_cases hlt : k < 32
    · have hd0 : 0 ≤ mask / 2 ^ k := Int.ediv_nonneg m0 (Int.le_of_lt (Int.pow_pos (by omega)))
      have hd1 : mask / 2 ^ k ≤ mask := Int.ediv_le_self _ m0
      have hand : bits .and .u32 (mask / 2 ^ k) 1 = mask / 2 ^ k % 2 := and_one hd0 (by omega)
      rcases (by omega : mask / 2 ^ k % 2 = 1 ∨ mask / 2 ^ k % 2 = 0) with hbit | hbit
      · rw [hbit] at hand
        have HS : Hid (burstL zs p mask (k + 1) = turnL (burstL zs p mask k) (p + k)) := by
          unfold Hid; rw [burstL, if_pos hbit]
        clear hd0 hd1
        by_cases hin : 0 ≤ p + k ∧ (p + k) / 8 < len
        · obtain ⟨q, hq⟩ : ∃ q : Nat, (p + k) / 8 = q := ⟨((p + k) / 8).toNat, by omega⟩
          obtain ⟨r, hr⟩ : ∃ r : Nat, (p + k) % 8 = r := ⟨((p + k) % 8).toNat, by omega⟩
          have hr8 : r < 8 := by omega
          have hql : q < len := by omega
          have e3 : Int.tdiv (p + k) 8 = (q : Int) := by rw [Int.tdiv_eq_ediv_of_nonneg hin.1, hq]
          have e4 : Int.tmod (p + k) 8 = (r : Int) := by rw [Int.tmod_eq_emod_of_nonneg hin.1, hr]
          have b1 : -32 ≤ p := by omega
          have b2 : p ≤ 8 * (len : Int) := by omega
          have b3 : 0 ≤ p + k := by omega
          have b4 : p + k < 8 * (len : Int) := by omega
          have b5 : p + k ≤ 800000 := by omega
          obtain ⟨g, rfl⟩ : ∃ g, a1 = some ⟨g, 0, none⟩ := by
            rcases HW.out.2 with ⟨h', _⟩ | ⟨g, c, cur, h', _⟩
            · cases h'; omega
            · cases h'; exact ⟨g, rfl⟩
          obtain ⟨x, hc, x0, x1, HX, HK, HG⟩ : ∃ x : Int, wr.cell? ⟨g, q, none⟩ = some (.int .u8 x) ∧ 0 ≤ x ∧ x ≤ 255 ∧ Hid (bits .xor .u8 x (2 ^ r % 256) = ((x.toNat ^^^ 2 ^ r : Nat) : Int)) ∧
              Hid (turnL (burstL zs p mask k) (p + k) = (burstL zs p mask k).set q ((x.toNat ^^^ 2 ^ r : Nat) : Int)) ∧ Hid (w.heap.size ≤ g) := by
            have hl : (burstL zs p mask k).length = len := by rw [burstL_len, HL.out]
            obtain ⟨x0, x1⟩ := (burstL_bytes HZ.out p mask k).at q
            refine ⟨(burstL zs p mask k)[q]?.getD 0, ?_, x0, x1, ?_, ?_, (HW.out.lt g rfl).1⟩
            · rw [HW.out.cellAt q (by omega)]
              simp [show q < (burstL zs p mask k).length from by omega]
            · unfold Hid
              obtain ⟨h2, h3⟩ := pow_mod r hr8
              rw [h2]
              generalize 2 ^ r = y at *
              rw [u8_xor _ _ (by omega) (by omega) (by omega) (by omega), Int.toNat_natCast]
            · unfold Hid turnL
              rw [if_pos ⟨b3, by omega⟩, hq, hr]
              simp
          have hfz := HW.out.frozenAt q
          clear hin
          go_wp2_with fail
          go_region
          all_goals
            have how2 : ((wr.setCell ⟨g, q, none⟩ (.int .u8 (bits .xor .u8 x (2 ^ r % 256)))).drew).ownsRow w.heap.size 5 1 (.slice (some ⟨g, 0, none⟩) len c1) len ((burstL zs p mask (k + 1)).map (Value.int .u8)) := by
              have := (HW.out.stored q (Value.int .u8 ((x.toNat ^^^ 2 ^ r : Nat) : Int))).1
              rw [HX.out, HS.out, HK.out, List.map_set]
              exact this
            have hb2 : Below w.heap.size w (wr.setCell ⟨g, q, none⟩ (.int .u8 (bits .xor .u8 x (2 ^ r % 256)))).drew := (hb.setCell HG.out _).drew
            clear hc hfz HX HK HW
            generalize (wr.setCell ⟨g, q, none⟩ (.int .u8 (bits .xor .u8 x (2 ^ r % 256)))).drew = w2 at *
            have HW2 := hid how2
            clear how2
            go_wp2_with fail
            go_roundw
            case rel => exact ⟨k + 1, by omega, by go_num, HW2.out, hb2⟩
            case measure => simp [intOf]; omega
        · have HO : Hid (turnL (burstL zs p mask k) (p + k) = burstL zs p mask k) := turnL_out (by rw [burstL_len, HL.out]; exact hin)
          rcases (by omega : p < -32 ∨ (-32 ≤ p ∧ 8 * (len : Int) < p) ∨ (-32 ≤ p ∧ p ≤ 8 * (len : Int) ∧ p + k < 0) ∨ (-32 ≤ p ∧ p ≤ 8 * (len : Int) ∧ 0 ≤ p + k ∧ 8 * (len : Int) ≤ p + k)) with h1 | ⟨h1, h2⟩ | ⟨h1, h2, h3⟩ | ⟨h1, h2, h3, h4⟩
          all_goals
            clear hin
            go_wp2_with fail
            go_roundw
            case rel => exact ⟨k + 1, by omega, by go_num, by rw [HS.out, HO.out]; exact HW.out, hb⟩
            case measure => simp [intOf]; omega
      · rw [hbit] at hand
        have HS : Hid (burstL zs p mask (k + 1) = burstL zs p mask k) := by
          unfold Hid; rw [burstL, if_neg (by omega)]
        clear hd0 hd1
        go_wp2_with fail
        go_roundw
        case rel => exact ⟨k + 1, by omega, by go_num, by rw [HS.out]; exact HW.out, hb⟩
        case measure => simp [intOf]; omega
    · obtain rfl : k = 32 := by omega
      go_wp2
      go_ret
      exact ⟨_, rfl, HW.out, hb⟩

end Go.Proofs.Ytknhpeienllebaa
