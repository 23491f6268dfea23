/-
  Contracts: varint.Get and the document's Get of bytes hand back the number that they begin with, how many bytes it has, and the error, as the list function getF tells; the state of memory stays.
-/
import Derived.Test.YtlcfjhlchpeedaaSeals
import Derived.Test.YtlcfjhlchpeedaaVMath
import Derived.Laws.BitsAllLaws
namespace Go.Proofs.Ytlcfjhlchpeedaa
open Go.RowKit
open M
set_option linter.unusedVariables false
set_option maxRecDepth 1000000

theorem pow_two7 (k : Nat) : (2 : Int) ^ (7 * k) = 128 ^ k := by rw [Int.pow_mul]; rfl
theorem pow_two7n (k : Nat) : (2 : Nat) ^ (7 * k) = 128 ^ k := by rw [Nat.pow_mul]

theorem or_step {k : Nat} {n d : Int} (hk : k ≤ 9) (h0 : 0 ≤ n) (hn : n < 128 ^ k) (d0 : 0 ≤ d) (d1 : d ≤ 127) (h9 : k = 9 → d ≤ 1) :
    bits .or .u64 n (IntKind.u64.wrap (d * 2 ^ (7 * k))) = n + d * 128 ^ k := by
  obtain ⟨p1, p2⟩ := pow_le9 hk
  obtain ⟨s1, s2, s3⟩ := step_bd hk h0 hn d0 d1 h9
  have q0 : 0 ≤ d * 128 ^ k := Int.mul_nonneg d0 (by omega)
  rw [pow_two7, IntWalk.u64_in _ (by omega), u64_or _ _ h0 (by omega) q0 (by omega)]
  obtain ⟨N, rfl⟩ := Int.eq_ofNat_of_zero_le h0
  obtain ⟨D, rfl⟩ := Int.eq_ofNat_of_zero_le d0
  have hN : N < 2 ^ (7 * k) := by rw [pow_two7n]; exact_mod_cast hn
  have e : ((D : Int) * 128 ^ k).toNat = 2 ^ (7 * k) * D := by
    rw [pow_two7n, Nat.mul_comm]
    have : ((D : Int) * 128 ^ k) = ((D * 128 ^ k : Nat) : Int) := by simp
    rw [this, Int.toNat_natCast]
  rw [e, Int.toNat_natCast, Nat.or_comm, ← Nat.two_pow_add_eq_or_of_lt hN, pow_two7n, Nat.mul_comm]
  simp
  omega

/-- What Get hands back. -/
def gotV (zs : List Int) : Value := .tuple #[.int .u64 (getF zs 0 0).1, .int .i64 (getF zs 0 0).2.1, .int .i64 (getF zs 0 0).2.2]

theorem gotV_of {zs : List Int} {m k e : Int} (h : getF zs 0 0 = (m, k, e)) : gotV zs = .tuple #[.int .u64 m, .int .i64 k, .int .i64 e] := by rw [gotV, h]

set_option maxHeartbeats 1000000 in
theorem get_any (a : Option Addr) (len cap : Nat) (zs : List Int) (w : World) (hr : Reads .u8 w a len cap zs) (hz : IsBytes zs) (hlen : len ≤ 1000000) :
    Calls Try.prog 66 #[.slice a len cap] w fun e w' => e = .returned (gotV zs) ∧ w' = w := by
  have HL : Hid (zs.length = len) := hr.size
  go_enter Try.func66, Try.ntmps66
  go_wp2
  go_loop [5, 10] (fun s i => ∃ (k : Nat) (n : Int), k ≤ len ∧ k ≤ 9 ∧ i = .int .i64 k ∧ s = .int .u64 n ∧ 0 ≤ n ∧ n < 128 ^ k ∧ getF zs 0 0 = getF (zs.drop k) k n) (fun _ i => len - (intOf i).toNat)
  case atStart => exact ⟨0, 0, by omega, by omega, rfl, rfl, by omega, by simp, by simp⟩
  case round =>
    obtain ⟨k, n, hk, hk9, rfl, rfl, n0, n1, hg⟩ := hrel
    have HG : Hid (getF zs 0 0 = getF (zs.drop k) k n) := hg
    have HN : Hid (n < 128 ^ k) := n1
    clear hg n1
    by_cases hlt : k < len
    · obtain ⟨b, off, rfl, hc⟩ := hr.cell k hlt
      obtain ⟨c0, c1⟩ := hz.at k
      have HB : Hid ((0 < k ∧ zs[k]?.getD 0 = 0) ∨ (k = 9 ∧ 1 < zs[k]?.getD 0) → getF (zs.drop k) k n = (0, 0, 3)) := getF_bad zs k n (by have := HL.out; omega)
      have HE : Hid (¬ ((0 < k ∧ zs[k]?.getD 0 = 0) ∨ (k = 9 ∧ 1 < zs[k]?.getD 0)) → zs[k]?.getD 0 < 128 → getF (zs.drop k) k n = (n + zs[k]?.getD 0 * 128 ^ k, (k : Int) + 1, 0)) := getF_end zs k n (by have := HL.out; omega)
      have HM : Hid (¬ ((0 < k ∧ zs[k]?.getD 0 = 0) ∨ (k = 9 ∧ 1 < zs[k]?.getD 0)) → ¬ zs[k]?.getD 0 < 128 → getF (zs.drop k) k n = getF (zs.drop (k + 1)) (k + 1) (n + (zs[k]?.getD 0 - 128) * 128 ^ k)) := getF_more zs k n (by have := HL.out; omega)
      clear hr hz
      generalize zs[k]?.getD 0 = c at *
      rcases (by omega : (1 ≤ k ∧ c ≤ 0) ∨ (9 ≤ k ∧ 1 < c) ∨ ((k ≤ 0 ∨ (1 ≤ k ∧ k ≤ 8 ∧ 1 ≤ c) ∨ (9 ≤ k ∧ 1 ≤ c ∧ c ≤ 1)) ∧ c < 128) ∨ ((k ≤ 0 ∨ (1 ≤ k ∧ k ≤ 8)) ∧ 128 ≤ c)) with ⟨b1, b2⟩ | ⟨b1, b2⟩ | ⟨b1, b2⟩ | ⟨b1, b2⟩
      · have HV := hid (gotV_of (HG.out.trans (HB.out (by omega))))
        go_wp2
        go_ret3
        exact ⟨by rw [HV.out]; rfl, rfl⟩
      · have HV := hid (gotV_of (HG.out.trans (HB.out (by omega))))
        go_wp2
        go_ret3
        exact ⟨by rw [HV.out]; rfl, rfl⟩
      · have HV := hid (gotV_of (HG.out.trans (HE.out (by omega) (by omega))))
        have hor := or_step (d := c % 128) hk9 n0 HN.out (by omega) (by omega) (by omega)
        have hbd := step_bd (d := c % 128) hk9 n0 HN.out (by omega) (by omega) (by omega)
        have hcc : c % 128 = c := by omega
        rw [hcc] at hbd
        have HO : Hid (bits .or .u64 n (IntKind.u64.wrap (c % 128 * 2 ^ (7 * k))) = n + c * 128 ^ k) := by rw [hcc] at hor ⊢; exact hor
        clear hor hcc hbd
        rcases b1 with b1 | ⟨b1, b3, b4⟩ | ⟨b1, b3, b4⟩
        · go_wp2
          go_ret3
          exact ⟨by rw [HV.out, ← HO.out]; rfl, rfl⟩
        · go_wp2
          go_ret3
          exact ⟨by rw [HV.out, ← HO.out]; rfl, rfl⟩
        · obtain rfl : c = 1 := by omega
          obtain rfl : k = 9 := by omega
          have HX : Hid (gotV zs = .tuple #[.int .u64 (bits .or .u64 n 9223372036854775808), .int .i64 10, .int .i64 0]) := by
            unfold Hid
            rw [HV.out, ← HO.out]
            rfl
          clear HO HV
          go_wp2
          go_ret3
          exact ⟨by rw [HX.out]; rfl, rfl⟩
      · have hg := HG.out.trans (HM.out (by omega) (by omega))
        have hor := or_step (d := c % 128) hk9 n0 HN.out (by omega) (by omega) (by omega)
        have hbd := step_bd (d := c % 128) hk9 n0 HN.out (by omega) (by omega) (by omega)
        have hcc : c % 128 = c - 128 := by omega
        rw [hcc] at hbd
        have HO : Hid (bits .or .u64 n (IntKind.u64.wrap (c % 128 * 2 ^ (7 * k))) = n + (c - 128) * 128 ^ k) := by rw [hcc] at hor ⊢; exact hor
        have HS : Hid (0 ≤ n + (c - 128) * 128 ^ k ∧ n + (c - 128) * 128 ^ k < 128 ^ (k + 1) ∧ n + (c - 128) * 128 ^ k ≤ 18446744073709551615) := hbd
        have HH : Hid (getF zs 0 0 = getF (zs.drop (k + 1)) (k + 1) (n + (c - 128) * 128 ^ k)) := hg
        clear hor hcc hbd hg
        rcases b1 with b1 | ⟨b1, b3⟩
        all_goals
          go_wp2
          go_round
          case rel => exact ⟨k + 1, n + (c - 128) * 128 ^ k, by omega, by omega, by go_num, by rw [HO.out], HS.out.1, HS.out.2.1, HH.out⟩
          case measure => simp [intOf]; omega
    · have HV := hid (gotV_of (HG.out.trans (by rw [List.drop_eq_nil_of_le (by have := HL.out; omega), getF])))
      go_wp2
      go_ret3
      exact ⟨by rw [HV.out]; rfl, rfl⟩

/-- The unit of the k-th byte, as the document reckons it. -/
theorem unit_step {k : Nat} (hk : k ≤ 8) : IntKind.u64.wrap ((128 : Int) ^ k * 128) = 128 ^ (k + 1) := by
  have := pow_le9 (k := k + 1) (by omega)
  rw [Int.pow_succ] at this ⊢
  exact IntWalk.u64_in _ (by omega)

set_option maxHeartbeats 1000000 in
theorem rget_any (a : Option Addr) (len cap : Nat) (zs : List Int) (w : World) (hr : Reads .u8 w a len cap zs) (hz : IsBytes zs) (hlen : len ≤ 1000000) :
    Calls Try.prog 59 #[.slice a len cap] w fun e w' => e = .returned (gotV zs) ∧ w' = w := by
  have HL : Hid (zs.length = len) := hr.size
  go_enter Try.func59, Try.ntmps59
  go_wp2
  go_loop [5, 6, 7] (fun s u i => ∃ (k : Nat) (n p : Int), k ≤ len ∧ k ≤ 9 ∧ i = .int .i64 k ∧ s = .int .u64 n ∧ u = .int .u64 p ∧ 0 ≤ n ∧ n < 128 ^ k ∧ Hid (p = 128 ^ k) ∧ getF zs 0 0 = getF (zs.drop k) k n) (fun _ _ i => len - (intOf i).toNat)
  case atStart => exact ⟨0, 0, 1, by omega, by omega, rfl, rfl, rfl, by omega, by simp, by unfold Hid; simp, by simp⟩
  case round =>
    obtain ⟨k, n, p, hk, hk9, rfl, rfl, rfl, n0, n1, HP, hg⟩ := hrel
    have HG : Hid (getF zs 0 0 = getF (zs.drop k) k n) := hg
    have HN : Hid (n < 128 ^ k) := n1
    clear hg n1
    by_cases hlt : k < len
    · obtain ⟨b, off, rfl, hc⟩ := hr.cell k hlt
      obtain ⟨c0, c1⟩ := hz.at k
      have HB : Hid ((0 < k ∧ zs[k]?.getD 0 = 0) ∨ (k = 9 ∧ 1 < zs[k]?.getD 0) → getF (zs.drop k) k n = (0, 0, 3)) := getF_bad zs k n (by have := HL.out; omega)
      have HE : Hid (¬ ((0 < k ∧ zs[k]?.getD 0 = 0) ∨ (k = 9 ∧ 1 < zs[k]?.getD 0)) → zs[k]?.getD 0 < 128 → getF (zs.drop k) k n = (n + zs[k]?.getD 0 * 128 ^ k, (k : Int) + 1, 0)) := getF_end zs k n (by have := HL.out; omega)
      have HM : Hid (¬ ((0 < k ∧ zs[k]?.getD 0 = 0) ∨ (k = 9 ∧ 1 < zs[k]?.getD 0)) → ¬ zs[k]?.getD 0 < 128 → getF (zs.drop k) k n = getF (zs.drop (k + 1)) (k + 1) (n + (zs[k]?.getD 0 - 128) * 128 ^ k)) := getF_more zs k n (by have := HL.out; omega)
      clear hr hz
      generalize zs[k]?.getD 0 = c at *
      rcases (by omega : (9 ≤ k ∧ 1 < c) ∨ (1 ≤ k ∧ c ≤ 0 ∧ (k ≤ 8 ∨ 9 ≤ k)) ∨ ((k ≤ 0 ∧ (c ≤ 0 ∨ 1 ≤ c) ∨ (1 ≤ k ∧ k ≤ 8 ∧ 1 ≤ c) ∨ (9 ≤ k ∧ 1 ≤ c ∧ c ≤ 1)) ∧ c < 128) ∨ ((k ≤ 0 ∨ (1 ≤ k ∧ k ≤ 8)) ∧ 128 ≤ c)) with ⟨b1, b2⟩ | ⟨b1, b2, b3⟩ | ⟨b1, b2⟩ | ⟨b1, b2⟩
      · have HV := hid (gotV_of (HG.out.trans (HB.out (by omega))))
        go_wp2
        go_ret3
        exact ⟨by rw [HV.out]; rfl, rfl⟩
      · have HV := hid (gotV_of (HG.out.trans (HB.out (by omega))))
        rcases b3 with b3 | b3
        all_goals
          go_wp2
          go_ret3
          exact ⟨by rw [HV.out]; rfl, rfl⟩
      · have HV := hid (gotV_of (HG.out.trans (HE.out (by omega) (by omega))))
        have hbd := step_bd (d := c % 128) hk9 n0 HN.out (by omega) (by omega) (by omega)
        have hcc : c % 128 = c := by omega
        have q0 : 0 ≤ c * 128 ^ k := Int.mul_nonneg c0 (by have := (pow_le9 hk9).1; omega)
        rw [hcc] at hbd
        have HO : Hid (IntKind.u64.wrap (n + IntKind.u64.wrap (p * (c % 128))) = n + c * 128 ^ k) := by
          unfold Hid
          rw [hcc, HP.out, Int.mul_comm, IntWalk.u64_in (c * 128 ^ k) (by omega), IntWalk.u64_in _ (by omega)]
        clear hcc hbd q0
        rcases b1 with ⟨b1, b3 | b3⟩ | ⟨b1, b3, b4⟩ | ⟨b1, b3, b4⟩
        · obtain rfl : c = 0 := by omega
          obtain rfl : k = 0 := by omega
          obtain rfl : p = 1 := HP.out
          obtain rfl : n = 0 := by have := HN.out; simp at this; omega
          rw [Nat.add_zero] at hc
          have HX : Hid (gotV zs = .tuple #[.int .u64 0, .int .i64 1, .int .i64 0]) := by
            unfold Hid
            rw [HV.out]
            rfl
          clear HO HV
          go_wp2
          go_ret3
          exact ⟨by rw [HX.out]; rfl, rfl⟩
        · go_wp2
          go_ret3
          exact ⟨by rw [HV.out, ← HO.out]; rfl, rfl⟩
        · go_wp2
          go_ret3
          exact ⟨by rw [HV.out, ← HO.out]; rfl, rfl⟩
        · obtain rfl : c = 1 := by omega
          obtain rfl : k = 9 := by omega
          obtain rfl : p = 9223372036854775808 := HP.out
          have n9 : n < 9223372036854775808 := HN.out
          have HX : Hid (gotV zs = .tuple #[.int .u64 (n + 9223372036854775808), .int .i64 10, .int .i64 0]) := by
            unfold Hid
            rw [HV.out]
            rfl
          clear HO HV HP HN
          go_wp2
          go_ret3
          exact ⟨by rw [HX.out]; rfl, rfl⟩
      · have hg := HG.out.trans (HM.out (by omega) (by omega))
        have hbd := step_bd (d := c % 128) hk9 n0 HN.out (by omega) (by omega) (by omega)
        have hcc : c % 128 = c - 128 := by omega
        have q0 : 0 ≤ (c - 128) * 128 ^ k := Int.mul_nonneg (by omega) (by have := (pow_le9 hk9).1; omega)
        rw [hcc] at hbd
        have HO : Hid (IntKind.u64.wrap (n + IntKind.u64.wrap (p * (c % 128))) = n + (c - 128) * 128 ^ k) := by
          unfold Hid
          rw [hcc, HP.out, Int.mul_comm, IntWalk.u64_in ((c - 128) * 128 ^ k) (by omega), IntWalk.u64_in _ (by omega)]
        have HS : Hid (0 ≤ n + (c - 128) * 128 ^ k ∧ n + (c - 128) * 128 ^ k < 128 ^ (k + 1) ∧ n + (c - 128) * 128 ^ k ≤ 18446744073709551615) := hbd
        have HH : Hid (getF zs 0 0 = getF (zs.drop (k + 1)) (k + 1) (n + (c - 128) * 128 ^ k)) := hg
        have HU : Hid (IntKind.u64.wrap (p * 128) = 128 ^ (k + 1)) := by unfold Hid; rw [HP.out]; exact unit_step (by omega)
        clear hcc hbd hg q0
        rcases b1 with b1 | ⟨b1, b3⟩
        all_goals
          go_wp2
          go_round
          case rel => exact ⟨k + 1, n + (c - 128) * 128 ^ k, 128 ^ (k + 1), by omega, by omega, by go_num, by rw [HO.out], by rw [HU.out], HS.out.1, HS.out.2.1, rfl, HH.out⟩
          case measure => simp [intOf]; omega
    · have HV := hid (gotV_of (HG.out.trans (by rw [List.drop_eq_nil_of_le (by have := HL.out; omega), getF])))
      go_wp2
      go_ret3
      exact ⟨by rw [HV.out]; rfl, rfl⟩

end Go.Proofs.Ytlcfjhlchpeedaa
