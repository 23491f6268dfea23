/-
  varint: a number's bytes (encZ), Size, Put, Fold, Unfold, Get: contracts.
-/
import Derived.Test.YtdchoegaindnbaaVMath
import Derived.Test.YtdchoegaindnbaaFrames
import Derived.Laws.BitsAllLaws
namespace Go.Proofs.Ytdchoegaindnbaa
open Go.RowKit
set_option linter.unusedVariables false
set_option maxRecDepth 1000000

theorem Try.infoB8 : (Try.prog.info? 5).map (fun i => (i.zero, i.size, i.bytes)) = some (some (.int .u8 0), 1, 1) := by kernel_rfl
theorem Try.infoU64 : (Try.prog.info? 33).map (fun i => (i.zero, i.size, i.bytes)) = some (some (.int .u64 0), 1, 8) := by kernel_rfl
/-- A number's bytes, of a whole number that is not below 0. -/
def encZ (n : Int) : List Int := enc n.toNat

theorem encZ_small {n : Int} (h0 : 0 ≤ n) (h : n < 128) : encZ n = [n] := by
  unfold encZ; rw [enc_small (by omega), Int.toNat_of_nonneg h0]

theorem encZ_big {n : Int} (h : 128 ≤ n) : encZ n = (n % 128 + 128) :: encZ (n / 128) := by
  unfold encZ; rw [enc_big (by omega)]
  congr 1
  · omega
  · congr 1; omega

theorem encZ_len {n : Int} (h : n ≤ 18446744073709551615) : 1 ≤ (encZ n).length ∧ (encZ n).length ≤ 10 := enc_len64 (by omega)

theorem encZ_bytes (n : Int) : IsBytes (encZ n) := enc_byte _


theorem size_any (n : Int) (w : World) (n0 : 0 ≤ n) (hn : n ≤ 18446744073709551615) :
    Calls Try.prog 39 #[.int .u64 n] w fun e w' => e = .returned (.int .i64 (encZ n).length) ∧ w' = w := by
  have HL : Hid ((encZ n).length ≤ 10) := (encZ_len hn).2
  go_enter Try.func39, Try.ntmps39
  go_wp2
  go_loop [0, 3] (fun v s => ∃ (m : Int) (k : Nat), 0 ≤ m ∧ m ≤ 18446744073709551615 ∧ v = .int .u64 m ∧ s = .int .i64 k ∧ k ≤ 10 ∧ Hid (k + (encZ m).length = (encZ n).length + 1)) (fun v _ => (intOf v).toNat)
  case atStart => exact ⟨n, 1, n0, hn, rfl, rfl, by omega, by unfold Hid; omega⟩
  case round =>
    obtain ⟨m, k, m0, hm, rfl, rfl, hk, HK⟩ := hrel
    by_cases hlt : m < 128
    · have HE : Hid (encZ m = [m]) := encZ_small m0 hlt
      go_wp2
      go_ret
      exact ⟨ret_int (by have := HK.out; rw [HE.out] at this; simp at this; omega), rfl⟩
    · have HE : Hid (encZ m = (m % 128 + 128) :: encZ (m / 128)) := encZ_big (by omega)
      have HM : Hid (1 ≤ (encZ (m / 128)).length) := (encZ_len (n := m / 128) (by omega)).1
      have HQ : Hid (k + 1 + (encZ (m / 128)).length = (encZ n).length + 1) := by
        have := HK.out; rw [HE.out] at this; simp at this; unfold Hid; omega
      have hk9 : k + 1 ≤ 10 := by have := HQ.out; have := HM.out; have := HL.out; omega
      go_wp2
      go_round
      case rel => exact ⟨m / 128, k + 1, by omega, by omega, by go_num, by go_num, hk9, HQ.out⟩
      case measure => simp [intOf]; omega

set_option maxHeartbeats 1000000 in
theorem appnum_any (base : Nat) (v : Value) (l : Nat) (xs : List Int) (n : Int) (w : World) (hown : w.ownsRow base 5 1 v l (xs.map (Value.int .u8))) (hbase : base ≤ w.heap.size) (hl : l ≤ 1000000) (n0 : 0 ≤ n) (hn : n ≤ 18446744073709551615) :
    Calls Try.prog 45 #[v, .int .u64 n] w fun e w' => ∃ v', e = .returned v' ∧ w'.ownsRow base 5 1 v' (l + (encZ n).length) ((xs ++ encZ n).map (Value.int .u8)) ∧ Below base w w' := by
  obtain ⟨i0, hi, hz0, hz1, hz2⟩ := info_parts Try.infoB8
  have HL : Hid ((encZ n).length ≤ 10) := (encZ_len hn).2
  go_enter Try.func45, Try.ntmps45
  go_wp2
  go_loopw [0, 1] (fun u nv wr => ∃ (m : Int) (k : Nat) (ys : List Int), 0 ≤ m ∧ m ≤ 18446744073709551615 ∧ nv = .int .u64 m ∧ wr.ownsRow base 5 1 u k (ys.map (Value.int .u8)) ∧ Below base w wr ∧ k + (encZ m).length = l + (encZ n).length ∧ ys ++ encZ m = xs ++ encZ n) (fun _ nv _ => (intOf nv).toNat)
  case atStart => exact ⟨n, l, xs, n0, hn, rfl, hown, Below.refl _ _, rfl, rfl⟩
  case round =>
    obtain ⟨m, k, ys, m0, hm, rfl, how, hb, hk, he⟩ := hrel
    have HE : Hid (ys ++ encZ m = xs ++ encZ n) := he
    have hsz := hb.size
    have hk1 : k ≤ 1000010 := by have := HL.out; omega
    have HK : Hid (k + (encZ m).length = l + (encZ n).length) := hk
    clear he hk
    by_cases hlt : m < 128
    · have HM : Hid (encZ m = [m]) := encZ_small m0 hlt
      go_wp2_with (at_builtin; refine append_any _ rfl (.tmp 16) (.tmp 19) 75 rfl base 5 i0 (.int .u8 0) 1 Try.underlying75 hi hz0 hz1 hz2 rfl .u8 _ k ys rfl (how.alloc _) _ 1 1 [m] rfl (Reads.one _ _ _) (by omega) (by omega) (by simp; omega) ?_; intro v' w1 how1 hb1)
      go_ret
      refine ⟨_, rfl, ?_, hb.trans (((Below.refl _ _).alloc (by omega) _).trans hb1)⟩
      have h1 := HE.out
      have h2 := HK.out
      rw [HM.out] at h1 h2
      rw [← h1, ← h2]
      exact how1
    · have HM : Hid (encZ m = (m % 128 + 128) :: encZ (m / 128)) := encZ_big (by omega)
      have hor := u8_or128_right (m % 128) (by omega) (by omega)
      go_wp2_with (at_builtin; refine append_any _ rfl (.tmp 7) (.tmp 12) 75 rfl base 5 i0 (.int .u8 0) 1 Try.underlying75 hi hz0 hz1 hz2 rfl .u8 _ k ys rfl (how.alloc _) _ 1 1 [m % 128 + 128] rfl (Reads.one _ _ _) (by omega) (by omega) (by simp; omega) ?_; intro v' w1 how1 hb1)
      go_roundw
      case rel =>
        refine ⟨m / 128, k + 1, ys ++ [m % 128 + 128], by omega, by omega, by go_num, how1, hb.trans (((Below.refl _ _).alloc (by omega) _).trans hb1), ?_, ?_⟩
        · have := HK.out; rw [HM.out] at this; simp at this; omega
        · have := HE.out; rw [HM.out] at this; simpa using this
      case measure => simp [intOf]; omega

/-- Each number's bytes, in order. -/
def encsZ (ns : List Int) : List Int := ns.flatMap encZ

theorem encsZ_len {ns : List Int} (h : IsU64s ns) : (encsZ ns).length ≤ 10 * ns.length := by
  induction ns with
  | nil => simp [encsZ]
  | cons x r ih =>
    have h1 := ih fun y hy => h y (by simp [hy])
    have h2 := (encZ_len (h x (by simp)).2).2
    unfold encsZ at *
    rw [List.flatMap_cons, List.length_append, List.length_cons]
    omega

theorem encsZ_bytes (ns : List Int) : IsBytes (encsZ ns) := by
  intro x hx
  obtain ⟨n, _, h⟩ := List.mem_flatMap.1 hx
  exact encZ_bytes n x h

theorem encsZ_snoc (ns : List Int) (k : Nat) (h : k < ns.length) : encsZ (ns.take (k + 1)) = encsZ (ns.take k) ++ encZ (ns[k]?.getD 0) := by
  unfold encsZ
  rw [List.take_succ_eq_append_getElem h, List.flatMap_append]
  simp [h]

set_option maxHeartbeats 1000000 in
theorem put_any (a : Option Addr) (len cap : Nat) (bs : List Int) (a2 : Option Addr) (l2 c2 : Nat) (ns : List Int) (w : World) (hr : Reads .u8 w a len cap bs) (hr2 : Reads .u64 w a2 l2 c2 ns) (hn : IsU64s ns) (hlen : len ≤ 100000) (hl2 : l2 ≤ 10000) :
    Calls Try.prog 37 #[.slice a len cap, .slice a2 l2 c2] w fun e w' => ∃ v', e = .returned v' ∧ w'.ownsRow w.heap.size 5 1 v' (len + (encsZ ns).length) ((bs ++ encsZ ns).map (Value.int .u8)) ∧ Below w.heap.size w w' := by
  obtain ⟨i0, hi, hz0, hz1, hz2⟩ := info_parts Try.infoB8
  have HL : Hid (ns.length = l2) := hr2.size
  go_enter Try.func37, Try.ntmps37
  go_wp2_with (at_builtin; refine append_any _ rfl (.const (.slice none 0 0)) (.tmp 8) 75 rfl w.heap.size 5 i0 (.int .u8 0) 1 Try.underlying75 hi hz0 hz1 hz2 rfl .u8 _ 0 [] rfl (World.ownsRow_nil _ _ _ _) a len cap bs rfl hr (by omega) (by omega) (by omega) ?_; intro v' w1 how1 hb1)
  have hr3 := hr2.below hb1
  rw [List.nil_append, Nat.zero_add] at how1
  go_loopw [5, 12] (fun u i wr => ∃ (k : Nat), k ≤ l2 ∧ i = .int .i64 k ∧ wr.ownsRow w.heap.size 5 1 u (len + (encsZ (ns.take k)).length) ((bs ++ encsZ (ns.take k)).map (Value.int .u8)) ∧ Below w.heap.size w wr) (fun _ i _ => l2 - (intOf i).toNat)
  case atStart => exact ⟨0, by omega, rfl, by simpa [encsZ] using how1, hb1⟩
  case round =>
    obtain ⟨k, hk, rfl, how, hb⟩ := hrel
    have hsz := hb.size
    by_cases hlt : k < l2
    · obtain ⟨b2, o2, rfl, hc0⟩ := hr2.cell k hlt
      have hc := (hb.cell (World.block_lt_of_cell? _ _ hc0)).trans hc0
      obtain ⟨n0, n1⟩ := hn.at k
      have HS : Hid (encsZ (ns.take (k + 1)) = encsZ (ns.take k) ++ encZ (ns[k]?.getD 0)) := encsZ_snoc ns k (by have := HL.out; omega)
      have hle : (encsZ (ns.take k)).length ≤ 10 * 10000 := by
        have := encsZ_len (ns := ns.take k) fun x hx => hn x (List.mem_of_mem_take hx)
        simp at this; omega
      have hA := appnum_any w.heap.size _ _ _ (ns[k]?.getD 0) wr how hsz (by omega) n0 n1
      clear hc0 hr hr2 hr3 hn how1 hb1
      generalize ns[k]?.getD 0 = x at *
      go_wp2_with fail
      refine hA.mono ?_
      rintro e w2 ⟨v2, rfl, how2, hb2⟩
      go_wp2_with fail
      go_roundw
      case rel => exact ⟨k + 1, by omega, by go_num, by rw [HS.out, List.length_append, ← Nat.add_assoc, ← List.append_assoc]; exact how2, hb.trans hb2⟩
      case measure => simp [intOf]; omega
    · have HT : Hid (ns.take k = ns) := List.take_of_length_le (by have := HL.out; omega)
      go_wp2
      go_ret
      exact ⟨_, rfl, by rw [HT.out] at how; exact how, hb⟩


/-- The folded number of a signed one. -/
def foldZ (n : Int) : Int := if 0 ≤ n then 2 * n else 2 * (-(n + 1)) + 1

/-- The signed number whose folded number n is. -/
def unfoldZ (n : Int) : Int := if n % 2 = 0 then n / 2 else -(n / 2) - 1

theorem foldZ_bd {n : Int} (h1 : -9223372036854775808 ≤ n) (h2 : n ≤ 9223372036854775807) : 0 ≤ foldZ n ∧ foldZ n ≤ 18446744073709551615 := by unfold foldZ; split <;> omega

theorem unfoldZ_bd {n : Int} (h1 : 0 ≤ n) (h2 : n ≤ 18446744073709551615) : -9223372036854775808 ≤ unfoldZ n ∧ unfoldZ n ≤ 9223372036854775807 := by unfold unfoldZ; split <;> omega

theorem fold_unfold {n : Int} (h1 : 0 ≤ n) : foldZ (unfoldZ n) = n := by unfold foldZ unfoldZ; split <;> split <;> omega

theorem unfold_fold (n : Int) : unfoldZ (foldZ n) = n := by unfold foldZ unfoldZ; split <;> split <;> omega

theorem fold_any (n : Int) (w : World) (h1 : -9223372036854775808 ≤ n) (h2 : n ≤ 9223372036854775807) :
    Calls Try.prog 36 #[.int .i64 n] w fun e w' => e = .returned (.int .u64 (foldZ n)) ∧ w' = w := by
  rcases (by omega : 0 ≤ n ∨ n < 0) with h | h
  all_goals
    go_enter Try.func36, Try.ntmps36
    go_wp2
    go_ret
    exact ⟨ret_int (by unfold foldZ; split <;> omega), rfl⟩

theorem unfold_any (n : Int) (w : World) (h1 : 0 ≤ n) (h2 : n ≤ 18446744073709551615) :
    Calls Try.prog 60 #[.int .u64 n] w fun e w' => e = .returned (.int .i64 (unfoldZ n)) ∧ w' = w := by
  rcases (by omega : n % 2 ≤ 0 ∨ 1 ≤ n % 2) with h | h
  all_goals
    go_enter Try.func60, Try.ntmps60
    go_wp2
    go_ret
    exact ⟨ret_int (by unfold unfoldZ; split <;> omega), rfl⟩

theorem pow_two7 (k : Nat) : (2 : Int) ^ (7 * k) = 128 ^ k := by rw [Int.pow_mul]; rfl

theorem pow_two7n (k : Nat) : (2 : Nat) ^ (7 * k) = 128 ^ k := by rw [Nat.pow_mul]

theorem or_step {k : Nat} {n d : Int} (hk : k ≤ 9) (h0 : 0 ≤ n) (hn : n < 128 ^ k) (d0 : 0 ≤ d) (d1 : d ≤ 127) (h9 : k = 9 → d ≤ 1) :
    bits .or .u64 n (IntKind.u64.wrap (d * 2 ^ (7 * k))) = n + d * 128 ^ k := by
  obtain ⟨p1, p2⟩ := pow_le9 hk
  obtain ⟨s1, s2, s3⟩ := step_bd hk h0 hn d0 d1 h9
  have q0 : 0 ≤ d * 128 ^ k := Int.mul_nonneg d0 (by omega)
  rw [pow_two7, IntWalk.u64_in _ (by omega), u64_or _ _ h0 (by omega) q0 (by omega)]
  obtain ⟨N, rfl⟩ := Int.eq_ofNat_of_zero_le h0
  obtain ⟨D, rfl⟩ := Int.eq_ofNat_of_zero_le d0
  have hN : N < 2 ^ (7 * k) := by rw [pow_two7n]; exact_mod_cast hn
  have e : ((D : Int) * 128 ^ k).toNat = 2 ^ (7 * k) * D := by
    rw [pow_two7n, Nat.mul_comm]
    have : ((D : Int) * 128 ^ k) = ((D * 128 ^ k : Nat) : Int) := by simp
    rw [this, Int.toNat_natCast]
  rw [e, Int.toNat_natCast, Nat.or_comm, ← Nat.two_pow_add_eq_or_of_lt hN, pow_two7n, Nat.mul_comm]
  simp
  omega

/-- What Get hands back. -/
def gotV (zs : List Int) : Value := .tuple #[.int .u64 (getF zs 0 0).1, .int .i64 (getF zs 0 0).2.1, .int .i64 (getF zs 0 0).2.2]

theorem gotV_of {zs : List Int} {m k e : Int} (h : getF zs 0 0 = (m, k, e)) : gotV zs = .tuple #[.int .u64 m, .int .i64 k, .int .i64 e] := by rw [gotV, h]

set_option maxHeartbeats 1000000 in
theorem get_any (a : Option Addr) (len cap : Nat) (zs : List Int) (w : World) (hr : Reads .u8 w a len cap zs) (hz : IsBytes zs) (hlen : len ≤ 1000000) :
    Calls Try.prog 72 #[.slice a len cap] w fun e w' => e = .returned (gotV zs) ∧ w' = w := by
  have HL : Hid (zs.length = len) := hr.size
  go_enter Try.func72, Try.ntmps72
  go_wp2
  go_loop [5, 10] (fun s i => ∃ (k : Nat) (n : Int), k ≤ len ∧ k ≤ 9 ∧ i = .int .i64 k ∧ s = .int .u64 n ∧ 0 ≤ n ∧ n < 128 ^ k ∧ getF zs 0 0 = getF (zs.drop k) k n) (fun _ i => len - (intOf i).toNat)
  case atStart => exact ⟨0, 0, by omega, by omega, rfl, rfl, by omega, by simp, by simp⟩
  case round =>
    obtain ⟨k, n, hk, hk9, rfl, rfl, n0, n1, hg⟩ := hrel
    have HG : Hid (getF zs 0 0 = getF (zs.drop k) k n) := hg
    have HN : Hid (n < 128 ^ k) := n1
    clear hg n1
    by_cases hlt : k < len
    · obtain ⟨b, off, rfl, hc⟩ := hr.cell k hlt
      obtain ⟨c0, c1⟩ := hz.at k
      have HB : Hid ((0 < k ∧ zs[k]?.getD 0 = 0) ∨ (k = 9 ∧ 1 < zs[k]?.getD 0) → getF (zs.drop k) k n = (0, 0, 3)) := getF_bad zs k n (by have := HL.out; omega)
      have HE : Hid (¬ ((0 < k ∧ zs[k]?.getD 0 = 0) ∨ (k = 9 ∧ 1 < zs[k]?.getD 0)) → zs[k]?.getD 0 < 128 → getF (zs.drop k) k n = (n + zs[k]?.getD 0 * 128 ^ k, (k : Int) + 1, 0)) := getF_end zs k n (by have := HL.out; omega)
      have HM : Hid (¬ ((0 < k ∧ zs[k]?.getD 0 = 0) ∨ (k = 9 ∧ 1 < zs[k]?.getD 0)) → ¬ zs[k]?.getD 0 < 128 → getF (zs.drop k) k n = getF (zs.drop (k + 1)) (k + 1) (n + (zs[k]?.getD 0 - 128) * 128 ^ k)) := getF_more zs k n (by have := HL.out; omega)
      clear hr hz
      generalize zs[k]?.getD 0 = c at *
      rcases (by omega : (1 ≤ k ∧ c ≤ 0) ∨ (9 ≤ k ∧ 1 < c) ∨ ((k ≤ 0 ∨ (1 ≤ k ∧ k ≤ 8 ∧ 1 ≤ c) ∨ (9 ≤ k ∧ 1 ≤ c ∧ c ≤ 1)) ∧ c < 128) ∨ ((k ≤ 0 ∨ (1 ≤ k ∧ k ≤ 8)) ∧ 128 ≤ c)) with ⟨b1, b2⟩ | ⟨b1, b2⟩ | ⟨b1, b2⟩ | ⟨b1, b2⟩
      · have HV := hid (gotV_of (HG.out.trans (HB.out (by omega))))
        go_wp2
        go_ret3
        exact ⟨by rw [HV.out]; rfl, rfl⟩
      · have HV := hid (gotV_of (HG.out.trans (HB.out (by omega))))
        go_wp2
        go_ret3
        exact ⟨by rw [HV.out]; rfl, rfl⟩
      · have HV := hid (gotV_of (HG.out.trans (HE.out (by omega) (by omega))))
        have hor := or_step (d := c % 128) hk9 n0 HN.out (by omega) (by omega) (by omega)
        have hbd := step_bd (d := c % 128) hk9 n0 HN.out (by omega) (by omega) (by omega)
        have hcc : c % 128 = c := by omega
        rw [hcc] at hbd
        have HO : Hid (bits .or .u64 n (IntKind.u64.wrap (c % 128 * 2 ^ (7 * k))) = n + c * 128 ^ k) := by rw [hcc] at hor ⊢; exact hor
        clear hor hcc hbd
        rcases b1 with b1 | ⟨b1, b3, b4⟩ | ⟨b1, b3, b4⟩
        · go_wp2
          go_ret3
          exact ⟨by rw [HV.out, ← HO.out]; rfl, rfl⟩
        · go_wp2
          go_ret3
          exact ⟨by rw [HV.out, ← HO.out]; rfl, rfl⟩
        · obtain rfl : c = 1 := by omega
          obtain rfl : k = 9 := by omega
          have HX : Hid (gotV zs = .tuple #[.int .u64 (bits .or .u64 n 9223372036854775808), .int .i64 10, .int .i64 0]) := by
            unfold Hid
            rw [HV.out, ← HO.out]
            rfl
          clear HO HV
          go_wp2
          go_ret3
          exact ⟨by rw [HX.out]; rfl, rfl⟩
      · have hg := HG.out.trans (HM.out (by omega) (by omega))
        have hor := or_step (d := c % 128) hk9 n0 HN.out (by omega) (by omega) (by omega)
        have hbd := step_bd (d := c % 128) hk9 n0 HN.out (by omega) (by omega) (by omega)
        have hcc : c % 128 = c - 128 := by omega
        rw [hcc] at hbd
        have HO : Hid (bits .or .u64 n (IntKind.u64.wrap (c % 128 * 2 ^ (7 * k))) = n + (c - 128) * 128 ^ k) := by rw [hcc] at hor ⊢; exact hor
        have HS : Hid (0 ≤ n + (c - 128) * 128 ^ k ∧ n + (c - 128) * 128 ^ k < 128 ^ (k + 1) ∧ n + (c - 128) * 128 ^ k ≤ 18446744073709551615) := hbd
        have HH : Hid (getF zs 0 0 = getF (zs.drop (k + 1)) (k + 1) (n + (c - 128) * 128 ^ k)) := hg
        clear hor hcc hbd hg
        rcases b1 with b1 | ⟨b1, b3⟩
        all_goals
          go_wp2
          go_round
          case rel => exact ⟨k + 1, n + (c - 128) * 128 ^ k, by omega, by omega, by go_num, by rw [HO.out], HS.out.1, HS.out.2.1, HH.out⟩
          case measure => simp [intOf]; omega
    · have HV := hid (gotV_of (HG.out.trans (by rw [List.drop_eq_nil_of_le (by have := HL.out; omega), getF])))
      go_wp2
      go_ret3
      exact ⟨by rw [HV.out]; rfl, rfl⟩

theorem own_base {w : World} {B B' e n : Nat} {v : Value} {xs : List Value} (h : w.ownsRow B' e 1 v n xs) (hB : B ≤ B') : w.ownsRow B e 1 v n xs :=
  ⟨h.1, h.2.imp id fun ⟨g, cap, cur, hv, hb, r⟩ => ⟨g, cap, cur, hv, Nat.le_trans hB hb, r⟩⟩

/-- A part of the slice, as Go cuts it: at the capacity's end the address stays. -/
theorem Reads.part {k : IntKind} {w : World} {b off len cap : Nat} {zs : List Int} (h : Reads k w (some ⟨b, off, none⟩) len cap zs) {p n : Nat} (hp : p + n ≤ len) (hc : ¬ cap = p) :
    Reads k w (some ⟨b, off + p, none⟩) n (cap - p) ((zs.drop p).take n) :=
  ⟨by rw [List.length_take, List.length_drop, h.size]; omega, (by have := h.room; omega), (by have := h.most; omega), (fun e => by cases e), fun i hi => by
    obtain ⟨b', off', ha, hc⟩ := h.cell (p + i) (by omega)
    cases ha
    exact ⟨b, off + p, rfl, by rw [Nat.add_assoc, hc, List.getElem?_take_of_lt hi, List.getElem?_drop]⟩⟩

theorem Reads.void {k : IntKind} {w : World} {b off c : Nat} (hc : c ≤ 9223372036854775807) : Reads k w (some ⟨b, off, none⟩) 0 c [] :=
  ⟨rfl, Nat.zero_le _, hc, (fun e => by cases e), fun i hi => by omega⟩

theorem encsZ_one (n : Int) : encsZ [n] = encZ n := by unfold encsZ; simp

theorem got_back (rest : List Int) {n : Int} (h0 : 0 ≤ n) (h1 : n ≤ 18446744073709551615) : getF (encZ n ++ rest) 0 0 = (n, ((encZ n).length : Int), 0) := by
  have := getF_back rest n.toNat 0 0 (by omega) (by omega) (by rw [Int.pow_zero, Int.mul_one]; omega)
  rw [Int.toNat_of_nonneg h0] at this
  unfold encZ
  rw [this]
  simp
end Go.Proofs.Ytdchoegaindnbaa
