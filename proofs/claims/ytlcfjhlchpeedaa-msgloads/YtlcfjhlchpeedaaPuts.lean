/-
  Contracts: varint.Size, varint.Put (and its inner appendNumber) and the document's Bytes and Put hand back what enc tells: how many bytes a number has, the bytes handed in and behind them each number's; in memory of the call's own, and nothing that was there turns. Fold and Unfold, of both sides.
-/
import Derived.Test.YtlcfjhlchpeedaaGets
import Derived.Laws.Bits128
import Derived.Laws.BitsAllLaws
namespace Go.Proofs.Ytlcfjhlchpeedaa
open Go.RowKit
open M
set_option linter.unusedVariables false
set_option maxRecDepth 1000000

theorem Try.info22 : (Try.prog.info? 22).map (fun i => (i.zero, i.size, i.bytes)) = some (some (.int .u64 0), 1, 8) := by kernel_rfl

/-- A number's bytes, of a whole number that is not below 0. -/
def encZ (n : Int) : List Int := enc n.toNat
theorem encZ_small {n : Int} (h0 : 0 ≤ n) (h : n < 128) : encZ n = [n] := by
  unfold encZ; rw [enc_small (by omega), Int.toNat_of_nonneg h0]
theorem encZ_big {n : Int} (h : 128 ≤ n) : encZ n = (n % 128 + 128) :: encZ (n / 128) := by
  unfold encZ; rw [enc_big (by omega)]
  congr 1
  · omega
  · congr 1; omega
theorem encZ_len {n : Int} (h : n ≤ 18446744073709551615) : 1 ≤ (encZ n).length ∧ (encZ n).length ≤ 10 := enc_len64 (by omega)
theorem encZ_bytes (n : Int) : IsBytes (encZ n) := enc_byte _

/-- One number in a new block, as an append of one element lays it. -/
theorem Reads.one {k : IntKind} (w : World) (x : Int) (t : TypeId) : Reads k (w.alloc (.cells #[.int k x] t)) (some ⟨w.heap.size, 0, none⟩) 1 1 [x] :=
  ⟨rfl, Nat.le_refl _, by omega, (fun e => by cases e), fun i hi => ⟨w.heap.size, 0, rfl, (by
    have h0 : i = 0 := by omega
    subst h0
    simp)⟩⟩

set_option maxHeartbeats 1000000 in
theorem appnum_any (base : Nat) (v : Value) (l : Nat) (xs : List Int) (n : Int) (w : World) (hown : w.ownsRow base 5 1 v l (xs.map (Value.int .u8))) (hbase : base ≤ w.heap.size) (hl : l ≤ 1000000) (n0 : 0 ≤ n) (hn : n ≤ 18446744073709551615) :
    Calls Try.prog 46 #[v, .int .u64 n] w fun e w' => ∃ v', e = .returned v' ∧ w'.ownsRow base 5 1 v' (l + (encZ n).length) ((xs ++ encZ n).map (Value.int .u8)) ∧ Below base w w' := by
  obtain ⟨i0, hi, hz0, hz1, hz2⟩ := info_parts Try.info5
  have HL : Hid ((encZ n).length ≤ 10) := (encZ_len hn).2
  go_enter Try.func46, Try.ntmps46
  go_wp2
  go_loopw [0, 1] (fun u nv wr => ∃ (m : Int) (k : Nat) (ys : List Int), 0 ≤ m ∧ m ≤ 18446744073709551615 ∧ nv = .int .u64 m ∧ wr.ownsRow base 5 1 u k (ys.map (Value.int .u8)) ∧ Below base w wr ∧ k + (encZ m).length = l + (encZ n).length ∧ ys ++ encZ m = xs ++ encZ n) (fun _ nv _ => (intOf nv).toNat)
  case atStart => exact ⟨n, l, xs, n0, hn, rfl, hown, Below.refl _ _, rfl, rfl⟩
  case round =>
    obtain ⟨m, k, ys, m0, hm, rfl, how, hb, hk, he⟩ := hrel
    have HE : Hid (ys ++ encZ m = xs ++ encZ n) := he
    have hsz := hb.size
    have hk1 : k ≤ 1000010 := by have := HL.out; omega
    have HK : Hid (k + (encZ m).length = l + (encZ n).length) := hk
    clear he hk
    by_cases hlt : m < 128
    · have HM : Hid (encZ m = [m]) := encZ_small m0 hlt
      go_wp2_with (at_builtin; refine append_any _ rfl (.tmp 16) (.tmp 19) 30 rfl base 5 i0 (.int .u8 0) 1 Try.underlying30 hi hz0 hz1 hz2 rfl .u8 _ k ys rfl (how.alloc _) _ 1 1 [m] rfl (Reads.one _ _ _) (by omega) (by omega) (by simp; omega) ?_; intro v' w1 how1 hb1)
      go_ret
      refine ⟨_, rfl, ?_, hb.trans (((Below.refl _ _).alloc (by omega) _).trans hb1)⟩
      have h1 := HE.out
      have h2 := HK.out
      rw [HM.out] at h1 h2
      rw [← h1, ← h2]
      exact how1
    · have HM : Hid (encZ m = (m % 128 + 128) :: encZ (m / 128)) := encZ_big (by omega)
      have hor := u8_or128_right (m % 128) (by omega) (by omega)
      go_wp2_with (at_builtin; refine append_any _ rfl (.tmp 7) (.tmp 12) 30 rfl base 5 i0 (.int .u8 0) 1 Try.underlying30 hi hz0 hz1 hz2 rfl .u8 _ k ys rfl (how.alloc _) _ 1 1 [m % 128 + 128] rfl (Reads.one _ _ _) (by omega) (by omega) (by simp; omega) ?_; intro v' w1 how1 hb1)
      go_roundw
      case rel =>
        refine ⟨m / 128, k + 1, ys ++ [m % 128 + 128], by omega, by omega, by go_num, how1, hb.trans (((Below.refl _ _).alloc (by omega) _).trans hb1), ?_, ?_⟩
        · have := HK.out; rw [HM.out] at this; simp at this; omega
        · have := HE.out; rw [HM.out] at this; simpa using this
      case measure => simp [intOf]; omega

set_option maxHeartbeats 1000000 in
theorem rbytes_any (n : Int) (w : World) (n0 : 0 ≤ n) (hn : n ≤ 18446744073709551615) :
    Calls Try.prog 49 #[.int .u64 n] w fun e w' => ∃ v', e = .returned v' ∧ w'.ownsRow w.heap.size 5 1 v' (encZ n).length ((encZ n).map (Value.int .u8)) ∧ Below w.heap.size w w' := by
  obtain ⟨i0, hi, hz0, hz1, hz2⟩ := info_parts Try.info5
  have HL : Hid ((encZ n).length ≤ 10) := (encZ_len hn).2
  go_enter Try.func49, Try.ntmps49
  go_wp2
  go_loopw [0, 3] (fun nv u wr => ∃ (m : Int) (k : Nat) (ys : List Int), 0 ≤ m ∧ m ≤ 18446744073709551615 ∧ nv = .int .u64 m ∧ wr.ownsRow w.heap.size 5 1 u k (ys.map (Value.int .u8)) ∧ Below w.heap.size w wr ∧ k + (encZ m).length = (encZ n).length ∧ ys ++ encZ m = encZ n) (fun nv _ _ => (intOf nv).toNat)
  case atStart => exact ⟨n, 0, [], n0, hn, rfl, World.ownsRow_nil _ _ _ _, Below.refl _ _, by omega, rfl⟩
  case round =>
    obtain ⟨m, k, ys, m0, hm, rfl, how, hb, hk, he⟩ := hrel
    have HE : Hid (ys ++ encZ m = encZ n) := he
    have hsz := hb.size
    have hk1 : k ≤ 10 := by have := HL.out; omega
    have HK : Hid (k + (encZ m).length = (encZ n).length) := hk
    clear he hk
    by_cases hlt : m < 128
    · have HM : Hid (encZ m = [m]) := encZ_small m0 hlt
      go_wp2_with (at_builtin; refine append_any _ rfl (.tmp 15) (.tmp 18) 30 rfl w.heap.size 5 i0 (.int .u8 0) 1 Try.underlying30 hi hz0 hz1 hz2 rfl .u8 _ k ys rfl (how.alloc _) _ 1 1 [m] rfl (Reads.one _ _ _) (by omega) (by omega) (by simp; omega) ?_; intro v' w1 how1 hb1)
      go_ret
      refine ⟨_, rfl, ?_, hb.trans (((Below.refl _ _).alloc (by omega) _).trans hb1)⟩
      have h1 := HE.out
      have h2 := HK.out
      rw [HM.out] at h1 h2
      rw [← h1, ← h1] at *
      rw [← h2]
      exact how1
    · have HM : Hid (encZ m = (m % 128 + 128) :: encZ (m / 128)) := encZ_big (by omega)
      go_wp2_with (at_builtin; refine append_any _ rfl (.tmp 6) (.tmp 11) 30 rfl w.heap.size 5 i0 (.int .u8 0) 1 Try.underlying30 hi hz0 hz1 hz2 rfl .u8 _ k ys rfl (how.alloc _) _ 1 1 [m % 128 + 128] rfl (Reads.one _ _ _) (by omega) (by omega) (by simp; omega) ?_; intro v' w1 how1 hb1)
      go_roundw
      case rel =>
        refine ⟨m / 128, k + 1, ys ++ [m % 128 + 128], by omega, by omega, by go_num, how1, hb.trans (((Below.refl _ _).alloc (by omega) _).trans hb1), ?_, ?_⟩
        · have := HK.out; rw [HM.out] at this; simp at this; omega
        · have := HE.out; rw [HM.out] at this; simpa using this
      case measure => simp [intOf]; omega

/-- Each number's bytes, in order. -/
def encsZ (ns : List Int) : List Int := ns.flatMap encZ
theorem encsZ_len {ns : List Int} (h : IsU64s ns) : (encsZ ns).length ≤ 10 * ns.length := by
  induction ns with
  | nil => simp [encsZ]
  | cons x r ih =>
    have h1 := ih fun y hy => h y (by simp [hy])
    have h2 := (encZ_len (h x (by simp)).2).2
    unfold encsZ at *
    rw [List.flatMap_cons, List.length_append, List.length_cons]
    omega
theorem encsZ_bytes (ns : List Int) : IsBytes (encsZ ns) := by
  intro x hx
  obtain ⟨n, _, h⟩ := List.mem_flatMap.1 hx
  exact encZ_bytes n x h
theorem encsZ_snoc (ns : List Int) (k : Nat) (h : k < ns.length) : encsZ (ns.take (k + 1)) = encsZ (ns.take k) ++ encZ (ns[k]?.getD 0) := by
  unfold encsZ
  rw [List.take_succ_eq_append_getElem h, List.flatMap_append]
  simp [h]

set_option maxHeartbeats 1000000 in
theorem put_any (a : Option Addr) (len cap : Nat) (bs : List Int) (a2 : Option Addr) (l2 c2 : Nat) (ns : List Int) (w : World) (hr : Reads .u8 w a len cap bs) (hr2 : Reads .u64 w a2 l2 c2 ns) (hn : IsU64s ns) (hlen : len ≤ 100000) (hl2 : l2 ≤ 10000) :
    Calls Try.prog 24 #[.slice a len cap, .slice a2 l2 c2] w fun e w' => ∃ v', e = .returned v' ∧ w'.ownsRow w.heap.size 5 1 v' (len + (encsZ ns).length) ((bs ++ encsZ ns).map (Value.int .u8)) ∧ Below w.heap.size w w' := by
  obtain ⟨i0, hi, hz0, hz1, hz2⟩ := info_parts Try.info5
  have HL : Hid (ns.length = l2) := hr2.size
  go_enter Try.func24, Try.ntmps24
  go_wp2_with (at_builtin; refine append_any _ rfl (.const (.slice none 0 0)) (.tmp 8) 30 rfl w.heap.size 5 i0 (.int .u8 0) 1 Try.underlying30 hi hz0 hz1 hz2 rfl .u8 _ 0 [] rfl (World.ownsRow_nil _ _ _ _) a len cap bs rfl hr (by omega) (by omega) (by omega) ?_; intro v' w1 how1 hb1)
  have hr3 := hr2.below hb1
  rw [List.nil_append, Nat.zero_add] at how1
  go_loopw [5, 12] (fun u i wr => ∃ (k : Nat), k ≤ l2 ∧ i = .int .i64 k ∧ wr.ownsRow w.heap.size 5 1 u (len + (encsZ (ns.take k)).length) ((bs ++ encsZ (ns.take k)).map (Value.int .u8)) ∧ Below w.heap.size w wr) (fun _ i _ => l2 - (intOf i).toNat)
  case atStart => exact ⟨0, by omega, rfl, by simpa [encsZ] using how1, hb1⟩
  case round =>
    obtain ⟨k, hk, rfl, how, hb⟩ := hrel
    have hsz := hb.size
    by_cases hlt : k < l2
    · obtain ⟨b2, o2, rfl, hc0⟩ := hr2.cell k hlt
      have hc := (hb.cell (World.block_lt_of_cell? _ _ hc0)).trans hc0
      obtain ⟨n0, n1⟩ := hn.at k
      have HS : Hid (encsZ (ns.take (k + 1)) = encsZ (ns.take k) ++ encZ (ns[k]?.getD 0)) := encsZ_snoc ns k (by have := HL.out; omega)
      have hle : (encsZ (ns.take k)).length ≤ 10 * 10000 := by
        have := encsZ_len (ns := ns.take k) fun x hx => hn x (List.mem_of_mem_take hx)
        simp at this; omega
      have hA := appnum_any w.heap.size _ _ _ (ns[k]?.getD 0) wr how hsz (by omega) n0 n1
      clear hc0 hr hr2 hr3 hn how1 hb1
      generalize ns[k]?.getD 0 = x at *
      go_wp2_with fail
      refine hA.mono ?_
      rintro e w2 ⟨v2, rfl, how2, hb2⟩
      go_wp2_with fail
      go_roundw
      case rel => exact ⟨k + 1, by omega, by go_num, by rw [HS.out, List.length_append, ← Nat.add_assoc, ← List.append_assoc]; exact how2, hb.trans hb2⟩
      case measure => simp [intOf]; omega
    · have HT : Hid (ns.take k = ns) := List.take_of_length_le (by have := HL.out; omega)
      go_wp2
      go_ret
      exact ⟨_, rfl, by rw [HT.out] at how; exact how, hb⟩

end Go.Proofs.Ytlcfjhlchpeedaa
