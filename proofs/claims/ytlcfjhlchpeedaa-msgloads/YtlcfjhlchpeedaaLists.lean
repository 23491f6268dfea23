/-
  Contracts: varint.PutBytes hands back the bytes handed in, how many p has as a number, and p; varint.GetBytes, where a number is got that is no more than most and than what follows, hands back so many bytes; varint.All, of bytes that are all got, hands back numbers whose bytes these are. All lies in memory of the call's own, and nothing that was there turns.
-/
import Derived.Test.YtlcfjhlchpeedaaPuts
import Derived.Test.YtlcfjhlchpeedaaOpens
namespace Go.Proofs.Ytlcfjhlchpeedaa
open Go.RowKit
open M
set_option linter.unusedVariables false
set_option maxRecDepth 1000000

set_option maxHeartbeats 1000000 in
theorem putbytes_any (a : Option Addr) (len cap : Nat) (bs : List Int) (a2 : Option Addr) (l2 c2 : Nat) (ps : List Int) (w : World) (hr : Reads .u8 w a len cap bs) (hr2 : Reads .u8 w a2 l2 c2 ps) (hlen : len ≤ 10000) (hl2 : l2 ≤ 10000) :
    Calls Try.prog 51 #[.slice a len cap, .slice a2 l2 c2] w fun e w' => ∃ v', e = .returned v' ∧ w'.ownsRow w.heap.size 5 1 v' (len + (encsZ [(l2 : Int)]).length + l2) ((bs ++ encsZ [(l2 : Int)] ++ ps).map (Value.int .u8)) ∧ Below w.heap.size w w' := by
  obtain ⟨i0, hi, hz0, hz1, hz2⟩ := info_parts Try.info5
  have hb0 : Below w.heap.size w (w.alloc (.cells #[.int .u64 l2] 22)) := (Below.refl _ _).alloc (Nat.le_refl _) _
  have hP := put_any a len cap bs (some ⟨w.heap.size, 0, none⟩) 1 1 [(l2 : Int)] (w.alloc (.cells #[.int .u64 l2] 22)) (hr.below hb0) (Reads.one _ _ _) (by intro x hx; simp at hx; omega) (by omega) (by omega)
  have h10 : (encsZ [(l2 : Int)]).length ≤ 10 := encsZ_len (ns := [(l2 : Int)]) (by intro x hx; simp at hx; omega)
  have hb0' : Below w.heap.size w (w.alloc (.cells #[.int .u64 l2] 22)) := hb0
  clear hr
  go_enter Try.func51, Try.ntmps51
  go_wp2_with fail
  refine hP.mono ?_
  rintro e w1 ⟨v1, rfl, how1, hb1⟩
  have how : w1.ownsRow w.heap.size 5 1 v1 (len + (encsZ [(l2 : Int)]).length) ((bs ++ encsZ [(l2 : Int)]).map (Value.int .u8)) := own_base how1 (by simp)
  have hbw : Below w.heap.size w w1 := hb0.trans (hb1.mono (by simp))
  have hr3 := hr2.below hbw
  have hsz := hbw.size
  clear hP how1 hb1 hb0 hb0' hr2
  go_wp2_with (at_builtin; refine append_any _ rfl (.tmp 10) (.tmp 11) 30 rfl w.heap.size 5 i0 (.int .u8 0) 1 Try.underlying30 hi hz0 hz1 hz2 rfl .u8 _ _ _ rfl how a2 l2 c2 ps rfl hr3 (by omega) (by omega) (by omega) ?_; intro v4 w4 how4 hb4)
  go_ret
  exact ⟨_, rfl, how4, hbw.trans hb4⟩

theorem Reads.void {k : IntKind} {w : World} {b off c : Nat} (hc : c ≤ 9223372036854775807) : Reads k w (some ⟨b, off, none⟩) 0 c [] :=
  ⟨rfl, Nat.zero_le _, hc, (fun e => by cases e), fun i hi => by omega⟩

set_option maxHeartbeats 1000000 in
theorem getbytes_ok (a : Option Addr) (len cap : Nat) (zs : List Int) (N K M : Nat) (w : World) (hr : Reads .u8 w a len cap zs) (hz : IsBytes zs) (hlen : len ≤ 100000) (hg : getF zs 0 0 = ((N : Int), (K : Int), 0)) (hM : N ≤ M) (hM2 : M ≤ 100000) (hK : K + N ≤ len) (hK0 : 0 < K) :
    Calls Try.prog 68 #[.slice a len cap, .int .i64 M] w fun e w' => ∃ v', e = .returned (.tuple #[v', .int .i64 (K + N : Nat), .int .i64 0]) ∧ w'.ownsRow w.heap.size 5 1 v' N (((zs.drop K).take N).map (Value.int .u8)) ∧ Below w.heap.size w w' := by
  obtain ⟨i0, hi, hz0, hz1, hz2⟩ := info_parts Try.info5
  have hG := get_any a len cap zs w hr hz (by omega)
  rw [gotV_of hg] at hG
  obtain ⟨b, off, rfl, _⟩ := hr.cell 0 (by omega)
  have hrm := hr.room
  have hmo := hr.most
  clear hg hz
  by_cases hc : cap = K
  · have hN : N = 0 := by omega
    subst hN hc
    have hp : Reads .u8 w (some ⟨b, off, none⟩) 0 0 [] := Reads.void (by omega)
    clear hr
    go_enter Try.func68, Try.ntmps68
    go_wp2_with fail
    refine hG.mono ?_
    rintro e w' ⟨rfl, rfl⟩
    go_wp2_with (at_builtin; refine append_any _ rfl (.const (.slice none 0 0)) (.tmp 42) 30 rfl w'.heap.size 5 i0 (.int .u8 0) 1 Try.underlying30 hi hz0 hz1 hz2 rfl .u8 _ 0 [] rfl (World.ownsRow_nil _ _ _ _) _ _ _ [] rfl hp (by omega) (by omega) (by omega) ?_; intro v4 w4 how4 hb4)
    go_ret3
    exact ⟨_, by simp; rfl, by simpa using how4, hb4⟩
  · have hp := hr.part hK hc
    have hp' : Reads .u8 w (some ⟨b, off + K, none⟩) (K + N - K) (cap - K) ((zs.drop K).take N) := by rw [Nat.add_sub_cancel_left]; exact hp
    clear hp
    clear hr
    go_enter Try.func68, Try.ntmps68
    go_wp2_with fail
    refine hG.mono ?_
    rintro e w' ⟨rfl, rfl⟩
    go_wp2_with (at_builtin; refine append_any _ rfl (.const (.slice none 0 0)) (.tmp 42) 30 rfl w'.heap.size 5 i0 (.int .u8 0) 1 Try.underlying30 hi hz0 hz1 hz2 rfl .u8 _ 0 [] rfl (World.ownsRow_nil _ _ _ _) _ _ _ ((zs.drop K).take N) rfl hp' (by omega) (by omega) (by omega) ?_; intro v4 w4 how4 hb4)
    go_ret3
    exact ⟨_, by simp; rfl, by simpa using how4, hb4⟩

theorem encsZ_one (n : Int) : encsZ [n] = encZ n := by unfold encsZ; simp
theorem got_back (rest : List Int) {n : Int} (h0 : 0 ≤ n) (h1 : n ≤ 18446744073709551615) : getF (encZ n ++ rest) 0 0 = (n, ((encZ n).length : Int), 0) := by
  have := getF_back rest n.toNat 0 0 (by omega) (by omega) (by rw [Int.pow_zero, Int.mul_one]; omega)
  rw [Int.toNat_of_nonneg h0] at this
  unfold encZ
  rw [this]
  simp

/-- With an error all else is 0. -/
theorem getF_err : ∀ (zs : List Int) (i : Nat) (n : Int), (getF zs i n).2.2 ≠ 0 → (getF zs i n).1 = 0 ∧ (getF zs i n).2.1 = 0
  | [], i, n, h => by simp [getF]
  | c :: r, i, n, h => by
    rw [getF] at h ⊢
    split at h
    · rename_i hb; rw [if_pos hb]; simp
    · rename_i hb
      rw [if_neg hb]
      split at h
      · simp at h
      · rename_i hc
        rw [if_neg hc]
        exact getF_err r (i + 1) _ h

end Go.Proofs.Ytlcfjhlchpeedaa
