/-
  Contracts: varint.PutBytes hands back the bytes handed in, how many p has as a number, and p; varint.GetBytes, where a number is got that is no more than most and than what follows, hands back so many bytes; varint.All, of bytes that are all got, hands back numbers whose bytes these are. All lies in memory of the call's own, and nothing that was there turns.
-/
import Derived.Test.YtmpfminflcdheaaFolds
namespace Go.Proofs.Ytmpfminflcdheaa
open Go.RowKit
open M
set_option linter.unusedVariables false

theorem own_base {w : World} {B B' e n : Nat} {v : Value} {xs : List Value} (h : w.ownsRow B' e 1 v n xs) (hB : B ≤ B') : w.ownsRow B e 1 v n xs :=
  ⟨h.1, h.2.imp id fun ⟨g, cap, cur, hv, hb, r⟩ => ⟨g, cap, cur, hv, Nat.le_trans hB hb, r⟩⟩

set_option maxHeartbeats 1000000 in
theorem putbytes_any (a : Option Addr) (len cap : Nat) (bs : List Int) (a2 : Option Addr) (l2 c2 : Nat) (ps : List Int) (w : World) (hr : Reads .u8 w a len cap bs) (hr2 : Reads .u8 w a2 l2 c2 ps) (hlen : len ≤ 10000) (hl2 : l2 ≤ 10000) :
    Calls Try.prog 19 #[.slice a len cap, .slice a2 l2 c2] w fun e w' => ∃ v', e = .returned v' ∧ w'.ownsRow w.heap.size 5 1 v' (len + (encsZ [(l2 : Int)]).length + l2) ((bs ++ encsZ [(l2 : Int)] ++ ps).map (Value.int .u8)) ∧ Below w.heap.size w w' := by
  obtain ⟨i0, hi, hz0, hz1, hz2⟩ := info_parts Try.info5
  have hb0 : Below w.heap.size w (w.alloc (.cells #[.int .u64 l2] 26)) := (Below.refl _ _).alloc (Nat.le_refl _) _
  have hP := put_any a len cap bs (some ⟨w.heap.size, 0, none⟩) 1 1 [(l2 : Int)] (w.alloc (.cells #[.int .u64 l2] 26)) (hr.below hb0) (Reads.one _ _ _) (by intro x hx; simp at hx; omega) (by omega) (by omega)
  have h10 : (encsZ [(l2 : Int)]).length ≤ 10 := encsZ_len (ns := [(l2 : Int)]) (by intro x hx; simp at hx; omega)
  have hb0' : Below w.heap.size w (w.alloc (.cells #[.int .u64 l2] 26)) := hb0
  clear hr
  go_enter Try.func19, Try.ntmps19
  go_wp2_with fail
  refine hP.mono ?_
  rintro e w1 ⟨v1, rfl, how1, hb1⟩
  have how : w1.ownsRow w.heap.size 5 1 v1 (len + (encsZ [(l2 : Int)]).length) ((bs ++ encsZ [(l2 : Int)]).map (Value.int .u8)) := own_base how1 (by simp)
  have hbw : Below w.heap.size w w1 := hb0.trans (hb1.mono (by simp))
  have hr3 := hr2.below hbw
  have hsz := hbw.size
  clear hP how1 hb1 hb0 hb0' hr2
  go_wp2_with (at_builtin; refine append_any _ rfl (.tmp 10) (.tmp 11) 22 rfl w.heap.size 5 i0 (.int .u8 0) 1 Try.underlying22 hi hz0 hz1 hz2 rfl .u8 _ _ _ rfl how a2 l2 c2 ps rfl hr3 (by omega) (by omega) (by omega) ?_; intro v4 w4 how4 hb4)
  go_ret
  exact ⟨_, rfl, how4, hbw.trans hb4⟩

/-- A part of the slice, as Go cuts it: at the capacity's end the address stays. -/
theorem Reads.part {k : IntKind} {w : World} {b off len cap : Nat} {zs : List Int} (h : Reads k w (some ⟨b, off, none⟩) len cap zs) {p n : Nat} (hp : p + n ≤ len) (hc : ¬ cap = p) :
    Reads k w (some ⟨b, off + p, none⟩) n (cap - p) ((zs.drop p).take n) :=
  ⟨by rw [List.length_take, List.length_drop, h.size]; omega, (by have := h.room; omega), (by have := h.most; omega), (fun e => by cases e), fun i hi => by
    obtain ⟨b', off', ha, hc⟩ := h.cell (p + i) (by omega)
    cases ha
    exact ⟨b, off + p, rfl, by rw [Nat.add_assoc, hc, List.getElem?_take_of_lt hi, List.getElem?_drop]⟩⟩
theorem Reads.void {k : IntKind} {w : World} {b off c : Nat} (hc : c ≤ 9223372036854775807) : Reads k w (some ⟨b, off, none⟩) 0 c [] :=
  ⟨rfl, Nat.zero_le _, hc, (fun e => by cases e), fun i hi => by omega⟩

set_option maxHeartbeats 1000000 in
theorem getbytes_ok (a : Option Addr) (len cap : Nat) (zs : List Int) (N K M : Nat) (w : World) (hr : Reads .u8 w a len cap zs) (hz : IsBytes zs) (hlen : len ≤ 100000) (hg : getF zs 0 0 = ((N : Int), (K : Int), 0)) (hM : N ≤ M) (hM2 : M ≤ 100000) (hK : K + N ≤ len) (hK0 : 0 < K) :
    Calls Try.prog 20 #[.slice a len cap, .int .i64 M] w fun e w' => ∃ v', e = .returned (.tuple #[v', .int .i64 (K + N : Nat), .int .i64 0]) ∧ w'.ownsRow w.heap.size 5 1 v' N (((zs.drop K).take N).map (Value.int .u8)) ∧ Below w.heap.size w w' := by
  obtain ⟨i0, hi, hz0, hz1, hz2⟩ := info_parts Try.info5
  have hG := get_any a len cap zs w hr hz (by omega)
  rw [gotV_of hg] at hG
  obtain ⟨b, off, rfl, _⟩ := hr.cell 0 (by omega)
  have hrm := hr.room
  have hmo := hr.most
  clear hg hz
  by_cases hc : cap = K
  · have hN : N = 0 := by omega
    subst hN hc
    have hp : Reads .u8 w (some ⟨b, off, none⟩) 0 0 [] := Reads.void (by omega)
    clear hr
    go_enter Try.func20, Try.ntmps20
    go_wp2_with fail
    refine hG.mono ?_
    rintro e w' ⟨rfl, rfl⟩
    go_wp2_with (at_builtin; refine append_any _ rfl (.const (.slice none 0 0)) (.tmp 42) 22 rfl w'.heap.size 5 i0 (.int .u8 0) 1 Try.underlying22 hi hz0 hz1 hz2 rfl .u8 _ 0 [] rfl (World.ownsRow_nil _ _ _ _) _ _ _ [] rfl hp (by omega) (by omega) (by omega) ?_; intro v4 w4 how4 hb4)
    go_ret3
    exact ⟨_, by simp; rfl, by simpa using how4, hb4⟩
  · have hp := hr.part hK hc
    have hp' : Reads .u8 w (some ⟨b, off + K, none⟩) (K + N - K) (cap - K) ((zs.drop K).take N) := by rw [Nat.add_sub_cancel_left]; exact hp
    clear hp
    clear hr
    go_enter Try.func20, Try.ntmps20
    go_wp2_with fail
    refine hG.mono ?_
    rintro e w' ⟨rfl, rfl⟩
    go_wp2_with (at_builtin; refine append_any _ rfl (.const (.slice none 0 0)) (.tmp 42) 22 rfl w'.heap.size 5 i0 (.int .u8 0) 1 Try.underlying22 hi hz0 hz1 hz2 rfl .u8 _ 0 [] rfl (World.ownsRow_nil _ _ _ _) _ _ _ ((zs.drop K).take N) rfl hp' (by omega) (by omega) (by omega) ?_; intro v4 w4 how4 hb4)
    go_ret3
    exact ⟨_, by simp; rfl, by simpa using how4, hb4⟩

set_option maxHeartbeats 1000000 in
theorem all_ok (a : Option Addr) (len cap : Nat) (zs : List Int) (w : World) (hr : Reads .u8 w a len cap zs) (hz : IsBytes zs) (hlen : len ≤ 100000) :
    Calls Try.prog 21 #[.slice a len cap, .int .i64 len] w fun e w' => ∃ (v : Value) (f : Int), e = .returned (.tuple #[v, .int .i64 f]) ∧ Below w.heap.size w w' ∧
      (f ≠ 0 ∨ ∃ ns : List Int, f = 0 ∧ IsU64s ns ∧ ns.length ≤ len ∧ w'.ownsRow w.heap.size 26 1 v ns.length (ns.map (Value.int .u64)) ∧ encsZ ns = zs) := by
  obtain ⟨i0, hi, hz0, hz1, hz2⟩ := info_parts Try.info26
  have HL : Hid (zs.length = len) := hr.size
  have hrm := hr.room
  have hmo := hr.most
  go_enter Try.func21, Try.ntmps21
  go_wp2_with fail
  go_loopw [6, 7] (fun u i wr => ∃ (pos : Nat) (ns : List Int) (ao : Option Addr) (cu : Nat), pos ≤ len ∧ i = .int .i64 pos ∧ u = .slice ao ns.length cu ∧ wr.ownsRow w.heap.size 26 1 (.slice ao ns.length cu) ns.length (ns.map (Value.int .u64)) ∧ Below w.heap.size w wr ∧ ns.length ≤ pos ∧ Hid (encsZ ns = zs.take pos) ∧ IsU64s ns) (fun _ i _ => len - (intOf i).toNat)
  case atStart => exact ⟨0, [], none, 0, by omega, rfl, rfl, World.ownsRow_nil _ _ _ _, Below.refl _ _, by simp, by unfold Hid; simp [encsZ], by intro x hx; simp at hx⟩
  case round =>
    obtain ⟨pos, ns, ao, cu, hp, rfl, rfl, how, hb, hnp, HE, hns⟩ := hrel
    have hsz := hb.size
    by_cases hlt : pos < len
    · obtain ⟨b, off, rfl, _⟩ := hr.cell 0 (by omega)
      have hcp : ¬ cap = pos := by omega
      have hG := get_any _ _ _ _ wr ((hr.below hb).tail hlt) (hz.drop pos) (by omega)
      have hbd := getF_bd (zs.drop pos) 0 0 (by omega) (by omega) (by simp) (hz.drop pos)
      have HO : Hid ((getF (zs.drop pos) 0 0).2.2 = 0 → _) := fun h => getF_once (zs.drop pos) 0 0 (by omega) (hz.drop pos) h
      unfold gotV at hG
      generalize getF (zs.drop pos) 0 0 = G at *
      obtain ⟨m, k, f⟩ := G
      simp only at hG hbd HO
      obtain ⟨m0, m1⟩ := hbd
      by_cases hf : f = 0
      · obtain ⟨q, h1, h2, h3, _⟩ := HO.out hf
        have hmq : m = q := by simpa using h1
        have hqe : encZ m = enc q := by unfold encZ; rw [hmq]; simp
        rw [← hqe] at h2 h3
        obtain ⟨l1, l2⟩ := encZ_len m1
        have hle : pos + (encZ m).length ≤ len := by
          have := congrArg List.length h3
          simp [HL.out] at this
          omega
        have HE2 : Hid (encsZ (ns ++ [m]) = zs.take (pos + (encZ m).length)) := by
          unfold Hid
          have e1 : encsZ (ns ++ [m]) = encsZ ns ++ encZ m := by unfold encsZ; simp
          rw [e1, HE.out, List.take_add, h3]
        have hkk : k = ((encZ m).length : Nat) := by omega
        have hns2 : IsU64s (ns ++ [m]) := by
          intro x hx
          rcases List.mem_append.1 hx with h | h
          · exact hns x h
          · simp at h; omega
        have HN2 := hid hns2
        subst hf hkk
        clear h1 h2 h3 hmq hqe HO HE hr hz hns hns2
        generalize (encZ m).length = j at *
        go_wp2_with fail
        refine hG.mono ?_
        rintro e w2 ⟨rfl, rfl⟩
        go_wp2_with (at_builtin; refine append_any _ rfl (.tmp 32) (.tmp 34) 23 rfl w.heap.size 26 i0 (.int .u64 0) 8 Try.underlying23 hi hz0 hz1 hz2 rfl .u64 _ _ _ rfl (how.alloc _) _ 1 1 [m] rfl (Reads.one _ _ _) (by omega) (by omega) (by simp; omega) ?_; intro v4 w4 how4 hb4)
        obtain ⟨a4, c4, rfl, _⟩ := Reads.own how4
        go_wp2_with fail
        go_roundw
        case rel => exact ⟨pos + j, ns ++ [m], a4, c4, by omega, by go_num, by simp, by simpa using how4, hb.trans (((Below.refl _ _).alloc (by omega) _).trans hb4), by simp; omega, HE2, HN2.out⟩
        case measure => simp [intOf]; omega
      · clear HO HE hr hz hns how
        go_wp2_with fail
        refine hG.mono ?_
        rintro e w2 ⟨rfl, rfl⟩
        go_wp2
        go_ret2
        exact ⟨_, _, rfl, hb, .inl hf⟩
    · have HT : Hid (encsZ ns = zs) := by
        have := HE.out
        rwa [List.take_of_length_le (by have := HL.out; omega)] at this
      clear hr hz HE
      go_wp2
      go_ret2
      exact ⟨_, _, rfl, hb, .inr ⟨ns, rfl, hns, by omega, how, HT.out⟩⟩

theorem encsZ_one (n : Int) : encsZ [n] = encZ n := by unfold encsZ; simp
theorem got_back (rest : List Int) {n : Int} (h0 : 0 ≤ n) (h1 : n ≤ 18446744073709551615) : getF (encZ n ++ rest) 0 0 = (n, ((encZ n).length : Int), 0) := by
  have := getF_back rest n.toNat 0 0 (by omega) (by omega) (by rw [Int.pow_zero, Int.mul_one]; omega)
  rw [Int.toNat_of_nonneg h0] at this
  unfold encZ
  rw [this]
  simp

/-- With an error all else is 0. -/
theorem getF_err : ∀ (zs : List Int) (i : Nat) (n : Int), (getF zs i n).2.2 ≠ 0 → (getF zs i n).1 = 0 ∧ (getF zs i n).2.1 = 0
  | [], i, n, h => by simp [getF]
  | c :: r, i, n, h => by
    rw [getF] at h ⊢
    split at h
    · rename_i hb; rw [if_pos hb]; simp
    · rename_i hb
      rw [if_neg hb]
      split at h
      · simp at h
      · rename_i hc
        rw [if_neg hc]
        exact getF_err r (i + 1) _ h

/-- The first bytes of the slice. -/
theorem Reads.head {k : IntKind} {w : World} {a : Option Addr} {len cap : Nat} {zs : List Int} (h : Reads k w a len cap zs) {p : Nat} (hp : p ≤ len) (ha : a ≠ none) : Reads k w a p cap (zs.take p) :=
  ⟨by rw [List.length_take, h.size]; omega, (by have := h.room; omega), h.most, (fun e => absurd e ha), fun i hi => by
    obtain ⟨b, off, ha, hc⟩ := h.cell i (by omega)
    exact ⟨b, off, ha, by rw [hc, List.getElem?_take_of_lt hi]⟩⟩

end Go.Proofs.Ytmpfminflcdheaa
