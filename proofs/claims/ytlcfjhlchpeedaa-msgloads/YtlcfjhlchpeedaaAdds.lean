/-
  Contracts: crc.addByte hands back the register behind eight steps of it turned by the byte; crc.New the State of no bytes; State.Add and State.Sum the register behind more bytes, all bits turned; crc.Sum of parts, and the document's Sum of bytes, hand back crc of the bytes.
-/
import Derived.Test.YtlcfjhlchpeedaaReads
import Derived.Laws.Bits128
import Derived.Laws.BitsAllLaws
namespace Go.Proofs.Ytlcfjhlchpeedaa
open Go.RowKit
open M
set_option linter.unusedVariables false
set_option maxRecDepth 1000000

theorem hid {p : Prop} (h : p) : Hid p := h
theorem ret_int {k : IntKind} {a b : Int} (h : a = b) : Ending.returned (.int k a) = .returned (.int k b) := by rw [h]

/-- One step, of a whole number. -/
theorem stZ_even {m : Int} (h0 : 0 ≤ m) (h : m % 2 = 0) : m / 2 = (st m.toNat : Nat) := by rw [st_even (by omega)]; omega
theorem stZ_odd {m : Int} (h0 : 0 ≤ m) (h1 : m ≤ 4294967295) (h : m % 2 = 1) : bits .xor .u32 (m / 2) 3988292384 = (st m.toNat : Nat) := by
  rw [st_odd (by omega), u32_xor _ _ (by omega) (by omega) (by omega) (by omega)]
  congr 2
  omega

set_option maxHeartbeats 1000000 in
theorem addbyte_any (n c : Int) (w : World) (n0 : 0 ≤ n) (hn : n ≤ 4294967295) (c0 : 0 ≤ c) (hc : c ≤ 255) :
    Calls Try.prog 75 #[.int .u32 n, .int .u8 c] w fun e w' => e = .returned (.int .u32 (sts 8 (n.toNat ^^^ c.toNat) : Nat)) ∧ w' = w := by
  have HX : Hid (bits .xor .u32 n c = ((n.toNat ^^^ c.toNat : Nat) : Int)) := u32_xor _ _ n0 (by omega) c0 (by omega)
  have HB : Hid (n.toNat ^^^ c.toNat < 2 ^ 32) := Nat.xor_lt_two_pow (by omega) (by omega)
  go_enter Try.func75, Try.ntmps75
  go_wp2
  go_loop [0, 10] (fun v i => ∃ (m : Int) (k : Nat), 0 ≤ m ∧ m ≤ 4294967295 ∧ v = .int .u32 m ∧ i = .int .i64 k ∧ k ≤ 8 ∧ Hid (m = (sts k (n.toNat ^^^ c.toNat) : Nat))) (fun _ i => 8 - (intOf i).toNat)
  case atStart => exact ⟨_, 0, by rw [HX.out]; omega, by have := HB.out; rw [HX.out]; omega, rfl, rfl, by omega, HX.out⟩
  case round =>
    obtain ⟨m, k, m0, m1, rfl, rfl, hk, HM⟩ := hrel
    by_cases hlt : k < 8
    · have HS : Hid ((st m.toNat : Nat) = sts (k + 1) (n.toNat ^^^ c.toNat)) := by
        unfold Hid; rw [sts_last, HM.out]; simp
      have HL : Hid (sts (k + 1) (n.toNat ^^^ c.toNat) < 2 ^ 32) := sts_lt HB.out
      rcases (by omega : m % 2 = 0 ∨ m % 2 = 1) with h | h
      · have HE := hid (stZ_even m0 h)
        go_wp2
        go_round
        case rel => exact ⟨m / 2, k + 1, by omega, by omega, by go_num, by go_num, by omega, by unfold Hid; rw [HE.out, HS.out]⟩
        case measure => simp [intOf]; omega
      · have HE := hid (stZ_odd m0 m1 h)
        go_wp2
        go_round
        case rel => exact ⟨bits .xor .u32 (m / 2) 3988292384, k + 1, by rw [HE.out]; omega, by have := HL.out; rw [HE.out, HS.out]; omega, by go_num, by go_num, by omega, by unfold Hid; rw [HE.out, HS.out]⟩
        case measure => simp [intOf]; omega
    · obtain rfl : k = 8 := by omega
      go_wp2
      go_ret
      exact ⟨ret_int HM.out, rfl⟩

theorem reg_snoc (n : Nat) (xs : List Int) (x : Int) : reg n (xs ++ [x]) = sts 8 (reg n xs ^^^ x.toNat) := by rw [reg_append]; rfl
theorem take_snoc {zs : List Int} {k : Nat} (h : k < zs.length) : zs.take (k + 1) = zs.take k ++ [zs[k]?.getD 0] := by
  rw [List.take_succ_eq_append_getElem h]; simp [h]
theorem xor_FF {n : Nat} : n ^^^ FZ ^^^ FZ = n := by rw [Nat.xor_assoc, Nat.xor_self, Nat.xor_zero]

theorem new_any (w : World) : Calls Try.prog 71 #[] w fun e w' => e = .returned (.agg #[.int .u32 0]) ∧ Below w.heap.size w w' := by
  go_enter Try.func71, Try.ntmps71
  go_wp2
  exact bodyPost_ret (v := .agg #[.int .u32 0]) (by simp [results, Try.results71, go_sem]) rfl ⟨rfl, (Below.refl _ _).alloc (Nat.le_refl _) _⟩

theorem stsum_any (s : Int) (w : World) : Calls Try.prog 73 #[.agg #[.int .u32 s]] w fun e w' => e = .returned (.int .u32 s) ∧ Below w.heap.size w w' := by
  go_enter Try.func73, Try.ntmps73
  go_wp2
  go_ret
  exact ⟨rfl, (Below.refl _ _).alloc (Nat.le_refl _) _⟩

set_option maxHeartbeats 1000000 in
theorem add_any (xs : List Int) (s : Int) (a : Option Addr) (len cap : Nat) (zs : List Int) (w : World) (hs : s = (crc xs : Nat)) (hx : IsBytes xs) (hr : Reads .u8 w a len cap zs) (hz : IsBytes zs) (hlen : len ≤ 1000000) :
    Calls Try.prog 72 #[.agg #[.int .u32 s], .slice a len cap] w fun e w' => e = .returned (.agg #[.int .u32 (crc (xs ++ zs) : Nat)]) ∧ Below w.heap.size w w' := by
  have HL : Hid (zs.length = len) := hr.size
  have hlt : crc xs < 2 ^ 32 := crc_lt hx
  have s0 : 0 ≤ s := by omega
  have s1 : s ≤ 4294967295 := by omega
  have HF : Hid (bits .xor .u32 s 4294967295 = (reg FZ xs : Nat)) := by
    unfold Hid
    rw [u32_xor _ _ (by omega) (by omega) (by omega) (by omega), hs, Int.toNat_natCast, show (4294967295 : Int).toNat = FZ from rfl, crc, xor_FF]
  have HR : Hid (∀ k, reg FZ (xs ++ zs.take k) < 2 ^ 32) := fun k => reg_lt (by decide) (hx.append (hz.take k))
  have HN : Hid (reg FZ xs = reg FZ (xs ++ zs.take 0)) := by unfold Hid; simp
  have hb2 : Below w.heap.size w ((w.alloc (.cells #[.int .u32 s] 102)).alloc (.cells #[.int .u32 0] 102)) := ((Below.refl _ _).alloc (Nat.le_refl _) _).alloc (by simp) _
  have hr2 := hr.below hb2
  clear hr hlt hs
  go_enter Try.func72, Try.ntmps72
  go_wp2_with fail
  go_loop [5, 13] (fun v i => ∃ (n : Int) (k : Nat), 0 ≤ n ∧ n ≤ 4294967295 ∧ v = .int .u32 n ∧ i = .int .i64 k ∧ k ≤ len ∧ Hid (n = (reg FZ (xs ++ zs.take k) : Nat))) (fun _ i => len - (intOf i).toNat)
  case atStart => exact ⟨_, 0, by rw [HF.out]; omega, by have := HR.out 0; rw [HF.out, HN.out]; omega, rfl, rfl, by omega, by unfold Hid; rw [HF.out, HN.out]⟩
  case round =>
    obtain ⟨n, k, n0, n1, rfl, rfl, hk, HM⟩ := hrel
    by_cases hlt : k < len
    · obtain ⟨b, off, rfl, hc⟩ := hr2.cell k hlt
      obtain ⟨c0, c1⟩ := hz.at k
      have HS : Hid (sts 8 (n.toNat ^^^ (zs[k]?.getD 0).toNat) = reg FZ (xs ++ zs.take (k + 1))) := by
        unfold Hid
        rw [take_snoc (by have := HL.out; omega), ← List.append_assoc, reg_snoc, HM.out, Int.toNat_natCast]
      have hA := addbyte_any n (zs[k]?.getD 0) ((w.alloc (.cells #[.int .u32 s] 102)).alloc (.cells #[.int .u32 0] 102)) n0 n1 c0 c1
      have HB := hid (HR.out (k + 1))
      clear hr2 hz hx hb2
      generalize zs[k]?.getD 0 = c at *
      go_wp2_with fail
      refine hA.mono ?_
      rintro e w' ⟨rfl, rfl⟩
      go_wp2_with fail
      go_round
      case rel => exact ⟨_, k + 1, by omega, by have := HB.out; rw [HS.out]; omega, rfl, by go_num, by omega, by unfold Hid; rw [HS.out]⟩
      case measure => simp [intOf]; omega
    · have HE : Hid (bits .xor .u32 n 4294967295 = (crc (xs ++ zs) : Nat)) := by
        unfold Hid
        rw [u32_xor _ _ (by omega) (by omega) (by omega) (by omega), HM.out, Int.toNat_natCast, show (4294967295 : Int).toNat = FZ from rfl, crc, List.take_of_length_le (by have := HL.out; omega)]
      clear hr2 hz hx
      go_wp2
      refine bodyPost_ret (v := .agg #[.int .u32 (bits .xor .u32 n 4294967295)]) (by simp [results, Try.results72, go_sem]) rfl ⟨?_, ?_⟩
      · rw [HE.out]
      · exact ((Below.refl _ _).alloc (Nat.le_refl _) _).alloc (by simp) _

end Go.Proofs.Ytlcfjhlchpeedaa
