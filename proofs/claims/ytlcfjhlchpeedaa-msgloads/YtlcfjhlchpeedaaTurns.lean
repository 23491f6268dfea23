/-
  Mathematics: bytes of which a bit is turned (turnL), and of which a burst is turned (burstL), are, as one number, turned by m * 2 ^ a, where m has at most 32 bits.
-/
import Derived.Test.YtlcfjhlchpeedaaReads
namespace Go.Proofs.Ytlcfjhlchpeedaa
open Go.RowKit
open M
set_option linter.unusedVariables false
set_option maxRecDepth 1000000

/-- The bytes, of which a bit is turned, if it is one of theirs. -/
def turnL (zs : List Int) (p : Int) : List Int :=
  if 0 ≤ p ∧ p / 8 < zs.length then zs.set (p / 8).toNat (((zs[(p / 8).toNat]?.getD 0).toNat ^^^ 2 ^ (p % 8).toNat : Nat) : Int) else zs
theorem turnL_out {zs : List Int} {p : Int} (h : ¬ (0 ≤ p ∧ p / 8 < zs.length)) : turnL zs p = zs := by rw [turnL, if_neg h]
theorem turnL_len (zs : List Int) (p : Int) : (turnL zs p).length = zs.length := by
  unfold turnL; split <;> simp
theorem turnL_bytes {zs : List Int} (h : IsBytes zs) (p : Int) : IsBytes (turnL zs p) := by
  unfold turnL
  split
  · intro x hx
    rcases List.mem_or_eq_of_mem_set hx with hm | rfl
    · exact h x hm
    · have h1 := h.at (p / 8).toNat
      have h2 : (2 : Nat) ^ (p % 8).toNat < 2 ^ 8 := Nat.pow_lt_pow_right (by omega) (by omega)
      have := Nat.xor_lt_two_pow (n := 8) (x := (zs[(p / 8).toNat]?.getD 0).toNat) (y := 2 ^ (p % 8).toNat) (by omega) h2
      omega
  · exact h

theorem val_set : ∀ (zs : List Int) (i d : Nat), i < zs.length → val (zs.set i (((zs[i]?.getD 0).toNat ^^^ d : Nat) : Int)) = val zs ^^^ (256 ^ i * d)
  | [], i, d, h => by simp at h
  | c :: r, 0, d, h => by
    simp only [List.set_cons_zero, val, Nat.pow_zero, Nat.one_mul, List.getElem?_cons_zero, Option.getD_some, Int.toNat_natCast]
    rw [Nat.xor_assoc, Nat.xor_comm d, ← Nat.xor_assoc]
  | c :: r, i + 1, d, h => by
    simp only [List.set_cons_succ, val, List.getElem?_cons_succ]
    rw [val_set r i d (by simpa using h), mul256_xor, ← Nat.xor_assoc, Nat.pow_succ, Nat.mul_comm (256 ^ i) 256, Nat.mul_assoc]

theorem val_turn {zs : List Int} {p : Int} (h : 0 ≤ p ∧ p / 8 < zs.length) : val (turnL zs p) = val zs ^^^ 2 ^ p.toNat := by
  rw [turnL, if_pos h, val_set _ _ _ (by omega)]
  congr 1
  rw [show (256 : Nat) = 2 ^ 8 from rfl, ← Nat.pow_mul, ← Nat.pow_add]
  congr 1
  omega

/-- The bytes, of which the first k bits of a burst are turned. -/
def burstL (zs : List Int) (p mask : Int) : Nat → List Int
  | 0 => zs
  | k + 1 => if mask / 2 ^ k % 2 = 1 then turnL (burstL zs p mask k) (p + k) else burstL zs p mask k

theorem burstL_len (zs : List Int) (p mask : Int) (k : Nat) : (burstL zs p mask k).length = zs.length := by
  induction k with
  | zero => rfl
  | succ k ih =>
    unfold burstL
    split
    · rw [turnL_len, ih]
    · exact ih
theorem burstL_bytes {zs : List Int} (h : IsBytes zs) (p mask : Int) (k : Nat) : IsBytes (burstL zs p mask k) := by
  induction k with
  | zero => exact h
  | succ k ih =>
    unfold burstL
    split
    · exact turnL_bytes ih _
    · exact ih

/-- A burst is a window of at most 32 bits. -/
theorem val_burst (zs : List Int) (p mask : Int) (k : Nat) (hk : k ≤ 32) : ∃ m : Nat, m < 2 ^ 32 ∧ val (burstL zs p mask k) = val zs ^^^ (2 ^ p.toNat * m) := by
  induction k with
  | zero => exact ⟨0, by omega, by simp [burstL]⟩
  | succ k ih =>
    obtain ⟨m, hm, hv⟩ := ih (by omega)
    unfold burstL
    split
    · by_cases h : 0 ≤ p + k ∧ (p + k) / 8 < (burstL zs p mask k).length
      · refine ⟨m ^^^ 2 ^ ((p + k).toNat - p.toNat), Nat.xor_lt_two_pow hm (Nat.pow_lt_pow_right (by omega) (by omega)), ?_⟩
        rw [val_turn h, hv, mulpow_xor, Nat.xor_assoc]
        congr 2
        rw [← Nat.pow_add]
        congr 1
        omega
      · exact ⟨m, hm, by rw [turnL_out h, hv]⟩
    · exact ⟨m, hm, hv⟩

/-- A sealed text that a burst turned is not sealed. -/
theorem burst_open {zs : List Int} (hz : IsBytes zs) (hs : Sealed zs) (p mask : Int) (hne : burstL zs p mask 32 ≠ zs) : ¬ Sealed (burstL zs p mask 32) := by
  obtain ⟨m, hm, hv⟩ := val_burst zs p mask 32 (Nat.le_refl _)
  exact sealed_turned hz (burstL_bytes hz _ _ _) (burstL_len _ _ _ _) hs hm hv hne

end Go.Proofs.Ytlcfjhlchpeedaa
