/-
  Mathematics alone: a number's bytes (enc), the number that bytes begin with (getF), and that each undoes the other.
-/
import Derived.WalkKit
namespace Go.Proofs.Ytdchoegaindnbaa
set_option linter.unusedVariables false

/-- A number's bytes: sevens of bits, the lowest first; 128 is added where more follow. -/
def enc (n : Nat) : List Int := if h : n < 128 then [(n : Int)] else ((n % 128 + 128 : Nat) : Int) :: enc (n / 128)
termination_by n
decreasing_by omega

theorem enc_small {n : Nat} (h : n < 128) : enc n = [(n : Int)] := by rw [enc]; simp [h]
theorem enc_big {n : Nat} (h : 128 ≤ n) : enc n = ((n % 128 + 128 : Nat) : Int) :: enc (n / 128) := by rw [enc]; simp [show ¬ n < 128 by omega]

theorem enc_len : ∀ (k n : Nat), n < 128 ^ (k + 1) → 1 ≤ (enc n).length ∧ (enc n).length ≤ k + 1
  | 0, n, h => by
    rw [enc_small (by simpa using h)]
    simp
  | k + 1, n, h => by
    by_cases hs : n < 128
    · rw [enc_small hs]; simp
    · rw [enc_big (by omega)]
      have h' : n / 128 < 128 ^ (k + 1) := Nat.div_lt_of_lt_mul (by rw [Nat.pow_succ] at h; omega)
      have := enc_len k (n / 128) h'
      simp only [List.length_cons]
      omega

theorem enc_len64 {n : Nat} (h : n < 18446744073709551616) : 1 ≤ (enc n).length ∧ (enc n).length ≤ 10 :=
  enc_len 9 n (Nat.lt_of_lt_of_le h (by decide))

theorem enc_byte (n : Nat) : ∀ x ∈ enc n, 0 ≤ x ∧ x ≤ 255 := by
  induction n using Nat.strongRecOn with
  | _ n ih =>
    intro x hx
    by_cases hs : n < 128
    · rw [enc_small hs] at hx; simp at hx; omega
    · rw [enc_big (by omega)] at hx
      rcases List.mem_cons.1 hx with rfl | h
      · omega
      · exact ih (n / 128) (by omega) x h

/-- Each number's bytes, in order. -/
def encs (ns : List Nat) : List Int := ns.flatMap enc

/-- The number that bytes begin with, how many bytes it has, and the error; i bytes are behind, and n is what they told. -/
def getF : List Int → Nat → Int → Int × Int × Int
  | [], _, _ => (0, 0, 4)
  | c :: r, i, n =>
    if (0 < i ∧ c = 0) ∨ (i = 9 ∧ 1 < c) then (0, 0, 3)
    else if c < 128 then (n + c * 128 ^ i, (i : Int) + 1, 0)
    else getF r (i + 1) (n + (c - 128) * 128 ^ i)

theorem drop_at (zs : List Int) (k : Nat) (h : k < zs.length) : zs.drop k = zs[k]?.getD 0 :: zs.drop (k + 1) := by
  rw [List.drop_eq_getElem_cons h]; simp [h]

theorem getF_bad (zs : List Int) (k : Nat) (n : Int) (h : k < zs.length) (hb : (0 < k ∧ zs[k]?.getD 0 = 0) ∨ (k = 9 ∧ 1 < zs[k]?.getD 0)) : getF (zs.drop k) k n = (0, 0, 3) := by
  rw [drop_at zs k h, getF, if_pos hb]
theorem getF_end (zs : List Int) (k : Nat) (n : Int) (h : k < zs.length) (hb : ¬ ((0 < k ∧ zs[k]?.getD 0 = 0) ∨ (k = 9 ∧ 1 < zs[k]?.getD 0))) (hc : zs[k]?.getD 0 < 128) :
    getF (zs.drop k) k n = (n + zs[k]?.getD 0 * 128 ^ k, (k : Int) + 1, 0) := by
  rw [drop_at zs k h, getF, if_neg hb, if_pos hc]
theorem getF_more (zs : List Int) (k : Nat) (n : Int) (h : k < zs.length) (hb : ¬ ((0 < k ∧ zs[k]?.getD 0 = 0) ∨ (k = 9 ∧ 1 < zs[k]?.getD 0))) (hc : ¬ zs[k]?.getD 0 < 128) :
    getF (zs.drop k) k n = getF (zs.drop (k + 1)) (k + 1) (n + (zs[k]?.getD 0 - 128) * 128 ^ k) := by
  rw [drop_at zs k h, getF, if_neg hb, if_neg hc]

theorem pow_le9 {k : Nat} (h : k ≤ 9) : (1 : Int) ≤ 128 ^ k ∧ (128 : Int) ^ k ≤ 9223372036854775808 := by
  rcases (by omega : k = 0 ∨ k = 1 ∨ k = 2 ∨ k = 3 ∨ k = 4 ∨ k = 5 ∨ k = 6 ∨ k = 7 ∨ k = 8 ∨ k = 9) with rfl | rfl | rfl | rfl | rfl | rfl | rfl | rfl | rfl | rfl <;> decide

/-- What a good byte makes of the number so far: it stays below the next unit; it fits 64 bits. -/
theorem step_bd {k : Nat} {n d : Int} (hk : k ≤ 9) (h0 : 0 ≤ n) (hn : n < 128 ^ k) (d0 : 0 ≤ d) (d1 : d ≤ 127) (h9 : k = 9 → d ≤ 1) :
    0 ≤ n + d * 128 ^ k ∧ n + d * 128 ^ k < 128 ^ (k + 1) ∧ n + d * 128 ^ k ≤ 18446744073709551615 := by
  have h9' : k ≤ 8 ∨ d ≤ 1 := by omega
  clear h9
  rcases (by omega : k = 0 ∨ k = 1 ∨ k = 2 ∨ k = 3 ∨ k = 4 ∨ k = 5 ∨ k = 6 ∨ k = 7 ∨ k = 8 ∨ k = 9) with rfl | rfl | rfl | rfl | rfl | rfl | rfl | rfl | rfl | rfl <;> simp only [Nat.reduceAdd, Int.reducePow, Int.pow_zero] at * <;> omega

/-- What is got fits 64 bits; how many bytes it has is no more than there are; or all is 0, with an error. -/
theorem getF_bd : ∀ (zs : List Int) (i : Nat) (n : Int), i ≤ 9 → 0 ≤ n → n < 128 ^ i → (∀ x ∈ zs, 0 ≤ x ∧ x ≤ 255) →
    (getF zs i n).1 ≥ 0 ∧ (getF zs i n).1 ≤ 18446744073709551615
  | [], i, n, hi, h0, hn, hz => by simp [getF]
  | c :: r, i, n, hi, h0, hn, hz => by
    have hc := hz c (by simp)
    rw [getF]
    split
    · simp
    · split
      · have := step_bd (d := c) hi h0 hn (by omega) (by omega) (by omega)
        exact ⟨this.1, this.2.2⟩
      · have hi9 : i ≤ 8 := by omega
        have := step_bd (d := c - 128) hi h0 hn (by omega) (by omega) (by omega)
        exact getF_bd r (i + 1) _ (by omega) this.1 this.2.1 (fun x hx => hz x (by simp [hx]))

/-- What is got was put so. -/
theorem getF_once : ∀ (zs : List Int) (i : Nat) (n : Int), i ≤ 9 → (∀ x ∈ zs, 0 ≤ x ∧ x ≤ 255) → (getF zs i n).2.2 = 0 →
    ∃ q : Nat, (getF zs i n).1 = n + (q : Int) * 128 ^ i ∧ (getF zs i n).2.1 = (i : Int) + (enc q).length ∧ zs.take (enc q).length = enc q ∧ (0 < i → q ≠ 0)
  | [], i, n, hi, hz, he => by simp [getF] at he
  | c :: r, i, n, hi, hz, he => by
    have hc := hz c (by simp)
    rw [getF] at he ⊢
    split at he
    · simp at he
    · rename_i hb
      rw [if_neg hb]
      split at he
      · rename_i hlt
        rw [if_pos hlt]
        refine ⟨c.toNat, ?_, ?_, ?_, ?_⟩
        · rw [Int.toNat_of_nonneg hc.1]
        · rw [enc_small (by omega)]; simp
        · rw [enc_small (by omega), Int.toNat_of_nonneg hc.1]; simp
        · omega
      · rename_i hlt
        rw [if_neg hlt]
        obtain ⟨q, h1, h2, h3, h4⟩ := getF_once r (i + 1) _ (by omega) (fun x hx => hz x (by simp [hx])) he
        have hq : q ≠ 0 := h4 (by omega)
        have hd : (c.toNat - 128 + 128 * q) / 128 = q := by omega
        have hm : (c.toNat - 128 + 128 * q) % 128 = c.toNat - 128 := by omega
        have he' : enc (c.toNat - 128 + 128 * q) = c :: enc q := by
          rw [enc_big (by omega), hd, hm]
          congr 1
          omega
        refine ⟨c.toNat - 128 + 128 * q, ?_, ?_, ?_, fun _ => by omega⟩
        · rw [h1]
          have e1 : ((c.toNat - 128 + 128 * q : Nat) : Int) = (c - 128) + 128 * (q : Int) := by omega
          rw [e1, Int.add_mul, Int.pow_succ, Int.mul_comm 128 (q : Int), Int.mul_assoc, Int.mul_comm (128 ^ i) 128]
          omega
        · rw [h2, he']; simp; omega
        · rw [he']; simp [h3]

/-- What is put is got, whatever stands behind. -/
theorem getF_back (rest : List Int) (q : Nat) : ∀ (i : Nat) (n : Int), i ≤ 9 → (0 < i → q ≠ 0) → (q : Int) * 128 ^ i ≤ 18446744073709551615 →
    getF (enc q ++ rest) i n = (n + (q : Int) * 128 ^ i, (i : Int) + (enc q).length, 0) := by
  induction q using Nat.strongRecOn with
  | _ q ih =>
    intro i n hi hq hs
    by_cases hlt : q < 128
    · rw [enc_small hlt, List.singleton_append, getF, if_neg, if_pos (by omega)]
      · simp
      · rintro (⟨h, h'⟩ | ⟨rfl, h'⟩)
        · have := hq h; omega
        · simp only [Int.reducePow] at hs; omega
    · have hi8 : i ≤ 8 := by
        rcases Nat.lt_or_ge i 9 with h | h
        · omega
        · have : i = 9 := by omega
          subst this
          simp only [Int.reducePow] at hs
          omega
      rw [enc_big (by omega), List.cons_append, getF, if_neg (by omega), if_neg (by omega)]
      have hp := (pow_le9 hi).1
      have e1 : ((q / 128 : Nat) : Int) * 128 ^ (i + 1) = ((q / 128 * 128 : Nat) : Int) * 128 ^ i := by
        rw [Int.pow_succ, Int.mul_comm (128 ^ i) 128, ← Int.mul_assoc]
        simp
      have e2 : ((q / 128 * 128 : Nat) : Int) * 128 ^ i ≤ (q : Int) * 128 ^ i := Int.mul_le_mul_of_nonneg_right (by omega) (by omega)
      rw [ih (q / 128) (by omega) (i + 1) _ (by omega) (by omega) (by omega), e1]
      have e3 : (q : Int) * 128 ^ i = ((q % 128 : Nat) : Int) * 128 ^ i + ((q / 128 * 128 : Nat) : Int) * 128 ^ i := by
        rw [← Int.add_mul]
        congr 1
        omega
      simp only [List.length_cons, Prod.mk.injEq, and_true]
      refine ⟨?_, by omega⟩
      rw [e3, show ((q % 128 + 128 : Nat) : Int) - 128 = ((q % 128 : Nat) : Int) by omega]
      omega

end Go.Proofs.Ytdchoegaindnbaa
