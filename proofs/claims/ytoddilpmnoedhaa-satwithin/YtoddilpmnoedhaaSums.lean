/-
  Contracts: sat.Within and the document's Within hand back the same number; sat.Sum and the document's Sum of a list of numbers of int64 hand back what Add makes of them, from 0 on, in their order; the world stays as it is.
-/
import Derived.Test.YtoddilpmnoedhaaAdds
import Derived.Below
namespace Go.Proofs.Ytoddilpmnoedhaa
open Go.RowKit
open M
set_option linter.unusedVariables false

/-- A number within two others; the lower bound wins. -/
def within (n least most : Int) : Int := if most < least ∨ n < least then least else if most < n then most else n

theorem within_any (n least most : Int) (w : World) :
    Calls Try.prog 15 #[.int .i64 n, .int .i64 least, .int .i64 most] w fun e w' => e = .returned (.int .i64 (within n least most)) ∧ w' = w := by
  rcases (by omega : most < least ∨ (least ≤ most ∧ n < least) ∨ (least ≤ most ∧ least ≤ n ∧ most < n) ∨ (least ≤ most ∧ least ≤ n ∧ n ≤ most)) with h | ⟨h, h2⟩ | ⟨h, h2, h3⟩ | ⟨h, h2, h3⟩
  all_goals
    go_enter Try.func15, Try.ntmps15
    go_wp2
    go_ret
    exact ⟨ret_int (by unfold within; split <;> (try split) <;> omega), rfl⟩

theorem rwithin_any (n least most : Int) (w : World) :
    Calls Try.prog 16 #[.int .i64 n, .int .i64 least, .int .i64 most] w fun e w' => e = .returned (.int .i64 (within n least most)) ∧ w' = w := by
  rcases (by omega : (most < n ∧ most < least) ∨ (most < n ∧ least ≤ most) ∨ (n ≤ most ∧ n < least) ∨ (n ≤ most ∧ least ≤ n)) with ⟨h, h2⟩ | ⟨h, h2⟩ | ⟨h, h2⟩ | ⟨h, h2⟩
  all_goals
    go_enter Try.func16, Try.ntmps16
    go_wp2
    go_ret
    exact ⟨ret_int (by unfold within; split <;> (try split) <;> omega), rfl⟩

/-- What Add makes of numbers, from 0 on, in their order. -/
def sumL (zs : List Int) : Int := zs.foldl (fun s n => clamp (s + n)) 0

theorem sumL_snoc (zs : List Int) (k : Nat) (h : k < zs.length) : sumL (zs.take (k + 1)) = clamp (sumL (zs.take k) + zs[k]?.getD 0) := by
  unfold sumL
  rw [List.take_succ_eq_append_getElem h, List.foldl_append]
  simp [h]

theorem sumL_bd (zs : List Int) : -9223372036854775808 ≤ sumL zs ∧ sumL zs ≤ 9223372036854775807 := by
  unfold sumL
  rcases List.eq_nil_or_concat zs with rfl | ⟨l, x, rfl⟩
  · simp
  · rw [List.concat_eq_append, List.foldl_append]; exact clamp_bd _

theorem sum_nil (w : World) : Calls Try.prog 17 #[.slice none 0 0] w fun e w' => e = .returned (.int .i64 0) ∧ w' = w := by
  go_enter Try.func17, Try.ntmps17
  go_wp2
  go_loop [3, 8] (fun s i => i = .int .i64 0 ∧ s = .int .i64 0) (fun _ _ => 0)
  case atStart => exact ⟨rfl, rfl⟩
  case round =>
    obtain ⟨rfl, rfl⟩ := hrel
    go_wp2
    go_ret
    exact ⟨rfl, rfl⟩

set_option maxHeartbeats 400000 in
theorem sum_any (b : Nat) (zs : List Int) (w : World) (hc : ∀ i, i < zs.length → w.cell? ⟨b, i, none⟩ = some (.int .i64 (zs[i]?.getD 0)))
    (hb : ∀ i : Nat, -9223372036854775808 ≤ zs[i]?.getD 0 ∧ zs[i]?.getD 0 ≤ 9223372036854775807) (hn : zs.length ≤ 1000) (len : Nat) (hl : len = zs.length) :
    Calls Try.prog 17 #[.slice (some ⟨b, 0, none⟩) len len] w fun e w' => e = .returned (.int .i64 (sumL zs)) ∧ w' = w := by
  have HL : Hid (len = zs.length) := hl
  have hlen : len ≤ 1000 := by omega
  clear hl
  go_enter Try.func17, Try.ntmps17
  go_wp2
  go_loop [3, 8] (fun s i => ∃ k : Nat, k ≤ len ∧ i = .int .i64 k ∧ s = .int .i64 (sumL (zs.take k))) (fun _ i => len - (intOf i).toNat)
  case atStart => exact ⟨0, Nat.zero_le _, rfl, rfl⟩
  case round =>
    obtain ⟨k, hk, rfl, rfl⟩ := hrel
    by_cases hlt : k < len
    · have hcell := hc k (by have := HL.out; omega)
      have hs := sumL_bd (zs.take k)
      have HS : Hid (sumL (zs.take (k + 1)) = clamp (sumL (zs.take k) + zs[k]?.getD 0)) := sumL_snoc zs k (by have := HL.out; omega)
      have hA := add_any (sumL (zs.take k)) (zs[k]?.getD 0) w hs.1 hs.2 (hb k).1 (hb k).2
      clear hc hb
      go_wp2_with fail
      refine hA.mono ?_
      rintro e w' ⟨rfl, rfl⟩
      go_wp2
      go_round
      case rel => exact ⟨k + 1, by omega, by go_num, by rw [HS.out]⟩
      case measure => simp [intOf]; omega
    · go_wp2
      go_ret
      exact ⟨ret_int (by rw [List.take_of_length_le (by have := HL.out; omega)]), rfl⟩

set_option maxHeartbeats 400000 in
theorem rsum_any (b : Nat) (zs : List Int) (w : World) (hc : ∀ i, i < zs.length → w.cell? ⟨b, i, none⟩ = some (.int .i64 (zs[i]?.getD 0)))
    (hb : ∀ i : Nat, -9223372036854775808 ≤ zs[i]?.getD 0 ∧ zs[i]?.getD 0 ≤ 9223372036854775807) (hn : zs.length ≤ 1000) (len : Nat) (hl : len = zs.length) :
    Calls Try.prog 18 #[.slice (some ⟨b, 0, none⟩) len len] w fun e w' => e = .returned (.int .i64 (sumL zs)) ∧ w' = w := by
  have HL : Hid (len = zs.length) := hl
  have hlen : len ≤ 1000 := by omega
  clear hl
  go_enter Try.func18, Try.ntmps18
  go_wp2
  go_loop [3, 4] (fun s i => ∃ k : Nat, k ≤ len ∧ i = .int .i64 k ∧ s = .int .i64 (sumL (zs.take k))) (fun _ i => len - (intOf i).toNat)
  case atStart => exact ⟨0, Nat.zero_le _, rfl, rfl⟩
  case round =>
    obtain ⟨k, hk, rfl, rfl⟩ := hrel
    by_cases hlt : k < len
    · have hcell := hc k (by have := HL.out; omega)
      have hs := sumL_bd (zs.take k)
      have HS : Hid (sumL (zs.take (k + 1)) = clamp (sumL (zs.take k) + zs[k]?.getD 0)) := sumL_snoc zs k (by have := HL.out; omega)
      have hA := radd_any (sumL (zs.take k)) (zs[k]?.getD 0) w hs.1 hs.2 (hb k).1 (hb k).2
      clear hc hb
      go_wp2_with fail
      refine hA.mono ?_
      rintro e w' ⟨rfl, rfl⟩
      go_wp2
      go_round
      case rel => exact ⟨k + 1, by omega, by go_num, by rw [HS.out]⟩
      case measure => simp [intOf]; omega
    · go_wp2
      go_ret
      exact ⟨ret_int (by rw [List.take_of_length_le (by have := HL.out; omega)]), rfl⟩

end Go.Proofs.Ytoddilpmnoedhaa
