/-
  Contracts: the document's Put hands back what varint.Put does; Fold and Unfold of both sides hand back the folded number and undo one another; the statements' own guard (long) and probe (alive).
-/
import Derived.Test.YtmpfminflcdheaaPuts
import Derived.Test.YtmpfminflcdheaaGets
namespace Go.Proofs.Ytmpfminflcdheaa
open Go.RowKit
open M
set_option linter.unusedVariables false

/-- A row of the call's own stays while only newer memory turns. -/
theorem own_stays {w w' : World} {B e n : Nat} {v : Value} {xs : List Value} (h : w.ownsRow B e 1 v n xs) (hb : Below w.heap.size w w') : w'.ownsRow B e 1 v n xs := by
  refine ⟨h.1, ?_⟩
  rcases h.2 with h' | ⟨g, c, cur, hv, hB, hg, rest⟩
  · exact .inl h'
  · exact .inr ⟨g, c, cur, hv, hB, (hb.block g (Array.getElem?_eq_some_iff.1 hg).1).trans hg, rest⟩

set_option maxHeartbeats 1000000 in
theorem rput_any (a : Option Addr) (len cap : Nat) (bs : List Int) (a2 : Option Addr) (l2 c2 : Nat) (ns : List Int) (w : World) (hr : Reads .u8 w a len cap bs) (hr2 : Reads .u64 w a2 l2 c2 ns) (hn : IsU64s ns) (hlen : len ≤ 100000) (hl2 : l2 ≤ 10000) :
    Calls Try.prog 12 #[.slice a len cap, .slice a2 l2 c2] w fun e w' => ∃ v', e = .returned v' ∧ w'.ownsRow w.heap.size 5 1 v' (len + (encsZ ns).length) ((bs ++ encsZ ns).map (Value.int .u8)) ∧ Below w.heap.size w w' := by
  obtain ⟨i0, hi, hz0, hz1, hz2⟩ := info_parts Try.info5
  have HL : Hid (ns.length = l2) := hr2.size
  go_enter Try.func12, Try.ntmps12
  go_wp2_with (at_builtin; refine append_any _ rfl (.const (.slice none 0 0)) (.tmp 7) 22 rfl w.heap.size 5 i0 (.int .u8 0) 1 Try.underlying22 hi hz0 hz1 hz2 rfl .u8 _ 0 [] rfl (World.ownsRow_nil _ _ _ _) a len cap bs rfl hr (by omega) (by omega) (by omega) ?_; intro v' w1 how1 hb1)
  rw [List.nil_append, Nat.zero_add] at how1
  go_loopw [5, 6] (fun u i wr => ∃ (k : Nat), k ≤ l2 ∧ i = .int .i64 k ∧ wr.ownsRow w.heap.size 5 1 u (len + (encsZ (ns.take k)).length) ((bs ++ encsZ (ns.take k)).map (Value.int .u8)) ∧ Below w.heap.size w wr) (fun _ i _ => l2 - (intOf i).toNat)
  case atStart => exact ⟨0, by omega, rfl, by simpa [encsZ] using how1, hb1⟩
  case round =>
    obtain ⟨k, hk, rfl, how, hb⟩ := hrel
    have hsz := hb.size
    by_cases hlt : k < l2
    · obtain ⟨b2, o2, rfl, hc0⟩ := hr2.cell k hlt
      have hc := (hb.cell (World.block_lt_of_cell? _ _ hc0)).trans hc0
      obtain ⟨n0, n1⟩ := hn.at k
      have HS : Hid (encsZ (ns.take (k + 1)) = encsZ (ns.take k) ++ encZ (ns[k]?.getD 0)) := encsZ_snoc ns k (by have := HL.out; omega)
      have hle : (encsZ (ns.take k)).length ≤ 10 * 10000 := by
        have := encsZ_len (ns := ns.take k) fun x hx => hn x (List.mem_of_mem_take hx)
        simp at this; omega
      have hA := rbytes_any (ns[k]?.getD 0) wr n0 n1
      have h10 : (encZ (ns[k]?.getD 0)).length ≤ 10 := (encZ_len n1).2
      clear hc0 hr hr2 hn how1 hb1
      generalize ns[k]?.getD 0 = x at *
      go_wp2_with fail
      refine hA.mono ?_
      rintro e w2 ⟨v2, rfl, how2, hb2⟩
      obtain ⟨a3, c3, rfl, hr3⟩ := Reads.own how2
      have how3 := own_stays how hb2
      have hsz2 := hb2.size
      go_wp2_with (at_builtin; refine append_any _ rfl (.tmp 15) (.tmp 20) 22 rfl w.heap.size 5 i0 (.int .u8 0) 1 Try.underlying22 hi hz0 hz1 hz2 rfl .u8 _ _ _ rfl how3 a3 _ c3 (encZ x) rfl hr3 (by omega) (by omega) (by omega) ?_; intro v4 w4 how4 hb4)
      go_roundw
      case rel => exact ⟨k + 1, by omega, by go_num, by rw [HS.out, List.length_append, ← Nat.add_assoc, ← List.append_assoc]; exact how4, hb.trans ((hb2.mono hsz).trans hb4)⟩
      case measure => simp [intOf]; omega
    · have HT : Hid (ns.take k = ns) := List.take_of_length_le (by have := HL.out; omega)
      go_wp2
      go_ret
      exact ⟨_, rfl, by rw [HT.out] at how; exact how, hb⟩

/-- The folded number of a signed one. -/
def foldZ (n : Int) : Int := if 0 ≤ n then 2 * n else 2 * (-(n + 1)) + 1
/-- The signed number whose folded number n is. -/
def unfoldZ (n : Int) : Int := if n % 2 = 0 then n / 2 else -(n / 2) - 1
theorem foldZ_bd {n : Int} (h1 : -9223372036854775808 ≤ n) (h2 : n ≤ 9223372036854775807) : 0 ≤ foldZ n ∧ foldZ n ≤ 18446744073709551615 := by unfold foldZ; split <;> omega
theorem unfoldZ_bd {n : Int} (h1 : 0 ≤ n) (h2 : n ≤ 18446744073709551615) : -9223372036854775808 ≤ unfoldZ n ∧ unfoldZ n ≤ 9223372036854775807 := by unfold unfoldZ; split <;> omega
theorem fold_unfold {n : Int} (h1 : 0 ≤ n) : foldZ (unfoldZ n) = n := by unfold foldZ unfoldZ; split <;> split <;> omega
theorem unfold_fold (n : Int) : unfoldZ (foldZ n) = n := by unfold foldZ unfoldZ; split <;> split <;> omega

theorem fold_any (n : Int) (w : World) (h1 : -9223372036854775808 ≤ n) (h2 : n ≤ 9223372036854775807) :
    Calls Try.prog 13 #[.int .i64 n] w fun e w' => e = .returned (.int .u64 (foldZ n)) ∧ w' = w := by
  rcases (by omega : 0 ≤ n ∨ n < 0) with h | h
  all_goals
    go_enter Try.func13, Try.ntmps13
    go_wp2
    go_ret
    exact ⟨ret_int (by unfold foldZ; split <;> omega), rfl⟩
theorem rfold_any (n : Int) (w : World) (h1 : -9223372036854775808 ≤ n) (h2 : n ≤ 9223372036854775807) :
    Calls Try.prog 14 #[.int .i64 n] w fun e w' => e = .returned (.int .u64 (foldZ n)) ∧ w' = w := by
  rcases (by omega : 0 ≤ n ∨ n < 0) with h | h
  all_goals
    go_enter Try.func14, Try.ntmps14
    go_wp2
    go_ret
    exact ⟨ret_int (by unfold foldZ; split <;> omega), rfl⟩
theorem unfold_any (n : Int) (w : World) (h1 : 0 ≤ n) (h2 : n ≤ 18446744073709551615) :
    Calls Try.prog 15 #[.int .u64 n] w fun e w' => e = .returned (.int .i64 (unfoldZ n)) ∧ w' = w := by
  rcases (by omega : n % 2 ≤ 0 ∨ 1 ≤ n % 2) with h | h
  all_goals
    go_enter Try.func15, Try.ntmps15
    go_wp2
    go_ret
    exact ⟨ret_int (by unfold unfoldZ; split <;> omega), rfl⟩
theorem runfold_any (n : Int) (w : World) (h1 : 0 ≤ n) (h2 : n ≤ 18446744073709551615) :
    Calls Try.prog 16 #[.int .u64 n] w fun e w' => e = .returned (.int .i64 (unfoldZ n)) ∧ w' = w := by
  rcases (by omega : n % 2 ≤ 0 ∨ 1 ≤ n % 2) with h | h
  all_goals
    go_enter Try.func16, Try.ntmps16
    go_wp2
    go_ret
    exact ⟨ret_int (by unfold unfoldZ; split <;> omega), rfl⟩

theorem long_any (a : Option Addr) (len cap : Nat) (w : World) :
    Calls Try.prog 7 #[.slice a len cap] w fun e w' => e = .returned (.bool (decide (3000 < len))) ∧ w' = w := by
  by_cases h : 3000 < len
  all_goals
    go_enter Try.func7, Try.ntmps7
    go_wp2
    go_ret
    refine ⟨?_, rfl⟩
    simp [h]
    omega

theorem enc300 : encsZ [300] = [172, 2] := by
  have h1 : encZ 300 = (300 % 128 + 128) :: encZ (300 / 128) := encZ_big (by omega)
  have h2 : encZ (300 / 128) = [300 / 128] := encZ_small (by omega) (by omega)
  unfold encsZ
  rw [List.flatMap_cons, h1, h2]
  rfl

set_option maxHeartbeats 1000000 in
theorem alive_any (w : World) : Calls Try.prog 8 #[] w fun e w' => e = .returned (.bool true) ∧ Below w.heap.size w w' := by
  have hP := put_any none 0 0 [] (some ⟨w.heap.size, 0, none⟩) 1 1 [300] (w.alloc (.cells #[.int .u64 300] 26)) (Reads.nil _ _) (Reads.one _ _ _) (by intro x hx; simp at hx; omega) (by omega) (by omega)
  rw [enc300] at hP
  go_enter Try.func8, Try.ntmps8
  go_wp2_with fail
  refine hP.mono ?_
  rintro e w1 ⟨v1, rfl, how1, hb1⟩
  obtain ⟨a, c, rfl, hr⟩ := Reads.own how1
  have hG := get_any a _ c _ w1 hr (by intro x hx; simp at hx; omega) (by simp)
  rw [show gotV ([] ++ [172, 2]) = .tuple #[.int .u64 300, .int .i64 2, .int .i64 0] from rfl] at hG
  have hU := unfold_any 3 w1 (by omega) (by omega)
  rw [show unfoldZ 3 = -2 from rfl] at hU
  obtain ⟨b, off, rfl, hc⟩ := hr.cell 0 (by simp)
  have hc' : w1.cell? ⟨b, off, none⟩ = some (.int .u8 172) := hc
  clear hP hc hr
  go_wp2_with fail
  refine hG.mono ?_
  rintro e w2 ⟨rfl, rfl⟩
  go_wp2_with fail
  refine hU.mono ?_
  rintro e w2 ⟨rfl, rfl⟩
  go_wp2
  go_ret
  exact ⟨rfl, ((Below.refl _ _).alloc (Nat.le_refl _) _).trans (hb1.mono (by simp))⟩

end Go.Proofs.Ytmpfminflcdheaa
