/-
  Contracts: rand.Derive and the document's Derive hand back deriveZ.
-/
import Derived.Test.YtaiojhigomdocaaDraws
import Derived.Test.YtaiojhigomdocaaBase
namespace Go.Proofs.Ytaiojhigomdocaa
open Go.RowKit
set_option linter.unusedVariables false
set_option maxRecDepth 1000000

theorem derive_any (s : Int) (a : Option Addr) (len cap : Nat) (zs : List Int) (w : World) (hr : Reads .u64 w a len cap zs) (hlen : len ≤ 1000000) :
    Calls Try.prog 40 #[.int .u64 s, .slice a len cap] w fun e w' => e = .returned (.int .u64 (deriveZ s zs)) ∧ w' = w := by
  have HL : Hid (zs.length = len) := hr.size
  go_enter Try.func40, Try.ntmps40
  go_wp2_with fail
  go_loop [0, 9] (fun v i => ∃ (n : Int) (k : Nat), v = .int .u64 n ∧ i = .int .i64 k ∧ k ≤ len ∧ Hid (n = deriveZ s (zs.take k))) (fun _ i => len - (intOf i).toNat)
  case atStart => exact ⟨_, 0, rfl, rfl, by omega, by unfold Hid; simp [deriveZ]⟩
  case round =>
    obtain ⟨n, k, rfl, rfl, hk, HM⟩ := hrel
    by_cases hlt : k < len
    · obtain ⟨b, off, rfl, hc⟩ := hr.cell k hlt
      have HS : Hid (atZ n (zs[k]?.getD 0) = deriveZ s (zs.take (k + 1))) := by
        unfold Hid
        rw [take_snoc (by have := HL.out; omega), derive_snoc, HM.out]
      clear hr
      generalize zs[k]?.getD 0 = c at *
      go_wp2_with fail
      refine (at_any _ _ _).mono ?_
      rintro e w' ⟨rfl, rfl⟩
      go_wp2_with fail
      go_round
      case rel => exact ⟨_, k + 1, rfl, by go_num, by omega, HS⟩
      case measure => simp [intOf]; omega
    · have HE : Hid (n = deriveZ s zs) := by
        unfold Hid
        rw [HM.out, List.take_of_length_le (by have := HL.out; omega)]
      clear hr
      go_wp2
      go_ret
      exact ⟨ret_int HE.out, rfl⟩

theorem rderive_any (s : Int) (a : Option Addr) (len cap : Nat) (zs : List Int) (w : World) (hr : Reads .u64 w a len cap zs) (hlen : len ≤ 1000000) :
    Calls Try.prog 50 #[.int .u64 s, .slice a len cap] w fun e w' => e = .returned (.int .u64 (deriveZ s zs)) ∧ w' = w := by
  have HL : Hid (zs.length = len) := hr.size
  go_enter Try.func50, Try.ntmps50
  go_wp2_with fail
  go_loop [0, 5] (fun v i => ∃ (n : Int) (k : Nat), v = .int .u64 n ∧ i = .int .i64 k ∧ k ≤ len ∧ Hid (n = deriveZ s (zs.take k))) (fun _ i => len - (intOf i).toNat)
  case atStart => exact ⟨_, 0, rfl, rfl, by omega, by unfold Hid; simp [deriveZ]⟩
  case round =>
    obtain ⟨n, k, rfl, rfl, hk, HM⟩ := hrel
    by_cases hlt : k < len
    · obtain ⟨b, off, rfl, hc⟩ := hr.cell k hlt
      have HS : Hid (atZ n (zs[k]?.getD 0) = deriveZ s (zs.take (k + 1))) := by
        unfold Hid
        rw [take_snoc (by have := HL.out; omega), derive_snoc, HM.out]
      clear hr
      generalize zs[k]?.getD 0 = c at *
      go_wp2_with fail
      refine (rat_any _ _ _).mono ?_
      rintro e w' ⟨rfl, rfl⟩
      go_wp2_with fail
      go_round
      case rel => exact ⟨_, k + 1, rfl, by go_num, by omega, HS⟩
      case measure => simp [intOf]; omega
    · have HE : Hid (n = deriveZ s zs) := by
        unfold Hid
        rw [HM.out, List.take_of_length_le (by have := HL.out; omega)]
      clear hr
      go_wp2
      go_ret
      exact ⟨ret_int HE.out, rfl⟩
end Go.Proofs.Ytaiojhigomdocaa
