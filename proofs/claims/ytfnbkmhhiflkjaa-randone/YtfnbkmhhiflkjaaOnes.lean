/-
  The walk of RandOne, over whatever two numbers a and b are mixed to, as long as they are one exactly where a and b are.
-/
import Derived.Test.YtfnbkmhhiflkjaaUnmix
namespace Go.Proofs.Ytfnbkmhhiflkjaa
open Go.RowKit
set_option linter.unusedVariables false
set_option maxRecDepth 1000000

theorem one_walk (a0 a1 : Int) (w : World) (x y : Int)
    (hM0 : Calls Try.prog 9 #[.int .u64 a0] w fun e w' => e = .returned (.int .u64 x) ∧ w' = w) (hM1 : Calls Try.prog 9 #[.int .u64 a1] w fun e w' => e = .returned (.int .u64 y) ∧ w' = w)
    (hU : Calls Try.prog 20 #[.int .u64 x] w fun e w' => e = .returned (.int .u64 a0) ∧ w' = w) (hs : a0 = a1 → x = y) (hn : a0 ≠ a1 → x ≠ y) :
    Calls Try.prog 6 #[.int .u64 a0, .int .u64 a1] w fun e w' => e = .returned (.bool true) ∧ Grown w w' := by
  by_cases h : a0 = a1
  · obtain rfl := hs h
    subst h
    clear hs hn
    go_enter Try.func6, Try.ntmps6
    go_wp2_with fail
    refine hM0.mono ?_
    rintro e w' ⟨rfl, rfl⟩
    go_wp2_with fail
    refine hM1.mono ?_
    rintro e w' ⟨rfl, rfl⟩
    go_wp2_with fail
    refine hU.mono ?_
    rintro e w' ⟨rfl, rfl⟩
    go_wp2_with fail
    refine (alive_any _).mono ?_
    rintro e w' ⟨rfl, rfl⟩
    go_wp2
    go_ret
    exact ⟨rfl, Grown.refl _⟩
  · have hx : (x == y) = false := by simpa using hn h
    have ha : (a0 == a1) = false := by simpa using h
    clear hs hn h
    go_enter Try.func6, Try.ntmps6
    go_wp2_with fail
    refine hM0.mono ?_
    rintro e w' ⟨rfl, rfl⟩
    go_wp2_with fail
    refine hM1.mono ?_
    rintro e w' ⟨rfl, rfl⟩
    go_wp2_with fail
    refine hU.mono ?_
    rintro e w' ⟨rfl, rfl⟩
    go_wp2_with fail
    refine (alive_any _).mono ?_
    rintro e w' ⟨rfl, rfl⟩
    go_wp2
    go_ret
    exact ⟨rfl, Grown.refl _⟩
end Go.Proofs.Ytfnbkmhhiflkjaa
