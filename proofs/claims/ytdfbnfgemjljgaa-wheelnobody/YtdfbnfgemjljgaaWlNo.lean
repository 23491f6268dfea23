/-
  A wheel that nobody made: nil, and one that New did not give.
-/
import Derived.Test.YtdfbnfgemjljgaaWlAll
namespace Go.Proofs.Ytdfbnfgemjljgaa
open Go.RowKit Go.Maps
set_option linter.unusedVariables false
set_option maxRecDepth 1000000

def WlNo (W : World) (p : Option Addr) : Prop := p = none ∨ ∃ B, p = some ⟨B, 0, none⟩ ∧ W.cell? ⟨B, 3, none⟩ = some (.map none)
theorem wmade_no {W : World} {p : Option Addr} (h : WlNo W p) : Calls Try.prog 21 #[.pointer p] W fun r w' => r = .returned (.bool false) ∧ w' = W := by
  rcases h with rfl | ⟨B, rfl, hc⟩
  · exact wmade_nil W
  · exact wmade_zero hc
theorem wno_set {W : World} {p : Option Addr} (h : WlNo W p) (a b c d : Int) : Calls Try.prog 15 #[.pointer p, .int .i64 a, .int .i64 b, .int .i64 c, .int .u64 d] W fun r w' => r = .returned (.tuple #[.int .i64 0, .int .i64 2]) ∧ w' = W := by
  have hM := wmade_no h
  clear h
  go_enter Try.func15, Try.ntmps15
  go_wp2_with fail
  with_reducible refine hM.mono ?_
  rintro r w1 ⟨rfl, hw⟩
  subst w1
  go_wp2_with fail
  go_ret2
  exact ⟨rfl, rfl⟩
theorem wno_stop {W : World} {p : Option Addr} (h : WlNo W p) (n : Int) : Calls Try.prog 8 #[.pointer p, .int .i64 n] W fun r w' => r = .returned (.int .i64 2) ∧ w' = W := by
  have hM := wmade_no h
  clear h
  go_enter Try.func8, Try.ntmps8
  go_wp2_with fail
  with_reducible refine hM.mono ?_
  rintro r w1 ⟨rfl, hw⟩
  subst w1
  go_wp2_with fail
  go_ret
  exact ⟨rfl, rfl⟩
theorem wno_stopall {W : World} {p : Option Addr} (h : WlNo W p) (n : Int) : Calls Try.prog 10 #[.pointer p, .int .u64 n] W fun r w' => r = .returned (.int .i64 0) ∧ w' = W := by
  have hM := wmade_no h
  clear h
  go_enter Try.func10, Try.ntmps10
  go_wp2_with fail
  with_reducible refine hM.mono ?_
  rintro r w1 ⟨rfl, hw⟩
  subst w1
  go_wp2_with fail
  go_ret
  exact ⟨rfl, rfl⟩
theorem wno_due {W : World} {p : Option Addr} (h : WlNo W p) (n : Int) : Calls Try.prog 13 #[.pointer p, .int .i64 n] W fun r w' => r = .returned (.slice none 0 0) ∧ w' = W := by
  have hM := wmade_no h
  clear h
  go_enter Try.func13, Try.ntmps13
  go_wp2_with fail
  with_reducible refine hM.mono ?_
  rintro r w1 ⟨rfl, hw⟩
  subst w1
  go_wp2_with fail
  go_ret
  exact ⟨rfl, rfl⟩
theorem wno_next {W : World} {p : Option Addr} (h : WlNo W p) : Calls Try.prog 17 #[.pointer p] W fun r w' => r = .returned (.tuple #[.int .i64 0, .bool false]) ∧ w' = W := by
  have hM := wmade_no h
  clear h
  go_enter Try.func17, Try.ntmps17
  go_wp2_with fail
  with_reducible refine hM.mono ?_
  rintro r w1 ⟨rfl, hw⟩
  subst w1
  go_wp2_with fail
  go_ret2
  exact ⟨rfl, rfl⟩
theorem wno_len {W : World} {p : Option Addr} (h : WlNo W p) : Calls Try.prog 18 #[.pointer p] W fun r w' => r = .returned (.int .i64 0) ∧ w' = W := by
  have hM := wmade_no h
  clear h
  go_enter Try.func18, Try.ntmps18
  go_wp2_with fail
  with_reducible refine hM.mono ?_
  rintro r w1 ⟨rfl, hw⟩
  subst w1
  go_wp2_with fail
  go_ret
  exact ⟨rfl, rfl⟩
theorem wno_now {W : World} {p : Option Addr} (h : WlNo W p) : Calls Try.prog 19 #[.pointer p] W fun r w' => r = .returned (.int .i64 0) ∧ w' = W := by
  have hM := wmade_no h
  clear h
  go_enter Try.func19, Try.ntmps19
  go_wp2_with fail
  with_reducible refine hM.mono ?_
  rintro r w1 ⟨rfl, hw⟩
  subst w1
  go_wp2_with fail
  go_ret
  exact ⟨rfl, rfl⟩
end Go.Proofs.Ytdfbnfgemjljgaa
