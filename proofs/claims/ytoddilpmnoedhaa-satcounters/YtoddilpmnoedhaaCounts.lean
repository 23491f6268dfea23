/-
  Contracts: sat.NewCounter, Up, Down, N and Full of a counter that is at most its most; what was there in memory stays as it is.
-/
import Derived.Test.YtoddilpmnoedhaaAdds
import Derived.Below
namespace Go.Proofs.Ytoddilpmnoedhaa
open Go.RowKit
open M
set_option linter.unusedVariables false

theorem bcell {W w1 : World} (hb : Below W.heap.size W w1) : (∀ b o, b < W.heap.size → w1.cell? ⟨b, o, none⟩ = W.cell? ⟨b, o, none⟩) ∧ (∀ b o, b < W.heap.size → w1.frozen? ⟨b, o, none⟩ = W.frozen? ⟨b, o, none⟩) :=
  ⟨fun b o h => hb.cell (p := ⟨b, o, none⟩) h, fun b o h => hb.frozen (p := ⟨b, o, none⟩) h⟩

/-- What a counter is behind a step up, and behind a step down. -/
def upV (n most u : Int) : Int := if most - n < u then most else n + u
def downV (n u : Int) : Int := if n < u then 0 else n - u
theorem upV_bd {n most u : Int} (n1 : 0 ≤ n) (n2 : n ≤ most) (u1 : 0 ≤ u) : 0 ≤ upV n most u ∧ upV n most u ≤ most := by
  unfold upV; split <;> omega
theorem downV_bd {n most u : Int} (n1 : 0 ≤ n) (n2 : n ≤ most) (u1 : 0 ≤ u) : 0 ≤ downV n u ∧ downV n u ≤ most := by
  unfold downV; split <;> omega

theorem new_any (most : Int) (w : World) :
    Calls Try.prog 19 #[.int .u32 most] w fun e w' => e = .returned (.agg #[.int .u32 0, .int .u32 most]) ∧ Below w.heap.size w w' := by
  go_enter Try.func19, Try.ntmps19
  go_wp2
  exact bodyPost_ret (v := .agg #[.int .u32 0, .int .u32 most]) (by simp [results, Try.results19, go_sem]) rfl ⟨rfl, (Below.refl _ _).alloc (Nat.le_refl _) _⟩

set_option maxHeartbeats 400000 in
theorem up_any (n most u : Int) (w : World) (n1 : 0 ≤ n) (n2 : n ≤ most) (m2 : most ≤ 4294967295) (u1 : 0 ≤ u) (u2 : u ≤ 4294967295) :
    Calls Try.prog 20 #[.agg #[.int .u32 n, .int .u32 most], .int .u32 u] w fun e w' => e = .returned (.agg #[.int .u32 (upV n most u), .int .u32 most]) ∧ Below w.heap.size w w' := by
  by_cases h : most - n < u
  · have e0 : upV n most u = n + (most - n) := by unfold upV; rw [if_pos h]; omega
    rw [e0]; clear e0
    go_enter Try.func20, Try.ntmps20
    go_wp2
    exact bodyPost_ret (v := .agg #[.int .u32 (n + (most - n)), .int .u32 most]) (by simp [results, Try.results20, go_sem]) rfl ⟨rfl, ((Below.refl _ _).alloc (Nat.le_refl _) _).alloc (by simp) _⟩
  · have e0 : upV n most u = n + u := by unfold upV; rw [if_neg h]
    rw [e0]; clear e0
    go_enter Try.func20, Try.ntmps20
    go_wp2
    exact bodyPost_ret (v := .agg #[.int .u32 (n + u), .int .u32 most]) (by simp [results, Try.results20, go_sem]) rfl ⟨rfl, ((Below.refl _ _).alloc (Nat.le_refl _) _).alloc (by simp) _⟩

set_option maxHeartbeats 400000 in
theorem down_any (n most u : Int) (w : World) (n1 : 0 ≤ n) (n2 : n ≤ 4294967295) (u1 : 0 ≤ u) (u2 : u ≤ 4294967295) :
    Calls Try.prog 21 #[.agg #[.int .u32 n, .int .u32 most], .int .u32 u] w fun e w' => e = .returned (.agg #[.int .u32 (downV n u), .int .u32 most]) ∧ Below w.heap.size w w' := by
  by_cases h : n < u
  · have e0 : downV n u = n - n := by unfold downV; rw [if_pos h]; omega
    rw [e0]; clear e0
    go_enter Try.func21, Try.ntmps21
    go_wp2
    exact bodyPost_ret (v := .agg #[.int .u32 (n - n), .int .u32 most]) (by simp [results, Try.results21, go_sem]) rfl ⟨rfl, ((Below.refl _ _).alloc (Nat.le_refl _) _).alloc (by simp) _⟩
  · have e0 : downV n u = n - u := by unfold downV; rw [if_neg h]
    rw [e0]; clear e0
    go_enter Try.func21, Try.ntmps21
    go_wp2
    exact bodyPost_ret (v := .agg #[.int .u32 (n - u), .int .u32 most]) (by simp [results, Try.results21, go_sem]) rfl ⟨rfl, ((Below.refl _ _).alloc (Nat.le_refl _) _).alloc (by simp) _⟩

theorem n_any (n most : Int) (w : World) :
    Calls Try.prog 22 #[.agg #[.int .u32 n, .int .u32 most]] w fun e w' => e = .returned (.int .u32 n) ∧ Below w.heap.size w w' := by
  go_enter Try.func22, Try.ntmps22
  go_wp2
  go_ret
  exact ⟨rfl, (Below.refl _ _).alloc (Nat.le_refl _) _⟩

theorem full_any (n most : Int) (w : World) :
    Calls Try.prog 23 #[.agg #[.int .u32 n, .int .u32 most]] w fun e w' => e = .returned (.bool (n == most)) ∧ Below w.heap.size w w' := by
  go_enter Try.func23, Try.ntmps23
  go_wp2
  go_ret
  exact ⟨rfl, (Below.refl _ _).alloc (Nat.le_refl _) _⟩

end Go.Proofs.Ytoddilpmnoedhaa
