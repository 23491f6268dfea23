/-
  The marks' order is one (cmpM): texts by the first token that differs, and the marks' keys as such.
-/
import Derived.Test.YtdchoegaindnbaaPtCmp2
namespace Go.Proofs.Ytdchoegaindnbaa
open Go.RowKit
set_option linter.unusedVariables false
set_option maxRecDepth 1000000

theorem cmpZ_zero {x y : Int} : cmpZ x y = 0 ↔ x = y := by unfold cmpZ; split <;> first | omega | (split <;> omega)
theorem cmpZ_neg {x y : Int} : cmpZ x y < 0 ↔ x < y := by unfold cmpZ; split <;> first | omega | (split <;> omega)
theorem cmpZ_anti (x y : Int) : cmpZ y x = - cmpZ x y := by unfold cmpZ; split <;> split <;> first | omega | (split <;> omega)
theorem cmpL_zero : ∀ {xs ys : List Int}, cmpL xs ys = 0 ↔ xs = ys
  | [], [] => by simp [cmpL]
  | [], y :: ys => by simp [cmpL]
  | x :: xs, [] => by simp [cmpL]
  | x :: xs, y :: ys => by
    simp only [cmpL]
    by_cases h : cmpZ x y = 0
    · rw [if_neg (by simpa using h), cmpL_zero, cmpZ_zero.1 h]
      simp
    · rw [if_pos h]
      constructor
      · intro h2; exact absurd h2 h
      · intro h2; simp at h2; exact absurd (cmpZ_zero.2 h2.1) h
theorem cmpL_anti : ∀ (xs ys : List Int), cmpL ys xs = - cmpL xs ys
  | [], [] => by simp [cmpL]
  | [], y :: ys => by simp [cmpL]
  | x :: xs, [] => by simp [cmpL]
  | x :: xs, y :: ys => by
    simp only [cmpL]
    have h1 := cmpZ_anti x y
    by_cases h : cmpZ x y = 0
    · rw [if_neg (by simp [h, h1]), if_neg (by simp [h]), cmpL_anti xs ys]
    · rw [if_pos (by omega), if_pos h, h1]
theorem cmpL_trans : ∀ {xs ys zs : List Int}, cmpL xs ys < 0 → cmpL ys zs < 0 → cmpL xs zs < 0
  | [], [], _, h1, _ => by simp [cmpL] at h1
  | _ :: _, [], _, h1, _ => by simp [cmpL] at h1
  | _, _ :: _, [], _, h2 => by simp [cmpL] at h2
  | [], _ :: _, z :: zs, _, _ => by simp [cmpL]
  | x :: xs, y :: ys, z :: zs, h1, h2 => by
    simp only [cmpL] at *
    by_cases e1 : cmpZ x y = 0
    · rw [if_neg (by simpa using e1)] at h1
      have := cmpZ_zero.1 e1
      subst this
      by_cases e2 : cmpZ x z = 0
      · rw [if_neg (by simpa using e2)] at h2 ⊢
        exact cmpL_trans h1 h2
      · rw [if_pos e2] at h2 ⊢
        exact h2
    · rw [if_pos e1] at h1
      have l1 := cmpZ_neg.1 h1
      by_cases e2 : cmpZ y z = 0
      · have := cmpZ_zero.1 e2
        subst this
        rw [if_pos e1]
        exact h1
      · rw [if_pos e2] at h2
        have l2 := cmpZ_neg.1 h2
        have l3 : cmpZ x z < 0 := cmpZ_neg.2 (by omega)
        rw [if_pos (by omega)]
        exact l3
/-- A mark's key. -/
def keyM (m : Mk) : List Int := m.used :: -(m.toks.length : Int) :: m.rep :: m.toks
theorem cmpM_key (a b : Mk) : cmpM a b = cmpL (keyM a) (keyM b) := by
  have e : cmpZ (-(a.toks.length : Int)) (-(b.toks.length : Int)) = cmpZ b.toks.length a.toks.length := by
    unfold cmpZ
    split <;> split <;> first | rfl | omega | (split <;> first | rfl | omega)
  unfold cmpM or3 keyM
  simp only [cmpL, e]
  by_cases h1 : cmpZ a.used b.used = 0
  · by_cases h2 : cmpZ (b.toks.length : Int) a.toks.length = 0
    · by_cases h3 : cmpZ a.rep b.rep = 0 <;> simp [h1, h2, h3]
    · simp [h1, h2]
  · simp [h1]
theorem cmpM_zero {a b : Mk} : cmpM a b = 0 ↔ a.used = b.used ∧ a.rep = b.rep ∧ a.toks = b.toks := by
  rw [cmpM_key, cmpL_zero]
  unfold keyM
  simp only [List.cons.injEq]
  constructor
  · rintro ⟨h1, _, h3, h4⟩; exact ⟨h1, h3, h4⟩
  · rintro ⟨h1, h2, h3⟩; exact ⟨h1, by rw [h3], h2, h3⟩
theorem cmpM_anti (a b : Mk) : cmpM b a = - cmpM a b := by rw [cmpM_key, cmpM_key, cmpL_anti]
theorem cmpM_trans {a b c : Mk} (h1 : cmpM a b < 0) (h2 : cmpM b c < 0) : cmpM a c < 0 := by
  rw [cmpM_key] at *
  exact cmpL_trans h1 h2
theorem cmpM_ntrans {a b c : Mk} (h1 : ¬ cmpM a b < 0) (h2 : ¬ cmpM b c < 0) : ¬ cmpM a c < 0 := fun h => by
  rw [cmpM_key] at *
  have a1 := cmpL_anti (keyM a) (keyM b)
  have a2 := cmpL_anti (keyM b) (keyM c)
  rcases Int.lt_or_eq_of_le (Int.not_lt.1 h1) with e1 | e1
  · have l1 : cmpL (keyM b) (keyM a) < 0 := by omega
    exact h2 (cmpL_trans l1 h)
  · rw [cmpL_zero.1 e1.symm] at h
    exact h2 h
end Go.Proofs.Ytdchoegaindnbaa
