/-
  The document's order of marks, and the program's; the mark that goes is the least one.
-/
import Derived.Test.YtdchoegaindnbaaRpDef
import Derived.Test.YtdchoegaindnbaaPtRm
import Derived.Test.YtdchoegaindnbaaPtOrd
namespace Go.Proofs.Ytdchoegaindnbaa
open Go.RowKit
set_option linter.unusedVariables false
set_option maxRecDepth 1000000

/-- A mark of the document's tree, as one of the program's. -/
def Rk.toM (q : Rk) : Mk := ⟨q.rep, q.toks, q.used, 0⟩
/-- A mark but for its block. -/
def Mk.tr (m : Mk) : Int × List Int × Int := (m.rep, m.toks, m.used)
def Rk.em (q : Rk) : Int × List Int × Int := (q.rep, q.toks, q.used)
theorem cmpZ_lt {x y : Int} : cmpZ x y < 0 ↔ x < y := by unfold cmpZ; split <;> (try split) <;> omega
theorem cmpZ_eq {x y : Int} : cmpZ x y = 0 ↔ x = y := by unfold cmpZ; split <;> (try split) <;> omega
theorem less_cmp : ∀ {xs ys : List Int}, xs.length = ys.length → (lessB xs ys = true ↔ cmpL xs ys < 0)
  | [], [], _ => by simp [lessB, cmpL]
  | [], _ :: _, h => by simp at h
  | _ :: _, [], h => by simp at h
  | x :: xs, y :: ys, h => by
    have ih := less_cmp (xs := xs) (ys := ys) (by simpa using h)
    unfold lessB cmpL
    by_cases e : x = y
    · rw [if_pos e, if_neg (fun h => h (cmpZ_eq.2 e))]
      exact ih
    · rw [if_neg e, if_pos (fun h => e (cmpZ_eq.1 h)), cmpZ_lt]
      simp
theorem old_cmp (a b : Rk) : oldB a b = true ↔ cmpM a.toM b.toM < 0 := by
  unfold oldB cmpM or3
  simp only [Rk.toM]
  by_cases h1 : a.used = b.used
  · rw [if_pos h1]
    have z1 := cmpZ_eq.2 h1
    by_cases h2 : a.toks.length = b.toks.length
    · rw [if_pos h2]
      have z2 : cmpZ (b.toks.length : Int) (a.toks.length : Int) = 0 := cmpZ_eq.2 (by omega)
      by_cases h3 : a.rep = b.rep
      · rw [if_pos h3]
        have z3 := cmpZ_eq.2 h3
        simp only [z1, z2, z3, ne_eq, not_true_eq_false, if_false]
        exact less_cmp h2
      · rw [if_neg h3]
        have z3 : ¬ cmpZ a.rep b.rep = 0 := fun h => h3 (cmpZ_eq.1 h)
        simp only [z1, z2, z3, ne_eq, not_true_eq_false, not_false_eq_true, if_false, if_true]
        rw [cmpZ_lt]; simp
    · rw [if_neg h2]
      have z2 : ¬ cmpZ (b.toks.length : Int) (a.toks.length : Int) = 0 := fun h => h2 (by have := cmpZ_eq.1 h; omega)
      simp only [z1, z2, ne_eq, not_true_eq_false, not_false_eq_true, if_false, if_true]
      rw [cmpZ_lt]; simp
  · rw [if_neg h1]
    have z1 : ¬ cmpZ a.used b.used = 0 := fun h => h1 (cmpZ_eq.1 h)
    simp only [z1, ne_eq, not_false_eq_true, if_true]
    rw [cmpZ_lt]; simp
end Go.Proofs.Ytdchoegaindnbaa
