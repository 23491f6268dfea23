/-
  The points' order, as the sort asks it.
-/
import Derived.Test.YtaiojhigomdocaaRnCmp
namespace Go.Proofs.Ytaiojhigomdocaa
open Go.RowKit
set_option linter.unusedVariables false
set_option maxRecDepth 1000000

/-- A point's two cells. -/
def encPt (x : Int × Int) : List Value := [.int .u64 x.1, .int .u64 x.2]
theorem cmpPt (blk off size : Nat) (w : World) : CmpLays Try.prog 43 #[] encPt 2 cfZ blk off size w :=
  fun _ _ _ _ x y => ucompare x y _
/-- x comes ahead of y. -/
def ptlt (x y : Int × Int) : Prop := x.1 < y.1 ∨ x.1 = y.1 ∧ x.2 < y.2
theorem lt_cf (x y : Int × Int) : ltOf cfZ x y = true ↔ ptlt x y := by
  unfold ltOf cfZ cmpZ ptlt
  obtain ⟨a, b⟩ := x
  obtain ⟨c, d⟩ := y
  simp only [decide_eq_true_eq]
  by_cases h1 : a < c
  · simp [h1]
  · by_cases h2 : c < a
    · simp [h1, h2]; omega
    · have : a = c := by omega
      subst this
      by_cases h3 : b < d
      · simp [h3]
      · by_cases h4 : d < b <;> simp [h3, h4]
theorem lt_cf_no (x y : Int × Int) : ltOf cfZ x y = false ↔ ¬ ptlt x y := by
  rw [← lt_cf]; simp
theorem swoPt : Sort.SWO (ltOf cfZ) where
  irrefl x := by rw [lt_cf_no]; unfold ptlt; omega
  trans x y z h1 h2 := by rw [lt_cf] at *; unfold ptlt at *; omega
  ntrans x y z h1 h2 := by rw [lt_cf_no] at *; unfold ptlt at *; omega
theorem totPt (x y : Int × Int) (h1 : ltOf cfZ x y = false) (h2 : ltOf cfZ y x = false) : x = y := by
  rw [lt_cf_no] at h1 h2
  unfold ptlt at h1 h2
  obtain ⟨a, b⟩ := x
  obtain ⟨c, d⟩ := y
  simp at h1 h2
  have : a = c := by omega
  subst this
  have : b = d := by omega
  rw [this]
end Go.Proofs.Ytaiojhigomdocaa
