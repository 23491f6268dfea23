/-
  Plain mathematics of the saturating numbers: what a whole number is when it is held within the bounds of a signed number of 64 bits. Nothing of the program is named here.
-/
namespace Go.Proofs.Ytoddilpmnoedhaa.M

/-- A whole number, held within the bounds of int64. -/
def clamp (n : Int) : Int := if 9223372036854775807 < n then 9223372036854775807 else if n < -9223372036854775808 then -9223372036854775808 else n

theorem clamp_hi {n : Int} (h : 9223372036854775807 ≤ n) : clamp n = 9223372036854775807 := by
  unfold clamp; split <;> (try split) <;> omega
theorem clamp_lo {n : Int} (h : n ≤ -9223372036854775808) : clamp n = -9223372036854775808 := by
  unfold clamp; split <;> (try split) <;> omega
theorem clamp_in {n : Int} (h1 : -9223372036854775808 ≤ n) (h2 : n ≤ 9223372036854775807) : clamp n = n := by
  unfold clamp; split <;> (try split) <;> omega
theorem clamp_bd (n : Int) : -9223372036854775808 ≤ clamp n ∧ clamp n ≤ 9223372036854775807 := by
  unfold clamp; split <;> (try split) <;> omega

end Go.Proofs.Ytoddilpmnoedhaa.M
