/-
  Contracts: tableOf, the weights of the program's and of the document's tables.
-/
import Derived.Test.YtpllffekebkacaaConfs
namespace Go.Proofs.Ytpllffekebkacaa
open Go.RowKit
set_option linter.unusedVariables false
set_option maxRecDepth 1000000

/-- What stands at a row and a column of a table. -/
def weightZ (s t r c : Int) : Int := belowZ (deriveZ s [t]) (64 * r + c) 131073 - 65536
theorem weightZ_bd (s t r c : Int) : -65536 ≤ weightZ s t r c ∧ weightZ s t r c ≤ 65536 := by
  unfold weightZ
  have := below_bd (deriveZ s [t]) (64 * r + c) (m := 131073) (by omega)
  omega
theorem tableof_any (c : Cf) (n : Int) (w : World) (n0 : 0 ≤ n) (n1 : n ≤ 1000) :
    Calls Try.prog 69 #[.agg (CfV c), .int .i64 n] w fun e w' => e = .returned (.agg #[.int .u64 (deriveZ c.seed [n])]) ∧ Below w.heap.size w w' := by
  obtain ⟨s, v, d, l, t, h⟩ := c
  unfold CfV
  simp only
  have HD := hid fun a W (hr : Reads .u64 W a 1 1 [n]) => derive_any s a 1 1 [n] W hr (by omega)
  generalize deriveZ s [n] = x at *
  go_enter Try.func69, Try.ntmps69
  go_wp2_with fail
  refine (HD.out _ _ (Reads.oneB _ _ _ (by simp))).mono ?_
  rintro e w' ⟨rfl, rfl⟩
  clear HD
  go_wp2
  exact bodyPost_ret (v := .agg #[.int .u64 x]) (by simp [results, Try.results69, go_sem]) rfl ⟨rfl, by go_grown⟩
theorem weight_any (s t r c : Int) (w : World) (r0 : 0 ≤ r) (r1 : r ≤ 1000) (c0 : 0 ≤ c) (c1 : c ≤ 1000) :
    Calls Try.prog 70 #[.agg #[.int .u64 (deriveZ s [t])], .int .i64 r, .int .i64 c] w fun e w' => e = .returned (.int .i64 (weightZ s t r c)) ∧ Below w.heap.size w w' := by
  have HW : Hid (weightZ s t r c = belowZ (deriveZ s [t]) (64 * r + c) 131073 - 65536) := rfl
  have hb := below_bd (deriveZ s [t]) (64 * r + c) (m := 131073) (by omega)
  obtain ⟨hb0, hb1⟩ := hb
  generalize deriveZ s [t] = x at *
  go_enter Try.func70, Try.ntmps70
  go_wp2_with fail
  refine (dbelow_any _ _ _ _ (by omega) (by omega)).mono ?_
  rintro e w' ⟨rfl, rfl⟩
  go_wp2
  go_ret
  exact ⟨ret_int HW.out.symm, by go_grown⟩
theorem rweight_any (s t r c : Int) (w : World) (t0 : 0 ≤ t) (t1 : t ≤ 1000) (r0 : 0 ≤ r) (r1 : r ≤ 1000) (c0 : 0 ≤ c) (c1 : c ≤ 1000) :
    Calls Try.prog 88 #[.int .u64 s, .int .i64 t, .int .i64 r, .int .i64 c] w fun e w' => e = .returned (.int .i64 (weightZ s t r c)) ∧ Below w.heap.size w w' := by
  have HW : Hid (weightZ s t r c = belowZ (deriveZ s [t]) (64 * r + c) 131073 - 65536) := rfl
  have hb := below_bd (deriveZ s [t]) (64 * r + c) (m := 131073) (by omega)
  obtain ⟨hb0, hb1⟩ := hb
  go_enter Try.func88, Try.ntmps88
  go_wp2_with fail
  refine (rderive_any s _ 1 1 [t] _ (Reads.oneB _ _ _ (by simp)) (by omega)).mono ?_
  rintro e w' ⟨rfl, rfl⟩
  generalize deriveZ s [t] = x at *
  go_wp2_with fail
  refine (rdbelow_any _ _ _ _ (by omega) (by omega)).mono ?_
  rintro e w' ⟨rfl, rfl⟩
  go_wp2
  go_ret
  exact ⟨ret_int HW.out.symm, by go_grown⟩
end Go.Proofs.Ytpllffekebkacaa
