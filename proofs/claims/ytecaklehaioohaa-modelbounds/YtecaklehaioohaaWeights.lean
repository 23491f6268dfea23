/-
  Contracts: tableOf, the weights of the program's and of the document's tables.
-/
import Derived.Test.YtecaklehaioohaaConfs
namespace Go.Proofs.Ytecaklehaioohaa
open Go.RowKit
set_option linter.unusedVariables false
set_option maxRecDepth 1000000

/-- What stands at a row and a column of a table. -/
def weightZ (s t r c : Int) : Int := belowZ (deriveZ s [t]) (64 * r + c) 131073 - 65536
theorem weightZ_bd (s t r c : Int) : -65536 ≤ weightZ s t r c ∧ weightZ s t r c ≤ 65536 := by
  unfold weightZ
  have := below_bd (deriveZ s [t]) (64 * r + c) (m := 131073) (by omega)
  omega
theorem tableof_any (c : Cf) (n : Int) (w : World) (n0 : 0 ≤ n) (n1 : n ≤ 1000) :
    Calls Try.prog 22 #[.agg (CfV c), .int .i64 n] w fun e w' => e = .returned (.agg #[.int .u64 (deriveZ c.seed [n])]) ∧ Below w.heap.size w w' := by
  obtain ⟨s, v, d, l, t, h⟩ := c
  unfold CfV
  simp only
  have HD := hid fun a W (hr : Reads .u64 W a 1 1 [n]) => derive_any s a 1 1 [n] W hr (by omega)
  generalize deriveZ s [n] = x at *
  go_enter Try.func22, Try.ntmps22
  go_wp2_with fail
  refine (HD.out _ _ (Reads.oneB _ _ _ (by simp))).mono ?_
  rintro e w' ⟨rfl, rfl⟩
  clear HD
  go_wp2
  exact bodyPost_ret (v := .agg #[.int .u64 x]) (by simp [results, Try.results22, go_sem]) rfl ⟨rfl, by go_grown⟩
theorem weight_any (s t r c : Int) (w : World) (r0 : 0 ≤ r) (r1 : r ≤ 1000) (c0 : 0 ≤ c) (c1 : c ≤ 1000) :
    Calls Try.prog 23 #[.agg #[.int .u64 (deriveZ s [t])], .int .i64 r, .int .i64 c] w fun e w' => e = .returned (.int .i64 (weightZ s t r c)) ∧ Below w.heap.size w w' := by
  have HW : Hid (weightZ s t r c = belowZ (deriveZ s [t]) (64 * r + c) 131073 - 65536) := rfl
  have hb := below_bd (deriveZ s [t]) (64 * r + c) (m := 131073) (by omega)
  obtain ⟨hb0, hb1⟩ := hb
  generalize deriveZ s [t] = x at *
  go_enter Try.func23, Try.ntmps23
  go_wp2_with fail
  refine (dbelow_any _ _ _ _ (by omega) (by omega)).mono ?_
  rintro e w' ⟨rfl, rfl⟩
  go_wp2
  go_ret
  exact ⟨ret_int HW.out.symm, by go_grown⟩
theorem placeweight_any (s t r c : Int) (w : World) (r0 : 0 ≤ r) (r1 : r ≤ 1000) (c0 : 0 ≤ c) (c1 : c ≤ 1000) :
    Calls Try.prog 25 #[.agg #[.int .u64 (deriveZ s [t])], .int .i64 r, .int .i64 c] w fun e w' => e = .returned (.int .i64 (mulZ (weightZ s t r c) 16384)) ∧ Below w.heap.size w w' := by
  have hC := weight_any s t r c (w.alloc (.cells #[.int .u64 (deriveZ s [t])] 51)) r0 r1 c0 c1
  have HB : Hid (Below w.heap.size w (w.alloc (.cells #[.int .u64 (deriveZ s [t])] 51))) := (Below.refl _ _).alloc (Nat.le_refl _) _
  generalize deriveZ s [t] = x at *
  go_enter Try.func25, Try.ntmps25
  go_wp2_with fail
  refine hC.mono ?_
  rintro e w1 ⟨rfl, hb⟩
  have HB1 := hid (HB.out.trans (hb.mono HB.out.size))
  clear hb hC HB
  go_wp2_with fail
  refine (mul_any _ _ _).mono ?_
  rintro e w' ⟨rfl, rfl⟩
  go_wp2
  go_ret
  exact ⟨rfl, HB1.out⟩
theorem rweight_any (s t r c : Int) (w : World) (t0 : 0 ≤ t) (t1 : t ≤ 1000) (r0 : 0 ≤ r) (r1 : r ≤ 1000) (c0 : 0 ≤ c) (c1 : c ≤ 1000) :
    Calls Try.prog 30 #[.int .u64 s, .int .i64 t, .int .i64 r, .int .i64 c] w fun e w' => e = .returned (.int .i64 (weightZ s t r c)) ∧ Below w.heap.size w w' := by
  have HW : Hid (weightZ s t r c = belowZ (deriveZ s [t]) (64 * r + c) 131073 - 65536) := rfl
  have hb := below_bd (deriveZ s [t]) (64 * r + c) (m := 131073) (by omega)
  obtain ⟨hb0, hb1⟩ := hb
  go_enter Try.func30, Try.ntmps30
  go_wp2_with fail
  refine (rderive_any s _ 1 1 [t] _ (Reads.oneB _ _ _ (by simp)) (by omega)).mono ?_
  rintro e w' ⟨rfl, rfl⟩
  generalize deriveZ s [t] = x at *
  go_wp2_with fail
  refine (rdbelow_any _ _ _ _ (by omega) (by omega)).mono ?_
  rintro e w' ⟨rfl, rfl⟩
  go_wp2
  go_ret
  exact ⟨ret_int HW.out.symm, by go_grown⟩
end Go.Proofs.Ytecaklehaioohaa
