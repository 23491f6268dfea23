/-
  An argument that is a list of steps of two fields, a small number and an int (Pss), as it came in.
-/
import Derived.Test.YtdmakboapchhnaaBase
import Derived.Deep.SlicePairs
import Derived.ProofKit
namespace Go.Proofs.Ytdmakboapchhnaa
open Go.RowKit
set_option linter.unusedVariables false
set_option maxRecDepth 1000000

/-- The slice reads as these steps. -/
structure Pss (w : World) (a : Option Addr) (len cap : Nat) (ks ns : List Int) : Prop where
  size1 : ks.length = len
  size2 : ns.length = len
  room : len ≤ cap
  most : cap ≤ 9223372036854775807
  bare : a = none → len = 0 ∧ cap = 0
  cell : ∀ i, i < len → ∃ b off, a = some ⟨b, off, none⟩ ∧ w.cell? ⟨b, off + i * 2, none⟩ = some (.int .u8 (ks[i]?.getD 0)) ∧ w.cell? ⟨b, off + i * 2 + 1, none⟩ = some (.int .i64 (ns[i]?.getD 0))
  wk : ∀ i, i < len → 0 ≤ ks[i]?.getD 0 ∧ ks[i]?.getD 0 ≤ 255
  wn : ∀ i, i < len → -9223372036854775808 ≤ ns[i]?.getD 0 ∧ ns[i]?.getD 0 ≤ 9223372036854775807
theorem Pss.below {w w' : World} {a : Option Addr} {len cap : Nat} {ks ns : List Int} (h : Pss w a len cap ks ns) (hb : Below w.heap.size w w') : Pss w' a len cap ks ns :=
  ⟨h.size1, h.size2, h.room, h.most, h.bare, fun i hi => by
    obtain ⟨b, off, ha, h1, h2⟩ := h.cell i hi
    exact ⟨b, off, ha, (hb.cell (World.block_lt_of_cell? _ _ h1)).trans h1, (hb.cell (World.block_lt_of_cell? _ _ h2)).trans h2⟩, h.wk, h.wn⟩
theorem Pss.cut {w : World} {a : Option Addr} {len cap : Nat} {ks ns : List Int} (h : Pss w a len cap ks ns) {m : Nat} (hm : m ≤ len) : Pss w a m cap (ks.take m) (ns.take m) :=
  ⟨by rw [List.length_take, h.size1]; omega, by rw [List.length_take, h.size2]; omega, by have := h.room; omega, h.most, fun e => by have := h.bare e; omega, fun i hi => by
    obtain ⟨b, off, e, h1, h2⟩ := h.cell i (by omega)
    exact ⟨b, off, e, by rw [h1, List.getElem?_take_of_lt hi], by rw [h2, List.getElem?_take_of_lt hi]⟩, fun i hi => by rw [List.getElem?_take_of_lt hi]; exact h.wk i (by omega), fun i hi => by rw [List.getElem?_take_of_lt hi]; exact h.wn i (by omega)⟩
section
open Go.ChangeShapes Go.WideShapes Go.ChangeAt
variable {H : Type} {enc : TypeId × Value → H} {W : World}
theorem u8_at {fuel : Nat} {c : Value} {x : DataW H × List MemPlace} (h : DataW.trod enc Try.prog W 0 (fun _ => true) true fuel 5 [c] = some x) : ∃ n : Int, c = .int .u8 n ∧ 0 ≤ n ∧ n ≤ 255 := by
  obtain ⟨n, hc, _, hw⟩ := DataW.trod_int Try.underlying5 h
  simp at hc
  exact ⟨n, hc, by have := bounds_u8 hw; omega, by have := bounds_u8 hw; omega⟩
theorem i64_at {fuel : Nat} {c : Value} {x : DataW H × List MemPlace} (h : DataW.trod enc Try.prog W 0 (fun _ => true) true fuel 3 [c] = some x) : ∃ n : Int, c = .int .i64 n ∧ -9223372036854775808 ≤ n ∧ n ≤ 9223372036854775807 := by
  obtain ⟨n, hc, _, hw⟩ := DataW.trod_int Try.underlying3 h
  simp at hc
  exact ⟨n, hc, by have := bounds_i64 hw; omega, by have := bounds_i64 hw; omega⟩
theorem pint_open {b0 : Nat} {v : Value} {d : DataW H} {ps : List MemPlace} (hv : Value.okWide Try.prog W .any b0 3 v) (h : DataW.Trod enc Try.prog W 0 (fun _ => true) true 3 v d ps) :
    ∃ n : Int, v = .int .i64 n ∧ -9223372036854775808 ≤ n ∧ n ≤ 9223372036854775807 := by
  obtain ⟨a, h1, h2, _, h4⟩ := open_int Try.underlying3 hv h
  exact ⟨a, h1, by have := bounds_i64 h4; omega, by have := bounds_i64 h4; omega⟩
theorem steps_open {b0 : Nat} {v : Value} {d : DataW H} {ps : List MemPlace} (hv : Value.okWide Try.prog W .any b0 22 v) (h : DataW.Trod enc Try.prog W 0 (fun _ => true) true 22 v d ps) :
    ∃ a len cap ks ns, v = .slice a len cap ∧ Pss W a len cap ks ns := by
  obtain ⟨a, len, cap, rfl⟩ := okWide_slice Try.underlying22 hv
  obtain ⟨fuel, hf⟩ := h
  change DataW.trod enc Try.prog W 0 (fun _ => true) true fuel 22 [.slice a len cap] = _ at hf
  rcases Go.Deep.open_slice_pairs Try.underlying22 Try.underlying35 (by kernel_rfl) rfl rfl (by kernel_rfl) (by kernel_rfl) hf with ⟨hcs, _⟩ | ⟨ad, l, c, m, n, V0, V1, D0, D1, P0, P1, hcs, _, hl, hm, hmm, _, hx⟩
  · simp at hcs
    obtain ⟨rfl, rfl, rfl⟩ := hcs
    exact ⟨none, 0, 0, [], [], rfl, rfl, rfl, Nat.le_refl _, by omega, fun _ => ⟨rfl, rfl⟩, fun i hi => by omega, fun i hi => by omega, fun i hi => by omega⟩
  · simp at hcs
    obtain ⟨rfl, rfl, rfl⟩ := hcs
    have hlm : len ≤ m := by rw [hmm]; simpa using hl
    have each : ∀ i, i < len → ∃ k q : Int, V0 i = .int .u8 k ∧ V1 i = .int .i64 q ∧ 0 ≤ k ∧ k ≤ 255 ∧ -9223372036854775808 ≤ q ∧ q ≤ 9223372036854775807 := fun i hi => by
      obtain ⟨_, _, g0, g1⟩ := hx i (by omega)
      obtain ⟨k, e0, k0, k1⟩ := u8_at g0
      obtain ⟨q, e1, q0, q1⟩ := i64_at g1
      exact ⟨k, q, e0, e1, k0, k1, q0, q1⟩
    have hspot : 0 < len → ad.spot = none := fun h0 => by
      obtain ⟨b, off, spot⟩ := ad
      simpa [Addr.add] using World.cell?_spot (hx 0 (by omega)).1
    have V0k : ∀ i, i < len → V0 i = .int .u8 (intOf (V0 i)) := fun i hi => by obtain ⟨k, q, e, _⟩ := each i hi; rw [e]; rfl
    have V1k : ∀ i, i < len → V1 i = .int .i64 (intOf (V1 i)) := fun i hi => by obtain ⟨k, q, _, e, _⟩ := each i hi; rw [e]; rfl
    have a0 : ∀ i, i < len → ((List.range len).map fun i => intOf (V0 i))[i]?.getD 0 = intOf (V0 i) := fun i hi => by simp [hi]
    have a1 : ∀ i, i < len → ((List.range len).map fun i => intOf (V1 i))[i]?.getD 0 = intOf (V1 i) := fun i hi => by simp [hi]
    refine ⟨some ad, len, cap, (List.range len).map fun i => intOf (V0 i), (List.range len).map fun i => intOf (V1 i), rfl, by simp, by simp, hl, by unfold maxLen at hm; omega, (fun e => by cases e), fun i hi => ?_, fun i hi => ?_, fun i hi => ?_⟩
    · have hs := hspot (by omega)
      obtain ⟨b, off, spot⟩ := ad
      simp only at hs
      subst hs
      obtain ⟨h0, h1, _⟩ := hx i (by omega)
      rw [Go.WideShapes.add_plain] at h0 h1
      refine ⟨b, off, rfl, ?_, ?_⟩
      · rw [a0 i hi, ← V0k i hi]; exact h0
      · rw [a1 i hi, ← V1k i hi, Nat.add_assoc]; exact h1
    · rw [a0 i hi]
      obtain ⟨k, q, e, _, k0, k1, _⟩ := each i hi
      rw [e]
      exact ⟨k0, k1⟩
    · rw [a1 i hi]
      obtain ⟨k, q, _, e, _, _, k0, k1⟩ := each i hi
      rw [e]
      exact ⟨k0, k1⟩
end
end Go.Proofs.Ytdmakboapchhnaa
