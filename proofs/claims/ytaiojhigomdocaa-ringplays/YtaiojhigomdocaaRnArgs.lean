/-
  The arguments of stage 16's statements, as they came in: loads, steps, a setting, numbers.
-/
import Derived.Test.YtaiojhigomdocaaRnMap
import Derived.Deep.SlicePairs
import Derived.ProofKit
namespace Go.Proofs.Ytaiojhigomdocaa
open Go.RowKit
set_option linter.unusedVariables false
set_option maxRecDepth 1000000

def isI (x : Int) : Prop := -9223372036854775808 ≤ x ∧ x ≤ 9223372036854775807
theorem at_some3 {α : Type} {xs : List α} {n : Nat} (h : xs.length = n) {i : Nat} (hi : i < n) : ∃ y, xs[i]? = some y := ⟨_, List.getElem?_eq_getElem (by omega)⟩
theorem array3 {α : Type} {cs : Array α} (h : cs.size = 3) : ∃ c0 c1 c2, cs = #[c0, c1, c2] := by
  obtain ⟨l⟩ := cs
  match l, h with
  | [c0, c1, c2], _ => exact ⟨c0, c1, c2, rfl⟩
theorem Try.cellsU1 : Try.prog.cellsOf 22 = 1 := by kernel_rfl
theorem Try.cellsI1 : Try.prog.cellsOf 3 = 1 := by kernel_rfl
theorem Try.cellsSe : Try.prog.cellsOf 24 = 3 := by kernel_rfl
/-- The slice reads as these steps. -/
structure Lds (w : World) (a : Option Addr) (len cap : Nat) (ks ns : List Int) : Prop where
  size1 : ks.length = len
  size2 : ns.length = len
  room : len ≤ cap
  most : cap ≤ 9223372036854775807
  bare : a = none → len = 0 ∧ cap = 0
  cell : ∀ i, i < len → ∃ b off, a = some ⟨b, off, none⟩ ∧ w.cell? ⟨b, off + i * 2, none⟩ = some (.int .u64 (ks[i]?.getD 0)) ∧ w.cell? ⟨b, off + i * 2 + 1, none⟩ = some (.int .i64 (ns[i]?.getD 0))
  wk : ∀ i, i < len → isU (ks[i]?.getD 0)
  wn : ∀ i, i < len → isI (ns[i]?.getD 0)
theorem Lds.below {w w' : World} {a : Option Addr} {len cap : Nat} {ks ns : List Int} (h : Lds w a len cap ks ns) (hb : Below w.heap.size w w') : Lds w' a len cap ks ns :=
  ⟨h.size1, h.size2, h.room, h.most, h.bare, fun i hi => by
    obtain ⟨b, off, ha, h1, h2⟩ := h.cell i hi
    exact ⟨b, off, ha, (hb.cell (World.block_lt_of_cell? _ _ h1)).trans h1, (hb.cell (World.block_lt_of_cell? _ _ h2)).trans h2⟩, h.wk, h.wn⟩
theorem Lds.cut {w : World} {a : Option Addr} {len cap : Nat} {ks ns : List Int} (h : Lds w a len cap ks ns) {m : Nat} (hm : m ≤ len) : Lds w a m cap (ks.take m) (ns.take m) :=
  ⟨by rw [List.length_take, h.size1]; omega, by rw [List.length_take, h.size2]; omega, by have := h.room; omega, h.most, fun e => by have := h.bare e; omega, fun i hi => by
    obtain ⟨b, off, e, h1, h2⟩ := h.cell i (by omega)
    exact ⟨b, off, e, by rw [h1, List.getElem?_take_of_lt hi], by rw [h2, List.getElem?_take_of_lt hi]⟩, fun i hi => by rw [List.getElem?_take_of_lt hi]; exact h.wk i (by omega), fun i hi => by rw [List.getElem?_take_of_lt hi]; exact h.wn i (by omega)⟩
/-- The slice reads as these steps. -/
structure Sps (w : World) (a : Option Addr) (len cap : Nat) (ks ns : List Int) : Prop where
  size1 : ks.length = len
  size2 : ns.length = len
  room : len ≤ cap
  most : cap ≤ 9223372036854775807
  bare : a = none → len = 0 ∧ cap = 0
  cell : ∀ i, i < len → ∃ b off, a = some ⟨b, off, none⟩ ∧ w.cell? ⟨b, off + i * 2, none⟩ = some (.int .u8 (ks[i]?.getD 0)) ∧ w.cell? ⟨b, off + i * 2 + 1, none⟩ = some (.int .u64 (ns[i]?.getD 0))
  wk : ∀ i, i < len → 0 ≤ ks[i]?.getD 0 ∧ ks[i]?.getD 0 ≤ 255
  wn : ∀ i, i < len → isU (ns[i]?.getD 0)
theorem Sps.below {w w' : World} {a : Option Addr} {len cap : Nat} {ks ns : List Int} (h : Sps w a len cap ks ns) (hb : Below w.heap.size w w') : Sps w' a len cap ks ns :=
  ⟨h.size1, h.size2, h.room, h.most, h.bare, fun i hi => by
    obtain ⟨b, off, ha, h1, h2⟩ := h.cell i hi
    exact ⟨b, off, ha, (hb.cell (World.block_lt_of_cell? _ _ h1)).trans h1, (hb.cell (World.block_lt_of_cell? _ _ h2)).trans h2⟩, h.wk, h.wn⟩
theorem Sps.cut {w : World} {a : Option Addr} {len cap : Nat} {ks ns : List Int} (h : Sps w a len cap ks ns) {m : Nat} (hm : m ≤ len) : Sps w a m cap (ks.take m) (ns.take m) :=
  ⟨by rw [List.length_take, h.size1]; omega, by rw [List.length_take, h.size2]; omega, by have := h.room; omega, h.most, fun e => by have := h.bare e; omega, fun i hi => by
    obtain ⟨b, off, e, h1, h2⟩ := h.cell i (by omega)
    exact ⟨b, off, e, by rw [h1, List.getElem?_take_of_lt hi], by rw [h2, List.getElem?_take_of_lt hi]⟩, fun i hi => by rw [List.getElem?_take_of_lt hi]; exact h.wk i (by omega), fun i hi => by rw [List.getElem?_take_of_lt hi]; exact h.wn i (by omega)⟩
section
open Go.ChangeShapes Go.WideShapes Go.ChangeAt
variable {H : Type} {enc : TypeId × Value → H} {W : World}
theorem eu64_at {fuel : Nat} {c : Value} {x : DataW H × List MemPlace} (h : DataW.trod enc Try.prog W 0 (fun _ => true) true fuel 22 [c] = some x) : ∃ n : Int, c = .int .u64 n ∧ isU n := by
  obtain ⟨n, hc, _, hw⟩ := DataW.trod_int Try.underlying22 h
  simp at hc
  have := bounds_u64 hw
  exact ⟨n, hc, by omega, by omega⟩
theorem eint_at {fuel : Nat} {c : Value} {x : DataW H × List MemPlace} (h : DataW.trod enc Try.prog W 0 (fun _ => true) true fuel 3 [c] = some x) : ∃ n : Int, c = .int .i64 n ∧ isI n := by
  obtain ⟨n, hc, _, hw⟩ := DataW.trod_int Try.underlying3 h
  simp at hc
  have := bounds_i64 hw
  exact ⟨n, hc, by omega, by omega⟩
theorem eu8_at {fuel : Nat} {c : Value} {x : DataW H × List MemPlace} (h : DataW.trod enc Try.prog W 0 (fun _ => true) true fuel 5 [c] = some x) : ∃ n : Int, c = .int .u8 n ∧ 0 ≤ n ∧ n ≤ 255 := by
  obtain ⟨n, hc, _, hw⟩ := DataW.trod_int Try.underlying5 h
  simp at hc
  have := bounds_u8 hw
  exact ⟨n, hc, by omega, by omega⟩
theorem set_open {b0 : Nat} {v : Value} {d : DataW H} {ps : List MemPlace} (hv : Value.okWide Try.prog W .any b0 24 v) (h : DataW.Trod enc Try.prog W 0 (fun _ => true) true 24 v d ps) :
    ∃ s p f : Int, v = .agg #[.int .u64 s, .int .i64 p, .int .i64 f] ∧ isU s ∧ isI p ∧ isI f := by
  obtain ⟨cs, rfl, hsz⟩ := okWide_struct Try.underlying24 hv
  rw [Try.cellsSe] at hsz
  obtain ⟨c0, c1, c2, rfl⟩ := array3 hsz
  obtain ⟨fuel, hf⟩ := h
  obtain ⟨xs, n, _, _, _, hl, hF⟩ := DataW.trod_struct Try.underlying24 hf
  have hl : xs.length = 3 := hl
  obtain ⟨y0, e0⟩ := at_some3 hl (i := 0) (by omega)
  obtain ⟨y1, e1⟩ := at_some3 hl (i := 1) (by omega)
  obtain ⟨y2, e2⟩ := at_some3 hl (i := 2) (by omega)
  have g0 : DataW.trod enc Try.prog W 0 (fun _ => true) true n 22 [c0] = some y0 := by
    have g := hF 0 _ rfl
    change DataW.trod enc Try.prog W 0 (fun _ => true) true n 22 (List.take (Try.prog.cellsOf 22) (List.drop 0 [c0, c1, c2])) = xs[0]? at g
    rw [Try.cellsU1, e0] at g
    exact g
  have g1 : DataW.trod enc Try.prog W 0 (fun _ => true) true n 3 [c1] = some y1 := by
    have g := hF 1 _ rfl
    change DataW.trod enc Try.prog W 0 (fun _ => true) true n 3 (List.take (Try.prog.cellsOf 3) (List.drop 1 [c0, c1, c2])) = xs[1]? at g
    rw [Try.cellsI1, e1] at g
    exact g
  have g2 : DataW.trod enc Try.prog W 0 (fun _ => true) true n 3 [c2] = some y2 := by
    have g := hF 2 _ rfl
    change DataW.trod enc Try.prog W 0 (fun _ => true) true n 3 (List.take (Try.prog.cellsOf 3) (List.drop 2 [c0, c1, c2])) = xs[2]? at g
    rw [Try.cellsI1, e2] at g
    exact g
  obtain ⟨s, rfl, sb⟩ := eu64_at g0
  obtain ⟨p, rfl, pb⟩ := eint_at g1
  obtain ⟨f, rfl, fb⟩ := eint_at g2
  exact ⟨s, p, f, rfl, sb, pb, fb⟩
theorem unum_open {b0 : Nat} {v : Value} {d : DataW H} {ps : List MemPlace} (hv : Value.okWide Try.prog W .any b0 22 v) (h : DataW.Trod enc Try.prog W 0 (fun _ => true) true 22 v d ps) :
    ∃ n : Int, v = .int .u64 n ∧ isU n := by
  obtain ⟨a, h1, h2, _, h4⟩ := open_int Try.underlying22 hv h
  have := bounds_u64 h4
  exact ⟨a, h1, by omega, by omega⟩
theorem inum_open {b0 : Nat} {v : Value} {d : DataW H} {ps : List MemPlace} (hv : Value.okWide Try.prog W .any b0 3 v) (h : DataW.Trod enc Try.prog W 0 (fun _ => true) true 3 v d ps) :
    ∃ n : Int, v = .int .i64 n ∧ isI n := by
  obtain ⟨a, h1, h2, _, h4⟩ := open_int Try.underlying3 hv h
  have := bounds_i64 h4
  exact ⟨a, h1, by omega, by omega⟩
theorem loads_open {b0 : Nat} {v : Value} {d : DataW H} {ps : List MemPlace} (hv : Value.okWide Try.prog W .any b0 26 v) (h : DataW.Trod enc Try.prog W 0 (fun _ => true) true 26 v d ps) :
    ∃ a len cap ks ns, v = .slice a len cap ∧ Lds W a len cap ks ns := by
  obtain ⟨a, len, cap, rfl⟩ := okWide_slice Try.underlying26 hv
  obtain ⟨fuel, hf⟩ := h
  change DataW.trod enc Try.prog W 0 (fun _ => true) true fuel 26 [.slice a len cap] = _ at hf
  rcases Go.Deep.open_slice_pairs Try.underlying26 Try.underlying62 (by kernel_rfl) rfl rfl (by kernel_rfl) (by kernel_rfl) hf with ⟨hcs, _⟩ | ⟨ad, l, c, m, n, V0, V1, D0, D1, P0, P1, hcs, _, hl, hm, hmm, _, hx⟩
  · simp at hcs
    obtain ⟨rfl, rfl, rfl⟩ := hcs
    exact ⟨none, 0, 0, [], [], rfl, rfl, rfl, Nat.le_refl _, by omega, fun _ => ⟨rfl, rfl⟩, fun i hi => by omega, fun i hi => by omega, fun i hi => by omega⟩
  · simp at hcs
    obtain ⟨rfl, rfl, rfl⟩ := hcs
    have hlm : len ≤ m := by rw [hmm]; simpa using hl
    have each : ∀ i, i < len → ∃ k q : Int, V0 i = .int .u64 k ∧ V1 i = .int .i64 q ∧ (isU (k)) ∧ (isI (q)) := fun i hi => by
      obtain ⟨_, _, g0, g1⟩ := hx i (by omega)
      obtain ⟨k, e0, kb⟩ := eu64_at g0
      obtain ⟨q, e1, qb⟩ := eint_at g1
      exact ⟨k, q, e0, e1, kb, qb⟩
    have hspot : 0 < len → ad.spot = none := fun h0 => by
      obtain ⟨b, off, spot⟩ := ad
      simpa [Addr.add] using World.cell?_spot (hx 0 (by omega)).1
    have V0k : ∀ i, i < len → V0 i = .int .u64 (intOf (V0 i)) := fun i hi => by obtain ⟨k, q, e, _⟩ := each i hi; rw [e]; rfl
    have V1k : ∀ i, i < len → V1 i = .int .i64 (intOf (V1 i)) := fun i hi => by obtain ⟨k, q, _, e, _⟩ := each i hi; rw [e]; rfl
    have a0 : ∀ i, i < len → ((List.range len).map fun i => intOf (V0 i))[i]?.getD 0 = intOf (V0 i) := fun i hi => by simp [hi]
    have a1 : ∀ i, i < len → ((List.range len).map fun i => intOf (V1 i))[i]?.getD 0 = intOf (V1 i) := fun i hi => by simp [hi]
    refine ⟨some ad, len, cap, (List.range len).map fun i => intOf (V0 i), (List.range len).map fun i => intOf (V1 i), rfl, by simp, by simp, hl, by unfold maxLen at hm; omega, (fun e => by cases e), fun i hi => ?_, fun i hi => ?_, fun i hi => ?_⟩
    · have hs := hspot (by omega)
      obtain ⟨b, off, spot⟩ := ad
      simp only at hs
      subst hs
      obtain ⟨h0, h1, _⟩ := hx i (by omega)
      rw [Go.WideShapes.add_plain] at h0 h1
      refine ⟨b, off, rfl, ?_, ?_⟩
      · rw [a0 i hi, ← V0k i hi]; exact h0
      · rw [a1 i hi, ← V1k i hi, Nat.add_assoc]; exact h1
    · rw [a0 i hi]
      obtain ⟨k, q, e, _, kb, _⟩ := each i hi
      rw [e]
      exact kb
    · rw [a1 i hi]
      obtain ⟨k, q, _, e, _, qb⟩ := each i hi
      rw [e]
      exact qb
theorem steps16_open {b0 : Nat} {v : Value} {d : DataW H} {ps : List MemPlace} (hv : Value.okWide Try.prog W .any b0 25 v) (h : DataW.Trod enc Try.prog W 0 (fun _ => true) true 25 v d ps) :
    ∃ a len cap ks ns, v = .slice a len cap ∧ Sps W a len cap ks ns := by
  obtain ⟨a, len, cap, rfl⟩ := okWide_slice Try.underlying25 hv
  obtain ⟨fuel, hf⟩ := h
  change DataW.trod enc Try.prog W 0 (fun _ => true) true fuel 25 [.slice a len cap] = _ at hf
  rcases Go.Deep.open_slice_pairs Try.underlying25 Try.underlying41 (by kernel_rfl) rfl rfl (by kernel_rfl) (by kernel_rfl) hf with ⟨hcs, _⟩ | ⟨ad, l, c, m, n, V0, V1, D0, D1, P0, P1, hcs, _, hl, hm, hmm, _, hx⟩
  · simp at hcs
    obtain ⟨rfl, rfl, rfl⟩ := hcs
    exact ⟨none, 0, 0, [], [], rfl, rfl, rfl, Nat.le_refl _, by omega, fun _ => ⟨rfl, rfl⟩, fun i hi => by omega, fun i hi => by omega, fun i hi => by omega⟩
  · simp at hcs
    obtain ⟨rfl, rfl, rfl⟩ := hcs
    have hlm : len ≤ m := by rw [hmm]; simpa using hl
    have each : ∀ i, i < len → ∃ k q : Int, V0 i = .int .u8 k ∧ V1 i = .int .u64 q ∧ (0 ≤ k ∧ k ≤ 255) ∧ (isU (q)) := fun i hi => by
      obtain ⟨_, _, g0, g1⟩ := hx i (by omega)
      obtain ⟨k, e0, kb⟩ := eu8_at g0
      obtain ⟨q, e1, qb⟩ := eu64_at g1
      exact ⟨k, q, e0, e1, kb, qb⟩
    have hspot : 0 < len → ad.spot = none := fun h0 => by
      obtain ⟨b, off, spot⟩ := ad
      simpa [Addr.add] using World.cell?_spot (hx 0 (by omega)).1
    have V0k : ∀ i, i < len → V0 i = .int .u8 (intOf (V0 i)) := fun i hi => by obtain ⟨k, q, e, _⟩ := each i hi; rw [e]; rfl
    have V1k : ∀ i, i < len → V1 i = .int .u64 (intOf (V1 i)) := fun i hi => by obtain ⟨k, q, _, e, _⟩ := each i hi; rw [e]; rfl
    have a0 : ∀ i, i < len → ((List.range len).map fun i => intOf (V0 i))[i]?.getD 0 = intOf (V0 i) := fun i hi => by simp [hi]
    have a1 : ∀ i, i < len → ((List.range len).map fun i => intOf (V1 i))[i]?.getD 0 = intOf (V1 i) := fun i hi => by simp [hi]
    refine ⟨some ad, len, cap, (List.range len).map fun i => intOf (V0 i), (List.range len).map fun i => intOf (V1 i), rfl, by simp, by simp, hl, by unfold maxLen at hm; omega, (fun e => by cases e), fun i hi => ?_, fun i hi => ?_, fun i hi => ?_⟩
    · have hs := hspot (by omega)
      obtain ⟨b, off, spot⟩ := ad
      simp only at hs
      subst hs
      obtain ⟨h0, h1, _⟩ := hx i (by omega)
      rw [Go.WideShapes.add_plain] at h0 h1
      refine ⟨b, off, rfl, ?_, ?_⟩
      · rw [a0 i hi, ← V0k i hi]; exact h0
      · rw [a1 i hi, ← V1k i hi, Nat.add_assoc]; exact h1
    · rw [a0 i hi]
      obtain ⟨k, q, e, _, kb, _⟩ := each i hi
      rw [e]
      exact kb
    · rw [a1 i hi]
      obtain ⟨k, q, _, e, _, qb⟩ := each i hi
      rw [e]
      exact qb
theorem uints_open {b0 : Nat} {v : Value} {d : DataW H} {ps : List MemPlace} (hv : Value.okWide Try.prog W .any b0 31 v) (h : DataW.Trod enc Try.prog W 0 (fun _ => true) true 31 v d ps) :
    ∃ a len cap zs, v = .slice a len cap ∧ Reads .u64 W a len cap zs ∧ ∀ x ∈ zs, isU x := by
  obtain ⟨a, len, cap, rfl⟩ := okWide_slice Try.underlying31 hv
  obtain ⟨fuel, hf⟩ := h
  change DataW.trod enc Try.prog W 0 (fun _ => true) true fuel 31 [.slice a len cap] = _ at hf
  rcases Go.ChangeShapes.open_ints Try.underlying31 Try.underlying22 (by kernel_rfl) hf with ⟨hcs, _⟩ | ⟨ad, l, c, zs, hcs, _, hl, hm, hz, _, hx, hw⟩
  · simp at hcs
    obtain ⟨rfl, rfl, rfl⟩ := hcs
    exact ⟨none, 0, 0, [], rfl, Reads.nil _ _, by simp⟩
  · simp at hcs
    obtain ⟨rfl, rfl, rfl⟩ := hcs
    refine ⟨some ad, len, cap, _, rfl, (Reads.row (zs := zs) (.inr ⟨ad, rfl, hl, hm, by simpa using hz, hx, hw⟩)).1, fun x hxm => ?_⟩
    have := bounds_u64 (hw x (List.mem_of_mem_take hxm))
    exact ⟨by omega, by omega⟩
end
end Go.Proofs.Ytaiojhigomdocaa
