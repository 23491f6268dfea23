/-
  Arguments of stage 20's statements: steps; short.
-/
import Derived.Test.YtdfbnfgemjljgaaWhMath
import Derived.Deep.Slices
import Derived.ProofKit
namespace Go.Proofs.Ytdfbnfgemjljgaa
open Go.RowKit
set_option linter.unusedVariables false
set_option maxRecDepth 1000000

theorem arrayN5 {α : Type} {cs : Array α} (h : cs.size = 5) : ∃ c0 c1 c2 c3 c4, cs = #[c0, c1, c2, c3, c4] := by
  obtain ⟨l⟩ := cs
  match l, h with
  | [c0, c1, c2, c3, c4], _ => exact ⟨c0, c1, c2, c3, c4, rfl⟩
theorem listN5 {α : Type} {cs : List α} (h : cs.length = 5) : ∃ c0 c1 c2 c3 c4, cs = [c0, c1, c2, c3, c4] := by
  match cs, h with
  | [c0, c1, c2, c3, c4], _ => exact ⟨c0, c1, c2, c3, c4, rfl⟩
/-- The slice reads as these structs, k cells each. -/
structure Lst {α : Type} (w : World) (a : Option Addr) (len cap k : Nat) (xs : List α) (V : α → Array Value) (I : α → Prop) : Prop where
  size : xs.length = len
  room : len ≤ cap
  most : cap ≤ 9223372036854775807
  bare : a = none → len = 0 ∧ cap = 0
  cell : ∀ i (hi : i < xs.length), ∃ b off, a = some ⟨b, off, none⟩ ∧ ∀ j, j < k → w.cell? ⟨b, off + i * k + j, none⟩ = (V xs[i])[j]?
  inn : ∀ i (hi : i < xs.length), I xs[i]
/-- A step: its kind, how much later, behind how much it is due, its label, its number. -/
structure Sp where
  kd : Int
  later : Int
  after : Int
  label : Int
  num : Int
/-- Its cells. -/
def SpV (s : Sp) : Array Value := #[.int .u8 s.kd, .int .i64 s.later, .int .i64 s.after, .int .u64 s.label, .int .i64 s.num]
/-- What is known of it. -/
structure SpIn (s : Sp) : Prop where
  kd : 0 ≤ s.kd ∧ s.kd ≤ 255
  later : isI s.later
  after : isI s.after
  label : isU s.label
  num : isI s.num
theorem Try.cellsI6 : Try.prog.cellsOf 2 = 1 := by kernel_rfl
theorem Try.cellsU8 : Try.prog.cellsOf 5 = 1 := by kernel_rfl
theorem Try.cellsU1 : Try.prog.cellsOf 29 = 1 := by kernel_rfl
theorem Try.cellsIn : Try.prog.cellsOf 3 = 1 := by kernel_rfl
theorem Try.cellsSp : Try.prog.cellsOf 31 = 5 := by kernel_rfl
theorem at_some3 {α : Type} {xs : List α} {n : Nat} (h : xs.length = n) {i : Nat} (hi : i < n) : ∃ y, xs[i]? = some y := ⟨_, List.getElem?_eq_getElem (by omega)⟩
section Args
open Go.ChangeShapes Go.WideShapes Go.ChangeAt
variable {H : Type} {enc : TypeId × Value → H} {W : World}
theorem eu64_at {fuel : Nat} {c : Value} {x : DataW H × List MemPlace} (h : DataW.trod enc Try.prog W 0 (fun _ => true) true fuel 29 [c] = some x) : ∃ n : Int, c = .int .u64 n ∧ isU n := by
  obtain ⟨n, hc, _, hw⟩ := DataW.trod_int Try.underlying29 h
  simp at hc
  have := bounds_u64 hw
  exact ⟨n, hc, by omega, by omega⟩
theorem eint_at {fuel : Nat} {c : Value} {x : DataW H × List MemPlace} (h : DataW.trod enc Try.prog W 0 (fun _ => true) true fuel 2 [c] = some x) : ∃ n : Int, c = .int .i64 n ∧ isI n := by
  obtain ⟨n, hc, _, hw⟩ := DataW.trod_int Try.underlying2 h
  simp at hc
  have := bounds_i64 hw
  exact ⟨n, hc, by omega, by omega⟩
theorem eint2_at {fuel : Nat} {c : Value} {x : DataW H × List MemPlace} (h : DataW.trod enc Try.prog W 0 (fun _ => true) true fuel 3 [c] = some x) : ∃ n : Int, c = .int .i64 n ∧ isI n := by
  obtain ⟨n, hc, _, hw⟩ := DataW.trod_int Try.underlying3 h
  simp at hc
  have := bounds_i64 hw
  exact ⟨n, hc, by omega, by omega⟩
theorem eu8_at {fuel : Nat} {c : Value} {x : DataW H × List MemPlace} (h : DataW.trod enc Try.prog W 0 (fun _ => true) true fuel 5 [c] = some x) : ∃ n : Int, c = .int .u8 n ∧ 0 ≤ n ∧ n ≤ 255 := by
  obtain ⟨n, hc, _, hw⟩ := DataW.trod_int Try.underlying5 h
  simp at hc
  have := bounds_u8 hw
  exact ⟨n, hc, by omega, by omega⟩
theorem sp_at {fuel : Nat} {c0 c1 c2 c3 c4 : Value} {x : DataW H × List MemPlace} (hf : DataW.trod enc Try.prog W 0 (fun _ => true) true fuel 31 [c0, c1, c2, c3, c4] = some x) :
    ∃ s : Sp, [c0, c1, c2, c3, c4] = (SpV s).toList ∧ SpIn s := by
  obtain ⟨xs, n, _, _, _, hl, hF⟩ := DataW.trod_struct Try.underlying31 hf
  have hl : xs.length = 5 := hl
  obtain ⟨y0, e0⟩ := at_some3 hl (i := 0) (by omega)
  obtain ⟨y1, e1⟩ := at_some3 hl (i := 1) (by omega)
  obtain ⟨y2, e2⟩ := at_some3 hl (i := 2) (by omega)
  obtain ⟨y3, e3⟩ := at_some3 hl (i := 3) (by omega)
  obtain ⟨y4, e4⟩ := at_some3 hl (i := 4) (by omega)
  have g0 : DataW.trod enc Try.prog W 0 (fun _ => true) true n 5 [c0] = some y0 := by
    have g := hF 0 _ rfl
    change DataW.trod enc Try.prog W 0 (fun _ => true) true n 5 (List.take (Try.prog.cellsOf 5) (List.drop 0 [c0, c1, c2, c3, c4])) = xs[0]? at g
    rw [Try.cellsU8, e0] at g
    exact g
  have g1 : DataW.trod enc Try.prog W 0 (fun _ => true) true n 2 [c1] = some y1 := by
    have g := hF 1 _ rfl
    change DataW.trod enc Try.prog W 0 (fun _ => true) true n 2 (List.take (Try.prog.cellsOf 2) (List.drop 1 [c0, c1, c2, c3, c4])) = xs[1]? at g
    rw [Try.cellsI6, e1] at g
    exact g
  have g2 : DataW.trod enc Try.prog W 0 (fun _ => true) true n 2 [c2] = some y2 := by
    have g := hF 2 _ rfl
    change DataW.trod enc Try.prog W 0 (fun _ => true) true n 2 (List.take (Try.prog.cellsOf 2) (List.drop 2 [c0, c1, c2, c3, c4])) = xs[2]? at g
    rw [Try.cellsI6, e2] at g
    exact g
  have g3 : DataW.trod enc Try.prog W 0 (fun _ => true) true n 29 [c3] = some y3 := by
    have g := hF 3 _ rfl
    change DataW.trod enc Try.prog W 0 (fun _ => true) true n 29 (List.take (Try.prog.cellsOf 29) (List.drop 3 [c0, c1, c2, c3, c4])) = xs[3]? at g
    rw [Try.cellsU1, e3] at g
    exact g
  have g4 : DataW.trod enc Try.prog W 0 (fun _ => true) true n 3 [c4] = some y4 := by
    have g := hF 4 _ rfl
    change DataW.trod enc Try.prog W 0 (fun _ => true) true n 3 (List.take (Try.prog.cellsOf 3) (List.drop 4 [c0, c1, c2, c3, c4])) = xs[4]? at g
    rw [Try.cellsIn, e4] at g
    exact g
  clear hF
  obtain ⟨kd, rfl, k1, k2⟩ := eu8_at g0
  obtain ⟨la, rfl, lb⟩ := eint_at g1
  obtain ⟨af, rfl, ab⟩ := eint_at g2
  obtain ⟨lb2, rfl, sb⟩ := eu64_at g3
  obtain ⟨nu, rfl, nb⟩ := eint2_at g4
  exact ⟨⟨kd, la, af, lb2, nu⟩, rfl, ⟨k1, k2⟩, lb, ab, sb, nb⟩
theorem steps20_open {b0 : Nat} {v : Value} {d : DataW H} {ps : List MemPlace} (hv : Value.okWide Try.prog W .any b0 22 v) (h : DataW.Trod enc Try.prog W 0 (fun _ => true) true 22 v d ps) :
    ∃ a len cap xs, v = .slice a len cap ∧ Lst W a len cap 5 xs SpV SpIn := by
  obtain ⟨a, len, cap, rfl⟩ := okWide_slice Try.underlying22 hv
  obtain ⟨fuel, hf⟩ := h
  change DataW.trod enc Try.prog W 0 (fun _ => true) true fuel 22 [.slice a len cap] = _ at hf
  rcases Go.Deep.open_slice Try.underlying22 hf with ⟨hcs, _⟩ | ⟨ad, l, c, m, n, D, Pl, hcs, _, hl, hm, hmm, _, hx⟩
  · simp at hcs
    obtain ⟨rfl, rfl, rfl⟩ := hcs
    exact ⟨none, 0, 0, [], rfl, rfl, Nat.le_refl _, by omega, fun _ => ⟨rfl, rfl⟩, fun i hi => absurd hi (by simp), fun i hi => absurd hi (by simp)⟩
  · simp at hcs
    obtain ⟨rfl, rfl, rfl⟩ := hcs
    have hlm : len ≤ m := by rw [hmm]; simpa using hl
    rw [Try.cellsSp] at hx
    have each : ∀ i, i < len → ∃ x, SpIn x ∧ ∀ j, j < 5 → W.cell? ((ad.add (i * 5)).add j) = (SpV x)[j]? := fun i hi => by
      obtain ⟨cs, h1, h2⟩ := hx i (by omega)
      obtain ⟨_, hlen, hcell⟩ := World.cells?_some h1
      obtain ⟨c0, c1, c2, c3, c4, rfl⟩ := listN5 hlen
      obtain ⟨x, em, hi2⟩ := sp_at h2
      refine ⟨x, hi2, fun j hj => ?_⟩
      rw [hcell j hj, em]
      simp
    have hspot : 0 < len → ad.spot = none := fun h0 => by
      obtain ⟨x, _, hc⟩ := each 0 h0
      have := hc 0 (by omega)
      obtain ⟨b, off, spot⟩ := ad
      have h3 : ∃ u, (SpV x)[0]? = some u := ⟨_, rfl⟩
      obtain ⟨u, hu⟩ := h3
      rw [hu] at this
      simpa [Addr.add] using World.cell?_spot this
    have lt : ∀ i : Fin len, i.1 < len := fun i => i.2
    refine ⟨some ad, len, cap, List.ofFn fun i : Fin len => (each i.1 i.2).choose, rfl, by simp, hl, by unfold maxLen at hm; omega, (fun e => by cases e), fun i hi => ?_, fun i hi => ?_⟩
    · have hi' : i < len := by simpa using hi
      have hs := hspot (by omega)
      obtain ⟨b, off, spot⟩ := ad
      simp only at hs
      subst hs
      refine ⟨b, off, rfl, fun j hj => ?_⟩
      have e : (⟨b, off + i * 5 + j, none⟩ : Addr) = ((⟨b, off, none⟩ : Addr).add (i * 5)).add j := by rw [Go.WideShapes.add_plain, Go.WideShapes.add_plain]
      rw [List.getElem_ofFn, e]
      exact (each i hi').choose_spec.2 j hj
    · have hi' : i < len := by simpa using hi
      rw [List.getElem_ofFn]
      exact (each i hi').choose_spec.1
theorem step_open {b0 : Nat} {v : Value} {d : DataW H} {ps : List MemPlace} (hv : Value.okWide Try.prog W .any b0 31 v) (h : DataW.Trod enc Try.prog W 0 (fun _ => true) true 31 v d ps) :
    ∃ s : Sp, v = .agg (SpV s) ∧ SpIn s := by
  obtain ⟨cs, rfl, hsz⟩ := okWide_struct Try.underlying31 hv
  rw [Try.cellsSp] at hsz
  obtain ⟨c0, c1, c2, c3, c4, rfl⟩ := arrayN5 hsz
  obtain ⟨fuel, hf⟩ := h
  obtain ⟨s, em, hm⟩ := sp_at hf
  refine ⟨s, ?_, hm⟩
  congr 1
  exact Array.toList_inj.1 em
theorem inum_open {b0 : Nat} {v : Value} {d : DataW H} {ps : List MemPlace} (hv : Value.okWide Try.prog W .any b0 3 v) (h : DataW.Trod enc Try.prog W 0 (fun _ => true) true 3 v d ps) :
    ∃ n : Int, v = .int .i64 n ∧ isI n := by
  obtain ⟨a, h1, h2, _, h4⟩ := open_int Try.underlying3 hv h
  have := bounds_i64 h4
  exact ⟨a, h1, by omega, by omega⟩
theorem jnum_open {b0 : Nat} {v : Value} {d : DataW H} {ps : List MemPlace} (hv : Value.okWide Try.prog W .any b0 2 v) (h : DataW.Trod enc Try.prog W 0 (fun _ => true) true 2 v d ps) :
    ∃ n : Int, v = .int .i64 n ∧ isI n := by
  obtain ⟨a, h1, h2, _, h4⟩ := open_int Try.underlying2 hv h
  have := bounds_i64 h4
  exact ⟨a, h1, by omega, by omega⟩
end Args
theorem Lst.below {w w' : World} {a : Option Addr} {len cap : Nat} {xs : List Sp} (h : Lst w a len cap 5 xs SpV SpIn) (hb : Below w.heap.size w w') : Lst w' a len cap 5 xs SpV SpIn :=
  ⟨h.size, h.room, h.most, h.bare, fun i hi => by
    obtain ⟨b, off, ha, hc⟩ := h.cell i hi
    refine ⟨b, off, ha, fun j hj => ?_⟩
    have h1 := hc j hj
    have h2 : ∃ u, (SpV xs[i])[j]? = some u := by
      obtain rfl | rfl | rfl | rfl | rfl : j = 0 ∨ j = 1 ∨ j = 2 ∨ j = 3 ∨ j = 4 := by omega
      · exact ⟨_, rfl⟩
      · exact ⟨_, rfl⟩
      · exact ⟨_, rfl⟩
      · exact ⟨_, rfl⟩
      · exact ⟨_, rfl⟩
    obtain ⟨u, hu⟩ := h2
    rw [hu] at h1 ⊢
    exact (hb.cell (World.block_lt_of_cell? _ _ h1)).trans h1, h.inn⟩
theorem Lst.at {w : World} {a : Option Addr} {len cap : Nat} {xs : List Sp} (h : Lst w a len cap 5 xs SpV SpIn) {i : Nat} (hi : i < len) : ∃ b off s, a = some ⟨b, off, none⟩ ∧ xs[i]? = some s ∧ SpIn s ∧ w.cell? ⟨b, off + i * 5, none⟩ = some (.int .u8 s.kd) ∧ w.cell? ⟨b, off + i * 5 + 1, none⟩ = some (.int .i64 s.later) ∧ w.cell? ⟨b, off + i * 5 + 2, none⟩ = some (.int .i64 s.after) ∧ w.cell? ⟨b, off + i * 5 + 3, none⟩ = some (.int .u64 s.label) ∧ w.cell? ⟨b, off + i * 5 + 4, none⟩ = some (.int .i64 s.num) := by
  have hx : i < xs.length := by rw [h.size]; exact hi
  obtain ⟨b, off, e, hc⟩ := h.cell i hx
  exact ⟨b, off, xs[i], e, List.getElem?_eq_getElem hx, h.inn i hx, hc 0 (by omega), hc 1 (by omega), hc 2 (by omega), hc 3 (by omega), hc 4 (by omega)⟩
theorem short_any (a : Option Addr) (len cap : Nat) (W : World) (r1 : len ≤ cap) (r2 : cap ≤ 9223372036854775807) : Calls Try.prog 7 #[.slice a len cap] W fun e w' => e = .returned (.slice a (min len 300) cap) ∧ w' = W := by
  by_cases hc : 300 < len
  · rw [show min len 300 = 300 by omega]
    have hc' : (300 : Int) < (len : Int) := by omega
    go_enter Try.func7, Try.ntmps7
    go_wp2
    go_ret
    exact ⟨rfl, rfl⟩
  · rw [show min len 300 = len by omega]
    have hc' : ¬ (300 : Int) < (len : Int) := by omega
    go_enter Try.func7, Try.ntmps7
    go_wp2
    go_ret
    exact ⟨rfl, rfl⟩
end Go.Proofs.Ytdfbnfgemjljgaa
