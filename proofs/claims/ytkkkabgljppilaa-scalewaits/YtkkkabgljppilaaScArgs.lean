/-
  Arguments of stage 25's statements: settings, steps, numbers; short, theirs.
-/
import Derived.Test.YtkkkabgljppilaaScSt
import Derived.Deep.Slices
import Derived.ProofKit
namespace Go.Proofs.Ytkkkabgljppilaa
open Go.RowKit
set_option linter.unusedVariables false
set_option maxRecDepth 1000000

def isI (n : Int) : Prop := -9223372036854775808 ≤ n ∧ n ≤ 9223372036854775807
def isU (n : Int) : Prop := 0 ≤ n ∧ n ≤ 18446744073709551615
def isB (n : Int) : Prop := 0 ≤ n ∧ n ≤ 255
def isW (n : Int) : Prop := 0 ≤ n ∧ n ≤ 4294967295
theorem arrayN6 {α : Type} {cs : Array α} (h : cs.size = 6) : ∃ c0 c1 c2 c3 c4 c5, cs = #[c0, c1, c2, c3, c4, c5] := by
  obtain ⟨l⟩ := cs
  match l, h with
  | [c0, c1, c2, c3, c4, c5], _ => exact ⟨c0, c1, c2, c3, c4, c5, rfl⟩
theorem listN6 {α : Type} {cs : List α} (h : cs.length = 6) : ∃ c0 c1 c2 c3 c4 c5, cs = [c0, c1, c2, c3, c4, c5] := by
  match cs, h with
  | [c0, c1, c2, c3, c4, c5], _ => exact ⟨c0, c1, c2, c3, c4, c5, rfl⟩
/-- The slice reads as these structs, k cells each. -/
structure Lst {α : Type} (w : World) (a : Option Addr) (len cap k : Nat) (xs : List α) (V : α → Array Value) (I : α → Prop) : Prop where
  size : xs.length = len
  room : len ≤ cap
  most : cap ≤ 9223372036854775807
  bare : a = none → len = 0 ∧ cap = 0
  cell : ∀ i (hi : i < xs.length), ∃ b off, a = some ⟨b, off, none⟩ ∧ ∀ j, j < k → w.cell? ⟨b, off + i * k + j, none⟩ = (V xs[i])[j]?
  inn : ∀ i (hi : i < xs.length), I xs[i]
theorem Lst.below {α : Type} {w w' : World} {a : Option Addr} {len cap k : Nat} {xs : List α} {V : α → Array Value} {I : α → Prop} (hV : ∀ x, (V x).size = k) (h : Lst w a len cap k xs V I) (hb : Below w.heap.size w w') : Lst w' a len cap k xs V I :=
  ⟨h.size, h.room, h.most, h.bare, fun i hi => by
    obtain ⟨b, off, ha, hc⟩ := h.cell i hi
    refine ⟨b, off, ha, fun j hj => ?_⟩
    have h1 := hc j hj
    obtain ⟨u, hu⟩ : ∃ u, (V xs[i])[j]? = some u := ⟨(V xs[i])[j]'(by rw [hV]; exact hj), Array.getElem?_eq_getElem _⟩
    rw [hu] at h1 ⊢
    exact (hb.cell (World.block_lt_of_cell? _ _ h1)).trans h1, h.inn⟩
theorem at_some3 {α : Type} {xs : List α} {n : Nat} (h : xs.length = n) {i : Nat} (hi : i < n) : ∃ y, xs[i]? = some y := ⟨_, List.getElem?_eq_getElem (by omega)⟩
theorem SgV_size (s : Sg) : (SgV s).size = 6 := rfl
/-- What is known of it. -/
structure SgIn (s : Sg) : Prop where
  mn : isI s.mn
  mx : isI s.mx
  pr : isI s.pr
  sl : isI s.sl
  uw : isI s.uw
  dw : isI s.dw
/-- A step: Set or Step, how much later, live, load, bounds. -/
structure Sp where
  sb : Bool
  later : Int
  live : Int
  load : Int
  mn : Int
  mx : Int
def SpV (s : Sp) : Array Value := #[.bool s.sb, .int .i64 s.later, .int .i64 s.live, .int .i64 s.load, .int .i64 s.mn, .int .i64 s.mx]
theorem SpV_size (s : Sp) : (SpV s).size = 6 := rfl
/-- What is known of it. -/
structure SpIn (s : Sp) : Prop where
  sb : True
  later : isI s.later
  live : isI s.live
  load : isI s.load
  mn : isI s.mn
  mx : isI s.mx
theorem Try.cellsAbool : Try.prog.cellsOf 4 = 1 := by kernel_rfl
theorem Try.cellsAint : Try.prog.cellsOf 3 = 1 := by kernel_rfl
theorem Try.cellsAint64 : Try.prog.cellsOf 2 = 1 := by kernel_rfl
theorem Try.cellsASg : Try.prog.cellsOf 23 = 6 := by kernel_rfl
theorem Try.cellsASp : Try.prog.cellsOf 38 = 6 := by kernel_rfl
section Args
open Go.ChangeShapes Go.WideShapes Go.ChangeAt
variable {H : Type} {enc : TypeId × Value → H} {W : World}
theorem ebool_at {fuel : Nat} {c : Value} {x : DataW H × List MemPlace} (h : DataW.trod enc Try.prog W 0 (fun _ => true) true fuel 4 [c] = some x) : ∃ n : Bool, c = .bool n ∧ True := by
  obtain ⟨n, hc, _⟩ := DataW.trod_bool Try.underlying4 h
  simp at hc
  exact ⟨n, hc, trivial⟩
theorem eint_at {fuel : Nat} {c : Value} {x : DataW H × List MemPlace} (h : DataW.trod enc Try.prog W 0 (fun _ => true) true fuel 3 [c] = some x) : ∃ n : Int, c = .int .i64 n ∧ isI n := by
  obtain ⟨n, hc, _, hw⟩ := DataW.trod_int Try.underlying3 h
  simp at hc
  have := bounds_i64 hw
  exact ⟨n, hc, by omega, by omega⟩
theorem eint64_at {fuel : Nat} {c : Value} {x : DataW H × List MemPlace} (h : DataW.trod enc Try.prog W 0 (fun _ => true) true fuel 2 [c] = some x) : ∃ n : Int, c = .int .i64 n ∧ isI n := by
  obtain ⟨n, hc, _, hw⟩ := DataW.trod_int Try.underlying2 h
  simp at hc
  have := bounds_i64 hw
  exact ⟨n, hc, by omega, by omega⟩
theorem Sg_at {fuel : Nat} {c0 c1 c2 c3 c4 c5 : Value} {x : DataW H × List MemPlace} (hf : DataW.trod enc Try.prog W 0 (fun _ => true) true fuel 23 [c0, c1, c2, c3, c4, c5] = some x) :
    ∃ s : Sg, [c0, c1, c2, c3, c4, c5] = (SgV s).toList ∧ SgIn s := by
  obtain ⟨xs, n, _, _, _, hl, hF⟩ := DataW.trod_struct Try.underlying23 hf
  have hl : xs.length = 6 := hl
  obtain ⟨y0, e0⟩ := at_some3 hl (i := 0) (by omega)
  obtain ⟨y1, e1⟩ := at_some3 hl (i := 1) (by omega)
  obtain ⟨y2, e2⟩ := at_some3 hl (i := 2) (by omega)
  obtain ⟨y3, e3⟩ := at_some3 hl (i := 3) (by omega)
  obtain ⟨y4, e4⟩ := at_some3 hl (i := 4) (by omega)
  obtain ⟨y5, e5⟩ := at_some3 hl (i := 5) (by omega)
  have g0 : DataW.trod enc Try.prog W 0 (fun _ => true) true n 3 [c0] = some y0 := by
    have g := hF 0 _ rfl
    change DataW.trod enc Try.prog W 0 (fun _ => true) true n 3 (List.take (Try.prog.cellsOf 3) (List.drop 0 [c0, c1, c2, c3, c4, c5])) = xs[0]? at g
    rw [Try.cellsAint, e0] at g
    exact g
  have g1 : DataW.trod enc Try.prog W 0 (fun _ => true) true n 3 [c1] = some y1 := by
    have g := hF 1 _ rfl
    change DataW.trod enc Try.prog W 0 (fun _ => true) true n 3 (List.take (Try.prog.cellsOf 3) (List.drop 1 [c0, c1, c2, c3, c4, c5])) = xs[1]? at g
    rw [Try.cellsAint, e1] at g
    exact g
  have g2 : DataW.trod enc Try.prog W 0 (fun _ => true) true n 3 [c2] = some y2 := by
    have g := hF 2 _ rfl
    change DataW.trod enc Try.prog W 0 (fun _ => true) true n 3 (List.take (Try.prog.cellsOf 3) (List.drop 2 [c0, c1, c2, c3, c4, c5])) = xs[2]? at g
    rw [Try.cellsAint, e2] at g
    exact g
  have g3 : DataW.trod enc Try.prog W 0 (fun _ => true) true n 3 [c3] = some y3 := by
    have g := hF 3 _ rfl
    change DataW.trod enc Try.prog W 0 (fun _ => true) true n 3 (List.take (Try.prog.cellsOf 3) (List.drop 3 [c0, c1, c2, c3, c4, c5])) = xs[3]? at g
    rw [Try.cellsAint, e3] at g
    exact g
  have g4 : DataW.trod enc Try.prog W 0 (fun _ => true) true n 2 [c4] = some y4 := by
    have g := hF 4 _ rfl
    change DataW.trod enc Try.prog W 0 (fun _ => true) true n 2 (List.take (Try.prog.cellsOf 2) (List.drop 4 [c0, c1, c2, c3, c4, c5])) = xs[4]? at g
    rw [Try.cellsAint64, e4] at g
    exact g
  have g5 : DataW.trod enc Try.prog W 0 (fun _ => true) true n 2 [c5] = some y5 := by
    have g := hF 5 _ rfl
    change DataW.trod enc Try.prog W 0 (fun _ => true) true n 2 (List.take (Try.prog.cellsOf 2) (List.drop 5 [c0, c1, c2, c3, c4, c5])) = xs[5]? at g
    rw [Try.cellsAint64, e5] at g
    exact g
  clear hF
  obtain ⟨z0, rfl, k0⟩ := eint_at g0
  obtain ⟨z1, rfl, k1⟩ := eint_at g1
  obtain ⟨z2, rfl, k2⟩ := eint_at g2
  obtain ⟨z3, rfl, k3⟩ := eint_at g3
  obtain ⟨z4, rfl, k4⟩ := eint64_at g4
  obtain ⟨z5, rfl, k5⟩ := eint64_at g5
  exact ⟨⟨z0, z1, z2, z3, z4, z5⟩, rfl, k0, k1, k2, k3, k4, k5⟩
theorem sg_open {b0 : Nat} {v : Value} {d : DataW H} {ps : List MemPlace} (hv : Value.okWide Try.prog W .any b0 23 v) (h : DataW.Trod enc Try.prog W 0 (fun _ => true) true 23 v d ps) :
    ∃ s : Sg, v = .agg (SgV s) ∧ SgIn s := by
  obtain ⟨cs, rfl, hsz⟩ := okWide_struct Try.underlying23 hv
  rw [Try.cellsASg] at hsz
  obtain ⟨c0, c1, c2, c3, c4, c5, rfl⟩ := arrayN6 hsz
  obtain ⟨fuel, hf⟩ := h
  obtain ⟨s, em, hm⟩ := Sg_at hf
  refine ⟨s, ?_, hm⟩
  congr 1
  exact Array.toList_inj.1 em
theorem Sp_at {fuel : Nat} {c0 c1 c2 c3 c4 c5 : Value} {x : DataW H × List MemPlace} (hf : DataW.trod enc Try.prog W 0 (fun _ => true) true fuel 38 [c0, c1, c2, c3, c4, c5] = some x) :
    ∃ s : Sp, [c0, c1, c2, c3, c4, c5] = (SpV s).toList ∧ SpIn s := by
  obtain ⟨xs, n, _, _, _, hl, hF⟩ := DataW.trod_struct Try.underlying38 hf
  have hl : xs.length = 6 := hl
  obtain ⟨y0, e0⟩ := at_some3 hl (i := 0) (by omega)
  obtain ⟨y1, e1⟩ := at_some3 hl (i := 1) (by omega)
  obtain ⟨y2, e2⟩ := at_some3 hl (i := 2) (by omega)
  obtain ⟨y3, e3⟩ := at_some3 hl (i := 3) (by omega)
  obtain ⟨y4, e4⟩ := at_some3 hl (i := 4) (by omega)
  obtain ⟨y5, e5⟩ := at_some3 hl (i := 5) (by omega)
  have g0 : DataW.trod enc Try.prog W 0 (fun _ => true) true n 4 [c0] = some y0 := by
    have g := hF 0 _ rfl
    change DataW.trod enc Try.prog W 0 (fun _ => true) true n 4 (List.take (Try.prog.cellsOf 4) (List.drop 0 [c0, c1, c2, c3, c4, c5])) = xs[0]? at g
    rw [Try.cellsAbool, e0] at g
    exact g
  have g1 : DataW.trod enc Try.prog W 0 (fun _ => true) true n 2 [c1] = some y1 := by
    have g := hF 1 _ rfl
    change DataW.trod enc Try.prog W 0 (fun _ => true) true n 2 (List.take (Try.prog.cellsOf 2) (List.drop 1 [c0, c1, c2, c3, c4, c5])) = xs[1]? at g
    rw [Try.cellsAint64, e1] at g
    exact g
  have g2 : DataW.trod enc Try.prog W 0 (fun _ => true) true n 3 [c2] = some y2 := by
    have g := hF 2 _ rfl
    change DataW.trod enc Try.prog W 0 (fun _ => true) true n 3 (List.take (Try.prog.cellsOf 3) (List.drop 2 [c0, c1, c2, c3, c4, c5])) = xs[2]? at g
    rw [Try.cellsAint, e2] at g
    exact g
  have g3 : DataW.trod enc Try.prog W 0 (fun _ => true) true n 3 [c3] = some y3 := by
    have g := hF 3 _ rfl
    change DataW.trod enc Try.prog W 0 (fun _ => true) true n 3 (List.take (Try.prog.cellsOf 3) (List.drop 3 [c0, c1, c2, c3, c4, c5])) = xs[3]? at g
    rw [Try.cellsAint, e3] at g
    exact g
  have g4 : DataW.trod enc Try.prog W 0 (fun _ => true) true n 3 [c4] = some y4 := by
    have g := hF 4 _ rfl
    change DataW.trod enc Try.prog W 0 (fun _ => true) true n 3 (List.take (Try.prog.cellsOf 3) (List.drop 4 [c0, c1, c2, c3, c4, c5])) = xs[4]? at g
    rw [Try.cellsAint, e4] at g
    exact g
  have g5 : DataW.trod enc Try.prog W 0 (fun _ => true) true n 3 [c5] = some y5 := by
    have g := hF 5 _ rfl
    change DataW.trod enc Try.prog W 0 (fun _ => true) true n 3 (List.take (Try.prog.cellsOf 3) (List.drop 5 [c0, c1, c2, c3, c4, c5])) = xs[5]? at g
    rw [Try.cellsAint, e5] at g
    exact g
  clear hF
  obtain ⟨z0, rfl, k0⟩ := ebool_at g0
  obtain ⟨z1, rfl, k1⟩ := eint64_at g1
  obtain ⟨z2, rfl, k2⟩ := eint_at g2
  obtain ⟨z3, rfl, k3⟩ := eint_at g3
  obtain ⟨z4, rfl, k4⟩ := eint_at g4
  obtain ⟨z5, rfl, k5⟩ := eint_at g5
  exact ⟨⟨z0, z1, z2, z3, z4, z5⟩, rfl, k0, k1, k2, k3, k4, k5⟩
theorem step25_open {b0 : Nat} {v : Value} {d : DataW H} {ps : List MemPlace} (hv : Value.okWide Try.prog W .any b0 38 v) (h : DataW.Trod enc Try.prog W 0 (fun _ => true) true 38 v d ps) :
    ∃ s : Sp, v = .agg (SpV s) ∧ SpIn s := by
  obtain ⟨cs, rfl, hsz⟩ := okWide_struct Try.underlying38 hv
  rw [Try.cellsASp] at hsz
  obtain ⟨c0, c1, c2, c3, c4, c5, rfl⟩ := arrayN6 hsz
  obtain ⟨fuel, hf⟩ := h
  obtain ⟨s, em, hm⟩ := Sp_at hf
  refine ⟨s, ?_, hm⟩
  congr 1
  exact Array.toList_inj.1 em
theorem steps25_open {b0 : Nat} {v : Value} {d : DataW H} {ps : List MemPlace} (hv : Value.okWide Try.prog W .any b0 24 v) (h : DataW.Trod enc Try.prog W 0 (fun _ => true) true 24 v d ps) :
    ∃ a len cap xs, v = .slice a len cap ∧ Lst W a len cap 6 xs SpV SpIn := by
  obtain ⟨a, len, cap, rfl⟩ := okWide_slice Try.underlying24 hv
  obtain ⟨fuel, hf⟩ := h
  change DataW.trod enc Try.prog W 0 (fun _ => true) true fuel 24 [.slice a len cap] = _ at hf
  rcases Go.Deep.open_slice Try.underlying24 hf with ⟨hcs, _⟩ | ⟨ad, l, c, m, n, D, Pl, hcs, _, hl, hm, hmm, _, hx⟩
  · simp at hcs
    obtain ⟨rfl, rfl, rfl⟩ := hcs
    exact ⟨none, 0, 0, [], rfl, rfl, Nat.le_refl _, by omega, fun _ => ⟨rfl, rfl⟩, fun i hi => absurd hi (by simp), fun i hi => absurd hi (by simp)⟩
  · simp at hcs
    obtain ⟨rfl, rfl, rfl⟩ := hcs
    have hlm : len ≤ m := by rw [hmm]; simpa using hl
    rw [Try.cellsASp] at hx
    have each : ∀ i, i < len → ∃ x, SpIn x ∧ ∀ j, j < 6 → W.cell? ((ad.add (i * 6)).add j) = (SpV x)[j]? := fun i hi => by
      obtain ⟨cs, h1, h2⟩ := hx i (by omega)
      obtain ⟨_, hlen, hcell⟩ := World.cells?_some h1
      obtain ⟨c0, c1, c2, c3, c4, c5, rfl⟩ := listN6 hlen
      obtain ⟨x, em, hi2⟩ := Sp_at h2
      refine ⟨x, hi2, fun j hj => ?_⟩
      rw [hcell j hj, em]
      simp
    have hspot : 0 < len → ad.spot = none := fun h0 => by
      obtain ⟨x, _, hc⟩ := each 0 h0
      have := hc 0 (by omega)
      obtain ⟨b, off, spot⟩ := ad
      have h3 : ∃ u, (SpV x)[0]? = some u := ⟨_, rfl⟩
      obtain ⟨u, hu⟩ := h3
      rw [hu] at this
      simpa [Addr.add] using World.cell?_spot this
    refine ⟨some ad, len, cap, List.ofFn fun i : Fin len => (each i.1 i.2).choose, rfl, by simp, hl, by unfold maxLen at hm; omega, (fun e => by cases e), fun i hi => ?_, fun i hi => ?_⟩
    · have hi' : i < len := by simpa using hi
      have hs := hspot (by omega)
      obtain ⟨b, off, spot⟩ := ad
      simp only at hs
      subst hs
      refine ⟨b, off, rfl, fun j hj => ?_⟩
      have e : (⟨b, off + i * 6 + j, none⟩ : Addr) = ((⟨b, off, none⟩ : Addr).add (i * 6)).add j := by rw [Go.WideShapes.add_plain, Go.WideShapes.add_plain]
      rw [List.getElem_ofFn, e]
      exact (each i hi').choose_spec.2 j hj
    · have hi' : i < len := by simpa using hi
      rw [List.getElem_ofFn]
      exact (each i hi').choose_spec.1
theorem bnum_open {b0 : Nat} {v : Value} {d : DataW H} {ps : List MemPlace} (hv : Value.okWide Try.prog W .any b0 5 v) (h : DataW.Trod enc Try.prog W 0 (fun _ => true) true 5 v d ps) :
    ∃ n : Int, v = .int .u8 n ∧ isB n := by
  obtain ⟨a, h1, h2, _, h4⟩ := open_int Try.underlying5 hv h
  have := bounds_u8 h4
  exact ⟨a, h1, by omega, by omega⟩
theorem inum_open {b0 : Nat} {v : Value} {d : DataW H} {ps : List MemPlace} (hv : Value.okWide Try.prog W .any b0 3 v) (h : DataW.Trod enc Try.prog W 0 (fun _ => true) true 3 v d ps) :
    ∃ n : Int, v = .int .i64 n ∧ isI n := by
  obtain ⟨a, h1, h2, _, h4⟩ := open_int Try.underlying3 hv h
  have := bounds_i64 h4
  exact ⟨a, h1, by omega, by omega⟩
end Args
theorem short25_any (a : Option Addr) (len cap : Nat) (W : World) (r1 : len ≤ cap) (r2 : cap ≤ 9223372036854775807) : Calls Try.prog 12 #[.slice a len cap] W fun e w' => e = .returned (.slice a (min len 300) cap) ∧ w' = W := by
  by_cases hc : 300 < len
  · rw [show min len 300 = 300 by omega]
    have hc' : (300 : Int) < (len : Int) := by omega
    go_enter Try.func12, Try.ntmps12
    go_wp2
    go_ret
    exact ⟨rfl, rfl⟩
  · rw [show min len 300 = len by omega]
    have hc' : ¬ (300 : Int) < (len : Int) := by omega
    go_enter Try.func12, Try.ntmps12
    go_wp2
    go_ret
    exact ⟨rfl, rfl⟩
theorem theirs25_any (s : Sg) (w : World) : Calls Try.prog 8 #[.agg (SgV s)] w fun e w' => e = .returned (.agg (SgV s)) ∧ Hid (Below w.heap.size w w') := by
  unfold SgV
  go_enter Try.func8, Try.ntmps8
  go_wp2
  exact bodyPost_ret (v := .agg #[.int .i64 s.mn, .int .i64 s.mx, .int .i64 s.pr, .int .i64 s.sl, .int .i64 s.uw, .int .i64 s.dw]) (by simp [results, Try.results8, go_sem]) rfl ⟨rfl, by unfold Hid; go_grown⟩
end Go.Proofs.Ytkkkabgljppilaa
