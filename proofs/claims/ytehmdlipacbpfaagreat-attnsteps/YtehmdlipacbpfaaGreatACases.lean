/-
  The argument of AttnSteps: a configuration, a layer, a vector, and keys and values, as they came in.
-/
import Derived.Test.YtehmdlipacbpfaaGreatAArgs
import Derived.ProofKit
namespace Go.Proofs.YtehmdlipacbpfaaGreat
open Go.RowKit
set_option linter.unusedVariables false
set_option maxRecDepth 1000000

/-- A case. -/
structure Ca where
  c : Cf
  la : Int
  ax : Option Addr
  lx : Nat
  cx : Nat
  zs : List Int
  ak : Option Addr
  lk : Nat
  ck : Nat
  hk : List Hd
  ks : List (List Int)
  av : Option Addr
  lv : Nat
  cv : Nat
  hv : List Hd
  vs : List (List Int)
/-- Its cells. -/
def CaV (x : Ca) : Array Value := #[.int .u64 x.c.seed, .int .i64 x.c.vocab, .int .i64 x.c.dim, .int .i64 x.c.layers, .int .i64 x.c.top, .int .i64 x.c.heat, .int .i64 x.la, .slice x.ax x.lx x.cx, .slice x.ak x.lk x.ck, .slice x.av x.lv x.cv]
/-- What its slices read as. -/
def CaIn (w : World) (x : Ca) : Prop := Reads .i64 w x.ax x.lx x.cx x.zs ∧ TblIn w x.ak x.lk x.ck x.hk x.ks ∧ TblIn w x.av x.lv x.cv x.hv x.vs
theorem tbl_at {H : Type} {enc : TypeId × Value → H} {w : World} {held : Bool} {fuel : Nat} {c : Value} {x : DataW H × List MemPlace}
    (h : DataW.trod enc Tryz.prog w 0 (fun _ => true) held fuel 26 [c] = some x) : ∃ a len cap hs xss, c = .slice a len cap ∧ TblIn w a len cap hs xss := by
  have h' := h
  rcases Go.Deep.open_int_rows Tryz.underlying26 Tryz.underlying25 Tryz.underlying2 (by kernel_rfl) (by kernel_rfl) h with ⟨hcs, _⟩ | ⟨ad, l, k, A, L, C, Z, hcs, _⟩
  · simp at hcs
    subst hcs
    obtain ⟨hs, xss, ht⟩ := tbl_in h'
    exact ⟨_, _, _, hs, xss, rfl, ht⟩
  · simp at hcs
    subst hcs
    obtain ⟨hs, xss, ht⟩ := tbl_in h'
    exact ⟨_, _, _, hs, xss, rfl, ht⟩
theorem ints_at' {H : Type} {enc : TypeId × Value → H} {w : World} {held : Bool} {fuel : Nat} {c : Value} {x : DataW H × List MemPlace}
    (h : DataW.trod enc Tryz.prog w 0 (fun _ => true) held fuel 25 [c] = some x) : ∃ a len cap zs, c = .slice a len cap ∧ Reads .i64 w a len cap zs := by
  have h' := h
  rcases Go.ChangeShapes.open_ints Tryz.underlying25 Tryz.underlying2 (by kernel_rfl) h with ⟨hcs, _⟩ | ⟨ad, l, k, zs, hcs, _⟩
  · simp at hcs
    subst hcs
    obtain ⟨zs, ht⟩ := ints_in h'
    exact ⟨_, _, _, zs, rfl, ht⟩
  · simp at hcs
    subst hcs
    obtain ⟨zs, ht⟩ := ints_in h'
    exact ⟨_, _, _, zs, rfl, ht⟩
theorem Tryz.cellsCa : Tryz.prog.cellsOf 28 = 10 := by kernel_rfl
theorem Tryz.cellsS1 : Tryz.prog.cellsOf 25 = 1 := by kernel_rfl
theorem Tryz.cellsS2 : Tryz.prog.cellsOf 26 = 1 := by kernel_rfl
theorem array10 {α : Type} {cs : Array α} (h : cs.size = 10) : ∃ c0 c1 c2 c3 c4 c5 c6 c7 c8 c9, cs = #[c0, c1, c2, c3, c4, c5, c6, c7, c8, c9] := by
  obtain ⟨l⟩ := cs
  match l, h with
  | [c0, c1, c2, c3, c4, c5, c6, c7, c8, c9], _ => exact ⟨c0, c1, c2, c3, c4, c5, c6, c7, c8, c9, rfl⟩
section
open Go.ChangeShapes Go.WideShapes Go.ChangeAt
variable {H : Type} {enc : TypeId × Value → H} {W : World}
theorem conf_at {fuel : Nat} {c0 c1 c2 c3 c4 c5 : Value} {x : DataW H × List MemPlace} (hf : DataW.trod enc Tryz.prog W 0 (fun _ => true) true fuel 24 [c0, c1, c2, c3, c4, c5] = some x) :
    ∃ c : Cf, c0 = .int .u64 c.seed ∧ c1 = .int .i64 c.vocab ∧ c2 = .int .i64 c.dim ∧ c3 = .int .i64 c.layers ∧ c4 = .int .i64 c.top ∧ c5 = .int .i64 c.heat := by
  obtain ⟨xs, n, _, _, _, hl, hF⟩ := DataW.trod_struct Tryz.underlying24 hf
  have hl : xs.length = 6 := hl
  obtain ⟨y0, e0⟩ := at_some hl (i := 0) (by omega)
  obtain ⟨y1, e1⟩ := at_some hl (i := 1) (by omega)
  obtain ⟨y2, e2⟩ := at_some hl (i := 2) (by omega)
  obtain ⟨y3, e3⟩ := at_some hl (i := 3) (by omega)
  obtain ⟨y4, e4⟩ := at_some hl (i := 4) (by omega)
  obtain ⟨y5, e5⟩ := at_some hl (i := 5) (by omega)
  have g0 : DataW.trod enc Tryz.prog W 0 (fun _ => true) true n 22 [c0] = some y0 := by
    have g := hF 0 _ rfl
    change DataW.trod enc Tryz.prog W 0 (fun _ => true) true n 22 (List.take (Tryz.prog.cellsOf 22) (List.drop 0 [c0, c1, c2, c3, c4, c5])) = xs[0]? at g
    rw [Tryz.cellsU, e0] at g
    exact g
  have g1 : DataW.trod enc Tryz.prog W 0 (fun _ => true) true n 3 [c1] = some y1 := by
    have g := hF 1 _ rfl
    change DataW.trod enc Tryz.prog W 0 (fun _ => true) true n 3 (List.take (Tryz.prog.cellsOf 3) (List.drop 1 [c0, c1, c2, c3, c4, c5])) = xs[1]? at g
    rw [Tryz.cellsI, e1] at g
    exact g
  have g2 : DataW.trod enc Tryz.prog W 0 (fun _ => true) true n 3 [c2] = some y2 := by
    have g := hF 2 _ rfl
    change DataW.trod enc Tryz.prog W 0 (fun _ => true) true n 3 (List.take (Tryz.prog.cellsOf 3) (List.drop 2 [c0, c1, c2, c3, c4, c5])) = xs[2]? at g
    rw [Tryz.cellsI, e2] at g
    exact g
  have g3 : DataW.trod enc Tryz.prog W 0 (fun _ => true) true n 3 [c3] = some y3 := by
    have g := hF 3 _ rfl
    change DataW.trod enc Tryz.prog W 0 (fun _ => true) true n 3 (List.take (Tryz.prog.cellsOf 3) (List.drop 3 [c0, c1, c2, c3, c4, c5])) = xs[3]? at g
    rw [Tryz.cellsI, e3] at g
    exact g
  have g4 : DataW.trod enc Tryz.prog W 0 (fun _ => true) true n 3 [c4] = some y4 := by
    have g := hF 4 _ rfl
    change DataW.trod enc Tryz.prog W 0 (fun _ => true) true n 3 (List.take (Tryz.prog.cellsOf 3) (List.drop 4 [c0, c1, c2, c3, c4, c5])) = xs[4]? at g
    rw [Tryz.cellsI, e4] at g
    exact g
  have g5 : DataW.trod enc Tryz.prog W 0 (fun _ => true) true n 3 [c5] = some y5 := by
    have g := hF 5 _ rfl
    change DataW.trod enc Tryz.prog W 0 (fun _ => true) true n 3 (List.take (Tryz.prog.cellsOf 3) (List.drop 5 [c0, c1, c2, c3, c4, c5])) = xs[5]? at g
    rw [Tryz.cellsI, e5] at g
    exact g
  clear hF
  obtain ⟨n0, rfl⟩ := u64_open g0
  obtain ⟨n1, rfl⟩ := int_open g1
  obtain ⟨n2, rfl⟩ := int_open g2
  obtain ⟨n3, rfl⟩ := int_open g3
  obtain ⟨n4, rfl⟩ := int_open g4
  obtain ⟨n5, rfl⟩ := int_open g5
  exact ⟨⟨n0, n1, n2, n3, n4, n5⟩, rfl, rfl, rfl, rfl, rfl, rfl⟩
theorem case_open {b0 : Nat} {v : Value} {d : DataW H} {ps : List MemPlace} (hv : Value.okWide Tryz.prog W .any b0 28 v) (h : DataW.Trod enc Tryz.prog W 0 (fun _ => true) true 28 v d ps) :
    ∃ x : Ca, v = .agg (CaV x) ∧ CaIn W x := by
  obtain ⟨cs, rfl, hsz⟩ := okWide_struct Tryz.underlying28 hv
  rw [Tryz.cellsCa] at hsz
  obtain ⟨c0, c1, c2, c3, c4, c5, c6, c7, c8, c9, rfl⟩ := array10 hsz
  obtain ⟨fuel, hf⟩ := h
  obtain ⟨xs, n, _, _, _, hl, hF⟩ := DataW.trod_struct Tryz.underlying28 hf
  have hl : xs.length = 5 := hl
  obtain ⟨y0, e0⟩ := at_some hl (i := 0) (by omega)
  obtain ⟨y1, e1⟩ := at_some hl (i := 1) (by omega)
  obtain ⟨y2, e2⟩ := at_some hl (i := 2) (by omega)
  obtain ⟨y3, e3⟩ := at_some hl (i := 3) (by omega)
  obtain ⟨y4, e4⟩ := at_some hl (i := 4) (by omega)
  have g0 : DataW.trod enc Tryz.prog W 0 (fun _ => true) true n 24 [c0, c1, c2, c3, c4, c5] = some y0 := by
    have g := hF 0 _ rfl
    change DataW.trod enc Tryz.prog W 0 (fun _ => true) true n 24 (List.take (Tryz.prog.cellsOf 24) (List.drop 0 [c0, c1, c2, c3, c4, c5, c6, c7, c8, c9])) = xs[0]? at g
    rw [Tryz.cellsC, e0] at g
    exact g
  have g1 : DataW.trod enc Tryz.prog W 0 (fun _ => true) true n 3 [c6] = some y1 := by
    have g := hF 1 _ rfl
    change DataW.trod enc Tryz.prog W 0 (fun _ => true) true n 3 (List.take (Tryz.prog.cellsOf 3) (List.drop 6 [c0, c1, c2, c3, c4, c5, c6, c7, c8, c9])) = xs[1]? at g
    rw [Tryz.cellsI, e1] at g
    exact g
  have g2 : DataW.trod enc Tryz.prog W 0 (fun _ => true) true n 25 [c7] = some y2 := by
    have g := hF 2 _ rfl
    change DataW.trod enc Tryz.prog W 0 (fun _ => true) true n 25 (List.take (Tryz.prog.cellsOf 25) (List.drop 7 [c0, c1, c2, c3, c4, c5, c6, c7, c8, c9])) = xs[2]? at g
    rw [Tryz.cellsS1, e2] at g
    exact g
  have g3 : DataW.trod enc Tryz.prog W 0 (fun _ => true) true n 26 [c8] = some y3 := by
    have g := hF 3 _ rfl
    change DataW.trod enc Tryz.prog W 0 (fun _ => true) true n 26 (List.take (Tryz.prog.cellsOf 26) (List.drop 8 [c0, c1, c2, c3, c4, c5, c6, c7, c8, c9])) = xs[3]? at g
    rw [Tryz.cellsS2, e3] at g
    exact g
  have g4 : DataW.trod enc Tryz.prog W 0 (fun _ => true) true n 26 [c9] = some y4 := by
    have g := hF 4 _ rfl
    change DataW.trod enc Tryz.prog W 0 (fun _ => true) true n 26 (List.take (Tryz.prog.cellsOf 26) (List.drop 9 [c0, c1, c2, c3, c4, c5, c6, c7, c8, c9])) = xs[4]? at g
    rw [Tryz.cellsS2, e4] at g
    exact g
  clear hF hv
  obtain ⟨cf, rfl, rfl, rfl, rfl, rfl, rfl⟩ := conf_at g0
  obtain ⟨la, rfl⟩ := int_open g1
  obtain ⟨ax, lx, cx, zs, rfl, rx⟩ := ints_at' g2
  obtain ⟨ak, lk, ck, hk, ks, rfl, rk⟩ := tbl_at g3
  obtain ⟨av, lv, cv, hv, vs, rfl, rv⟩ := tbl_at g4
  exact ⟨⟨cf, la, ax, lx, cx, zs, ak, lk, ck, hk, ks, av, lv, cv, hv, vs⟩, rfl, rx, rk, rv⟩
end
end Go.Proofs.YtehmdlipacbpfaaGreat
