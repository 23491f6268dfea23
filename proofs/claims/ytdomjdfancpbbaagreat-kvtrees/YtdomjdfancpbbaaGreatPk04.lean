/-
  Likes: The statements' own 'rows': of like tables it is true.
  Asks: What a model's rows are, whatever is asked (tokL, plL, tabL), and the contracts of Token, Place and Rows, of the program and of the document, put together by them; the arguments of the statements.
  IArgs: An argument of a statement that is a list of numbers, as it came in.
  JArgs: Arguments of statements that are jobs (Jb) or lists of ints, as they came in.
  KvArgs: An argument that is a list of steps of two fields, a small number and a list of ints (Qss), as it came in.
  Exps: Contracts: the power of e, of the program and of the document, hands back expZ.
  Roots: Contracts: the square root, of the program and of the document, hands back sqrtZ.
  Eachs: A frame that says which blocks a callee may have turned (But), and contracts: count, each (with whatever function it is handed).
  Boths: Contracts: eachOfBoth (with whatever function it is handed), Dot: the product of two vectors, dotL.
  Mades: A row of numbers that the call owns (OwnK); contracts: madeOf (with whatever function it is handed), Scale, Relu.
  Scales: Contracts: Scale, Relu, and what stands on madeOf alone.
  Pairs: Contracts: madeOfBoth (with whatever function it is handed), Add.
  Softs: Contracts: Norm and Soft.
-/
import Derived.Test.YtdomjdfancpbbaaGreatPk03
import Derived.ProofKit
import Derived.Test.YtdomjdfancpbbaaGreatPk01
import Derived.Deep.SlicePairs
import Derived.Laws.Shifts
import Derived.Handy
import Derived.Laws.OwnMore
import Derived.OwnWalk
import Derived.OneCell
import Derived.Deep.RegionHeld3
import Derived.Shelf.Abstract
import Derived.Deep.AppendLies
import Derived.Deep.RegionLaw
namespace Go.Proofs.YtdomjdfancpbbaaGreat
open Go.RowKit
set_option linter.unusedVariables false
set_option maxRecDepth 1000000

end Go.Proofs.YtdomjdfancpbbaaGreat
namespace Go.Proofs.YtdomjdfancpbbaaGreat
open Go.RowKit
set_option linter.unusedVariables false
set_option maxRecDepth 1000000

/-- A token's vector, nothing of none that is there. -/
def tokL (c : Cf) (t : Int) : List Int := if 0 ≤ t ∧ t < c.vocab then rowK (fun k => weightZ c.seed 0 t k) c.dim.toNat else []
/-- A place's vector. -/
def plL (c : Cf) (p : Int) : List Int := if 0 ≤ p ∧ p < 256 then rowK (fun k => mulZ (weightZ c.seed 1 p k) 16384) c.dim.toNat else []
/-- A layer's table. -/
def tabL (c : Cf) (la wh : Int) : List (List Int) := if 0 ≤ la ∧ la < c.layers ∧ 0 ≤ wh ∧ wh ≤ 5 then tblK (fun r => rowK (fun k => weightZ c.seed (2 + 6 * la + wh) r k) c.dim.toNat) c.dim.toNat else []

theorem may_parts {c : Cf} (h : mayB c = true) : 2 ≤ c.vocab ∧ c.vocab ≤ 64 ∧ 1 ≤ c.dim ∧ c.dim ≤ 16 ∧ 1 ≤ c.layers ∧ c.layers ≤ 4 := by
  unfold mayB at h
  simp only [Bool.and_eq_true, btw_iff] at h
  omega
theorem tokL_len {c : Cf} (h : mayB c = true) (t : Int) : (tokL c t).length ≤ 16 := by
  have := may_parts h
  unfold tokL
  split
  · rw [rowK_len]; omega
  · simp
theorem plL_len {c : Cf} (h : mayB c = true) (t : Int) : (plL c t).length ≤ 16 := by
  have := may_parts h
  unfold plL
  split
  · rw [rowK_len]; omega
  · simp
theorem tabL_len {c : Cf} (h : mayB c = true) (la wh : Int) : (tabL c la wh).length ≤ 16 := by
  have := may_parts h
  unfold tabL
  split
  · rw [tblK_len]; omega
  · simp

theorem Made.giveso {w w' : World} {n : Nat} {xs : List Int} {e : Ending} (h : Made w n xs e w') : GivesO w n xs e w' := by
  obtain ⟨g, c, rfl, hO, hb⟩ := h
  exact ⟨_, rfl, hO, hb⟩
theorem giveso_nil {w w' : World} {e : Ending} (h : e = .returned (.slice none 0 0) ∧ Below w.heap.size w w') : GivesO w 0 [] e w' := ⟨_, h.1, World.ownsRow_nil _ _ _ _, h.2⟩
theorem givest_nil {w w' : World} {e : Ending} (h : e = .returned (.slice none 0 0) ∧ Below w.heap.size w w') : GivesT w 0 [] e w' :=
  ⟨none, 0, [], h.1, ⟨⟨rfl, Nat.le_refl _, by omega, fun _ => ⟨rfl, rfl⟩, fun i hi => by omega⟩, fun i hi => by omega, fun i hi => by omega⟩, h.2⟩

theorem cf_dim {c : Cf} (h : mayB c = true) : ∃ D : Nat, c = ⟨c.seed, c.vocab, (D : Int), c.layers, c.top, c.heat⟩ ∧ c.dim.toNat = D ∧ 1 ≤ D ∧ D ≤ 16 := by
  have := may_parts h
  refine ⟨c.dim.toNat, ?_, rfl, by omega, by omega⟩
  rw [Int.toNat_of_nonneg (by omega)]

theorem token_g (p : Option Addr) (c : Cf) (t : Int) (w : World) (hp : MdAt w p c) (hc : mayB c = true) :
    Calls Tryz.prog 61 #[.pointer p, .int .i64 t] w fun e w' => GivesO w (tokL c t).length (tokL c t) e w' := by
  have hm := may_parts hc
  obtain ⟨D, hD, hD2, h1, h16⟩ := cf_dim hc
  unfold tokL
  by_cases h : 0 ≤ t ∧ t < c.vocab
  · rw [if_pos h, rowK_len, hD2]
    rw [hD] at hp
    exact (token_yes p _ _ _ _ _ t D w hp h.1 h.2 hm.2.1 h16).mono fun e w' h => h.giveso
  · rw [if_neg h]
    exact (token_no p c t w hp (by omega) (by omega) (by omega)).mono fun e w' h => giveso_nil h
theorem place_g (p : Option Addr) (c : Cf) (t : Int) (w : World) (hp : MdAt w p c) (hc : mayB c = true) :
    Calls Tryz.prog 62 #[.pointer p, .int .i64 t] w fun e w' => GivesO w (plL c t).length (plL c t) e w' := by
  have hm := may_parts hc
  obtain ⟨D, hD, hD2, h1, h16⟩ := cf_dim hc
  unfold plL
  by_cases h : 0 ≤ t ∧ t < 256
  · rw [if_pos h, rowK_len, hD2]
    rw [hD] at hp hc
    exact (place_yes p _ _ _ _ _ t D w hp hc h.1 h.2 h16).mono fun e w' h => h.giveso
  · rw [if_neg h]
    exact (place_no p c t w hp hc (by omega)).mono fun e w' h => giveso_nil h
theorem rows_g (p : Option Addr) (c : Cf) (la wh : Int) (w : World) (hp : MdAt w p c) (hc : mayB c = true) :
    Calls Tryz.prog 110 #[.pointer p, .int .i64 la, .int .i64 wh] w fun e w' => GivesT w (tabL c la wh).length (tabL c la wh) e w' := by
  have hm := may_parts hc
  obtain ⟨D, hD, hD2, h1, h16⟩ := cf_dim hc
  unfold tabL
  by_cases h : 0 ≤ la ∧ la < c.layers ∧ 0 ≤ wh ∧ wh ≤ 5
  · rw [if_pos h, tblK_len, hD2]
    rw [hD] at hp
    exact (rows_yes p _ _ _ _ _ la wh D w hp h.1 h.2.1 hm.2.2.2.2.2 h.2.2.1 h.2.2.2 h16).mono fun e w' h => h.gives (by omega)
  · rw [if_neg h]
    exact (rows_no p c la wh w hp (by omega) (by omega) (by omega)).mono fun e w' h => givest_nil h
theorem Tryz.cellsI : Tryz.prog.cellsOf 3 = 1 := by kernel_rfl
theorem Tryz.cellsU : Tryz.prog.cellsOf 51 = 1 := by kernel_rfl
theorem Tryz.cellsC : Tryz.prog.cellsOf 69 = 6 := by kernel_rfl
theorem array6 {α : Type} {cs : Array α} (h : cs.size = 6) : ∃ c0 c1 c2 c3 c4 c5, cs = #[c0, c1, c2, c3, c4, c5] := by
  obtain ⟨l⟩ := cs
  match l, h with
  | [c0, c1, c2, c3, c4, c5], _ => exact ⟨c0, c1, c2, c3, c4, c5, rfl⟩
theorem array2 {α : Type} {cs : Array α} (h : cs.size = 2) : ∃ c0 c1, cs = #[c0, c1] := by
  obtain ⟨l⟩ := cs
  match l, h with
  | [c0, c1], _ => exact ⟨c0, c1, rfl⟩
section
open Go.ChangeShapes Go.WideShapes Go.ChangeAt
variable {H : Type} {enc : TypeId × Value → H} {W : World}
theorem u64_open {fuel : Nat} {c : Value} {x : DataW H × List MemPlace} (h : DataW.trod enc Tryz.prog W 0 (fun _ => true) true fuel 51 [c] = some x) : ∃ n : Int, c = .int .u64 n := by
  obtain ⟨n, hcs, _, hw⟩ := DataW.trod_int Tryz.underlying51 h
  simp at hcs
  exact ⟨n, hcs⟩
theorem int_open {fuel : Nat} {c : Value} {x : DataW H × List MemPlace} (h : DataW.trod enc Tryz.prog W 0 (fun _ => true) true fuel 3 [c] = some x) : ∃ n : Int, c = .int .i64 n := by
  obtain ⟨n, hcs, _, hw⟩ := DataW.trod_int Tryz.underlying3 h
  simp at hcs
  exact ⟨n, hcs⟩
theorem at_some {α : Type} {xs : List α} {n : Nat} (h : xs.length = n) {i : Nat} (hi : i < n) : ∃ y, xs[i]? = some y := ⟨_, List.getElem?_eq_getElem (by omega)⟩
theorem okWide_array {P : Program} {w : World} {r : Reach} {base n : Nat} {e t : TypeId} {v : Value} (ht : P.underlying t = some (.array n e)) (h : Value.okWide P w r base t v) : ∃ cs, v = .agg cs ∧ cs.size = P.cellsOf t := by
  simp only [Value.okWide, ht] at h
  obtain ⟨cs, h1, h2, _⟩ := h
  exact ⟨cs, h1, h2⟩
theorem conf_open {b0 : Nat} {v : Value} {d : DataW H} {ps : List MemPlace} (hv : Value.okWide Tryz.prog W .any b0 69 v) (h : DataW.Trod enc Tryz.prog W 0 (fun _ => true) true 69 v d ps) :
    ∃ c : Cf, v = .agg (CfV c) := by
  obtain ⟨cs, rfl, hsz⟩ := okWide_struct Tryz.underlying69 hv
  rw [Tryz.cellsC] at hsz
  obtain ⟨c0, c1, c2, c3, c4, c5, rfl⟩ := array6 hsz
  obtain ⟨fuel, hf⟩ := h
  obtain ⟨xs, n, _, _, _, hl, hF⟩ := DataW.trod_struct Tryz.underlying69 hf
  have hl : xs.length = 6 := hl
  obtain ⟨y0, e0⟩ := at_some hl (i := 0) (by omega)
  obtain ⟨y1, e1⟩ := at_some hl (i := 1) (by omega)
  obtain ⟨y2, e2⟩ := at_some hl (i := 2) (by omega)
  obtain ⟨y3, e3⟩ := at_some hl (i := 3) (by omega)
  obtain ⟨y4, e4⟩ := at_some hl (i := 4) (by omega)
  obtain ⟨y5, e5⟩ := at_some hl (i := 5) (by omega)
  have g0 : DataW.trod enc Tryz.prog W 0 (fun _ => true) true n 51 [c0] = some y0 := by
    have g := hF 0 _ rfl
    change DataW.trod enc Tryz.prog W 0 (fun _ => true) true n 51 (List.take (Tryz.prog.cellsOf 51) (List.drop 0 [c0, c1, c2, c3, c4, c5])) = xs[0]? at g
    rw [Tryz.cellsU, e0] at g
    exact g
  have g1 : DataW.trod enc Tryz.prog W 0 (fun _ => true) true n 3 [c1] = some y1 := by
    have g := hF 1 _ rfl
    change DataW.trod enc Tryz.prog W 0 (fun _ => true) true n 3 (List.take (Tryz.prog.cellsOf 3) (List.drop 1 [c0, c1, c2, c3, c4, c5])) = xs[1]? at g
    rw [Tryz.cellsI, e1] at g
    exact g
  have g2 : DataW.trod enc Tryz.prog W 0 (fun _ => true) true n 3 [c2] = some y2 := by
    have g := hF 2 _ rfl
    change DataW.trod enc Tryz.prog W 0 (fun _ => true) true n 3 (List.take (Tryz.prog.cellsOf 3) (List.drop 2 [c0, c1, c2, c3, c4, c5])) = xs[2]? at g
    rw [Tryz.cellsI, e2] at g
    exact g
  have g3 : DataW.trod enc Tryz.prog W 0 (fun _ => true) true n 3 [c3] = some y3 := by
    have g := hF 3 _ rfl
    change DataW.trod enc Tryz.prog W 0 (fun _ => true) true n 3 (List.take (Tryz.prog.cellsOf 3) (List.drop 3 [c0, c1, c2, c3, c4, c5])) = xs[3]? at g
    rw [Tryz.cellsI, e3] at g
    exact g
  have g4 : DataW.trod enc Tryz.prog W 0 (fun _ => true) true n 3 [c4] = some y4 := by
    have g := hF 4 _ rfl
    change DataW.trod enc Tryz.prog W 0 (fun _ => true) true n 3 (List.take (Tryz.prog.cellsOf 3) (List.drop 4 [c0, c1, c2, c3, c4, c5])) = xs[4]? at g
    rw [Tryz.cellsI, e4] at g
    exact g
  have g5 : DataW.trod enc Tryz.prog W 0 (fun _ => true) true n 3 [c5] = some y5 := by
    have g := hF 5 _ rfl
    change DataW.trod enc Tryz.prog W 0 (fun _ => true) true n 3 (List.take (Tryz.prog.cellsOf 3) (List.drop 5 [c0, c1, c2, c3, c4, c5])) = xs[5]? at g
    rw [Tryz.cellsI, e5] at g
    exact g
  clear hF hv
  obtain ⟨n0, rfl⟩ := u64_open g0
  obtain ⟨n1, rfl⟩ := int_open g1
  obtain ⟨n2, rfl⟩ := int_open g2
  obtain ⟨n3, rfl⟩ := int_open g3
  obtain ⟨n4, rfl⟩ := int_open g4
  obtain ⟨n5, rfl⟩ := int_open g5
  exact ⟨⟨n0, n1, n2, n3, n4, n5⟩, rfl⟩
theorem num_open {b0 : Nat} {v : Value} {d : DataW H} {ps : List MemPlace} (hv : Value.okWide Tryz.prog W .any b0 3 v) (h : DataW.Trod enc Tryz.prog W 0 (fun _ => true) true 3 v d ps) :
    ∃ a : Int, v = .int .i64 a := by
  obtain ⟨a, h1, _, _, _⟩ := open_int Tryz.underlying3 hv h
  exact ⟨a, h1⟩
end
end Go.Proofs.YtdomjdfancpbbaaGreat
namespace Go.Proofs.YtdomjdfancpbbaaGreat
open Go.RowKit
set_option linter.unusedVariables false
set_option maxRecDepth 1000000

theorem ints_in {H : Type} {enc : TypeId × Value → H} {w : World} {held : Bool} {fuel : Nat} {a : Option Addr} {len cap : Nat} {x : DataW H × List MemPlace}
    (h : DataW.trod enc Tryz.prog w 0 (fun _ => true) held fuel 99 [.slice a len cap] = some x) : ∃ zs, Reads .i64 w a len cap zs := by
  rcases Go.ChangeShapes.open_ints Tryz.underlying99 Tryz.underlying2 (by kernel_rfl) h with ⟨hcs, _⟩ | ⟨ad, l, c, zs, hcs, _, hl, hm, hz, _, hx, hw⟩
  · simp at hcs
    obtain ⟨rfl, rfl, rfl⟩ := hcs
    exact ⟨[], Reads.nil _ _⟩
  · simp at hcs
    obtain ⟨rfl, rfl, rfl⟩ := hcs
    exact ⟨_, (Reads.row (zs := zs) (.inr ⟨ad, rfl, hl, hm, by simpa using hz, hx, hw⟩)).1⟩
section
open Go.ChangeShapes Go.WideShapes Go.ChangeAt
variable {H : Type} {enc : TypeId × Value → H} {W : World}
theorem ints_open {b0 : Nat} {v : Value} {d : DataW H} {ps : List MemPlace} (hv : Value.okWide Tryz.prog W .any b0 99 v) (h : DataW.Trod enc Tryz.prog W 0 (fun _ => true) true 99 v d ps) :
    ∃ a len cap zs, v = .slice a len cap ∧ Reads .i64 W a len cap zs := by
  obtain ⟨a, len, cap, rfl⟩ := okWide_slice Tryz.underlying99 hv
  obtain ⟨fuel, hf⟩ := h
  obtain ⟨zs, hz⟩ := ints_in hf
  exact ⟨a, len, cap, zs, rfl, hz⟩
end
end Go.Proofs.YtdomjdfancpbbaaGreat
namespace Go.Proofs.YtdomjdfancpbbaaGreat
open Go.RowKit
set_option linter.unusedVariables false
set_option maxRecDepth 1000000

theorem nums_at {H : Type} {enc : TypeId × Value → H} {w : World} {held : Bool} {fuel : Nat} {c : Value} {x : DataW H × List MemPlace}
    (h : DataW.trod enc Tryz.prog w 0 (fun _ => true) held fuel 34 [c] = some x) : ∃ a len cap zs, c = .slice a len cap ∧ Reads .i64 w a len cap zs := by
  rcases Go.ChangeShapes.open_ints Tryz.underlying34 Tryz.underlying3 (by kernel_rfl) h with ⟨hcs, _⟩ | ⟨ad, l, k, zs, hcs, _, hl, hm, hz, _, hx, hw⟩
  · simp at hcs
    subst hcs
    exact ⟨none, 0, 0, [], rfl, Reads.nil _ _⟩
  · simp at hcs
    subst hcs
    exact ⟨_, _, _, _, rfl, (Reads.row (zs := zs) (.inr ⟨ad, rfl, hl, hm, by simpa using hz, hx, hw⟩)).1⟩
/-- A job. -/
structure Jb where
  seed : Int
  ap : Option Addr
  lp : Nat
  cp : Nat
  ts : List Int
  most : Int
/-- Its cells. -/
def JbV (j : Jb) : Array Value := #[.int .u64 j.seed, .slice j.ap j.lp j.cp, .int .i64 j.most]
/-- What its prompt reads as. -/
def JbIn (w : World) (j : Jb) : Prop := Reads .i64 w j.ap j.lp j.cp j.ts
theorem Jb_cells {W : World} {g : Nat} {j : Jb} {T : TypeId} (h : W.heap[g]? = some (.cells (JbV j) T (0, 0))) :
    W.cell? ⟨g, 0, none⟩ = some (.int .u64 j.seed) ∧ W.cell? ⟨g, 1, none⟩ = some (.slice j.ap j.lp j.cp) ∧ W.cell? ⟨g, 2, none⟩ = some (.int .i64 j.most) := by
  refine ⟨?_, ?_, ?_⟩ <;> (rw [cell_of_row _ _ _ _ _ _ h]; rfl)
theorem Tryz.cellsJb : Tryz.prog.cellsOf 94 = 3 := by kernel_rfl
theorem Tryz.cellsNs : Tryz.prog.cellsOf 34 = 1 := by kernel_rfl
theorem array3 {α : Type} {cs : Array α} (h : cs.size = 3) : ∃ c0 c1 c2, cs = #[c0, c1, c2] := by
  obtain ⟨l⟩ := cs
  match l, h with
  | [c0, c1, c2], _ => exact ⟨c0, c1, c2, rfl⟩
section
open Go.ChangeShapes Go.WideShapes Go.ChangeAt
variable {H : Type} {enc : TypeId × Value → H} {W : World}
theorem nums_open {b0 : Nat} {v : Value} {d : DataW H} {ps : List MemPlace} (hv : Value.okWide Tryz.prog W .any b0 34 v) (h : DataW.Trod enc Tryz.prog W 0 (fun _ => true) true 34 v d ps) :
    ∃ a len cap zs, v = .slice a len cap ∧ Reads .i64 W a len cap zs := by
  obtain ⟨a, len, cap, rfl⟩ := okWide_slice Tryz.underlying34 hv
  obtain ⟨fuel, hf⟩ := h
  exact nums_at hf
theorem unum_open {b0 : Nat} {v : Value} {d : DataW H} {ps : List MemPlace} (hv : Value.okWide Tryz.prog W .any b0 51 v) (h : DataW.Trod enc Tryz.prog W 0 (fun _ => true) true 51 v d ps) :
    ∃ a : Int, v = .int .u64 a := by
  obtain ⟨a, h1, _, _, _⟩ := open_int Tryz.underlying51 hv h
  exact ⟨a, h1⟩
theorem job_open {b0 : Nat} {v : Value} {d : DataW H} {ps : List MemPlace} (hv : Value.okWide Tryz.prog W .any b0 94 v) (h : DataW.Trod enc Tryz.prog W 0 (fun _ => true) true 94 v d ps) :
    ∃ j : Jb, v = .agg (JbV j) ∧ JbIn W j := by
  obtain ⟨cs, rfl, hsz⟩ := okWide_struct Tryz.underlying94 hv
  rw [Tryz.cellsJb] at hsz
  obtain ⟨c0, c1, c2, rfl⟩ := array3 hsz
  obtain ⟨fuel, hf⟩ := h
  obtain ⟨xs, n, _, _, _, hl, hF⟩ := DataW.trod_struct Tryz.underlying94 hf
  have hl : xs.length = 3 := hl
  obtain ⟨y0, e0⟩ := at_some hl (i := 0) (by omega)
  obtain ⟨y1, e1⟩ := at_some hl (i := 1) (by omega)
  obtain ⟨y2, e2⟩ := at_some hl (i := 2) (by omega)
  have g0 : DataW.trod enc Tryz.prog W 0 (fun _ => true) true n 51 [c0] = some y0 := by
    have g := hF 0 _ rfl
    change DataW.trod enc Tryz.prog W 0 (fun _ => true) true n 51 (List.take (Tryz.prog.cellsOf 51) (List.drop 0 [c0, c1, c2])) = xs[0]? at g
    rw [Tryz.cellsU, e0] at g
    exact g
  have g1 : DataW.trod enc Tryz.prog W 0 (fun _ => true) true n 34 [c1] = some y1 := by
    have g := hF 1 _ rfl
    change DataW.trod enc Tryz.prog W 0 (fun _ => true) true n 34 (List.take (Tryz.prog.cellsOf 34) (List.drop 1 [c0, c1, c2])) = xs[1]? at g
    rw [Tryz.cellsNs, e1] at g
    exact g
  have g2 : DataW.trod enc Tryz.prog W 0 (fun _ => true) true n 3 [c2] = some y2 := by
    have g := hF 2 _ rfl
    change DataW.trod enc Tryz.prog W 0 (fun _ => true) true n 3 (List.take (Tryz.prog.cellsOf 3) (List.drop 2 [c0, c1, c2])) = xs[2]? at g
    rw [Tryz.cellsI, e2] at g
    exact g
  clear hF hv
  obtain ⟨n0, rfl⟩ := u64_open g0
  obtain ⟨ap, lp, cp, ts, rfl, rp⟩ := nums_at g1
  obtain ⟨n2, rfl⟩ := int_open g2
  exact ⟨⟨n0, ap, lp, cp, ts, n2⟩, rfl, rp⟩
end
end Go.Proofs.YtdomjdfancpbbaaGreat
namespace Go.Proofs.YtdomjdfancpbbaaGreat
open Go.RowKit
set_option linter.unusedVariables false
set_option maxRecDepth 1000000

/-- A slice's head at a place. -/
def hd (hs : List Hd) (i : Nat) : Hd := hs[i]?.getD (none, 0, 0)
/-- The slice reads as these steps. -/
structure Qss (w : World) (a : Option Addr) (len cap : Nat) (ks : List Int) (hs : List Hd) (xss : List (List Int)) : Prop where
  room : len ≤ cap
  most : cap ≤ 9223372036854775807
  bare : a = none → len = 0 ∧ cap = 0
  cell : ∀ i, i < len → ∃ b off, a = some ⟨b, off, none⟩ ∧ w.cell? ⟨b, off + i * 2, none⟩ = some (.int .u8 (ks[i]?.getD 0)) ∧ w.cell? ⟨b, off + i * 2 + 1, none⟩ = some (.slice (hd hs i).1 (hd hs i).2.1 (hd hs i).2.2)
  rows : ∀ i, i < len → Reads .i64 w (hd hs i).1 (hd hs i).2.1 (hd hs i).2.2 (xss[i]?.getD [])
  wk : ∀ i, i < len → 0 ≤ ks[i]?.getD 0 ∧ ks[i]?.getD 0 ≤ 255
theorem Qss.below {w w' : World} {a : Option Addr} {len cap : Nat} {ks : List Int} {hs : List Hd} {xss : List (List Int)} (h : Qss w a len cap ks hs xss) (hb : Below w.heap.size w w') : Qss w' a len cap ks hs xss :=
  ⟨h.room, h.most, h.bare, fun i hi => by
    obtain ⟨b, off, ha, h1, h2⟩ := h.cell i hi
    exact ⟨b, off, ha, (hb.cell (World.block_lt_of_cell? _ _ h1)).trans h1, (hb.cell (World.block_lt_of_cell? _ _ h2)).trans h2⟩, fun i hi => (h.rows i hi).below hb, h.wk⟩
theorem Qss.cut {w : World} {a : Option Addr} {len cap : Nat} {ks : List Int} {hs : List Hd} {xss : List (List Int)} (h : Qss w a len cap ks hs xss) {m : Nat} (hm : m ≤ len) : Qss w a m cap ks hs xss :=
  ⟨by have := h.room; omega, h.most, fun e => by have := h.bare e; omega, fun i hi => h.cell i (by omega), fun i hi => h.rows i (by omega), fun i hi => h.wk i (by omega)⟩
section
open Go.ChangeShapes Go.WideShapes Go.ChangeAt
variable {H : Type} {enc : TypeId × Value → H} {W : World}
theorem u8_at {fuel : Nat} {c : Value} {x : DataW H × List MemPlace} (h : DataW.trod enc Tryz.prog W 0 (fun _ => true) true fuel 5 [c] = some x) : ∃ n : Int, c = .int .u8 n ∧ 0 ≤ n ∧ n ≤ 255 := by
  obtain ⟨n, hc, _, hw⟩ := DataW.trod_int Tryz.underlying5 h
  simp at hc
  exact ⟨n, hc, by have := bounds_u8 hw; omega, by have := bounds_u8 hw; omega⟩
theorem u8_open {b0 : Nat} {v : Value} {d : DataW H} {ps : List MemPlace} (hv : Value.okWide Tryz.prog W .any b0 5 v) (h : DataW.Trod enc Tryz.prog W 0 (fun _ => true) true 5 v d ps) :
    ∃ n : Int, v = .int .u8 n ∧ 0 ≤ n ∧ n ≤ 255 := by
  obtain ⟨a, h1, h2, _, h4⟩ := open_int Tryz.underlying5 hv h
  exact ⟨a, h1, by have := bounds_u8 h4; omega, by have := bounds_u8 h4; omega⟩
theorem pint_open {b0 : Nat} {v : Value} {d : DataW H} {ps : List MemPlace} (hv : Value.okWide Tryz.prog W .any b0 3 v) (h : DataW.Trod enc Tryz.prog W 0 (fun _ => true) true 3 v d ps) :
    ∃ n : Int, v = .int .i64 n ∧ -9223372036854775808 ≤ n ∧ n ≤ 9223372036854775807 := by
  obtain ⟨a, h1, h2, _, h4⟩ := open_int Tryz.underlying3 hv h
  exact ⟨a, h1, by have := bounds_i64 h4; omega, by have := bounds_i64 h4; omega⟩
theorem Tryz.cells2u : Tryz.prog.cellsOf 50 = 2 := by kernel_rfl
theorem Tryz.cells1u : Tryz.prog.cellsOf 5 = 1 := by kernel_rfl
theorem u8two_open {b0 : Nat} {v : Value} {d : DataW H} {ps : List MemPlace} (hv : Value.okWide Tryz.prog W .any b0 50 v) (h : DataW.Trod enc Tryz.prog W 0 (fun _ => true) true 50 v d ps) :
    ∃ a b : Int, v = .agg #[.int .u8 a, .int .u8 b] ∧ 0 ≤ a ∧ a ≤ 255 ∧ 0 ≤ b ∧ b ≤ 255 := by
  obtain ⟨cs, rfl, hsz⟩ := okWide_array Tryz.underlying50 hv
  rw [Tryz.cells2u] at hsz
  obtain ⟨c0, c1, rfl⟩ := array2 hsz
  obtain ⟨fuel, hf⟩ := h
  obtain ⟨xs, n, _, _, _, hl, hF⟩ := DataW.trod_array Tryz.underlying50 hf
  obtain ⟨y0, e0⟩ := at_some hl (i := 0) (by omega)
  obtain ⟨y1, e1⟩ := at_some hl (i := 1) (by omega)
  have g0 : DataW.trod enc Tryz.prog W 0 (fun _ => true) true n 5 [c0] = some y0 := by
    have g := hF 0 (by omega)
    rw [Tryz.cells1u, e0] at g
    exact g
  have g1 : DataW.trod enc Tryz.prog W 0 (fun _ => true) true n 5 [c1] = some y1 := by
    have g := hF 1 (by omega)
    rw [Tryz.cells1u, e1] at g
    exact g
  obtain ⟨n0, rfl, a0, a1⟩ := u8_at g0
  obtain ⟨n1, rfl, b0, b1⟩ := u8_at g1
  exact ⟨n0, n1, rfl, a0, a1, b0, b1⟩
theorem qsteps_open {b0 : Nat} {v : Value} {d : DataW H} {ps : List MemPlace} (hv : Value.okWide Tryz.prog W .any b0 22 v) (h : DataW.Trod enc Tryz.prog W 0 (fun _ => true) true 22 v d ps) :
    ∃ a len cap ks hs xss, v = .slice a len cap ∧ Qss W a len cap ks hs xss := by
  obtain ⟨a, len, cap, rfl⟩ := okWide_slice Tryz.underlying22 hv
  obtain ⟨fuel, hf⟩ := h
  change DataW.trod enc Tryz.prog W 0 (fun _ => true) true fuel 22 [.slice a len cap] = _ at hf
  rcases Go.Deep.open_slice_pairs Tryz.underlying22 Tryz.underlying36 (by kernel_rfl) rfl rfl (by kernel_rfl) (by kernel_rfl) hf with ⟨hcs, _⟩ | ⟨ad, l, c, m, n, V0, V1, D0, D1, P0, P1, hcs, _, hl, hm, hmm, _, hx⟩
  · simp at hcs
    obtain ⟨rfl, rfl, rfl⟩ := hcs
    exact ⟨none, 0, 0, [], [], [], rfl, Nat.le_refl _, by omega, fun _ => ⟨rfl, rfl⟩, fun i hi => by omega, fun i hi => by omega, fun i hi => by omega⟩
  · simp at hcs
    obtain ⟨rfl, rfl, rfl⟩ := hcs
    have hlm : len ≤ m := by rw [hmm]; simpa using hl
    have each : ∀ i, i < len → ∃ (k : Int) (q : Hd) (zs : List Int), V0 i = .int .u8 k ∧ V1 i = .slice q.1 q.2.1 q.2.2 ∧ 0 ≤ k ∧ k ≤ 255 ∧ Reads .i64 W q.1 q.2.1 q.2.2 zs := fun i hi => by
      obtain ⟨_, _, g0, g1⟩ := hx i (by omega)
      obtain ⟨k, e0, k0, k1⟩ := u8_at g0
      obtain ⟨qa, ql, qc, zs, e1, hz⟩ := nums_at g1
      exact ⟨k, (qa, ql, qc), zs, e0, e1, k0, k1, hz⟩
    have hspot : 0 < len → ad.spot = none := fun h0 => by
      obtain ⟨b, off, spot⟩ := ad
      simpa [Addr.add] using World.cell?_spot (hx 0 (by omega)).1
    let K := fun i => if h : i < len then (each i h).choose else 0
    let Q := fun i => if h : i < len then (each i h).choose_spec.choose else (none, 0, 0)
    let Z := fun i => if h : i < len then (each i h).choose_spec.choose_spec.choose else []
    have sp : ∀ i (hi : i < len), V0 i = .int .u8 (K i) ∧ V1 i = .slice (Q i).1 (Q i).2.1 (Q i).2.2 ∧ 0 ≤ K i ∧ K i ≤ 255 ∧ Reads .i64 W (Q i).1 (Q i).2.1 (Q i).2.2 (Z i) := fun i hi => by
      have := (each i hi).choose_spec.choose_spec.choose_spec
      simp only [K, Q, Z, dif_pos hi]
      exact this
    have a0 : ∀ i, i < len → ((List.range len).map K)[i]?.getD 0 = K i := fun i hi => by simp [hi]
    have a1 : ∀ i, i < len → hd ((List.range len).map Q) i = Q i := fun i hi => by unfold hd; simp [hi]
    have a2 : ∀ i, i < len → ((List.range len).map Z)[i]?.getD [] = Z i := fun i hi => by simp [hi]
    refine ⟨some ad, len, cap, (List.range len).map K, (List.range len).map Q, (List.range len).map Z, rfl, hl, by unfold maxLen at hm; omega, (fun e => by cases e), fun i hi => ?_, fun i hi => ?_, fun i hi => ?_⟩
    · have hs := hspot (by omega)
      obtain ⟨b, off, spot⟩ := ad
      simp only at hs
      subst hs
      obtain ⟨h0, h1, _⟩ := hx i (by omega)
      rw [Go.WideShapes.add_plain] at h0 h1
      obtain ⟨s0, s1, _⟩ := sp i hi
      refine ⟨b, off, rfl, ?_, ?_⟩
      · rw [a0 i hi, ← s0]; exact h0
      · rw [a1 i hi, ← s1, Nat.add_assoc]; exact h1
    · rw [a1 i hi, a2 i hi]
      exact (sp i hi).2.2.2.2
    · rw [a0 i hi]
      exact ⟨(sp i hi).2.2.1, (sp i hi).2.2.2.1⟩
end
end Go.Proofs.YtdomjdfancpbbaaGreat
namespace Go.Proofs.YtdomjdfancpbbaaGreat
open Go.RowKit
set_option linter.unusedVariables false
set_option maxRecDepth 1000000

theorem part_any (f : Int) (w : World) (f0 : 0 ≤ f) (f1 : f < 65536) :
    Calls Tryz.prog 150 #[.int .i64 f] w fun e w' => e = .returned (.int .i64 (pw f)) ∧ w' = w := by
  have p := part_bd f0 f1
  have p0 := p.1
  have p1 := p.2
  clear p
  go_enter Tryz.func150, Tryz.ntmps150
  go_wp2
  go_ret
  exact ⟨rfl, rfl⟩
theorem shr_far {p : Int} (p0 : 0 ≤ p) (p1 : p ≤ 131072) (n : Nat) : p / 2 ^ min n IntKind.i64.bits = p / 2 ^ n := by
  by_cases h : n ≤ 64
  · rw [Nat.min_eq_left (show n ≤ IntKind.i64.bits from h)]
  · rw [lift_far p0 p1 (n := n) (by omega), lift_far p0 p1]
    rw [Nat.min_eq_right (show IntKind.i64.bits ≤ n from Nat.le_of_lt (Nat.lt_of_not_le h))]
    decide
theorem shl_in {p k : Int} (p0 : 0 ≤ p) (p1 : p ≤ 131072) (hk : k < 16) : wrap64 (p * 2 ^ k.toNat) = p * 2 ^ k.toNat := by
  have h1 := two_le (show k.toNat ≤ 15 by omega)
  have h2 := two_pos k.toNat
  have h3 : 0 ≤ p * 2 ^ k.toNat := Int.mul_nonneg p0 (by omega)
  have h4 : p * 2 ^ k.toNat ≤ 131072 * 2 ^ 15 := Int.mul_le_mul p1 h1 (by omega) (by omega)
  exact IntWalk.wrap64_in _ (by omega)
/-- What a power hangs on. -/
theorem exp_parts (x : Int) : ∃ y k f : Int, wi x * 94548 / 65536 = y ∧ y / 65536 = k ∧ y - k * 65536 = f ∧ -47275 ≤ k ∧ k ≤ 47275 ∧ -3098500000 ≤ y ∧ y ≤ 3098500000 ∧ 0 ≤ f ∧ f < 65536 ∧ Hid (expZ x = liftZ (pw f) k) := by
  have x0 := wi_0 x
  have x1 := wi_1 x
  refine ⟨_, _, _, rfl, rfl, rfl, by omega, by omega, by omega, by omega, by omega, by omega, ?_⟩
  unfold expZ
  rw [show wi x * 94548 / 65536 % 65536 = wi x * 94548 / 65536 - wi x * 94548 / 65536 / 65536 * 65536 by omega]
  exact rfl
theorem exp_any (x : Int) (w : World) :
    Calls Tryz.prog 137 #[.int .i64 x] w fun e w' => e = .returned (.int .i64 (expZ x)) ∧ w' = w := by
  have x0 := wi_0 x
  have x1 := wi_1 x
  obtain ⟨y, k, f, hy, hk, hf, k0, k1, y0, y1, f0, f1, HE⟩ := exp_parts x
  have p := pw_bd f0 f1
  have p0 := p.1
  have p1 := p.2
  clear p
  by_cases h16 : k ≥ 16
  · have HL : Hid (liftZ (pw f) k = 2147483647) := by unfold liftZ; rw [if_pos h16]; exact rfl
    go_enter Tryz.func137, Tryz.ntmps137
    go_wp2_with fail
    refine (within_any _ _).mono ?_
    rintro e w' ⟨rfl, rfl⟩
    go_wp2_with fail
    refine (part_any _ _ f0 f1).mono ?_
    rintro e w' ⟨rfl, rfl⟩
    go_wp2
    go_ret
    exact ⟨ret_int (HE.trans HL).symm, rfl⟩
  · by_cases h0 : k < 0
    · have HL : Hid (liftZ (pw f) k = pw f / 2 ^ (-k).toNat) := by unfold liftZ; rw [if_neg h16, if_pos h0]; exact rfl
      have HS : Op.shift .shr .i64 (pw f) .u64 (-k) = pure (.int .i64 (pw f / 2 ^ (-k).toNat)) := by rw [shift_shr_any _ _ _ _ (by omega), shr_far (by omega) p1]
      go_enter Tryz.func137, Tryz.ntmps137
      go_wp2_with fail
      refine (within_any _ _).mono ?_
      rintro e w' ⟨rfl, rfl⟩
      go_wp2_with fail
      refine (part_any _ _ f0 f1).mono ?_
      rintro e w' ⟨rfl, rfl⟩
      go_wp2
      go_ret
      refine ⟨ret_int ?_, rfl⟩
      refine Eq.trans ?_ (HE.trans HL).symm
      exact rfl
    · have HL : Hid (liftZ (pw f) k = wi (pw f * 2 ^ k.toNat)) := by unfold liftZ; rw [if_neg h16, if_neg h0]; exact rfl
      go_enter Tryz.func137, Tryz.ntmps137
      go_wp2_with fail
      refine (within_any _ _).mono ?_
      rintro e w' ⟨rfl, rfl⟩
      go_wp2_with fail
      refine (part_any _ _ f0 f1).mono ?_
      rintro e w' ⟨rfl, rfl⟩
      go_wp2_with fail
      refine (within_any _ _).mono ?_
      rintro e w' ⟨rfl, rfl⟩
      go_wp2
      go_ret
      refine ⟨ret_int ?_, rfl⟩
      refine Eq.trans ?_ (HE.trans HL).symm
      exact congrArg wi (shl_in (by omega) p1 (by omega))
end Go.Proofs.YtdomjdfancpbbaaGreat
namespace Go.Proofs.YtdomjdfancpbbaaGreat
open Go.RowKit
set_option linter.unusedVariables false
set_option maxRecDepth 1000000

theorem rootB_yes {n s : Int} {j : Nat} (h : (s + 2 ^ j) * (s + 2 ^ j) ≤ n) : rootB n (j + 1) s = rootB n j (s + 2 ^ j) := by rw [rootB, if_pos h]
theorem rootB_no {n s : Int} {j : Nat} (h : ¬ (s + 2 ^ j) * (s + 2 ^ j) ≤ n) : rootB n (j + 1) s = rootB n j s := by rw [rootB, if_neg h]
theorem sq_bd {s m : Int} (s0 : 0 ≤ s) (s1 : s ≤ 16777216) (m0 : 0 ≤ m) (m1 : m ≤ 2147483648) : 0 ≤ (s + m) * (s + m) ∧ (s + m) * (s + m) ≤ 2164260864 * 2164260864 :=
  ⟨Int.mul_nonneg (by omega) (by omega), Int.mul_le_mul (by omega) (by omega) (by omega) (by omega)⟩
set_option maxHeartbeats 1000000 in
theorem sqrt_any (x : Int) (w : World) :
    Calls Tryz.prog 125 #[.int .i64 x] w fun e w' => e = .returned (.int .i64 (sqrtZ x)) ∧ w' = w := by
  have x0 := wi_0 x
  have x1 := wi_1 x
  by_cases hx : x ≤ 0
  · have HZ : Hid (0 = sqrtZ x) := by
      by_cases h0 : wi x < 0
      · rw [sqrtZ_neg h0]; exact rfl
      · have := wi_le hx
        rw [show wi 0 = 0 from rfl] at this
        have e : wi x = 0 := by omega
        unfold sqrtZ; rw [e]; exact (by decide : (0 : Int) = rootB (0 * 65536) 24 0)
    go_enter Tryz.func125, Tryz.ntmps125
    go_wp2
    go_ret
    exact ⟨ret_int HZ, rfl⟩
  · obtain ⟨n, hn⟩ : ∃ n, wi x * 65536 = n := ⟨_, rfl⟩
    have n1 : n < 281474976710656 := by omega
    have HZ : Hid (rootB n 24 0 = sqrtZ x) := by unfold sqrtZ; rw [hn]; exact rfl
    go_enter Tryz.func125, Tryz.ntmps125
    go_wp2_with fail
    refine (within_any _ _).mono ?_
    rintro e w' ⟨rfl, rfl⟩
    go_wp2
    go_loop [4, 5] (fun v i => ∃ (s : Int) (j : Nat), v = .int .i64 s ∧ i = .int .i64 ((j : Int) - 1) ∧ j ≤ 24 ∧ 0 ≤ s ∧ s ≤ 16777216 ∧ Hid (rootB n j s = sqrtZ x)) (fun _ i => (intOf i + 1).toNat)
    case atStart => exact ⟨_, 24, rfl, rfl, by omega, by omega, by omega, HZ⟩
    case round =>
      obtain ⟨s, j, rfl, rfl, hj, s0, s1, HR⟩ := hrel
      rcases j with _ | j
      · go_wp2
        go_ret
        exact ⟨ret_int HR, rfl⟩
      · obtain ⟨m, hm⟩ : ∃ m : Int, 2 ^ j = m := ⟨_, rfl⟩
        have m0 : 0 < m := by rw [← hm]; exact two_pos _
        have m1 : m ≤ 8388608 := by rw [← hm]; exact two_le (n := 23) (by omega)
        have B := sq_bd s0 s1 (by omega) (show m ≤ 2147483648 by omega)
        have b0 := B.1
        have b1 := B.2
        clear B
        by_cases hq : (s + m) * (s + m) ≤ n
        · have HN : Hid (rootB n j (s + m) = sqrtZ x) := by rw [← HR.out, rootB_yes (by rw [hm]; exact hq), hm]; exact rfl
          have := sq_small hq n1
          go_wp2
          go_round
          case rel => exact ⟨_, j, rfl, by go_num, by omega, by omega, by omega, HN⟩
          case measure => simp [intOf]
        · have HN : Hid (rootB n j s = sqrtZ x) := by rw [← HR.out, rootB_no (by rw [hm]; exact hq)]; exact rfl
          go_wp2
          go_round
          case rel => exact ⟨_, j, rfl, by go_num, by omega, by omega, by omega, HN⟩
          case measure => simp [intOf]
end Go.Proofs.YtdomjdfancpbbaaGreat
namespace Go.Proofs.YtdomjdfancpbbaaGreat
open Go.RowKit
set_option linter.unusedVariables false
set_option maxRecDepth 1000000

theorem count_any (a : Option Addr) (len cap : Nat) (w : World) (hlen : len ≤ 1000) :
    Calls Tryz.prog 104 #[.slice a len cap] w fun e w' => e = .returned (.int .i64 len) ∧ w' = w := by
  go_enter Tryz.func104, Tryz.ntmps104
  go_wp2
  go_ret
  exact ⟨rfl, rfl⟩

theorem each_any (fn : Nat) (caps : Array Value) (a : Option Addr) (len cap : Nat) (zs : List Int) (w : World) (hlen : len ≤ 1000) (I : Nat → World → Prop)
    (hE : ∀ args w, (callFunc fn args).run Tryz.prog w = .ok (.enter fn args) w) (hR : ∀ k wr, I k wr → Reads .i64 wr a len cap zs) (h0 : I 0 w)
    (hS : ∀ k wr, k < len → I k wr → Calls Tryz.prog fn (#[.int .i64 (k : Int), .int .i64 (zs[k]?.getD 0)] ++ caps) wr fun e w' => e = .returned (.tuple #[]) ∧ I (k + 1) w') :
    Calls Tryz.prog 116 #[.slice a len cap, .func (.func fn) #[] caps] w fun e w' => e = .returned (.tuple #[]) ∧ I len w' := by
  have hr0 := hR 0 w h0
  have hroom := hr0.room
  have hmost := hr0.most
  have hbare := hr0.bare
  clear hr0
  have H0 := hid h0
  have HR := hid hR
  have HS := hid hS
  clear h0 hR hS
  go_enter Tryz.func116, Tryz.ntmps116
  cases a with
  | none =>
    obtain ⟨rfl, rfl⟩ := hbare rfl
    go_wp2_with fail
    refine (count_any _ _ _ _ (by omega)).mono ?_
    rintro e w' ⟨rfl, rfl⟩
    go_wp2_with fail
    go_loopw [11] (fun i wr => ∃ k : Nat, k = 0 ∧ i = .int .i64 k ∧ Hid (I k wr)) (fun i _ => 0 - (intOf i).toNat)
    case atStart => exact ⟨0, rfl, rfl, H0⟩
    case round =>
      obtain ⟨k, rfl, rfl, HI⟩ := hrel
      go_wp2
      go_end0
      exact ⟨rfl, HI.out⟩
  | some ad =>
    clear hbare
    go_wp2_with fail
    refine (count_any _ _ _ _ (by omega)).mono ?_
    rintro e w' ⟨rfl, rfl⟩
    go_wp2_with fail
    go_loopw [11] (fun i wr => ∃ k : Nat, k ≤ len ∧ i = .int .i64 k ∧ Hid (I k wr)) (fun i _ => len - (intOf i).toNat)
    case atStart => exact ⟨0, Nat.zero_le _, rfl, H0⟩
    case round =>
      obtain ⟨k, hk, rfl, HI⟩ := hrel
      by_cases hlt : k < len
      · obtain ⟨b, off, hab, hc⟩ := (HR.out k wr HI.out).cell k hlt
        cases hab
        have hC := HS.out k wr hlt HI.out
        generalize zs[k]?.getD 0 = z at *
        go_wp2_with fail
        refine hC.mono ?_
        rintro e w2 ⟨rfl, hI2⟩
        have HI2 := hid hI2
        clear hI2 hC
        go_wp2_with fail
        go_round
        case rel => exact ⟨k + 1, by omega, by go_num, HI2⟩
        case measure => simp [intOf]; omega
      · obtain rfl : k = len := by omega
        go_wp2
        go_end0
        exact ⟨rfl, HI.out⟩
end Go.Proofs.YtdomjdfancpbbaaGreat
namespace Go.Proofs.YtdomjdfancpbbaaGreat
open Go.RowKit
set_option linter.unusedVariables false
set_option maxRecDepth 1000000

theorem both1_any (fn : Nat) (caps : Array Value) (hE : ∀ args w, (callFunc fn args).run Tryz.prog w = .ok (.enter fn args) w) (S : List Nat) (k : Nat) (x : Int) (Bd Bb : Nat) (b : Option Addr) (lb cb : Nat) (bs : List Int) (wr : World)
    (hd : wr.heap[Bd]? = some (.cells #[.func (.func fn) #[] caps] 165 (0, 0))) (hb : wr.heap[Bb]? = some (.cells #[.slice b lb cb] 99 (0, 0)))
    (hr : Reads .i64 wr b lb cb bs) (hk : k < lb) (hdS : Bd ∉ S) (hbS : Bb ∉ S) (hrS : Off S b lb) (J : World → Prop)
    (hC : Calls Tryz.prog fn (#[.int .i64 x, .int .i64 (bs[k]?.getD 0)] ++ caps) wr.drew fun e w' => e = .returned (.tuple #[]) ∧ J w' ∧ But S wr w') :
    Calls Tryz.prog 130 #[.int .i64 k, .int .i64 x, .pointer (some ⟨Bd, 0, none⟩), .pointer (some ⟨Bb, 0, none⟩)] wr fun e w' => e = .returned (.tuple #[]) ∧ J w' ∧ But S wr w' := by
  have cd := cell_of_one hd
  have cq := cell_of_one hb
  obtain ⟨bb, off, rfl, ce⟩ := hr.cell k hk
  have hroom := hr.room
  have hmost := hr.most
  have HrS := hid (hrS (by omega) _ rfl)
  have HK : Hid (∀ W, But S wr W → W.cell? ⟨Bd, 0, none⟩ = some (.func (.func fn) #[] caps) ∧ W.cell? ⟨Bb, 0, none⟩ = some (.slice (some ⟨bb, off, none⟩) lb cb) ∧ W.cell? ⟨bb, off + k, none⟩ = some (.int .i64 (bs[k]?.getD 0))) :=
    fun W h => ⟨h.cell cd hdS, h.cell cq hbS, h.cell ce HrS.out⟩
  clear hr hd hb hdS hbS hrS HrS
  generalize bs[k]?.getD 0 = y at *
  go_enter Tryz.func130, Tryz.ntmps130
  go_wp2_with fail
  go_region_held3 (fun W : World => W.cell? ⟨Bd, 0, none⟩ = some (.func (.func fn) #[] caps) ∧ W.cell? ⟨Bb, 0, none⟩ = some (.slice (some ⟨bb, off, none⟩) lb cb) ∧ W.cell? ⟨bb, off + k, none⟩ = some (.int .i64 y)) (first | exact ⟨cd, cq, ce⟩ | assumption | exact HK.out _ hB) (first | (refine hC.mono ?_; rintro e w2 ⟨rfl, hJ, hB⟩))
  clear HK cd cq ce
  go_wp2
  go_end0
  exact ⟨rfl, hJ, hB⟩

set_option maxHeartbeats 1000000 in
theorem both_any (fn : Nat) (caps : Array Value) (hE : ∀ args w, (callFunc fn args).run Tryz.prog w = .ok (.enter fn args) w) (S : List Nat) (a b : Option Addr) (la ca lb cb : Nat) (xs ys : List Int) (w : World)
    (ha : Reads .i64 w a la ca xs) (hb : Reads .i64 w b lb cb ys) (hla : la ≤ 1000) (hlb : lb ≤ 1000) (hS : ∀ s ∈ S, s < w.heap.size) (haS : Off S a la) (hbS : Off S b lb)
    (I : Nat → World → Prop) (h0 : I 0 w) (hI : ∀ k W W', I k W → Below W.heap.size W W' → I k W')
    (hC : ∀ k wr, k < la → k < lb → I k wr → Calls Tryz.prog fn (#[.int .i64 (xs[k]?.getD 0), .int .i64 (ys[k]?.getD 0)] ++ caps) wr fun e w' => e = .returned (.tuple #[]) ∧ I (k + 1) w' ∧ But S wr w') :
    Calls Tryz.prog 105 #[.slice a la ca, .slice b lb cb, .func (.func fn) #[] caps] w fun e w' => e = .returned (.tuple #[]) ∧ I (min la lb) w' ∧ But S w w' := by
  obtain ⟨w2, hw2⟩ : ∃ w2, w2 = (w.alloc (.cells #[.slice b lb cb] 99)).alloc (.cells #[.func (.func fn) #[] caps] 165) := ⟨_, rfl⟩
  have hbel : Below w.heap.size w w2 := by rw [hw2]; exact ((Below.refl _ _).alloc (Nat.le_refl _) _).alloc (by simp) _
  have hB1 : w2.heap[w.heap.size]? = some (.cells #[.slice b lb cb] 99 (0, 0)) := by
    rw [hw2, Below.heap_alloc _ _ _ (by simp)]; exact heap_alloc_new w _
  have hB2 : w2.heap[w.heap.size + 1]? = some (.cells #[.func (.func fn) #[] caps] 165 (0, 0)) := by
    have := heap_alloc_new (w.alloc (.cells #[.slice b lb cb] 99)) (.cells #[.func (.func fn) #[] caps] 165)
    rw [hw2]
    simpa using this
  have HE : Hid (Calls Tryz.prog 116 #[.slice a (min la lb) ca, .func (.func 130) #[] #[.pointer (some ⟨w.heap.size + 1, 0, none⟩), .pointer (some ⟨w.heap.size, 0, none⟩)]] w2 fun e w' => e = .returned (.tuple #[]) ∧ (I (min la lb) w' ∧ But S w2 w')) := by
    refine each_any 130 _ a (min la lb) ca (xs.take (min la lb)) w2 (by omega) (fun k W => I k W ∧ But S w2 W) (enters_of Tryz.func130 (by kernel_rfl) rfl) ?_ ⟨hI 0 _ _ h0 hbel, But.refl _ _⟩ ?_
    · rintro k wr ⟨_, hk⟩
      exact ((ha.below hbel).cut (Nat.min_le_left _ _)).but hk (fun h => haS (by omega))
    · rintro k wr hk ⟨hi, hbt⟩
      rw [List.getElem?_take_of_lt hk]
      have h1 : w.heap.size + 1 ∉ S := fun h => by have := hS _ h; omega
      have h2 : w.heap.size ∉ S := fun h => by have := hS _ h; omega
      have hdr : Below wr.heap.size wr wr.drew := (Below.refl _ _).drew
      refine (both1_any fn caps hE S k _ (w.heap.size + 1) w.heap.size b lb cb ys wr (hbt.one hB2 h1) (hbt.one hB1 h2) ((hb.below hbel).but hbt hbS) (by omega) h1 h2 hbS (I (k + 1)) ?_).mono ?_
      · exact (hC k wr.drew (by omega) (by omega) (hI _ _ _ hi hdr)).mono fun e w' ⟨e1, e2, e3⟩ => ⟨e1, e2, (But.of hdr).trans e3⟩
      · rintro e w' ⟨e1, e2, e3⟩
        exact ⟨e1, e2, hbt.trans e3⟩
  have HF : Hid (∀ w', But S w2 w' → But S w w') := fun w' h => (But.of hbel).trans h
  have ra := ha.room
  have rm := ha.most
  have rb := hb.room
  have rc := hb.most
  have bare := ha.bare
  have cq := cell_of_one hB1
  clear hbel hB1 hB2 hC hI h0 haS hbS hS ha hb
  subst hw2
  go_enter Tryz.func105, Tryz.ntmps105
  rcases Nat.lt_or_ge lb la with hl | hl
  · rw [Nat.min_eq_right (by omega)] at HE ⊢
    cases a with
    | none => obtain ⟨rfl, rfl⟩ := bare rfl; omega
    | some ad =>
      clear bare
      go_wp2_with fail
      refine HE.out.mono ?_
      rintro e w' ⟨rfl, hI, hB⟩
      have HI := hid hI
      have HB := hid (HF.out w' hB)
      clear hI hB HE HF cq
      go_wp2
      go_end0
      exact ⟨rfl, HI.out, HB.out⟩
  · rw [Nat.min_eq_left (by omega)] at HE ⊢
    cases a with
    | none =>
      obtain ⟨rfl, rfl⟩ := bare rfl
      clear bare
      go_wp2_with fail
      refine HE.out.mono ?_
      rintro e w' ⟨rfl, hI, hB⟩
      have HI := hid hI
      have HB := hid (HF.out w' hB)
      clear hI hB HE HF cq
      go_wp2
      go_end0
      exact ⟨rfl, HI.out, HB.out⟩
    | some ad =>
      clear bare
      go_wp2_with fail
      refine HE.out.mono ?_
      rintro e w' ⟨rfl, hI, hB⟩
      have HI := hid hI
      have HB := hid (HF.out w' hB)
      clear hI hB HE HF cq
      go_wp2
      go_end0
      exact ⟨rfl, HI.out, HB.out⟩

/-- The product of the first k places. -/
def dotK (xs ys : List Int) : Nat → Int
  | 0 => 0
  | k + 1 => addZ (dotK xs ys k) (mulZ (xs[k]?.getD 0) (ys[k]?.getD 0))

theorem dot1_any (x y s : Int) (B : Nat) (w : World) (hB : w.heap[B]? = some (.cells #[.int .i64 s] 2 (0, 0))) :
    Calls Tryz.prog 128 #[.int .i64 x, .int .i64 y, .pointer (some ⟨B, 0, none⟩)] w fun e w' => e = .returned (.tuple #[]) ∧ w'.heap[B]? = some (.cells #[.int .i64 (addZ s (mulZ x y))] 2 (0, 0)) ∧ But [B] w w' := by
  have cs := cell_of_one hB
  have fs := free_of_one hB
  have HO := hid (one_setCell (u := .int .i64 (addZ s (mulZ x y))) hB)
  clear hB
  go_enter Tryz.func128, Tryz.ntmps128
  go_wp2_with fail
  go_region_with (first | (go_at_call 95; refine (mul_any _ _ _).mono ?_; rintro e w' ⟨rfl, rfl⟩) | (go_at_call 82; refine (add_any _ _ _).mono ?_; rintro e w' ⟨rfl, rfl⟩))
  all_goals
    go_wp2
    go_end0
    exact ⟨rfl, HO.out, ((But.refl _ _).set (p := ⟨B, 0, none⟩) (List.mem_singleton.2 rfl) _).drew⟩

/-- The variable of a literal: B, a block of one number of the call that began in w. -/
def SumAt (w : World) (B : Nat) (s : Int) (W : World) : Prop := W.heap[B]? = some (.cells #[.int .i64 s] 2 (0, 0)) ∧ Below w.heap.size w W
theorem SumAt.below {w : World} {B : Nat} {s : Int} {W W' : World} (h : SumAt w B s W) (hb : Below W.heap.size W W') : SumAt w B s W' :=
  ⟨(hb.block B (lt_of_block h.1)).trans h.1, h.2.trans (hb.mono h.2.size)⟩
theorem SumAt.new (w : World) (s : Int) : SumAt w w.heap.size s (w.alloc (.cells #[.int .i64 s] 2)) := ⟨heap_alloc_new w _, (Below.refl _ _).alloc (Nat.le_refl _) _⟩
theorem dot_any (a b : Option Addr) (la ca lb cb : Nat) (xs ys : List Int) (w : World) (ha : Reads .i64 w a la ca xs) (hb : Reads .i64 w b lb cb ys) (hla : la ≤ 1000) (hlb : lb ≤ 1000) :
    Calls Tryz.prog 101 #[.slice a la ca, .slice b lb cb] w fun e w' => e = .returned (.int .i64 (dotK xs ys (min la lb))) ∧ Below w.heap.size w w' := by
  have hn := SumAt.new w 0
  have HE : Hid (Calls Tryz.prog 105 #[.slice a la ca, .slice b lb cb, .func (.func 128) #[] #[.pointer (some ⟨w.heap.size, 0, none⟩)]] (w.alloc (.cells #[.int .i64 0] 2)) fun e w' => e = .returned (.tuple #[]) ∧ SumAt w w.heap.size (dotK xs ys (min la lb)) w') := by
    have hS : ∀ s ∈ [w.heap.size], w.heap.size ≤ s := fun s hs => by rw [List.mem_singleton.1 hs]; exact Nat.le_refl _
    refine (both_any 128 _ (enters_of Tryz.func128 (by kernel_rfl) rfl) [w.heap.size] a b la ca lb cb xs ys _ (ha.below hn.2) (hb.below hn.2) hla hlb (fun s hs => by rw [List.mem_singleton.1 hs]; simp) (ha.past hS) (hb.past hS)
      (fun k W => SumAt w w.heap.size (dotK xs ys k) W) hn (fun k W W' h hb => h.below hb) ?_).mono fun e w' h => ⟨h.1, h.2.1⟩
    intro k wr hk hk' hi
    exact (dot1_any _ _ _ w.heap.size wr hi.1).mono fun e w' ⟨h1, h2, h3⟩ => ⟨h1, ⟨h2, hi.2.trans (h3.to hS (by exact hi.2.size))⟩, h3⟩
  clear hn ha hb
  go_enter Tryz.func101, Tryz.ntmps101
  go_wp2_with fail
  refine HE.out.mono ?_
  rintro e w' ⟨rfl, hS⟩
  have cs := cell_of_one hS.1
  have HS := hid hS.2
  clear HE hS
  go_wp2
  go_ret
  exact ⟨rfl, HS.out⟩
end Go.Proofs.YtdomjdfancpbbaaGreat
namespace Go.Proofs.YtdomjdfancpbbaaGreat
open Go.RowKit
set_option linter.unusedVariables false
set_option maxRecDepth 1000000

theorem made1_any (fn : Nat) (caps : Array Value) (hE : ∀ args w, (callFunc fn args).run Tryz.prog w = .ok (.enter fn args) w) (k : Nat) (x y : Int) (Bo Bm base g m : Nat) (us : List Int) (wr : World) (hm : m ≤ 1000)
    (ho : wr.heap[Bo]? = some (.cells #[.func (.func fn) #[] caps] 155 (0, 0))) (hq : wr.heap[Bm]? = some (.cells #[.slice (some ⟨g, 0, none⟩) m m] 99 (0, 0)))
    (hO : OwnK 2 base g m m us wr) (hk : k < m) (hgo : Bo ≠ g) (hgm : Bm ≠ g)
    (hC : Calls Tryz.prog fn (#[.int .i64 x] ++ caps) wr.drew fun e w' => e = .returned (.int .i64 y) ∧ Below wr.heap.size wr w') :
    Calls Tryz.prog 144 #[.int .i64 k, .int .i64 x, .pointer (some ⟨Bo, 0, none⟩), .pointer (some ⟨Bm, 0, none⟩)] wr fun e w' => e = .returned (.tuple #[]) ∧ OwnK 2 base g m m (us.set k y) w' ∧ But [g] wr w' := by
  have cd := cell_of_one ho
  have cq := cell_of_one hq
  have HO := hid hO
  have HK : Hid (∀ W, But [g] wr W → W.cell? ⟨Bo, 0, none⟩ = some (.func (.func fn) #[] caps) ∧ W.cell? ⟨Bm, 0, none⟩ = some (.slice (some ⟨g, 0, none⟩) m m)) :=
    fun W h => ⟨h.cell cd (by simpa using hgo), h.cell cq (by simpa using hgm)⟩
  clear ho hq hO hgo hgm
  go_enter Tryz.func144, Tryz.ntmps144
  go_wp2_with fail
  go_region_held3 (fun W : World => W.cell? ⟨Bo, 0, none⟩ = some (.func (.func fn) #[] caps) ∧ W.cell? ⟨Bm, 0, none⟩ = some (.slice (some ⟨g, 0, none⟩) m m)) (first | exact ⟨cd, cq⟩ | assumption | exact HK.out _ (But.of hB) | exact HK.out _ ((But.of hB).set (p := ⟨g, k, none⟩) (List.mem_singleton.2 rfl) _)) (first | (refine hC.mono ?_; rintro e w2 ⟨rfl, hB⟩; have HO2 := hid (HO.out.stays hB); have ck := HO2.out.cell hk; have fk := HO2.out.frozen k))
  have HS : Hid (OwnK 2 base g m m (us.set k y) (w2.setCell ⟨g, k, none⟩ (.int .i64 y))) := HO2.out.set k y
  have HB : Hid (But [g] wr (w2.setCell ⟨g, k, none⟩ (.int .i64 y))) := (But.of hB).set (p := ⟨g, k, none⟩) (List.mem_singleton.2 rfl) _
  clear HK cd cq HO HO2 ck fk hB hC
  go_wp2
  go_end0
  exact ⟨rfl, HS.out, HB.out⟩

/-- What is made behind k rounds. -/
def madeK (f : Int → Int) (zs : List Int) (len k : Nat) : List Int := (zs.take k).map f ++ List.replicate (len - k) 0
theorem madeK_set {f : Int → Int} {zs : List Int} {k : Nat} (h : k < zs.length) : (madeK f zs zs.length k).set k (f (zs[k]?.getD 0)) = madeK f zs zs.length (k + 1) := by
  unfold madeK
  have hl : ((zs.take k).map f).length = k := by simp; omega
  rw [List.set_append_right _ _ (by omega), hl, Nat.sub_self, take_snoc h, List.map_append, List.append_assoc]
  congr 1
  rw [show zs.length - k = zs.length - (k + 1) + 1 by omega, List.replicate_succ]
  rfl
theorem madeK_all (f : Int → Int) (zs : List Int) : madeK f zs zs.length zs.length = zs.map f := by unfold madeK; simp

/-- What stands in memory between the rounds of madeOf: the function, the row, and the variable that holds it. -/
structure MadeAt (w : World) (fn : Nat) (caps : Array Value) (T : TypeId) (B len : Nat) (us : List Int) (W : World) : Prop where
  old : Below w.heap.size w W
  fun_ : W.heap[B]? = some (.cells #[.func (.func fn) #[] caps] T (0, 0))
  var : W.heap[B + 2]? = some (.cells #[.slice (some ⟨B + 1, 0, none⟩) len len] 99 (0, 0))
  own : OwnK 2 w.heap.size (B + 1) len len us W

theorem MadeAt.new (w : World) (fn : Nat) (caps : Array Value) (T : TypeId) (len : Nat) (hlen : len ≤ 1000) :
    MadeAt w fn caps T w.heap.size len (List.replicate len 0) (((w.alloc (.cells #[.func (.func fn) #[] caps] T)).alloc (.cells (madeCells #[.int .i64 0] len) 2)).alloc (.cells #[.slice (some ⟨w.heap.size + 1, 0, none⟩) len len] 99)) := by
  have h1 := own_made 2 (w.alloc (.cells #[.func (.func fn) #[] caps] T)) len (by omega)
  have e1 : (w.alloc (.cells #[.func (.func fn) #[] caps] T)).heap.size = w.heap.size + 1 := by simp
  rw [e1] at h1
  refine ⟨?_, ?_, ?_, ?_⟩
  · exact (((Below.refl _ _).alloc (Nat.le_refl _) _).alloc (by simp) _).alloc (by simp; omega) _
  · rw [Below.heap_alloc _ _ _ (by simp; omega), Below.heap_alloc _ _ _ (by simp)]
    exact heap_alloc_new w _
  · have := heap_alloc_new ((w.alloc (.cells #[.func (.func fn) #[] caps] T)).alloc (.cells (madeCells #[.int .i64 0] len) 2)) (.cells #[.slice (some ⟨w.heap.size + 1, 0, none⟩) len len] 99)
    simpa using this
  · exact (h1.low (by omega)).stays ((Below.refl _ _).alloc (Nat.le_refl _) _)

theorem madeEach_any (fn : Nat) (caps : Array Value) (hE : ∀ args w, (callFunc fn args).run Tryz.prog w = .ok (.enter fn args) w) (a : Option Addr) (len cap : Nat) (zs : List Int) (w W : World) (ha : Reads .i64 w a len cap zs) (hlen : len ≤ 1000) (f : Int → Int)
    (hC : ∀ x wr, Below w.heap.size w wr → Calls Tryz.prog fn (#[.int .i64 x] ++ caps) wr fun e w' => e = .returned (.int .i64 (f x)) ∧ Below wr.heap.size wr w')
    (h0 : MadeAt w fn caps 155 w.heap.size len (List.replicate len 0) W) :
    Calls Tryz.prog 116 #[.slice a len cap, .func (.func 144) #[] #[.pointer (some ⟨w.heap.size, 0, none⟩), .pointer (some ⟨w.heap.size + 2, 0, none⟩)]] W
      fun e w' => e = .returned (.tuple #[]) ∧ MadeAt w fn caps 155 w.heap.size len (zs.map f) w' := by
  have hz := ha.size
  subst hz
  refine (each_any 144 _ a zs.length cap zs W hlen (fun k W => MadeAt w fn caps 155 w.heap.size zs.length (madeK f zs zs.length k) W) (enters_of Tryz.func144 (by kernel_rfl) rfl) ?_ ?_ ?_).mono ?_
  · intro k wr hk
    exact ha.below hk.old
  · unfold madeK
    simpa using h0
  · intro k wr hk hI
    have hdr : Below wr.heap.size wr wr.drew := (Below.refl _ _).drew
    refine (made1_any fn caps hE k _ (f (zs[k]?.getD 0)) w.heap.size (w.heap.size + 2) w.heap.size (w.heap.size + 1) zs.length _ wr hlen hI.fun_ hI.var hI.own hk (by omega) (by omega) ?_).mono ?_
    · exact (hC _ _ (hI.old.trans (hdr.mono hI.old.size))).mono fun e w' ⟨h1, h2⟩ => ⟨h1, hdr.trans (h2.mono (Nat.le_refl _))⟩
    · rintro e w' ⟨h1, h2, h3⟩
      refine ⟨h1, ?_, h3.one hI.fun_ (by simp), h3.one hI.var (by simp), ?_⟩
      · exact hI.old.trans (h3.to (fun s hs => by rw [List.mem_singleton.1 hs]; omega) hI.old.size)
      · rw [← madeK_set hk]; exact h2
  · rintro e w' ⟨h1, h2⟩
    rw [madeK_all] at h2
    exact ⟨h1, h2⟩

theorem madeof_any (fn : Nat) (caps : Array Value) (hE : ∀ args w, (callFunc fn args).run Tryz.prog w = .ok (.enter fn args) w) (a : Option Addr) (len cap : Nat) (zs : List Int) (w : World) (ha : Reads .i64 w a len cap zs) (hlen : len ≤ 1000) (f : Int → Int)
    (hC : ∀ x wr, Below w.heap.size w wr → Calls Tryz.prog fn (#[.int .i64 x] ++ caps) wr fun e w' => e = .returned (.int .i64 (f x)) ∧ Below wr.heap.size wr w') :
    Calls Tryz.prog 126 #[.slice a len cap, .func (.func fn) #[] caps] w fun e w' => ∃ g, e = .returned (.slice (some ⟨g, 0, none⟩) len len) ∧ OwnK 2 w.heap.size g len len (zs.map f) w' ∧ Below w.heap.size w w' := by
  have HM := hid fun W => madeEach_any fn caps hE a len cap zs w W ha hlen f hC
  have hmk := make_ints (w.alloc (.cells #[.func (.func fn) #[] caps] 155)) len (by omega)
  clear ha hC
  go_enter Tryz.func126, Tryz.ntmps126
  go_wp2_with fail
  refine (count_any _ _ _ _ hlen).mono ?_
  rintro e w' ⟨rfl, rfl⟩
  go_wp2_with fail
  refine (HM.out _ (MadeAt.new _ _ _ _ _ hlen)).mono ?_
  rintro e w' ⟨rfl, h⟩
  have cv := cell_of_one h.var
  have HO := hid h.own
  have HB := hid h.old
  clear h HM hmk
  go_wp2
  go_ret
  exact ⟨_, rfl, HO.out, HB.out⟩
end Go.Proofs.YtdomjdfancpbbaaGreat
namespace Go.Proofs.YtdomjdfancpbbaaGreat
open Go.RowKit
set_option linter.unusedVariables false
set_option maxRecDepth 1000000

theorem relu1_any (n : Int) (w : World) :
    Calls Tryz.prog 151 #[.int .i64 n] w fun e w' => e = .returned (.int .i64 (max (wi n) 0)) ∧ w' = w := by
  rcases Int.lt_or_le (wi n) 0 with h | h
  · have HE : Hid (0 = max (wi n) 0) := by unfold Hid; omega
    go_enter Tryz.func151, Tryz.ntmps151
    go_wp2_with fail
    refine (within_any _ _).mono ?_
    rintro e w' ⟨rfl, rfl⟩
    go_wp2
    go_ret
    exact ⟨ret_int HE.out, rfl⟩
  · have HE : Hid (wi n = max (wi n) 0) := by unfold Hid; omega
    go_enter Tryz.func151, Tryz.ntmps151
    go_wp2_with fail
    refine (within_any _ _).mono ?_
    rintro e w' ⟨rfl, rfl⟩
    go_wp2
    go_ret
    exact ⟨ret_int HE.out, rfl⟩
theorem norm1_any (n b : Int) (B : Nat) (w : World) (hB : w.heap[B]? = some (.cells #[.int .i64 b] 2 (0, 0))) :
    Calls Tryz.prog 127 #[.int .i64 n, .pointer (some ⟨B, 0, none⟩)] w fun e w' => e = .returned (.int .i64 (divZ n b)) ∧ w' = w := by
  have cs := cell_of_one hB
  clear hB
  go_enter Tryz.func127, Tryz.ntmps127
  go_wp2_with fail
  refine (div_any _ _ _).mono ?_
  rintro e w' ⟨rfl, rfl⟩
  go_wp2
  go_ret
  exact ⟨rfl, rfl⟩
theorem soft3_any (n b : Int) (B : Nat) (w : World) (hB : w.heap[B]? = some (.cells #[.int .i64 b] 2 (0, 0))) :
    Calls Tryz.prog 139 #[.int .i64 n, .pointer (some ⟨B, 0, none⟩)] w fun e w' => e = .returned (.int .i64 (divZ n b)) ∧ w' = w := by
  have cs := cell_of_one hB
  clear hB
  go_enter Tryz.func139, Tryz.ntmps139
  go_wp2_with fail
  refine (div_any _ _ _).mono ?_
  rintro e w' ⟨rfl, rfl⟩
  go_wp2
  go_ret
  exact ⟨rfl, rfl⟩
theorem soft1_any (n b : Int) (b0 : -2147483648 ≤ b) (b1 : b ≤ 2147483647) (B : Nat) (w : World) (hB : w.heap[B]? = some (.cells #[.int .i64 b] 2 (0, 0))) :
    Calls Tryz.prog 136 #[.int .i64 n, .pointer (some ⟨B, 0, none⟩)] w fun e w' => e = .returned (.int .i64 (expZ (addZ n (-b)))) ∧ w' = w := by
  have cs := cell_of_one hB
  clear hB
  go_enter Tryz.func136, Tryz.ntmps136
  go_wp2_with fail
  refine (add_any _ _ _).mono ?_
  rintro e w' ⟨rfl, rfl⟩
  go_wp2_with fail
  refine (exp_any _ _).mono ?_
  rintro e w' ⟨rfl, rfl⟩
  go_wp2
  go_ret
  exact ⟨rfl, rfl⟩
theorem soft2_any (k : Nat) (p s : Int) (B : Nat) (w : World) (hB : w.heap[B]? = some (.cells #[.int .i64 s] 2 (0, 0))) :
    Calls Tryz.prog 138 #[.int .i64 k, .int .i64 p, .pointer (some ⟨B, 0, none⟩)] w fun e w' => e = .returned (.tuple #[]) ∧ w'.heap[B]? = some (.cells #[.int .i64 (addZ s p)] 2 (0, 0)) ∧ But [B] w w' := by
  have cs := cell_of_one hB
  have fs := free_of_one hB
  have HO := hid (one_setCell (u := .int .i64 (addZ s p)) hB)
  clear hB
  go_enter Tryz.func138, Tryz.ntmps138
  go_wp2_with fail
  refine (add_any _ _ _).mono ?_
  rintro e w' ⟨rfl, rfl⟩
  go_wp2
  go_end0
  exact ⟨rfl, HO.out, ((But.refl _ _).set (p := ⟨B, 0, none⟩) (List.mem_singleton.2 rfl) _)⟩

/-- The greatest of the first k, within the bounds; 0 of none. -/
def greatK (zs : List Int) : Nat → Int
  | 0 => 0
  | k + 1 => if k = 0 ∨ greatK zs k < wi (zs[k]?.getD 0) then wi (zs[k]?.getD 0) else greatK zs k
theorem greatK_bd (zs : List Int) (k : Nat) : -2147483648 ≤ greatK zs k ∧ greatK zs k ≤ 2147483647 := by
  induction k with
  | zero => simp [greatK]
  | succ k ih => unfold greatK; split; exact ⟨wi_0 _, wi_1 _⟩; exact ih
theorem great1_any (k : Nat) (n s : Int) (hk : k ≤ 1000) (B : Nat) (w : World) (hB : w.heap[B]? = some (.cells #[.int .i64 s] 2 (0, 0))) :
    Calls Tryz.prog 149 #[.int .i64 k, .int .i64 n, .pointer (some ⟨B, 0, none⟩)] w fun e w' => e = .returned (.tuple #[]) ∧ w'.heap[B]? = some (.cells #[.int .i64 (if k = 0 ∨ s < wi n then wi n else s)] 2 (0, 0)) ∧ But [B] w w' := by
  have cs := cell_of_one hB
  have fs := free_of_one hB
  by_cases h0 : k = 0
  · rw [if_pos (.inl h0)]
    have HO := hid (one_setCell (u := .int .i64 (wi n)) hB)
    clear hB
    subst h0
    go_enter Tryz.func149, Tryz.ntmps149
    go_wp2_with fail
    refine (within_any _ _).mono ?_
    rintro e w' ⟨rfl, rfl⟩
    go_wp2
    go_end0
    exact ⟨rfl, HO.out, ((But.refl _ _).set (p := ⟨B, 0, none⟩) (List.mem_singleton.2 rfl) _)⟩
  · by_cases h1 : s < wi n
    · rw [if_pos (.inr h1)]
      have HO := hid (one_setCell (u := .int .i64 (wi n)) hB)
      clear hB
      go_enter Tryz.func149, Tryz.ntmps149
      go_wp2_with fail
      refine (within_any _ _).mono ?_
      rintro e w' ⟨rfl, rfl⟩
      go_wp2
      go_end0
      exact ⟨rfl, HO.out, ((But.refl _ _).set (p := ⟨B, 0, none⟩) (List.mem_singleton.2 rfl) _)⟩
    · rw [if_neg (by omega)]
      have HO := hid hB
      have h2 : ¬ (k : Int) = 0 := by omega
      have h3 : wi n ≤ s := by omega
      have h4 : ((k : Int) == 0) = false := by simpa using h0
      clear hB h0 h1
      go_enter Tryz.func149, Tryz.ntmps149
      go_wp2_with fail
      refine (within_any _ _).mono ?_
      rintro e w' ⟨rfl, rfl⟩
      go_wp2
      go_end0
      exact ⟨rfl, HO.out, But.refl _ _⟩
theorem greatest_any (a : Option Addr) (len cap : Nat) (zs : List Int) (w : World) (ha : Reads .i64 w a len cap zs) (hlen : len ≤ 1000) :
    Calls Tryz.prog 135 #[.slice a len cap] w fun e w' => e = .returned (.int .i64 (greatK zs len)) ∧ Below w.heap.size w w' := by
  have hn := SumAt.new w 0
  have HE : Hid (Calls Tryz.prog 116 #[.slice a len cap, .func (.func 149) #[] #[.pointer (some ⟨w.heap.size, 0, none⟩)]] (w.alloc (.cells #[.int .i64 0] 2)) fun e w' => e = .returned (.tuple #[]) ∧ SumAt w w.heap.size (greatK zs len) w') := by
    refine each_any 149 _ a len cap zs _ hlen (fun k W => SumAt w w.heap.size (greatK zs k) W) (enters_of Tryz.func149 (by kernel_rfl) rfl) (fun k wr h => ha.below h.2) hn ?_
    intro k wr hk hi
    exact (great1_any k _ _ (by omega) w.heap.size wr hi.1).mono fun e w' ⟨h1, h2, h3⟩ => ⟨h1, h2, hi.2.trans (h3.to one_le hi.2.size)⟩
  clear hn ha
  go_enter Tryz.func135, Tryz.ntmps135
  go_wp2_with fail
  refine HE.out.mono ?_
  rintro e w' ⟨rfl, hS⟩
  have cs := cell_of_one hS.1
  have HS := hid hS.2
  clear HE hS
  go_wp2
  go_ret
  exact ⟨rfl, HS.out⟩

theorem relu_any (a : Option Addr) (len cap : Nat) (zs : List Int) (w : World) (ha : Reads .i64 w a len cap zs) (hlen : len ≤ 1000) :
    Calls Tryz.prog 142 #[.slice a len cap] w fun e w' => Made w len (zs.map (fun n => max (wi n) 0)) e w' := by
  have HE := hid (madeof_any 151 #[] (enters_of Tryz.func151 (by kernel_rfl) rfl) a len cap zs _ ha hlen (fun n => max (wi n) 0) fun x wr hb => (relu1_any x wr).mono fun e w' ⟨h1, h2⟩ => ⟨h1, by rw [h2]; exact Below.refl _ _⟩)
  clear ha
  go_enter Tryz.func142, Tryz.ntmps142
  go_wp2_with fail
  refine HE.out.mono ?_
  rintro e w' ⟨g, rfl, hO, hb⟩
  have HO := hid hO
  have HB := hid hb
  clear hO hb HE
  go_wp2
  go_ret
  exact ⟨_, _, rfl, HO.out, HB.out⟩
end Go.Proofs.YtdomjdfancpbbaaGreat
namespace Go.Proofs.YtdomjdfancpbbaaGreat
open Go.RowKit
set_option linter.unusedVariables false
set_option maxRecDepth 1000000

theorem pair1_end {Bm g base n cap : Nat} {us : List Int} {z : Int} {wr w3 : World} (hgm : Bm ≠ g) (hO3 : w3.ownsRow base 2 1 (.slice (some ⟨g, 0, none⟩) (n + 1) cap) (n + 1) (us.map (Value.int .i64) ++ [.int .i64 z]))
    (hq : w3.heap[Bm]? = some (.cells #[.slice (some ⟨g, 0, none⟩) n cap] 99 (0, 0))) (hG : But [g] wr w3) :
    OwnK 2 base g (n + 1) cap (us ++ [z]) (w3.setCell ⟨Bm, 0, none⟩ (.slice (some ⟨g, 0, none⟩) (n + 1) cap)) ∧
    (w3.setCell ⟨Bm, 0, none⟩ (.slice (some ⟨g, 0, none⟩) (n + 1) cap)).heap[Bm]? = some (.cells #[.slice (some ⟨g, 0, none⟩) (n + 1) cap] 99 (0, 0)) ∧
    But [Bm, g] wr (w3.setCell ⟨Bm, 0, none⟩ (.slice (some ⟨g, 0, none⟩) (n + 1) cap)) := by
  refine ⟨?_, one_setCell hq, (hG.mono (by simp)).set (p := ⟨Bm, 0, none⟩) (by simp) _⟩
  unfold OwnK
  rw [List.map_append]
  exact ownsRow_setCell_other hO3 (by simp [Value.ownBlock]; exact fun e => hgm e.symm) _

set_option maxHeartbeats 1000000 in
theorem pair1_any (fn : Nat) (caps : Array Value) (hE : ∀ args w, (callFunc fn args).run Tryz.prog w = .ok (.enter fn args) w) (x y z : Int) (Bm Bo base g n cap : Nat) (us : List Int) (wr : World) (hcap : cap ≤ 1000) (hn : n < cap)
    (ho : wr.heap[Bo]? = some (.cells #[.func (.func fn) #[] caps] 142 (0, 0))) (hq : wr.heap[Bm]? = some (.cells #[.slice (some ⟨g, 0, none⟩) n cap] 99 (0, 0)))
    (hO : OwnK 2 base g n cap us wr) (hgo : Bo ≠ g) (hgm : Bm ≠ g) (hom : Bo ≠ Bm)
    (hC : Calls Tryz.prog fn (#[.int .i64 x, .int .i64 y] ++ caps) wr.drew fun e w' => e = .returned (.int .i64 z) ∧ Below wr.heap.size wr w') :
    Calls Tryz.prog 106 #[.int .i64 x, .int .i64 y, .pointer (some ⟨Bm, 0, none⟩), .pointer (some ⟨Bo, 0, none⟩)] wr fun e w' => e = .returned (.tuple #[]) ∧ OwnK 2 base g (n + 1) cap (us ++ [z]) w' ∧
      w'.heap[Bm]? = some (.cells #[.slice (some ⟨g, 0, none⟩) (n + 1) cap] 99 (0, 0)) ∧ But [Bm, g] wr w' := by
  obtain ⟨i0, hi, hz0, hz1, hz2⟩ := info_parts Tryz.info2
  have cd := cell_of_one ho
  have cq := cell_of_one hq
  have HO := hid hO
  have HK : Hid (∀ W, But [g] wr W → W.cell? ⟨Bo, 0, none⟩ = some (.func (.func fn) #[] caps) ∧ W.cell? ⟨Bm, 0, none⟩ = some (.slice (some ⟨g, 0, none⟩) n cap)) :=
    fun W h => ⟨h.cell cd (by simpa using hgo), h.cell cq (by simpa using hgm)⟩
  have HF : Hid (∀ W, But [g] wr W → W.heap[Bm]? = some (.cells #[.slice (some ⟨g, 0, none⟩) n cap] 99 (0, 0))) := fun W h => h.one hq (by simpa using hgm)
  have HGM : Hid (Bm ≠ g) := hgm
  clear ho hq hO hgo hgm
  go_enter Tryz.func106, Tryz.ntmps106
  go_wp2_with fail
  go_region_law ((first | (refine step_call2 (by rfl) 10 (by rfl) (.tmp 7) (.tmp 8) (.tmp 9) 2 2 (by rfl) fn caps (by rfl) hE (.int .i64 x) (.int .i64 y) (by rfl) (by rfl) (.int .i64 z) (fun w' => Below wr.heap.size wr w') hC ?_; intro w2 hB; have cm2 := (HK.out _ (But.of hB)).2; have cm3 := (HK.out _ ((But.of hB).alloc (.cells #[.int .i64 z] 2))).2) | (refine step_append_fits (by rfl) 12 (by rfl) (.tmp 6) (.tmp 11) 99 (by rfl) base 2 i0 1 Tryz.underlying99 hi hz1 g n cap (us.map (Value.int .i64)) (by rfl) ((HO.out.stays hB).alloc _) ⟨w2.heap.size, 0, none⟩ 1 1 [.int .i64 z] (by rfl) rfl (news_one _ _ _ _) (one_cell _ _) (by omega) ?_; intro w3 hO3 hg; have HG := hid (but_grown ((But.of hB).alloc (.cells #[.int .i64 z] 2)) hg (List.mem_singleton.2 rfl)); have cm := (HK.out _ HG.out).2; have fm := free_of_one (HF.out _ HG.out))))
  all_goals
    have HE1 := hid (pair1_end HGM.out hO3 (HF.out _ HG.out) HG.out)
    clear hO3 hg HG cm fm cm2 cm3 hB HF HK cd cq HO hC hi hz0 hz1 hz2
    go_wp2
    go_end0
    exact ⟨rfl, HE1.out⟩

/-- What stands in memory between the rounds of madeOfBoth: the function, the row, and the variable that holds it. -/
structure PairAt (w : World) (fn : Nat) (caps : Array Value) (B cap n : Nat) (us : List Int) (W : World) : Prop where
  old : Below w.heap.size w W
  fun_ : W.heap[B]? = some (.cells #[.func (.func fn) #[] caps] 142 (0, 0))
  var : W.heap[B + 2]? = some (.cells #[.slice (some ⟨B + 1, 0, none⟩) n cap] 99 (0, 0))
  own : OwnK 2 w.heap.size (B + 1) n cap us W
theorem PairAt.below {w : World} {fn : Nat} {caps : Array Value} {B cap n : Nat} {us : List Int} {W W' : World} (h : PairAt w fn caps B cap n us W) (hb : Below W.heap.size W W') : PairAt w fn caps B cap n us W' :=
  ⟨h.old.trans (hb.mono h.old.size), (hb.block _ (lt_of_block h.fun_)).trans h.fun_, (hb.block _ (lt_of_block h.var)).trans h.var, h.own.stays hb⟩
theorem PairAt.new (w : World) (fn : Nat) (caps : Array Value) (m : Nat) (hm : m ≤ 1000) :
    PairAt w fn caps w.heap.size m 0 [] (((w.alloc (.cells #[.func (.func fn) #[] caps] 142)).alloc (.cells (madeCells #[.int .i64 0] m) 2)).alloc (.cells #[.slice (some ⟨w.heap.size + 1, 0, none⟩) 0 m] 99)) := by
  have h1 := own_room 2 (w.alloc (.cells #[.func (.func fn) #[] caps] 142)) m (by omega)
  have e1 : (w.alloc (.cells #[.func (.func fn) #[] caps] 142)).heap.size = w.heap.size + 1 := by simp
  rw [e1] at h1
  refine ⟨?_, ?_, ?_, ?_⟩
  · exact (((Below.refl _ _).alloc (Nat.le_refl _) _).alloc (by simp) _).alloc (by simp; omega) _
  · rw [Below.heap_alloc _ _ _ (by simp; omega), Below.heap_alloc _ _ _ (by simp)]
    exact heap_alloc_new w _
  · have := heap_alloc_new ((w.alloc (.cells #[.func (.func fn) #[] caps] 142)).alloc (.cells (madeCells #[.int .i64 0] m) 2)) (.cells #[.slice (some ⟨w.heap.size + 1, 0, none⟩) 0 m] 99)
    simpa using this
  · exact (h1.low (by omega)).stays ((Below.refl _ _).alloc (Nat.le_refl _) _)
/-- What is made of the first k places of both. -/
def pairK (f : Int → Int → Int) (xs ys : List Int) : Nat → List Int
  | 0 => []
  | k + 1 => pairK f xs ys k ++ [f (xs[k]?.getD 0) (ys[k]?.getD 0)]
theorem pairK_len (f : Int → Int → Int) (xs ys : List Int) (k : Nat) : (pairK f xs ys k).length = k := by
  induction k with
  | zero => rfl
  | succ k ih => simp [pairK, ih]

theorem pairEach_any (fn : Nat) (caps : Array Value) (hE : ∀ args w, (callFunc fn args).run Tryz.prog w = .ok (.enter fn args) w) (a b : Option Addr) (la ca lb cb : Nat) (xs ys : List Int) (w W : World) (ha : Reads .i64 w a la ca xs) (hb : Reads .i64 w b lb cb ys) (hla : la ≤ 1000) (hlb : lb ≤ 1000) (f : Int → Int → Int)
    (hC : ∀ x y wr, Below w.heap.size w wr → Calls Tryz.prog fn (#[.int .i64 x, .int .i64 y] ++ caps) wr fun e w' => e = .returned (.int .i64 (f x y)) ∧ Below wr.heap.size wr w')
    (h0 : PairAt w fn caps w.heap.size (min la lb) 0 [] W) :
    Calls Tryz.prog 105 #[.slice a la ca, .slice b lb cb, .func (.func 106) #[] #[.pointer (some ⟨w.heap.size + 2, 0, none⟩), .pointer (some ⟨w.heap.size, 0, none⟩)]] W
      fun e w' => e = .returned (.tuple #[]) ∧ PairAt w fn caps w.heap.size (min la lb) (min la lb) (pairK f xs ys (min la lb)) w' := by
  have hS : ∀ s ∈ [w.heap.size + 2, w.heap.size + 1], w.heap.size ≤ s := by simp
  refine (both_any 106 _ (enters_of Tryz.func106 (by kernel_rfl) rfl) [w.heap.size + 2, w.heap.size + 1] a b la ca lb cb xs ys W (ha.below h0.old) (hb.below h0.old) hla hlb ?_ (ha.past hS) (hb.past hS)
    (fun k W => PairAt w fn caps w.heap.size (min la lb) k (pairK f xs ys k) W) h0 (fun k W W' h hb => h.below hb) ?_).mono fun e w' h => ⟨h.1, h.2.1⟩
  · have h1 := lt_of_block h0.var
    intro s hs
    simp at hs
    omega
  · intro k wr hk hk' hI
    have hdr : Below wr.heap.size wr wr.drew := (Below.refl _ _).drew
    refine (pair1_any fn caps hE _ _ (f (xs[k]?.getD 0) (ys[k]?.getD 0)) (w.heap.size + 2) w.heap.size w.heap.size (w.heap.size + 1) k (min la lb) _ wr (by omega) (by omega) hI.fun_ hI.var hI.own (by omega) (by omega) (by omega) ?_).mono ?_
    · exact (hC _ _ _ (hI.old.trans (hdr.mono hI.old.size))).mono fun e w' ⟨h1, h2⟩ => ⟨h1, hdr.trans (h2.mono (Nat.le_refl _))⟩
    · rintro e w' ⟨h1, h2, h3, h4⟩
      exact ⟨h1, ⟨hI.old.trans (h4.to hS hI.old.size), h4.one hI.fun_ (by simp), h3, h2⟩, h4⟩

theorem madeofboth_any (fn : Nat) (caps : Array Value) (hE : ∀ args w, (callFunc fn args).run Tryz.prog w = .ok (.enter fn args) w) (a b : Option Addr) (la ca lb cb : Nat) (xs ys : List Int) (w : World) (ha : Reads .i64 w a la ca xs) (hb : Reads .i64 w b lb cb ys) (hla : la ≤ 1000) (hlb : lb ≤ 1000) (f : Int → Int → Int)
    (hC : ∀ x y wr, Below w.heap.size w wr → Calls Tryz.prog fn (#[.int .i64 x, .int .i64 y] ++ caps) wr fun e w' => e = .returned (.int .i64 (f x y)) ∧ Below wr.heap.size wr w') :
    Calls Tryz.prog 81 #[.slice a la ca, .slice b lb cb, .func (.func fn) #[] caps] w fun e w' => Made w (min la lb) (pairK f xs ys (min la lb)) e w' := by
  obtain ⟨m, hm⟩ : ∃ m, min la lb = m := ⟨_, rfl⟩
  have hm1 : m ≤ 1000 := by omega
  have HM := hid fun W => pairEach_any fn caps hE a b la ca lb cb xs ys w W ha hb hla hlb f hC
  rw [hm] at HM ⊢
  have hmk := make_room (w.alloc (.cells #[.func (.func fn) #[] caps] 142)) m (by omega)
  clear ha hb hC
  rcases Nat.lt_or_ge lb la with hl | hl
  · obtain rfl : lb = m := by omega
    clear hm
    go_enter Tryz.func81, Tryz.ntmps81
    go_wp2_with fail
    refine (count_any _ _ _ _ hla).mono ?_
    rintro e w' ⟨rfl, rfl⟩
    go_wp2_with fail
    refine (count_any _ _ _ _ hlb).mono ?_
    rintro e w' ⟨rfl, rfl⟩
    go_wp2_with fail
    refine (HM.out _ (PairAt.new _ _ _ _ hm1)).mono ?_
    rintro e w' ⟨rfl, h⟩
    have cv := cell_of_one h.var
    have HO := hid h.own
    have HB := hid h.old
    clear h HM hmk
    go_wp2
    go_ret
    exact ⟨_, _, rfl, HO.out, HB.out⟩
  · obtain rfl : la = m := by omega
    clear hm
    go_enter Tryz.func81, Tryz.ntmps81
    go_wp2_with fail
    refine (count_any _ _ _ _ hla).mono ?_
    rintro e w' ⟨rfl, rfl⟩
    go_wp2_with fail
    refine (count_any _ _ _ _ hlb).mono ?_
    rintro e w' ⟨rfl, rfl⟩
    go_wp2_with fail
    refine (HM.out _ (PairAt.new _ _ _ _ hm1)).mono ?_
    rintro e w' ⟨rfl, h⟩
    have cv := cell_of_one h.var
    have HO := hid h.own
    have HB := hid h.old
    clear h HM hmk
    go_wp2
    go_ret
    exact ⟨_, _, rfl, HO.out, HB.out⟩
theorem vadd_any (a b : Option Addr) (la ca lb cb : Nat) (xs ys : List Int) (w : World) (ha : Reads .i64 w a la ca xs) (hb : Reads .i64 w b lb cb ys) (hla : la ≤ 1000) (hlb : lb ≤ 1000) :
    Calls Tryz.prog 60 #[.slice a la ca, .slice b lb cb] w fun e w' => Made w (min la lb) (pairK addZ xs ys (min la lb)) e w' := by
  have HE := hid (madeofboth_any 82 #[] (enters_of Tryz.func82 (by kernel_rfl) rfl) a b la ca lb cb xs ys w ha hb hla hlb addZ fun x y wr hb => (add_any x y wr).mono fun e w' ⟨h1, h2⟩ => ⟨h1, by rw [h2]; exact Below.refl _ _⟩)
  clear ha hb
  go_enter Tryz.func60, Tryz.ntmps60
  go_wp2_with fail
  refine HE.out.mono ?_
  rintro e w' ⟨g, cap, rfl, hO, hb⟩
  have HO := hid hO
  have HB := hid hb
  clear hO hb HE
  go_wp2
  go_ret
  exact ⟨_, _, rfl, HO.out, HB.out⟩
end Go.Proofs.YtdomjdfancpbbaaGreat
namespace Go.Proofs.YtdomjdfancpbbaaGreat
open Go.RowKit
set_option linter.unusedVariables false
set_option maxRecDepth 1000000

/-- The sum of the first k, in order. -/
def sumK (ps : List Int) : Nat → Int
  | 0 => 0
  | k + 1 => addZ (sumK ps k) (ps[k]?.getD 0)
/-- What the places of a vector are divided by, that its length be 1. -/
def rootZ (zs : List Int) : Int := sqrtZ (addZ (divZ (dotK zs zs zs.length) (fromZ zs.length)) 1)
def normL (zs : List Int) : List Int := zs.map (divZ · (rootZ zs))
/-- The powers of which weights are made. -/
def powL (zs : List Int) : List Int := zs.map fun x => expZ (addZ x (-(greatK zs zs.length)))
def softL (zs : List Int) : List Int := (powL zs).map (divZ · (sumK (powL zs) zs.length))
theorem powL_len (zs : List Int) : (powL zs).length = zs.length := by simp [powL]

theorem norm_any (a : Option Addr) (len cap : Nat) (zs : List Int) (w : World) (ha : Reads .i64 w a len cap zs) (hlen : len ≤ 1000) :
    Calls Tryz.prog 100 #[.slice a len cap] w fun e w' => Made w len (normL zs) e w' := by
  have hz := ha.size
  subst hz
  have hD := dot_any a a _ cap _ cap zs zs w ha ha hlen hlen
  rw [Nat.min_self] at hD
  have HR : Hid (sqrtZ (addZ (divZ (dotK zs zs zs.length) (fromZ zs.length)) 1) = rootZ zs) := rfl
  have HE : Hid (∀ w1, Below w.heap.size w w1 → Calls Tryz.prog 126 #[.slice a zs.length cap, .func (.func 127) #[] #[.pointer (some ⟨w1.heap.size, 0, none⟩)]] (w1.alloc (.cells #[.int .i64 (rootZ zs)] 2))
      fun e w' => Made w zs.length (normL zs) e w') := by
    intro w1 hb1
    have hn := SumAt.new w1 (rootZ zs)
    have hsz : w.heap.size ≤ (w1.alloc (.cells #[.int .i64 (rootZ zs)] 2)).heap.size := by have := hb1.size; simp; omega
    refine (madeof_any 127 #[.pointer (some ⟨w1.heap.size, 0, none⟩)] (enters_of Tryz.func127 (by kernel_rfl) rfl) a zs.length cap zs _ ((ha.below hb1).below hn.2) hlen (divZ · (rootZ zs)) fun x wr hb => (norm1_any x (rootZ zs) w1.heap.size wr ((hb.block _ (lt_of_block hn.1)).trans hn.1)).mono fun e w' ⟨h1, h2⟩ => ⟨h1, by rw [h2]; exact Below.refl _ _⟩).mono ?_
    rintro e w' ⟨g, rfl, hO, hb⟩
    exact ⟨g, _, rfl, hO.low hsz, hb1.trans ((hn.2.mono hb1.size).trans (hb.mono hsz))⟩
  clear ha
  go_enter Tryz.func100, Tryz.ntmps100
  go_wp2_with fail
  refine hD.mono ?_
  rintro e w1 ⟨rfl, hb1⟩
  have hE := HE.out w1 hb1
  clear HE hD hb1
  go_wp2_with fail
  refine (count_any _ _ _ _ hlen).mono ?_
  rintro e w' ⟨rfl, rfl⟩
  go_wp2_with fail
  refine (from_any _ _).mono ?_
  rintro e w' ⟨rfl, rfl⟩
  go_wp2_with fail
  refine (div_any _ _ _).mono ?_
  rintro e w' ⟨rfl, rfl⟩
  go_wp2_with fail
  refine (add_any _ _ _).mono ?_
  rintro e w' ⟨rfl, rfl⟩
  go_wp2_with fail
  refine (sqrt_any _ _).mono ?_
  rintro e w' ⟨rfl, rfl⟩
  rw [HR.out]
  go_wp2_with fail
  refine hE.mono ?_
  rintro e w' ⟨g, cap', rfl, hO, hb⟩
  have HO := hid hO
  have HB := hid hb
  clear hO hb hE
  go_wp2
  go_ret
  exact ⟨_, _, rfl, HO.out, HB.out⟩

theorem soft_any (a : Option Addr) (len cap : Nat) (zs : List Int) (w : World) (ha : Reads .i64 w a len cap zs) (hlen : len ≤ 1000) :
    Calls Tryz.prog 111 #[.slice a len cap] w fun e w' => Made w len (softL zs) e w' := by
  have hz := ha.size
  subst hz
  have hG := greatest_any a _ cap zs w ha hlen
  have HE1 : Hid (∀ w1, Below w.heap.size w w1 → Calls Tryz.prog 126 #[.slice a zs.length cap, .func (.func 136) #[] #[.pointer (some ⟨w1.heap.size, 0, none⟩)]] (w1.alloc (.cells #[.int .i64 (greatK zs zs.length)] 2))
      fun e w' => ∃ g, e = .returned (.slice (some ⟨g, 0, none⟩) zs.length zs.length) ∧ OwnK 2 w.heap.size g zs.length zs.length (powL zs) w' ∧ Below w.heap.size w w') := by
    intro w1 hb1
    have hn := SumAt.new w1 (greatK zs zs.length)
    have hgb := greatK_bd zs zs.length
    have hsz : w.heap.size ≤ (w1.alloc (.cells #[.int .i64 (greatK zs zs.length)] 2)).heap.size := by have := hb1.size; simp; omega
    refine (madeof_any 136 #[.pointer (some ⟨w1.heap.size, 0, none⟩)] (enters_of Tryz.func136 (by kernel_rfl) rfl) a zs.length cap zs _ ((ha.below hb1).below hn.2) hlen (fun x => expZ (addZ x (-(greatK zs zs.length)))) fun x wr hb => (soft1_any x _ hgb.1 hgb.2 w1.heap.size wr ((hb.block _ (lt_of_block hn.1)).trans hn.1)).mono fun e w' ⟨h1, h2⟩ => ⟨h1, by rw [h2]; exact Below.refl _ _⟩).mono ?_
    rintro e w' ⟨g, rfl, hO, hb⟩
    exact ⟨g, rfl, hO.low hsz, hb1.trans ((hn.2.mono hb1.size).trans (hb.mono hsz))⟩
  have HE2 : Hid (∀ w2 g, OwnK 2 w.heap.size g zs.length zs.length (powL zs) w2 → Calls Tryz.prog 116 #[.slice (some ⟨g, 0, none⟩) zs.length zs.length, .func (.func 138) #[] #[.pointer (some ⟨w2.heap.size, 0, none⟩)]] (w2.alloc (.cells #[.int .i64 0] 2))
      fun e w' => e = .returned (.tuple #[]) ∧ SumAt w2 w2.heap.size (sumK (powL zs) zs.length) w') := by
    intro w2 g hO
    refine each_any 138 _ _ zs.length zs.length (powL zs) _ hlen (fun k W => SumAt w2 w2.heap.size (sumK (powL zs) k) W) (enters_of Tryz.func138 (by kernel_rfl) rfl) (fun k wr h => hO.reads.below h.2) (SumAt.new w2 0) ?_
    intro k wr hk hi
    exact (soft2_any k _ _ w2.heap.size wr hi.1).mono fun e w' ⟨h1, h2, h3⟩ => ⟨h1, h2, hi.2.trans (h3.to one_le hi.2.size)⟩
  have HE3 : Hid (∀ w2 w3 g, OwnK 2 w.heap.size g zs.length zs.length (powL zs) w2 → Below w.heap.size w w2 → SumAt w2 w2.heap.size (sumK (powL zs) zs.length) w3 → Calls Tryz.prog 126 #[.slice (some ⟨g, 0, none⟩) zs.length zs.length, .func (.func 139) #[] #[.pointer (some ⟨w2.heap.size, 0, none⟩)]] w3
      fun e w' => Made w zs.length (softL zs) e w') := by
    intro w2 w3 g hO hb2 hs
    have h23 : Below w.heap.size w w3 := hb2.trans (hs.2.mono hb2.size)
    refine (madeof_any 139 #[.pointer (some ⟨w2.heap.size, 0, none⟩)] (enters_of Tryz.func139 (by kernel_rfl) rfl) _ zs.length zs.length (powL zs) w3 (hO.reads.below hs.2) hlen (divZ · (sumK (powL zs) zs.length)) fun x wr hb => (soft3_any x _ w2.heap.size wr ((hb.block _ (lt_of_block hs.1)).trans hs.1)).mono fun e w' ⟨h1, h2⟩ => ⟨h1, by rw [h2]; exact Below.refl _ _⟩).mono ?_
    rintro e w' ⟨g', rfl, hO', hb⟩
    exact ⟨g', _, rfl, hO'.low h23.size, h23.trans (hb.mono h23.size)⟩
  clear ha
  go_enter Tryz.func111, Tryz.ntmps111
  go_wp2_with fail
  refine hG.mono ?_
  rintro e w1 ⟨rfl, hb1⟩
  have hE := HE1.out w1 hb1
  clear HE1 hG hb1
  generalize greatK zs zs.length = gr at *
  go_wp2_with fail
  refine hE.mono ?_
  rintro e w2 ⟨g, rfl, hO, hb2⟩
  have hE2 := HE2.out w2 g hO
  have HE4 := hid fun w3 h => HE3.out w2 w3 g hO hb2 h
  clear HE2 HE3 hE hO hb2
  go_wp2_with fail
  refine hE2.mono ?_
  rintro e w3 ⟨rfl, hs⟩
  have hE3 := HE4.out w3 hs
  clear HE4 hE2 hs
  go_wp2_with fail
  refine hE3.mono ?_
  rintro e w' ⟨g, cap', rfl, hO, hb⟩
  have HO := hid hO
  have HB := hid hb
  clear hO hb hE3
  go_wp2
  go_ret
  exact ⟨_, _, rfl, HO.out, HB.out⟩
theorem cell_al {w : World} {p : Addr} {v : Value} (h : w.cell? p = some v) (o : Obj) : (w.alloc o).cell? p = some v :=
  (((Below.refl w.heap.size w).alloc (Nat.le_refl _) o).cell (World.block_lt_of_cell? _ _ h)).trans h
end Go.Proofs.YtdomjdfancpbbaaGreat
