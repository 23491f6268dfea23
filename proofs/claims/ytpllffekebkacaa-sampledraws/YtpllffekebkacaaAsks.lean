/-
  What a model's rows are, whatever is asked (tokL, plL, tabL), and the contracts of Token, Place and Rows, of the program and of the document, put together by them; the arguments of the statements.
-/
import Derived.Test.YtpllffekebkacaaLikes
import Derived.ProofKit
namespace Go.Proofs.Ytpllffekebkacaa
open Go.RowKit
set_option linter.unusedVariables false
set_option maxRecDepth 1000000

/-- A token's vector, nothing of none that is there. -/
def tokL (c : Cf) (t : Int) : List Int := if 0 ≤ t ∧ t < c.vocab then rowK (fun k => weightZ c.seed 0 t k) c.dim.toNat else []
/-- A place's vector. -/
def plL (c : Cf) (p : Int) : List Int := if 0 ≤ p ∧ p < 256 then rowK (fun k => mulZ (weightZ c.seed 1 p k) 16384) c.dim.toNat else []
/-- A layer's table. -/
def tabL (c : Cf) (la wh : Int) : List (List Int) := if 0 ≤ la ∧ la < c.layers ∧ 0 ≤ wh ∧ wh ≤ 5 then tblK (fun r => rowK (fun k => weightZ c.seed (2 + 6 * la + wh) r k) c.dim.toNat) c.dim.toNat else []

theorem may_parts {c : Cf} (h : mayB c = true) : 2 ≤ c.vocab ∧ c.vocab ≤ 64 ∧ 1 ≤ c.dim ∧ c.dim ≤ 16 ∧ 1 ≤ c.layers ∧ c.layers ≤ 4 := by
  unfold mayB at h
  simp only [Bool.and_eq_true, btw_iff] at h
  omega
theorem tokL_len {c : Cf} (h : mayB c = true) (t : Int) : (tokL c t).length ≤ 16 := by
  have := may_parts h
  unfold tokL
  split
  · rw [rowK_len]; omega
  · simp
theorem plL_len {c : Cf} (h : mayB c = true) (t : Int) : (plL c t).length ≤ 16 := by
  have := may_parts h
  unfold plL
  split
  · rw [rowK_len]; omega
  · simp
theorem tabL_len {c : Cf} (h : mayB c = true) (la wh : Int) : (tabL c la wh).length ≤ 16 := by
  have := may_parts h
  unfold tabL
  split
  · rw [tblK_len]; omega
  · simp

theorem Made.giveso {w w' : World} {n : Nat} {xs : List Int} {e : Ending} (h : Made w n xs e w') : GivesO w n xs e w' := by
  obtain ⟨g, c, rfl, hO, hb⟩ := h
  exact ⟨_, rfl, hO, hb⟩
theorem giveso_nil {w w' : World} {e : Ending} (h : e = .returned (.slice none 0 0) ∧ Below w.heap.size w w') : GivesO w 0 [] e w' := ⟨_, h.1, World.ownsRow_nil _ _ _ _, h.2⟩
theorem givest_nil {w w' : World} {e : Ending} (h : e = .returned (.slice none 0 0) ∧ Below w.heap.size w w') : GivesT w 0 [] e w' :=
  ⟨none, 0, [], h.1, ⟨⟨rfl, Nat.le_refl _, by omega, fun _ => ⟨rfl, rfl⟩, fun i hi => by omega⟩, fun i hi => by omega, fun i hi => by omega⟩, h.2⟩

theorem cf_dim {c : Cf} (h : mayB c = true) : ∃ D : Nat, c = ⟨c.seed, c.vocab, (D : Int), c.layers, c.top, c.heat⟩ ∧ c.dim.toNat = D ∧ 1 ≤ D ∧ D ≤ 16 := by
  have := may_parts h
  refine ⟨c.dim.toNat, ?_, rfl, by omega, by omega⟩
  rw [Int.toNat_of_nonneg (by omega)]

theorem token_g (p : Option Addr) (c : Cf) (t : Int) (w : World) (hp : MdAt w p c) (hc : mayB c = true) :
    Calls Try.prog 38 #[.pointer p, .int .i64 t] w fun e w' => GivesO w (tokL c t).length (tokL c t) e w' := by
  have hm := may_parts hc
  obtain ⟨D, hD, hD2, h1, h16⟩ := cf_dim hc
  unfold tokL
  by_cases h : 0 ≤ t ∧ t < c.vocab
  · rw [if_pos h, rowK_len, hD2]
    rw [hD] at hp
    exact (token_yes p _ _ _ _ _ t D w hp h.1 h.2 hm.2.1 h16).mono fun e w' h => h.giveso
  · rw [if_neg h]
    exact (token_no p c t w hp (by omega) (by omega) (by omega)).mono fun e w' h => giveso_nil h
theorem rtoken_g (c : Cf) (t : Int) (w : World) (hc : mayB c = true) :
    Calls Try.prog 41 #[.agg (CfV c), .int .i64 t] w fun e w' => GivesO w (tokL c t).length (tokL c t) e w' := by
  have hm := may_parts hc
  obtain ⟨D, hD, hD2, h1, h16⟩ := cf_dim hc
  unfold tokL
  by_cases h : 0 ≤ t ∧ t < c.vocab
  · rw [if_pos h, rowK_len, hD2]
    have := rtoken_yes c.seed c.vocab c.layers c.top c.heat t D w h.1 h.2 hm.2.1 h16
    rw [← hD] at this
    exact this
  · rw [if_neg h]
    exact (rtoken_no c t w (by omega)).mono fun e w' h => giveso_nil h
theorem Try.cellsI : Try.prog.cellsOf 3 = 1 := by kernel_rfl
theorem Try.cellsU : Try.prog.cellsOf 23 = 1 := by kernel_rfl
theorem Try.cellsC : Try.prog.cellsOf 32 = 6 := by kernel_rfl
theorem array6 {α : Type} {cs : Array α} (h : cs.size = 6) : ∃ c0 c1 c2 c3 c4 c5, cs = #[c0, c1, c2, c3, c4, c5] := by
  obtain ⟨l⟩ := cs
  match l, h with
  | [c0, c1, c2, c3, c4, c5], _ => exact ⟨c0, c1, c2, c3, c4, c5, rfl⟩
theorem array2 {α : Type} {cs : Array α} (h : cs.size = 2) : ∃ c0 c1, cs = #[c0, c1] := by
  obtain ⟨l⟩ := cs
  match l, h with
  | [c0, c1], _ => exact ⟨c0, c1, rfl⟩
section
open Go.ChangeShapes Go.WideShapes Go.ChangeAt
variable {H : Type} {enc : TypeId × Value → H} {W : World}
theorem u64_open {fuel : Nat} {c : Value} {x : DataW H × List MemPlace} (h : DataW.trod enc Try.prog W 0 (fun _ => true) true fuel 23 [c] = some x) : ∃ n : Int, c = .int .u64 n := by
  obtain ⟨n, hcs, _, hw⟩ := DataW.trod_int Try.underlying23 h
  simp at hcs
  exact ⟨n, hcs⟩
theorem int_open {fuel : Nat} {c : Value} {x : DataW H × List MemPlace} (h : DataW.trod enc Try.prog W 0 (fun _ => true) true fuel 3 [c] = some x) : ∃ n : Int, c = .int .i64 n := by
  obtain ⟨n, hcs, _, hw⟩ := DataW.trod_int Try.underlying3 h
  simp at hcs
  exact ⟨n, hcs⟩
theorem at_some {α : Type} {xs : List α} {n : Nat} (h : xs.length = n) {i : Nat} (hi : i < n) : ∃ y, xs[i]? = some y := ⟨_, List.getElem?_eq_getElem (by omega)⟩
theorem okWide_array {P : Program} {w : World} {r : Reach} {base n : Nat} {e t : TypeId} {v : Value} (ht : P.underlying t = some (.array n e)) (h : Value.okWide P w r base t v) : ∃ cs, v = .agg cs ∧ cs.size = P.cellsOf t := by
  simp only [Value.okWide, ht] at h
  obtain ⟨cs, h1, h2, _⟩ := h
  exact ⟨cs, h1, h2⟩
theorem conf_open {b0 : Nat} {v : Value} {d : DataW H} {ps : List MemPlace} (hv : Value.okWide Try.prog W .any b0 32 v) (h : DataW.Trod enc Try.prog W 0 (fun _ => true) true 32 v d ps) :
    ∃ c : Cf, v = .agg (CfV c) := by
  obtain ⟨cs, rfl, hsz⟩ := okWide_struct Try.underlying32 hv
  rw [Try.cellsC] at hsz
  obtain ⟨c0, c1, c2, c3, c4, c5, rfl⟩ := array6 hsz
  obtain ⟨fuel, hf⟩ := h
  obtain ⟨xs, n, _, _, _, hl, hF⟩ := DataW.trod_struct Try.underlying32 hf
  have hl : xs.length = 6 := hl
  obtain ⟨y0, e0⟩ := at_some hl (i := 0) (by omega)
  obtain ⟨y1, e1⟩ := at_some hl (i := 1) (by omega)
  obtain ⟨y2, e2⟩ := at_some hl (i := 2) (by omega)
  obtain ⟨y3, e3⟩ := at_some hl (i := 3) (by omega)
  obtain ⟨y4, e4⟩ := at_some hl (i := 4) (by omega)
  obtain ⟨y5, e5⟩ := at_some hl (i := 5) (by omega)
  have g0 : DataW.trod enc Try.prog W 0 (fun _ => true) true n 23 [c0] = some y0 := by
    have g := hF 0 _ rfl
    change DataW.trod enc Try.prog W 0 (fun _ => true) true n 23 (List.take (Try.prog.cellsOf 23) (List.drop 0 [c0, c1, c2, c3, c4, c5])) = xs[0]? at g
    rw [Try.cellsU, e0] at g
    exact g
  have g1 : DataW.trod enc Try.prog W 0 (fun _ => true) true n 3 [c1] = some y1 := by
    have g := hF 1 _ rfl
    change DataW.trod enc Try.prog W 0 (fun _ => true) true n 3 (List.take (Try.prog.cellsOf 3) (List.drop 1 [c0, c1, c2, c3, c4, c5])) = xs[1]? at g
    rw [Try.cellsI, e1] at g
    exact g
  have g2 : DataW.trod enc Try.prog W 0 (fun _ => true) true n 3 [c2] = some y2 := by
    have g := hF 2 _ rfl
    change DataW.trod enc Try.prog W 0 (fun _ => true) true n 3 (List.take (Try.prog.cellsOf 3) (List.drop 2 [c0, c1, c2, c3, c4, c5])) = xs[2]? at g
    rw [Try.cellsI, e2] at g
    exact g
  have g3 : DataW.trod enc Try.prog W 0 (fun _ => true) true n 3 [c3] = some y3 := by
    have g := hF 3 _ rfl
    change DataW.trod enc Try.prog W 0 (fun _ => true) true n 3 (List.take (Try.prog.cellsOf 3) (List.drop 3 [c0, c1, c2, c3, c4, c5])) = xs[3]? at g
    rw [Try.cellsI, e3] at g
    exact g
  have g4 : DataW.trod enc Try.prog W 0 (fun _ => true) true n 3 [c4] = some y4 := by
    have g := hF 4 _ rfl
    change DataW.trod enc Try.prog W 0 (fun _ => true) true n 3 (List.take (Try.prog.cellsOf 3) (List.drop 4 [c0, c1, c2, c3, c4, c5])) = xs[4]? at g
    rw [Try.cellsI, e4] at g
    exact g
  have g5 : DataW.trod enc Try.prog W 0 (fun _ => true) true n 3 [c5] = some y5 := by
    have g := hF 5 _ rfl
    change DataW.trod enc Try.prog W 0 (fun _ => true) true n 3 (List.take (Try.prog.cellsOf 3) (List.drop 5 [c0, c1, c2, c3, c4, c5])) = xs[5]? at g
    rw [Try.cellsI, e5] at g
    exact g
  clear hF hv
  obtain ⟨n0, rfl⟩ := u64_open g0
  obtain ⟨n1, rfl⟩ := int_open g1
  obtain ⟨n2, rfl⟩ := int_open g2
  obtain ⟨n3, rfl⟩ := int_open g3
  obtain ⟨n4, rfl⟩ := int_open g4
  obtain ⟨n5, rfl⟩ := int_open g5
  exact ⟨⟨n0, n1, n2, n3, n4, n5⟩, rfl⟩
theorem num_open {b0 : Nat} {v : Value} {d : DataW H} {ps : List MemPlace} (hv : Value.okWide Try.prog W .any b0 3 v) (h : DataW.Trod enc Try.prog W 0 (fun _ => true) true 3 v d ps) :
    ∃ a : Int, v = .int .i64 a := by
  obtain ⟨a, h1, _, _, _⟩ := open_int Try.underlying3 hv h
  exact ⟨a, h1⟩
end
end Go.Proofs.Ytpllffekebkacaa
