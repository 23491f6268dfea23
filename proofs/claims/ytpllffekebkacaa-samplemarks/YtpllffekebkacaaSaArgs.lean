/-
  What the statements of layer 11 lean on: far, alive; the argument of what a draw hangs on (Dr).
-/
import Derived.Test.YtpllffekebkacaaSaBest
import Derived.Test.YtpllffekebkacaaIArgs
import Derived.Test.YtpllffekebkacaaAsks
import Derived.ProofKit
namespace Go.Proofs.Ytpllffekebkacaa
open Go.RowKit
set_option linter.unusedVariables false
set_option maxRecDepth 1000000

theorem far11_any (a : Option Addr) (len cap : Nat) (zs : List Int) (w : World) (ha : Reads .i64 w a len cap zs) :
    Calls Try.prog 7 #[.slice a len cap] w fun e w' => e = .returned (.bool (decide (200 < len))) ∧ w' = w := by
  have r1 := ha.room
  have m1 := ha.most
  have HE : Hid (decide ((200 : Int) < (len : Int)) = decide (200 < len)) := by unfold Hid; rw [decide_eq_decide]; omega
  clear ha
  go_enter Try.func7, Try.ntmps7
  go_wp2
  go_ret
  exact ⟨by rw [← HE.out]; rfl, rfl⟩
theorem reads_three (w : World) (x y z : Int) (t : TypeId) : Reads .i64 (w.alloc (.cells #[.int .i64 x, .int .i64 y, .int .i64 z] t)) (some ⟨w.heap.size, 0, none⟩) 3 3 [x, y, z] := by
  refine ⟨rfl, Nat.le_refl _, by omega, (fun e => by cases e), fun i hi => ⟨w.heap.size, 0, rfl, ?_⟩⟩
  rw [Nat.zero_add, cell_of_row _ w.heap.size i _ _ _ (heap_alloc_new w _)]
  rcases (by omega : i = 0 ∨ i = 1 ∨ i = 2) with rfl | rfl | rfl <;> rfl
theorem bestZ_399 : bestZ [3, 9, 9] = 1 := best_399.eq
theorem bestZ_nil : bestZ [] = -1 := best_nil.eq
theorem alive11_any (w : World) : Calls Try.prog 8 #[] w fun e w' => e = .returned (.bool true) ∧ Below w.heap.size w w' := by
  have hA := reads_three w 3 9 9 2
  have HB : Hid (Below w.heap.size w (w.alloc (.cells #[.int .i64 3, .int .i64 9, .int .i64 9] 2))) := (Below.refl _ _).alloc (Nat.le_refl _) _
  obtain ⟨wA, hwA⟩ : ∃ wA, wA = w.alloc (.cells #[.int .i64 3, .int .i64 9, .int .i64 9] 2) := ⟨_, rfl⟩
  rw [← hwA] at hA HB
  have HA := hid hA
  clear hA
  go_enter Try.func8, Try.ntmps8
  go_wp2_with fail
  rw [← hwA]
  refine (best_of _ _ _ _ _ HA.out (by omega)).mono ?_
  rintro e w1 ⟨t, rfl, ht, hb⟩
  obtain rfl := ht.one _ _ best_399
  replace HA := hid (HA.out.below hb)
  replace HB := hid (HB.out.trans (hb.mono HB.out.size))
  clear hb ht hwA
  go_wp2_with fail
  refine (draw_of _ _ _ _ 3 0 1 1 _ HA.out (by omega)).mono ?_
  rintro e w2 ⟨t, rfl, ht, hb⟩
  obtain rfl := (ht.best (.inr (by omega))).one _ _ best_399
  replace HA := hid (HA.out.below hb)
  replace HB := hid (HB.out.trans (hb.mono HB.out.size))
  clear hb ht
  go_wp2_with fail
  refine (draw_of _ _ _ _ 1 5 1 1 _ HA.out (by omega)).mono ?_
  rintro e w3 ⟨t, rfl, ht, hb⟩
  obtain rfl := (ht.best (.inl (by omega))).one _ _ best_399
  replace HB := hid (HB.out.trans (hb.mono HB.out.size))
  clear hb ht HA
  go_wp2_with fail
  refine (best_of none 0 0 [] _ (Reads.nil _ _) (by omega)).mono ?_
  rintro e w4 ⟨t, rfl, ht, hb⟩
  obtain rfl := ht.one _ _ best_nil
  replace HB := hid (HB.out.trans (hb.mono HB.out.size))
  clear hb ht
  go_wp2
  go_ret
  exact ⟨rfl, HB.out⟩

/-- What a draw hangs on. -/
structure Dr where
  top : Int
  heat : Int
  seed : Int
  place : Int
/-- Its cells. -/
def DrV (d : Dr) : Array Value := #[.int .i64 d.top, .int .i64 d.heat, .int .u64 d.seed, .int .u64 d.place]
theorem Dr_cells {W : World} {g : Nat} {d : Dr} {T : TypeId} (h : W.heap[g]? = some (.cells (DrV d) T (0, 0))) :
    W.cell? ⟨g, 0, none⟩ = some (.int .i64 d.top) ∧ W.cell? ⟨g, 1, none⟩ = some (.int .i64 d.heat) ∧ W.cell? ⟨g, 2, none⟩ = some (.int .u64 d.seed) ∧ W.cell? ⟨g, 3, none⟩ = some (.int .u64 d.place) := by
  refine ⟨?_, ?_, ?_, ?_⟩ <;> (rw [cell_of_row _ _ _ _ _ _ h]; rfl)
theorem Try.cellsDr : Try.prog.cellsOf 25 = 4 := by kernel_rfl
theorem array4 {α : Type} {cs : Array α} (h : cs.size = 4) : ∃ c0 c1 c2 c3, cs = #[c0, c1, c2, c3] := by
  obtain ⟨l⟩ := cs
  match l, h with
  | [c0, c1, c2, c3], _ => exact ⟨c0, c1, c2, c3, rfl⟩
section
open Go.ChangeShapes Go.WideShapes Go.ChangeAt
variable {H : Type} {enc : TypeId × Value → H} {W : World}
theorem draws_open {b0 : Nat} {v : Value} {d : DataW H} {ps : List MemPlace} (hv : Value.okWide Try.prog W .any b0 25 v) (h : DataW.Trod enc Try.prog W 0 (fun _ => true) true 25 v d ps) :
    ∃ d : Dr, v = .agg (DrV d) := by
  obtain ⟨cs, rfl, hsz⟩ := okWide_struct Try.underlying25 hv
  rw [Try.cellsDr] at hsz
  obtain ⟨c0, c1, c2, c3, rfl⟩ := array4 hsz
  obtain ⟨fuel, hf⟩ := h
  obtain ⟨xs, n, _, _, _, hl, hF⟩ := DataW.trod_struct Try.underlying25 hf
  have hl : xs.length = 4 := hl
  obtain ⟨y0, e0⟩ := at_some hl (i := 0) (by omega)
  obtain ⟨y1, e1⟩ := at_some hl (i := 1) (by omega)
  obtain ⟨y2, e2⟩ := at_some hl (i := 2) (by omega)
  obtain ⟨y3, e3⟩ := at_some hl (i := 3) (by omega)
  have g0 : DataW.trod enc Try.prog W 0 (fun _ => true) true n 3 [c0] = some y0 := by
    have g := hF 0 _ rfl
    change DataW.trod enc Try.prog W 0 (fun _ => true) true n 3 (List.take (Try.prog.cellsOf 3) (List.drop 0 [c0, c1, c2, c3])) = xs[0]? at g
    rw [Try.cellsI, e0] at g
    exact g
  have g1 : DataW.trod enc Try.prog W 0 (fun _ => true) true n 3 [c1] = some y1 := by
    have g := hF 1 _ rfl
    change DataW.trod enc Try.prog W 0 (fun _ => true) true n 3 (List.take (Try.prog.cellsOf 3) (List.drop 1 [c0, c1, c2, c3])) = xs[1]? at g
    rw [Try.cellsI, e1] at g
    exact g
  have g2 : DataW.trod enc Try.prog W 0 (fun _ => true) true n 23 [c2] = some y2 := by
    have g := hF 2 _ rfl
    change DataW.trod enc Try.prog W 0 (fun _ => true) true n 23 (List.take (Try.prog.cellsOf 23) (List.drop 2 [c0, c1, c2, c3])) = xs[2]? at g
    rw [Try.cellsU, e2] at g
    exact g
  have g3 : DataW.trod enc Try.prog W 0 (fun _ => true) true n 23 [c3] = some y3 := by
    have g := hF 3 _ rfl
    change DataW.trod enc Try.prog W 0 (fun _ => true) true n 23 (List.take (Try.prog.cellsOf 23) (List.drop 3 [c0, c1, c2, c3])) = xs[3]? at g
    rw [Try.cellsU, e3] at g
    exact g
  clear hF hv
  obtain ⟨n0, rfl⟩ := int_open g0
  obtain ⟨n1, rfl⟩ := int_open g1
  obtain ⟨n2, rfl⟩ := u64_open g2
  obtain ⟨n3, rfl⟩ := u64_open g3
  exact ⟨⟨n0, n1, n2, n3⟩, rfl⟩
end
end Go.Proofs.Ytpllffekebkacaa
