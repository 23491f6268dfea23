/-
  The points' order: cmp.Compare, cmp.Or, point.compare, as the sort asks it.
-/
import Derived.Test.YtaiojhigomdocaaFrames
import Derived.Test.YtaiojhigomdocaaRnLay
import Derived.Shelf.SlSortCmp.NoneTotal
import Derived.Deep.RegionWith
import Derived.Deep.DeepCutAuto
namespace Go.Proofs.Ytaiojhigomdocaa
open Go.RowKit
set_option linter.unusedVariables false
set_option maxRecDepth 1000000

def cmpZ (x y : Int) : Int := if x < y then -1 else if y < x then 1 else 0
/-- The order of points. -/
def cfZ (x y : Int × Int) : Int := if cmpZ x.1 y.1 ≠ 0 then cmpZ x.1 y.1 else cmpZ x.2 y.2
theorem cnan_any (x : Int) (w : World) : Calls Try.prog 69 #[.int .u64 x] w fun e w' => e = .returned (.bool false) ∧ w = w' := by
  go_enter Try.func69, Try.ntmps69
  go_wp2
  go_ret
  exact ⟨rfl, rfl⟩
theorem ucmp (x y : Int) (W : World) : Calls Try.prog 56 #[.int .u64 x, .int .u64 y] W fun e w' => e = .returned (.int .i64 (cmpZ x y)) ∧ W = w' := by
  have hN := fun (x : Int) (W : World) => cnan_any x W
  obtain ⟨r, Hr⟩ : ∃ r, Hid (cmpZ x y = r) := ⟨_, rfl⟩
  rw [Hr.out]
  by_cases h1 : x < y
  · obtain rfl : -1 = r := by rw [← Hr.out]; unfold cmpZ; rw [if_pos h1]
    clear Hr
    go_enter Try.func56, Try.ntmps56
    go_wp2_with (go_at_call 69; refine (hN _ _).mono ?_; rintro e w' ⟨rfl, rfl⟩)
    go_ret
    exact ⟨rfl, rfl⟩
  · by_cases h2 : y < x
    · obtain rfl : 1 = r := by rw [← Hr.out]; unfold cmpZ; rw [if_neg h1, if_pos h2]
      clear Hr
      go_enter Try.func56, Try.ntmps56
      go_wp2_with (go_at_call 69; refine (hN _ _).mono ?_; rintro e w' ⟨rfl, rfl⟩)
      go_ret
      exact ⟨rfl, rfl⟩
    · obtain rfl : 0 = r := by rw [← Hr.out]; unfold cmpZ; rw [if_neg h1, if_neg h2]
      clear Hr
      go_enter Try.func56, Try.ntmps56
      go_wp2_with (go_at_call 69; refine (hN _ _).mono ?_; rintro e w' ⟨rfl, rfl⟩)
      go_ret
      exact ⟨rfl, rfl⟩
set_option maxHeartbeats 2000000 in
theorem uor {g : Nat} {a b : Int} {W : World} (h0 : W.cell? ⟨g, 0, none⟩ = some (.int .i64 a)) (h1 : W.cell? ⟨g, 1, none⟩ = some (.int .i64 b)) :
    Calls Try.prog 55 #[.slice (some ⟨g, 0, none⟩) 2 2] W fun e w' => e = .returned (.int .i64 (if a ≠ 0 then a else b)) ∧ W = w' := by
  obtain ⟨r, Hr⟩ : ∃ r, Hid ((if a ≠ 0 then a else b) = r) := ⟨_, rfl⟩
  rw [Hr.out]
  go_enter Try.func55, Try.ntmps55
  go_wp2_with fail
  go_loopw [8] (fun z W' => ∃ k : Nat, k ≤ 2 ∧ z = .int .i64 k ∧ W' = W ∧ Hid (0 < k → a = 0) ∧ Hid (1 < k → b = 0)) (fun z _ => 2 - (intOf z).toNat)
  case atStart => exact ⟨0, by omega, rfl, rfl, fun h => by omega, fun h => by omega⟩
  case round =>
  obtain ⟨k, hk, rfl, rfl, Ha, Hb⟩ := hrel
  obtain rfl | rfl | rfl : k = 0 ∨ k = 1 ∨ k = 2 := by omega
  · by_cases e : a = 0
    · have HE := hid e
      subst e
      go_wp2
      go_round
      case rel => exact ⟨1, by omega, by first | rfl | trivial, by first | rfl | trivial, by first | exact fun _ => HE.out | exact fun _ => trivial, fun h => by omega⟩
      case measure => simp [intOf]
    · have HE : Hid (a = r) := by
        have := Hr.out
        rw [if_pos e] at this
        exact this
      go_wp2
      go_ret
      exact ⟨by rw [← HE.out]; rfl, rfl⟩
  · have ha := Ha.out (by omega)
    by_cases e : b = 0
    · have HE := hid e
      have HA := hid ha
      subst e
      clear ha
      go_wp2
      go_round
      case rel => exact ⟨2, by omega, by first | rfl | trivial, by first | rfl | trivial, fun _ => HA.out, by first | exact fun _ => HE.out | exact fun _ => trivial⟩
      case measure => simp [intOf]
    · have HE : Hid (b = r) := by
        have := Hr.out
        rw [ha] at this
        simp at this
        exact this
      clear ha
      go_wp2
      go_ret
      exact ⟨by rw [← HE.out]; rfl, rfl⟩
  · have HE : Hid (0 = r) := by
      have := Hr.out
      rw [Ha.out (by omega), Hb.out (by omega)] at this
      simp at this
      exact this
    go_wp2
    go_ret
    exact ⟨by rw [← HE.out]; rfl, rfl⟩
theorem uor_new {a b r : Int} {W1 : World} {n : Nat} (hr : r = if a ≠ 0 then a else b) (hn : n = W1.heap.size) : Calls Try.prog 55 #[.slice (some ⟨n, 0, none⟩) 2 2] (W1.alloc (.cells #[.int .i64 a, .int .i64 b] 3)).drew fun e w' => e = .returned (.int .i64 r) ∧ (W1.alloc (.cells #[.int .i64 a, .int .i64 b] 3)).drew = w' := by
  subst hn hr
  have h : (W1.alloc (.cells #[.int .i64 a, .int .i64 b] 3)).drew.heap[W1.heap.size]? = some (.cells #[.int .i64 a, .int .i64 b] 3 (0, 0)) := heap_alloc_new W1 _
  exact uor (by rw [cell_of_row _ _ _ _ _ _ h]; rfl) (by rw [cell_of_row _ _ _ _ _ _ h]; rfl)
set_option maxHeartbeats 4000000 in
theorem ucompare (x y : Int × Int) (W : World) : Calls Try.prog 43 #[.agg #[.int .u64 x.1, .int .u64 x.2], .agg #[.int .u64 y.1, .int .u64 y.2]] W fun e w' => e = .returned (.int .i64 (cfZ x y)) ∧ ∃ q os', w' = Sort.grow (W.drewN q) os' := by
  obtain ⟨x1, x2⟩ := x
  obtain ⟨y1, y2⟩ := y
  have hC := fun (u v : Int) (W : World) => ucmp u v W
  have hE : cfZ (x1, x2) (y1, y2) = if cmpZ x1 y1 ≠ 0 then cmpZ x1 y1 else cmpZ x2 y2 := rfl
  generalize cfZ (x1, x2) (y1, y2) = r at *
  generalize hc1 : cmpZ x1 y1 = c1 at *
  generalize hc2 : cmpZ x2 y2 = c2 at *
  have h1 := fun W : World => hc1 ▸ hC x1 y1 W
  have h2 := fun W : World => hc2 ▸ hC x2 y2 W
  have HC1 := hid h1
  have HC2 := hid h2
  have HE := hid hE
  clear hC h1 h2 hE hc1 hc2
  go_enter Try.func43, Try.ntmps43
  go_wp2_with fail
  obtain ⟨wA, hwA⟩ : ∃ wA, wA = (W.alloc (.cells #[.int .u64 x1, .int .u64 x2] 74)).alloc (.cells #[.int .u64 y1, .int .u64 y2] 74) := ⟨_, rfl⟩
  have h1 : wA.heap[W.heap.size]? = some (.cells #[.int .u64 x1, .int .u64 x2] 74 (0, 0)) := by
    rw [hwA]; exact (Below.heap_alloc _ _ _ (by simp)).trans (heap_alloc_new W _)
  have h2 : wA.heap[W.heap.size + 1]? = some (.cells #[.int .u64 y1, .int .u64 y2] 74 (0, 0)) := by
    rw [hwA]
    have := heap_alloc_new (W.alloc (.cells #[.int .u64 x1, .int .u64 x2] 74)) (.cells #[.int .u64 y1, .int .u64 y2] 74)
    rwa [World.size_alloc] at this
  have HEnd : Hid (∀ o : Obj, ∃ q os', (wA.alloc o).drew = Sort.grow (W.drewN q) os') := fun o => ⟨1, #[.cells #[.int .u64 x1, .int .u64 x2] 74, .cells #[.int .u64 y1, .int .u64 y2] 74, o], by
    rw [hwA, Sort.alloc_eq_grow, Sort.alloc_eq_grow, Sort.alloc_eq_grow, Sort.grow_grow, Sort.grow_grow]
    rfl⟩
  have HK : Hid (∀ W' : World, Below wA.heap.size wA W' → W'.cell? ⟨W.heap.size, 0, none⟩ = some (.int .u64 x1) ∧ W'.cell? ⟨W.heap.size, 1, none⟩ = some (.int .u64 x2) ∧ W'.cell? ⟨W.heap.size + 1, 0, none⟩ = some (.int .u64 y1) ∧ W'.cell? ⟨W.heap.size + 1, 1, none⟩ = some (.int .u64 y2)) := fun W' hb => by
    have e1 := block_bel h1 hb
    have e2 := block_bel h2 hb
    exact ⟨(cells_two e1).1, (cells_two e1).2, (cells_two e2).1, (cells_two e2).2⟩
  rw [← hwA]
  clear hwA h1 h2
  generalize W.heap.size = g1 at *
  have HV := hid (Below.refl wA.heap.size wA)
  have HVd : Hid (Below wA.heap.size wA wA.drew) := (Below.refl _ _).drew
  have HVa := hid fun (o : Obj) => ((Below.refl wA.heap.size wA).alloc (Nat.le_refl _) o).drew
  go_region_held3 (fun W' : World => W'.cell? ⟨g1, 0, none⟩ = some (.int .u64 x1) ∧ W'.cell? ⟨g1, 1, none⟩ = some (.int .u64 x2) ∧ W'.cell? ⟨g1 + 1, 0, none⟩ = some (.int .u64 y1) ∧ W'.cell? ⟨g1 + 1, 1, none⟩ = some (.int .u64 y2))
    (first | (with_reducible exact HK.out _ HV.out) | (with_reducible exact HK.out _ HVd.out) | (with_reducible exact HK.out _ (HVa.out _)))
    (first
      | (go_at_call 56; first | (with_reducible refine (HC1.out _).mono ?_; rintro e w' ⟨rfl, rfl⟩) | (with_reducible refine (HC2.out _).mono ?_; rintro e w' ⟨rfl, rfl⟩))
      | (go_at_call 55; (with_reducible refine (uor_new (a := c1) (b := c2) HE.out rfl).mono ?_); rintro e w' ⟨rfl, rfl⟩))
  go_wp2
  go_ret
  exact ⟨rfl, HEnd.out _⟩
end Go.Proofs.Ytaiojhigomdocaa
