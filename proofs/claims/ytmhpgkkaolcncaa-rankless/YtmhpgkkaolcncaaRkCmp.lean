/-
  The order of marked candidates: cmp.Compare, cmp.Or, marked.compare, as the sort asks it.
-/
import Derived.Test.YtmhpgkkaolcncaaRkStab
import Derived.Test.YtmhpgkkaolcncaaRkCd
import Derived.Shelf.SlSortCmp.KitK
import Derived.Deep.RegionHeld3
namespace Go.Proofs.Ytmhpgkkaolcncaa
open Go.RowKit
set_option linter.unusedVariables false
set_option maxRecDepth 1000000

def cmpZ (x y : Int) : Int := if x < y then -1 else if y < x then 1 else 0
/-- The first of three that is not 0. -/
def or3 (a b c : Int) : Int := if a ≠ 0 then a else if b ≠ 0 then b else c
/-- The order of marked candidates. -/
def cfC (q : Wt) (x y : Cd) : Int := or3 (cmpZ (markZ q y) (markZ q x)) (cmpZ x.place y.place) (cmpZ x.rep y.rep)
theorem cfC_bet (q : Wt) (x y : Cd) : decide (cfC q x y < 0) = bet q x y := by
  have h : cfC q x y < 0 ↔ bet q x y = true := by
    rw [bet_iff]
    unfold cfC or3 cmpZ
    repeat' split
    all_goals omega
  by_cases hb : bet q x y = true
  · rw [hb]; exact decide_eq_true (h.2 hb)
  · rw [Bool.eq_false_iff.2 hb]; exact decide_eq_false fun h' => hb (h.1 h')
/-- A marked candidate's cells. -/
def enM (q : Wt) (c : Cd) : List Value := [.int .u64 c.rep, .int .i64 c.load, .int .i64 c.known, .bool c.bnd, .int .i64 c.place, .bool c.opn, .int .i64 (markZ q c)]
theorem nan_u (x : Int) (w : World) : Calls Try.prog 43 #[.int .u64 x] w fun e w' => e = .returned (.bool false) ∧ w = w' := by
  go_enter Try.func43, Try.ntmps43
  go_wp2
  go_ret
  exact ⟨rfl, rfl⟩
theorem cmp_u (x y : Int) (W : World) : Calls Try.prog 36 #[.int .u64 x, .int .u64 y] W fun e w' => e = .returned (.int .i64 (cmpZ x y)) ∧ W = w' := by
  have hN := fun (x : Int) (W : World) => nan_u x W
  obtain ⟨r, Hr⟩ : ∃ r, Hid (cmpZ x y = r) := ⟨_, rfl⟩
  rw [Hr.out]
  by_cases h1 : x < y
  · obtain rfl : -1 = r := by rw [← Hr.out]; unfold cmpZ; rw [if_pos h1]
    clear Hr
    go_enter Try.func36, Try.ntmps36
    go_wp2_with (go_at_call 43; refine (hN _ _).mono ?_; rintro e w' ⟨rfl, rfl⟩)
    go_ret
    exact ⟨rfl, rfl⟩
  · by_cases h2 : y < x
    · obtain rfl : 1 = r := by rw [← Hr.out]; unfold cmpZ; rw [if_neg h1, if_pos h2]
      clear Hr
      go_enter Try.func36, Try.ntmps36
      go_wp2_with (go_at_call 43; refine (hN _ _).mono ?_; rintro e w' ⟨rfl, rfl⟩)
      go_ret
      exact ⟨rfl, rfl⟩
    · obtain rfl : 0 = r := by rw [← Hr.out]; unfold cmpZ; rw [if_neg h1, if_neg h2]
      clear Hr
      go_enter Try.func36, Try.ntmps36
      go_wp2_with (go_at_call 43; refine (hN _ _).mono ?_; rintro e w' ⟨rfl, rfl⟩)
      go_ret
      exact ⟨rfl, rfl⟩
theorem nan_i (x : Int) (w : World) : Calls Try.prog 42 #[.int .i64 x] w fun e w' => e = .returned (.bool false) ∧ w = w' := by
  go_enter Try.func42, Try.ntmps42
  go_wp2
  go_ret
  exact ⟨rfl, rfl⟩
theorem cmp_i (x y : Int) (W : World) : Calls Try.prog 35 #[.int .i64 x, .int .i64 y] W fun e w' => e = .returned (.int .i64 (cmpZ x y)) ∧ W = w' := by
  have hN := fun (x : Int) (W : World) => nan_i x W
  obtain ⟨r, Hr⟩ : ∃ r, Hid (cmpZ x y = r) := ⟨_, rfl⟩
  rw [Hr.out]
  by_cases h1 : x < y
  · obtain rfl : -1 = r := by rw [← Hr.out]; unfold cmpZ; rw [if_pos h1]
    clear Hr
    go_enter Try.func35, Try.ntmps35
    go_wp2_with (go_at_call 42; refine (hN _ _).mono ?_; rintro e w' ⟨rfl, rfl⟩)
    go_ret
    exact ⟨rfl, rfl⟩
  · by_cases h2 : y < x
    · obtain rfl : 1 = r := by rw [← Hr.out]; unfold cmpZ; rw [if_neg h1, if_pos h2]
      clear Hr
      go_enter Try.func35, Try.ntmps35
      go_wp2_with (go_at_call 42; refine (hN _ _).mono ?_; rintro e w' ⟨rfl, rfl⟩)
      go_ret
      exact ⟨rfl, rfl⟩
    · obtain rfl : 0 = r := by rw [← Hr.out]; unfold cmpZ; rw [if_neg h1, if_neg h2]
      clear Hr
      go_enter Try.func35, Try.ntmps35
      go_wp2_with (go_at_call 42; refine (hN _ _).mono ?_; rintro e w' ⟨rfl, rfl⟩)
      go_ret
      exact ⟨rfl, rfl⟩
theorem nan_l (x : Int) (w : World) : Calls Try.prog 41 #[.int .i64 x] w fun e w' => e = .returned (.bool false) ∧ w = w' := by
  go_enter Try.func41, Try.ntmps41
  go_wp2
  go_ret
  exact ⟨rfl, rfl⟩
theorem cmp_l (x y : Int) (W : World) : Calls Try.prog 34 #[.int .i64 x, .int .i64 y] W fun e w' => e = .returned (.int .i64 (cmpZ x y)) ∧ W = w' := by
  have hN := fun (x : Int) (W : World) => nan_l x W
  obtain ⟨r, Hr⟩ : ∃ r, Hid (cmpZ x y = r) := ⟨_, rfl⟩
  rw [Hr.out]
  by_cases h1 : x < y
  · obtain rfl : -1 = r := by rw [← Hr.out]; unfold cmpZ; rw [if_pos h1]
    clear Hr
    go_enter Try.func34, Try.ntmps34
    go_wp2_with (go_at_call 41; refine (hN _ _).mono ?_; rintro e w' ⟨rfl, rfl⟩)
    go_ret
    exact ⟨rfl, rfl⟩
  · by_cases h2 : y < x
    · obtain rfl : 1 = r := by rw [← Hr.out]; unfold cmpZ; rw [if_neg h1, if_pos h2]
      clear Hr
      go_enter Try.func34, Try.ntmps34
      go_wp2_with (go_at_call 41; refine (hN _ _).mono ?_; rintro e w' ⟨rfl, rfl⟩)
      go_ret
      exact ⟨rfl, rfl⟩
    · obtain rfl : 0 = r := by rw [← Hr.out]; unfold cmpZ; rw [if_neg h1, if_neg h2]
      clear Hr
      go_enter Try.func34, Try.ntmps34
      go_wp2_with (go_at_call 41; refine (hN _ _).mono ?_; rintro e w' ⟨rfl, rfl⟩)
      go_ret
      exact ⟨rfl, rfl⟩
set_option maxHeartbeats 2000000 in
theorem or_any {g : Nat} {a b c : Int} {W : World} (h0 : W.cell? ⟨g, 0, none⟩ = some (.int .i64 a)) (h1 : W.cell? ⟨g, 1, none⟩ = some (.int .i64 b)) (h2 : W.cell? ⟨g, 2, none⟩ = some (.int .i64 c)) :
    Calls Try.prog 33 #[.slice (some ⟨g, 0, none⟩) 3 3] W fun e w' => e = .returned (.int .i64 (or3 a b c)) ∧ W = w' := by
  obtain ⟨r, Hr⟩ : ∃ r, Hid (or3 a b c = r) := ⟨_, rfl⟩
  rw [Hr.out]
  go_enter Try.func33, Try.ntmps33
  go_wp2_with fail
  go_loopw [8] (fun z W' => ∃ k : Nat, k ≤ 3 ∧ z = .int .i64 k ∧ W' = W ∧ Hid (0 < k → a = 0) ∧ Hid (1 < k → b = 0) ∧ Hid (2 < k → c = 0)) (fun z _ => 3 - (intOf z).toNat)
  case atStart => exact ⟨0, by omega, rfl, rfl, fun h => by omega, fun h => by omega, fun h => by omega⟩
  case round =>
  obtain ⟨k, hk, rfl, rfl, Ha, Hb, Hc⟩ := hrel
  obtain rfl | rfl | rfl | rfl : k = 0 ∨ k = 1 ∨ k = 2 ∨ k = 3 := by omega
  · by_cases e : a = 0
    · have HE := hid e
      subst e
      go_wp2
      go_round
      case rel => exact ⟨1, by omega, by first | rfl | trivial, by first | rfl | trivial, by first | exact fun _ => HE.out | exact fun _ => trivial, fun h => by omega, fun h => by omega⟩
      case measure => simp [intOf]
    · have HE : Hid (a = r) := by
        have := Hr.out
        unfold or3 at this
        rw [if_pos e] at this
        exact this
      go_wp2
      go_ret
      exact ⟨by rw [← HE.out]; rfl, rfl⟩
  · have ha := Ha.out (by omega)
    by_cases e : b = 0
    · have HE := hid e
      have HA := hid ha
      subst e
      clear ha
      go_wp2
      go_round
      case rel => exact ⟨2, by omega, by first | rfl | trivial, by first | rfl | trivial, fun _ => HA.out, by first | exact fun _ => HE.out | exact fun _ => trivial, fun h => by omega⟩
      case measure => simp [intOf]
    · have HE : Hid (b = r) := by
        have := Hr.out
        unfold or3 at this
        rw [ha] at this
        simp [e] at this
        exact this
      clear ha
      go_wp2
      go_ret
      exact ⟨by rw [← HE.out]; rfl, rfl⟩
  · have ha := Ha.out (by omega)
    have hb := Hb.out (by omega)
    by_cases e : c = 0
    · have HE := hid e
      have HA := hid ha
      have HB := hid hb
      subst e
      clear ha hb
      go_wp2
      go_round
      case rel => exact ⟨3, by omega, by first | rfl | trivial, by first | rfl | trivial, fun _ => HA.out, fun _ => HB.out, by first | exact fun _ => HE.out | exact fun _ => trivial⟩
      case measure => simp [intOf]
    · have HE : Hid (c = r) := by
        have := Hr.out
        unfold or3 at this
        rw [ha, hb] at this
        simp at this
        exact this
      clear ha hb
      go_wp2
      go_ret
      exact ⟨by rw [← HE.out]; rfl, rfl⟩
  · have HE : Hid (0 = r) := by
      have := Hr.out
      unfold or3 at this
      rw [Ha.out (by omega), Hb.out (by omega), Hc.out (by omega)] at this
      simp at this
      exact this
    go_wp2
    go_ret
    exact ⟨by rw [← HE.out]; rfl, rfl⟩
theorem or_new {a b c r : Int} {W1 : World} {n : Nat} (hr : r = or3 a b c) (hn : n = W1.heap.size) : Calls Try.prog 33 #[.slice (some ⟨n, 0, none⟩) 3 3] (W1.alloc (.cells #[.int .i64 a, .int .i64 b, .int .i64 c] 3)).drew fun e w' => e = .returned (.int .i64 r) ∧ (W1.alloc (.cells #[.int .i64 a, .int .i64 b, .int .i64 c] 3)).drew = w' := by
  subst hn hr
  have h : (W1.alloc (.cells #[.int .i64 a, .int .i64 b, .int .i64 c] 3)).drew.heap[W1.heap.size]? = some (.cells #[.int .i64 a, .int .i64 b, .int .i64 c] 3 (0, 0)) := heap_alloc_new W1 _
  exact or_any (by rw [cell_of_row _ _ _ _ _ _ h]; rfl) (by rw [cell_of_row _ _ _ _ _ _ h]; rfl) (by rw [cell_of_row _ _ _ _ _ _ h]; rfl)
theorem cells7 {W : World} {g : Nat} {x0 x1 x2 x3 x4 x5 x6 : Value} {T : TypeId} (h : W.heap[g]? = some (.cells #[x0, x1, x2, x3, x4, x5, x6] T (0, 0))) : W.cell? ⟨g, 0, none⟩ = some x0 ∧ W.cell? ⟨g, 4, none⟩ = some x4 ∧ W.cell? ⟨g, 6, none⟩ = some x6 :=
  ⟨by rw [cell_of_row _ _ _ _ _ _ h]; rfl, by rw [cell_of_row _ _ _ _ _ _ h]; rfl, by rw [cell_of_row _ _ _ _ _ _ h]; rfl⟩
set_option maxHeartbeats 8000000 in
theorem mcompare (q : Wt) (x y : Cd) (W : World) : Calls Try.prog 28 #[.agg (enM q x).toArray, .agg (enM q y).toArray] W fun e w' => e = .returned (.int .i64 (cfC q x y)) ∧ ∃ n os', w' = Sort.grow (W.drewN n) os' := by
  have hE : cfC q x y = or3 (cmpZ (markZ q y) (markZ q x)) (cmpZ x.place y.place) (cmpZ x.rep y.rep) := rfl
  have ex : (enM q x).toArray = #[.int .u64 x.rep, .int .i64 x.load, .int .i64 x.known, .bool x.bnd, .int .i64 x.place, .bool x.opn, .int .i64 (markZ q x)] := rfl
  have ey : (enM q y).toArray = #[.int .u64 y.rep, .int .i64 y.load, .int .i64 y.known, .bool y.bnd, .int .i64 y.place, .bool y.opn, .int .i64 (markZ q y)] := rfl
  rw [ex, ey]
  clear ex ey
  generalize cfC q x y = r at *
  generalize markZ q x = mx at *
  generalize markZ q y = my at *
  obtain ⟨x0, x1, x2, x3, x4, x5⟩ := x
  obtain ⟨y0, y1, y2, y3, y4, y5⟩ := y
  simp only at hE ⊢
  generalize hc1 : cmpZ my mx = c1 at *
  generalize hc2 : cmpZ x4 y4 = c2 at *
  generalize hc3 : cmpZ x0 y0 = c3 at *
  have HC1 := hid fun W : World => hc1 ▸ cmp_l my mx W
  have HC2 := hid fun W : World => hc2 ▸ cmp_i x4 y4 W
  have HC3 := hid fun W : World => hc3 ▸ cmp_u x0 y0 W
  have HE := hid hE
  clear hE hc1 hc2 hc3
  go_enter Try.func28, Try.ntmps28
  go_wp2_with fail
  obtain ⟨oA, hoA⟩ : ∃ o : Obj, o = .cells #[.int .u64 x0, .int .i64 x1, .int .i64 x2, .bool x3, .int .i64 x4, .bool x5, .int .i64 mx] 51 := ⟨_, rfl⟩
  obtain ⟨oB, hoB⟩ : ∃ o : Obj, o = .cells #[.int .u64 y0, .int .i64 y1, .int .i64 y2, .bool y3, .int .i64 y4, .bool y5, .int .i64 my] 51 := ⟨_, rfl⟩
  obtain ⟨wA, hwA⟩ : ∃ wA, wA = (W.alloc oA).alloc oB := ⟨_, rfl⟩
  have h1 : wA.heap[W.heap.size]? = some (.cells #[.int .u64 x0, .int .i64 x1, .int .i64 x2, .bool x3, .int .i64 x4, .bool x5, .int .i64 mx] 51 (0, 0)) := by
    rw [hwA, hoA]; exact (Below.heap_alloc _ _ _ (by simp)).trans (heap_alloc_new W _)
  have h2 : wA.heap[W.heap.size + 1]? = some (.cells #[.int .u64 y0, .int .i64 y1, .int .i64 y2, .bool y3, .int .i64 y4, .bool y5, .int .i64 my] 51 (0, 0)) := by
    rw [hwA, hoB]
    have := heap_alloc_new (W.alloc oA) (.cells #[.int .u64 y0, .int .i64 y1, .int .i64 y2, .bool y3, .int .i64 y4, .bool y5, .int .i64 my] 51)
    rwa [World.size_alloc] at this
  have HEnd : Hid (∀ o : Obj, ∃ n os', (wA.alloc o).drew = Sort.grow (W.drewN n) os') := fun o => ⟨1, #[oA, oB, o], by
    rw [hwA, Sort.alloc_eq_grow, Sort.alloc_eq_grow, Sort.alloc_eq_grow, Sort.grow_grow, Sort.grow_grow]
    rfl⟩
  have HK : Hid (∀ W' : World, Below wA.heap.size wA W' → W'.cell? ⟨W.heap.size, 0, none⟩ = some (.int .u64 x0) ∧ W'.cell? ⟨W.heap.size, 4, none⟩ = some (.int .i64 x4) ∧ W'.cell? ⟨W.heap.size, 6, none⟩ = some (.int .i64 mx) ∧ W'.cell? ⟨W.heap.size + 1, 0, none⟩ = some (.int .u64 y0) ∧ W'.cell? ⟨W.heap.size + 1, 4, none⟩ = some (.int .i64 y4) ∧ W'.cell? ⟨W.heap.size + 1, 6, none⟩ = some (.int .i64 my)) := fun W' hb => by
    have e1 := cells7 (block_bel h1 hb)
    have e2 := cells7 (block_bel h2 hb)
    exact ⟨e1.1, e1.2.1, e1.2.2, e2.1, e2.2.1, e2.2.2⟩
  rw [← hoA, ← hoB, ← hwA]
  clear hwA h1 h2 hoA hoB
  generalize W.heap.size = g1 at *
  have HV := hid (Below.refl wA.heap.size wA)
  have HVd : Hid (Below wA.heap.size wA wA.drew) := (Below.refl _ _).drew
  have HVa := hid fun (o : Obj) => ((Below.refl wA.heap.size wA).alloc (Nat.le_refl _) o).drew
  go_region_held3 (fun W' : World => W'.cell? ⟨g1, 0, none⟩ = some (.int .u64 x0) ∧ W'.cell? ⟨g1, 4, none⟩ = some (.int .i64 x4) ∧ W'.cell? ⟨g1, 6, none⟩ = some (.int .i64 mx) ∧ W'.cell? ⟨g1 + 1, 0, none⟩ = some (.int .u64 y0) ∧ W'.cell? ⟨g1 + 1, 4, none⟩ = some (.int .i64 y4) ∧ W'.cell? ⟨g1 + 1, 6, none⟩ = some (.int .i64 my))
    (first | (with_reducible exact HK.out _ HV.out) | (with_reducible exact HK.out _ HVd.out) | (with_reducible exact HK.out _ (HVa.out _)))
    (first
      | (go_at_call 34; (with_reducible refine (HC1.out _).mono ?_); rintro e w' ⟨rfl, rfl⟩)
      | (go_at_call 35; (with_reducible refine (HC2.out _).mono ?_); rintro e w' ⟨rfl, rfl⟩)
      | (go_at_call 36; (with_reducible refine (HC3.out _).mono ?_); rintro e w' ⟨rfl, rfl⟩)
      | (go_at_call 33; (with_reducible refine (or_new (a := c1) (b := c2) (c := c3) HE.out rfl).mono ?_); rintro e w' ⟨rfl, rfl⟩))
  go_wp2
  go_ret
  exact ⟨rfl, HEnd.out _⟩
theorem mlays (q : Wt) (blk off N : Nat) (w : World) : CmpLays Try.prog 28 #[] (enM q) 7 (cfC q) blk off N w := fun m os dk hs x y => mcompare q x y _
end Go.Proofs.Ytmhpgkkaolcncaa
