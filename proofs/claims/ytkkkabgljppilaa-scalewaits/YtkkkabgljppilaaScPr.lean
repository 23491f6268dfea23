/-
  Package scale in memory (PkAt); mayBounds, mayWait, may, made, goOn, hold, ago.
-/
import Derived.Test.YtkkkabgljppilaaScMath
import Derived.BigQuiet
import Derived.Deep.RegionHeld3
import Derived.Deep.RegionLaw
import Derived.Deep.DrawnRows
import Derived.StillTailTactics
namespace Go.Proofs.Ytkkkabgljppilaa
open Go.RowKit
set_option linter.unusedVariables false
set_option maxRecDepth 1000000
variable {b : Nat} {w w' : World} {P : Pk}

/-- Its cells. -/
def PkC (P : Pk) : Array Value := #[.int .i64 P.mn, .int .i64 P.mx, .int .i64 P.pr, .int .i64 P.sl, .int .i64 P.uw, .int .i64 P.dw, .int .i64 P.now, .bool (ev P.up), .int .i64 (ea P.up), .bool (ev P.ls), .int .i64 (ea P.ls)]
/-- It lies there. -/
def PkAt (W : World) (b : Nat) (P : Pk) : Prop := W.heap[b]? = some (.cells (PkC P) 51 (0, 0))
theorem PkAt.lt (h : PkAt w b P) : b < w.heap.size := lt_of_block h
theorem PkAt.below (h : PkAt w b P) (hb : Below w.heap.size w w') : PkAt w' b P := (hb.block b h.lt).trans h
theorem PkAt.cell (h : PkAt w b P) (k : Nat) : w.cell? ⟨b, k, none⟩ = (PkC P)[k]? := by
  have hc : w.heap[b]? = some (.cells (PkC P) 51 (0, 0)) := h
  rw [cell_of_row _ _ _ _ _ _ hc]
/-- The cells, one by one. -/
structure PkCs (w : World) (b : Nat) (P : Pk) : Prop where
  mn : w.cell? ⟨b, 0, none⟩ = some (.int .i64 P.mn)
  mx : w.cell? ⟨b, 1, none⟩ = some (.int .i64 P.mx)
  pr : w.cell? ⟨b, 2, none⟩ = some (.int .i64 P.pr)
  sl : w.cell? ⟨b, 3, none⟩ = some (.int .i64 P.sl)
  uw : w.cell? ⟨b, 4, none⟩ = some (.int .i64 P.uw)
  dw : w.cell? ⟨b, 5, none⟩ = some (.int .i64 P.dw)
  now : w.cell? ⟨b, 6, none⟩ = some (.int .i64 P.now)
  ue : w.cell? ⟨b, 7, none⟩ = some (.bool (ev P.up))
  ua : w.cell? ⟨b, 8, none⟩ = some (.int .i64 (ea P.up))
  se : w.cell? ⟨b, 9, none⟩ = some (.bool (ev P.ls))
  sa : w.cell? ⟨b, 10, none⟩ = some (.int .i64 (ea P.ls))
theorem PkAt.cs (h : PkAt w b P) : PkCs w b P := ⟨h.cell 0, h.cell 1, h.cell 2, h.cell 3, h.cell 4, h.cell 5, h.cell 6, h.cell 7, h.cell 8, h.cell 9, h.cell 10⟩
theorem PkAt.frozen (h : PkAt w b P) (k : Nat) : w.frozen? ⟨b, k, none⟩ = false := frozen_of_row _ _ k _ _ h
theorem PkAt.set {k : Nat} {u : Value} {P' : Pk} (h : PkAt w b P) (e : (PkC P).setIfInBounds k u = PkC P') : PkAt (w.setCell ⟨b, k, none⟩ u) b P' := by
  have := row_set (k := k) (u := u) h
  rw [e] at this
  exact this
theorem PkAt.drewN (h : PkAt w b P) (n : Nat) : PkAt (w.drewN n) b P := h
/-- Only this block has turned. -/
def Tn (b : Nat) (w w' : World) : Prop := Fb (at1 b) w w'
theorem Tn.refl (b : Nat) (w : World) : Tn b w w := Fb.refl _ _
theorem Tn.set (h : Tn b w w') (k : Nat) (u : Value) : Tn b w (w'.setCell ⟨b, k, none⟩ u) := Fb.trans h (Fb.set (F := at1 b) (p := ⟨b, k, none⟩) rfl u) fun x hx => .inl hx
theorem Tn.below {w2 : World} (h : Tn b w w') (hb : Below w'.heap.size w' w2) : Tn b w w2 := Fb.below h hb
theorem Tn.trans {w2 : World} (h : Tn b w w') (k : Tn b w' w2) : Tn b w w2 := Fb.trans h k fun x hx => .inl hx
theorem Tn.drew (h : Tn b w w') : Tn b w w'.drew := Fb.drew h
theorem Tn.drewN (h : Tn b w w') (n : Nat) : Tn b w (w'.drewN n) := ⟨h.os, h.tape, h.output, h.size, h.block⟩

/-! ### The builtins max and min -/
theorem bmax_i (x m : Int) (W : World) : (Builtin.max_ #[3, 3] 3 #[.int .i64 x, .int .i64 m]).run Try.prog W = .ok (.int .i64 (mx2 x m)) W := by
  unfold mx2
  by_cases h : x ≤ m
  · rw [if_pos h]
    simp [Builtin.max_, Builtin.max2, go_sem]
    omega
  · rw [if_neg h]
    simp [Builtin.max_, Builtin.max2, go_sem]
    omega
theorem bmax_i64 (x m : Int) (W : World) : (Builtin.max_ #[2, 2] 2 #[.int .i64 x, .int .i64 m]).run Try.prog W = .ok (.int .i64 (mx2 x m)) W := by
  unfold mx2
  by_cases h : x ≤ m
  · rw [if_pos h]
    simp [Builtin.max_, Builtin.max2, go_sem]
    omega
  · rw [if_neg h]
    simp [Builtin.max_, Builtin.max2, go_sem]
    omega
theorem bmin_i (x m : Int) (W : World) : (Builtin.min_ #[3, 3] 3 #[.int .i64 x, .int .i64 m]).run Try.prog W = .ok (.int .i64 (if x ≤ m then x else m)) W := by
  by_cases h : x ≤ m
  · rw [if_pos h]
    simp [Builtin.min_, Builtin.min2, go_sem]
    omega
  · rw [if_neg h]
    simp [Builtin.min_, Builtin.min2, go_sem]
    omega

/-! ### What may be -/
theorem smb_any (x y : Int) (w : World) : Calls Try.prog 24 #[.int .i64 x, .int .i64 y] w fun e w' => e = .returned (.bool (decide (Bnd x y))) ∧ w' = w := by
  by_cases h1 : 0 ≤ x
  · by_cases h2 : x ≤ y
    · by_cases h3 : 1 ≤ y
      · by_cases h4 : y ≤ 8
        · rw [decide_eq_true (show Bnd x y from ⟨h1, h2, h3, h4⟩)]
          go_enter Try.func24, Try.ntmps24
          go_wp2
          go_ret
          exact ⟨rfl, rfl⟩
        · rw [decide_eq_false (show ¬ Bnd x y from fun h => h4 h.2.2.2)]
          have h9 : 8 < y := by omega
          go_enter Try.func24, Try.ntmps24
          go_wp2
          go_ret
          exact ⟨rfl, rfl⟩
      · rw [decide_eq_false (show ¬ Bnd x y from fun h => h3 h.2.2.1)]
        have h9 : y < 1 := by omega
        go_enter Try.func24, Try.ntmps24
        go_wp2
        go_ret
        exact ⟨rfl, rfl⟩
    · rw [decide_eq_false (show ¬ Bnd x y from fun h => h2 h.2.1)]
      have h9 : y < x := by omega
      go_enter Try.func24, Try.ntmps24
      go_wp2
      go_ret
      exact ⟨rfl, rfl⟩
  · rw [decide_eq_false (show ¬ Bnd x y from fun h => h1 h.1)]
    have h9 : x < 0 := by omega
    go_enter Try.func24, Try.ntmps24
    go_wp2
    go_ret
    exact ⟨rfl, rfl⟩
theorem smw_any (x : Int) (w : World) : Calls Try.prog 33 #[.int .i64 x] w fun e w' => e = .returned (.bool (decide (0 ≤ x ∧ x ≤ 4294967296))) ∧ w' = w := by
  by_cases h1 : 0 ≤ x
  · go_enter Try.func33, Try.ntmps33
    go_wp2
    go_ret
    exact ⟨ret_bool (by simp [h1]), rfl⟩
  · go_enter Try.func33, Try.ntmps33
    go_wp2
    go_ret
    exact ⟨ret_bool (by simp; intros; omega), rfl⟩
/-- A setting's cells. -/
def SgV (s : Sg) : Array Value := #[.int .i64 s.mn, .int .i64 s.mx, .int .i64 s.pr, .int .i64 s.sl, .int .i64 s.uw, .int .i64 s.dw]
theorem smay_any (s : Sg) (w : World) : Calls Try.prog 21 #[.agg (SgV s)] w fun e w' => e = .returned (.bool (decide (s.Is))) ∧ Hid (Below w.heap.size w w') := by
  have HE : Hid (Below w.heap.size w (w.alloc (.cells #[.int .i64 s.mn, .int .i64 s.mx, .int .i64 s.pr, .int .i64 s.sl, .int .i64 s.uw, .int .i64 s.dw] 29))) := (Below.refl _ _).alloc (Nat.le_refl _) _
  have H1 := hid fun W => smb_any s.mn s.mx W
  have H2 := hid fun W => smw_any s.uw W
  have H3 := hid fun W => smw_any s.dw W
  unfold SgV
  by_cases g0 : Bnd s.mn s.mx
  · rw [decide_eq_true g0] at H1
    by_cases g1 : 1 ≤ s.pr
    · skip
      by_cases g2 : s.pr ≤ 1000
      · skip
        by_cases g3 : 0 ≤ s.sl
        · skip
          by_cases g4 : s.sl ≤ 99
          · skip
            by_cases g5 : 0 ≤ s.uw ∧ s.uw ≤ 4294967296
            · rw [decide_eq_true g5] at H2
              by_cases g6 : 0 ≤ s.dw ∧ s.dw ≤ 4294967296
              · rw [decide_eq_true g6] at H3
                rw [decide_eq_true (show s.Is from ⟨g0, g1, g2, g3, g4, g5, g6⟩)]
                clear g0 g5 g6
                go_enter Try.func21, Try.ntmps21
                go_wp2_with fail
                refine (H1.out _).mono ?_
                rintro e w1 ⟨rfl, rfl⟩
                go_wp2_with fail
                refine (H2.out _).mono ?_
                rintro e w1 ⟨rfl, rfl⟩
                go_wp2_with fail
                refine (H3.out _).mono ?_
                rintro e w1 ⟨rfl, rfl⟩
                go_wp2_with fail
                go_ret
                exact ⟨rfl, HE⟩
              · rw [decide_eq_false (show ¬ s.Is from fun h => g6 h.2.2.2.2.2.2)]
                rw [decide_eq_false g6] at H3
                clear g6 g0 g5
                go_enter Try.func21, Try.ntmps21
                go_wp2_with fail
                refine (H1.out _).mono ?_
                rintro e w1 ⟨rfl, rfl⟩
                go_wp2_with fail
                refine (H2.out _).mono ?_
                rintro e w1 ⟨rfl, rfl⟩
                go_wp2_with fail
                refine (H3.out _).mono ?_
                rintro e w1 ⟨rfl, rfl⟩
                go_wp2_with fail
                go_ret
                exact ⟨rfl, HE⟩
            · rw [decide_eq_false (show ¬ s.Is from fun h => g5 h.2.2.2.2.2.1)]
              rw [decide_eq_false g5] at H2
              clear g5 g0
              go_enter Try.func21, Try.ntmps21
              go_wp2_with fail
              refine (H1.out _).mono ?_
              rintro e w1 ⟨rfl, rfl⟩
              go_wp2_with fail
              refine (H2.out _).mono ?_
              rintro e w1 ⟨rfl, rfl⟩
              go_wp2_with fail
              go_ret
              exact ⟨rfl, HE⟩
          · rw [decide_eq_false (show ¬ s.Is from fun h => g4 h.2.2.2.2.1)]
            have g9 : 99 < s.sl := by omega
            clear g4 g0
            go_enter Try.func21, Try.ntmps21
            go_wp2_with fail
            refine (H1.out _).mono ?_
            rintro e w1 ⟨rfl, rfl⟩
            go_wp2_with fail
            go_ret
            exact ⟨rfl, HE⟩
        · rw [decide_eq_false (show ¬ s.Is from fun h => g3 h.2.2.2.1)]
          have g9 : s.sl < 0 := by omega
          clear g3 g0
          go_enter Try.func21, Try.ntmps21
          go_wp2_with fail
          refine (H1.out _).mono ?_
          rintro e w1 ⟨rfl, rfl⟩
          go_wp2_with fail
          go_ret
          exact ⟨rfl, HE⟩
      · rw [decide_eq_false (show ¬ s.Is from fun h => g2 h.2.2.1)]
        have g9 : 1000 < s.pr := by omega
        clear g2 g0
        go_enter Try.func21, Try.ntmps21
        go_wp2_with fail
        refine (H1.out _).mono ?_
        rintro e w1 ⟨rfl, rfl⟩
        go_wp2_with fail
        go_ret
        exact ⟨rfl, HE⟩
    · rw [decide_eq_false (show ¬ s.Is from fun h => g1 h.2.1)]
      have g9 : s.pr < 1 := by omega
      clear g1 g0
      go_enter Try.func21, Try.ntmps21
      go_wp2_with fail
      refine (H1.out _).mono ?_
      rintro e w1 ⟨rfl, rfl⟩
      go_wp2_with fail
      go_ret
      exact ⟨rfl, HE⟩
  · rw [decide_eq_false (show ¬ s.Is from fun h => g0 h.1)]
    rw [decide_eq_false g0] at H1
    clear g0
    go_enter Try.func21, Try.ntmps21
    go_wp2_with fail
    refine (H1.out _).mono ?_
    rintro e w1 ⟨rfl, rfl⟩
    go_wp2_with fail
    go_ret
    exact ⟨rfl, HE⟩
/-! ### Made -/
theorem smade_yes (h : PkAt w b P) (ok : PkOk P) : Calls Try.prog 23 #[.pointer (some ⟨b, 0, none⟩)] w fun e w' => e = .returned (.bool true) ∧ w' = w := by
  have c2 := h.cs.pr
  have r0 : 0 < P.pr := by have := ok.pr; omega
  clear h ok
  go_enter Try.func23, Try.ntmps23
  go_wp2
  go_ret
  exact ⟨rfl, rfl⟩
/-- A pointer to none, or to one that New did not give. -/
def PkNo (W : World) (p : Option Addr) : Prop := p = none ∨ ∃ b, p = some ⟨b, 0, none⟩ ∧ W.cell? ⟨b, 2, none⟩ = some (.int .i64 0)
theorem smade_no {p : Option Addr} (h : PkNo w p) : Calls Try.prog 23 #[.pointer p] w fun e w' => e = .returned (.bool false) ∧ w' = w := by
  rcases h with rfl | ⟨b, rfl, c0⟩
  · go_enter Try.func23, Try.ntmps23
    go_wp2
    go_ret
    exact ⟨rfl, rfl⟩
  · go_enter Try.func23, Try.ntmps23
    go_wp2
    go_ret
    exact ⟨rfl, rfl⟩
/-! ### goOn, hold, ago -/
theorem sgo_any (h : PkAt w b P) (t : Int) : Calls Try.prog 25 #[.pointer (some ⟨b, 0, none⟩), .int .i64 t] w fun e w' => e = .returned (.tuple #[]) ∧ Hid (PkAt w' b (P.tm t) ∧ Tn b w w') := by
  have c6 := h.cs.now
  have f6 := h.frozen 6
  by_cases h1 : P.now < t
  · by_cases h2 : t ≤ 1099511627776
    · have e : P.tm t = { P with now := t } := by unfold Pk.tm tmZ; rw [if_pos ⟨h1, h2⟩]
      have HX : Hid (PkAt (w.setCell ⟨b, 6, none⟩ (.int .i64 t)) b { P with now := t } ∧ Tn b w (w.setCell ⟨b, 6, none⟩ (.int .i64 t))) := ⟨h.set rfl, (Tn.refl b w).set _ _⟩
      rw [e]
      clear h e
      go_enter Try.func25, Try.ntmps25
      go_wp2_with fail
      go_end0
      exact ⟨rfl, HX⟩
    · have e : P.tm t = P := by unfold Pk.tm tmZ; rw [if_neg (by omega)]
      have HX := hid (And.intro h (Tn.refl b w))
      rw [e]
      clear h e
      go_enter Try.func25, Try.ntmps25
      go_wp2_with fail
      go_end0
      exact ⟨rfl, HX⟩
  · have e : P.tm t = P := by unfold Pk.tm tmZ; rw [if_neg (by omega)]
    have HX := hid (And.intro h (Tn.refl b w))
    rw [e]
    clear h e
    go_enter Try.func25, Try.ntmps25
    go_wp2_with fail
    go_end0
    exact ⟨rfl, HX⟩
theorem shold_any (h : PkAt w b P) (ok : PkOk P) (k load : Int) (hk : 0 ≤ k ∧ k ≤ 8) : Calls Try.prog 32 #[.pointer (some ⟨b, 0, none⟩), .int .i64 k, .int .i64 load] w fun e w' => e = .returned (.bool (decide (load ≤ k * P.pr))) ∧ w' = w := by
  have c2 := h.cs.pr
  have hb := kpr_bd ok.pr hk
  have e1 : wrap64 (k * P.pr) = k * P.pr := by unfold wrap64; omega
  have e2 : IntKind.i64.wrap (k * P.pr) = k * P.pr := by rw [IntKind.wrap_i64]; omega
  clear h ok hk hb
  go_enter Try.func32, Try.ntmps32
  go_wp2_with fail
  go_ret
  first | exact ⟨rfl, rfl⟩ | exact ⟨by simp [e1, e2], rfl⟩
/-- Was it long enough ago, or never? -/
def agZ (t now wt : Int) : Bool := decide (t < 0) || decide (wt ≤ now - t)
theorem sago_any (t now wt : Int) (h : -1 ≤ t ∧ t ≤ now) (hn : 0 ≤ now ∧ now ≤ 1099511627776) (w : World) : Calls Try.prog 34 #[.agg #[.bool (ev t), .int .i64 (ea t)], .int .i64 now, .int .i64 wt] w fun e w' => e = .returned (.bool (agZ t now wt)) ∧ Hid (Below w.heap.size w w') := by
  unfold agZ
  by_cases ht : t < 0
  · have e1 : ev t = false := decide_eq_false (by omega)
    have HE : Hid (Below w.heap.size w (w.alloc (.cells #[.bool false, .int .i64 (ea t)] 49))) := (Below.refl _ _).alloc (Nat.le_refl _) _
    rw [e1, decide_eq_true ht]
    clear e1 ht
    go_enter Try.func34, Try.ntmps34
    go_wp2_with fail
    go_ret
    exact ⟨by first | rfl | simp, HE⟩
  · have e1 : ev t = true := decide_eq_true (by omega)
    have e2 : ea t = t := if_pos (by omega)
    have HE : Hid (Below w.heap.size w (w.alloc (.cells #[.bool true, .int .i64 t] 49))) := (Below.refl _ _).alloc (Nat.le_refl _) _
    have v1 : wrap64 (now - t) = now - t := by unfold wrap64; omega
    have v2 : IntKind.i64.wrap (now - t) = now - t := by rw [IntKind.wrap_i64]; omega
    rw [e1, e2, decide_eq_false ht]
    clear e1 e2 ht h hn
    go_enter Try.func34, Try.ntmps34
    go_wp2_with fail
    go_ret
    exact ⟨by first | rfl | simp [v1, v2], HE⟩
end Go.Proofs.Ytkkkabgljppilaa
