/-
  The document's scaler: in memory (RkAt), bounds, May, New, ago, Set, Want.
-/
import Derived.Test.YtkkkabgljppilaaScSt
namespace Go.Proofs.Ytkkkabgljppilaa
open Go.RowKit
set_option linter.unusedVariables false
set_option maxRecDepth 1000000
variable {b : Nat} {w w' : World} {P : Pk}

/-- Its cells. -/
def RkC (P : Pk) : Array Value := #[.int .i64 P.mn, .int .i64 P.mx, .int .i64 P.pr, .int .i64 P.sl, .int .i64 P.uw, .int .i64 P.dw, .int .i64 P.now, .int .i64 P.up, .int .i64 P.dn]
/-- It lies there. -/
def RkAt (W : World) (b : Nat) (P : Pk) : Prop := W.heap[b]? = some (.cells (RkC P) 34 (0, 0))
theorem RkAt.lt (h : RkAt w b P) : b < w.heap.size := lt_of_block h
theorem RkAt.below (h : RkAt w b P) (hb : Below w.heap.size w w') : RkAt w' b P := (hb.block b h.lt).trans h
theorem RkAt.cell (h : RkAt w b P) (k : Nat) : w.cell? ⟨b, k, none⟩ = (RkC P)[k]? := by
  have hc : w.heap[b]? = some (.cells (RkC P) 34 (0, 0)) := h
  rw [cell_of_row _ _ _ _ _ _ hc]
/-- The cells, one by one. -/
structure RkCs (w : World) (b : Nat) (P : Pk) : Prop where
  mn : w.cell? ⟨b, 0, none⟩ = some (.int .i64 P.mn)
  mx : w.cell? ⟨b, 1, none⟩ = some (.int .i64 P.mx)
  pr : w.cell? ⟨b, 2, none⟩ = some (.int .i64 P.pr)
  sl : w.cell? ⟨b, 3, none⟩ = some (.int .i64 P.sl)
  uw : w.cell? ⟨b, 4, none⟩ = some (.int .i64 P.uw)
  dw : w.cell? ⟨b, 5, none⟩ = some (.int .i64 P.dw)
  now : w.cell? ⟨b, 6, none⟩ = some (.int .i64 P.now)
  up : w.cell? ⟨b, 7, none⟩ = some (.int .i64 P.up)
  dn : w.cell? ⟨b, 8, none⟩ = some (.int .i64 P.dn)
theorem RkAt.cs (h : RkAt w b P) : RkCs w b P := ⟨h.cell 0, h.cell 1, h.cell 2, h.cell 3, h.cell 4, h.cell 5, h.cell 6, h.cell 7, h.cell 8⟩
theorem RkAt.frozen (h : RkAt w b P) (k : Nat) : w.frozen? ⟨b, k, none⟩ = false := frozen_of_row _ _ k _ _ h
theorem RkAt.set {k : Nat} {u : Value} {P' : Pk} (h : RkAt w b P) (e : (RkC P).setIfInBounds k u = RkC P') : RkAt (w.setCell ⟨b, k, none⟩ u) b P' := by
  have := row_set (k := k) (u := u) h
  rw [e] at this
  exact this
theorem RkAt.drewN (h : RkAt w b P) (n : Nat) : RkAt (w.drewN n) b P := h

theorem rbounds_any (x y : Int) (w : World) : Calls Try.prog 22 #[.int .i64 x, .int .i64 y] w fun e w' => e = .returned (.bool (decide (Bnd x y))) ∧ w' = w := by
  by_cases h1 : 0 ≤ x
  · by_cases h2 : x ≤ y
    · by_cases h3 : 1 ≤ y
      · by_cases h4 : y ≤ 8
        · rw [decide_eq_true (show Bnd x y from ⟨h1, h2, h3, h4⟩)]
          go_enter Try.func22, Try.ntmps22
          go_wp2
          go_ret
          exact ⟨by first | rfl | exact ret_bool (by simp; omega), rfl⟩
        · rw [decide_eq_false (show ¬ Bnd x y from fun h => h4 h.2.2.2)]
          have h9 : 8 < y := by omega
          go_enter Try.func22, Try.ntmps22
          go_wp2
          go_ret
          exact ⟨by first | rfl | exact ret_bool (by simp; omega), rfl⟩
      · rw [decide_eq_false (show ¬ Bnd x y from fun h => h3 h.2.2.1)]
        have h9 : y < 1 := by omega
        go_enter Try.func22, Try.ntmps22
        go_wp2
        go_ret
        exact ⟨by first | rfl | exact ret_bool (by simp; omega), rfl⟩
    · rw [decide_eq_false (show ¬ Bnd x y from fun h => h2 h.2.1)]
      have h9 : y < x := by omega
      go_enter Try.func22, Try.ntmps22
      go_wp2
      go_ret
      exact ⟨by first | rfl | exact ret_bool (by simp; omega), rfl⟩
  · rw [decide_eq_false (show ¬ Bnd x y from fun h => h1 h.1)]
    have h9 : x < 0 := by omega
    go_enter Try.func22, Try.ntmps22
    go_wp2
    go_ret
    exact ⟨by first | rfl | exact ret_bool (by simp; omega), rfl⟩
theorem rmay_any (s : Sg) (w : World) : Calls Try.prog 9 #[.agg (SgV s)] w fun e w' => e = .returned (.bool (decide (s.Is))) ∧ Hid (Below w.heap.size w w') := by
  unfold SgV
  have HE : Hid (Below w.heap.size w (w.alloc (.cells #[.int .i64 s.mn, .int .i64 s.mx, .int .i64 s.pr, .int .i64 s.sl, .int .i64 s.uw, .int .i64 s.dw] 23))) := (Below.refl _ _).alloc (Nat.le_refl _) _
  have H1 := hid fun W => rbounds_any s.mn s.mx W
  have hI : s.Is ↔ Bnd s.mn s.mx ∧ (1 ≤ s.pr ∧ s.pr ≤ 1000 ∧ 0 ≤ s.sl ∧ s.sl ≤ 99 ∧ 0 ≤ s.uw ∧ s.uw ≤ 4294967296 ∧ 0 ≤ s.dw ∧ s.dw ≤ 4294967296) := ⟨fun ⟨a, b, c, d, e, ⟨f, g⟩, h, i⟩ => ⟨a, b, c, d, e, f, g, h, i⟩, fun ⟨a, b, c, d, e, f, g, h, i⟩ => ⟨a, b, c, d, e, ⟨f, g⟩, h, i⟩⟩
  by_cases g0 : Bnd s.mn s.mx
  · rw [decide_eq_true g0] at H1
    rw [show decide s.Is = decide (1 ≤ s.pr ∧ s.pr ≤ 1000 ∧ 0 ≤ s.sl ∧ s.sl ≤ 99 ∧ 0 ≤ s.uw ∧ s.uw ≤ 4294967296 ∧ 0 ≤ s.dw ∧ s.dw ≤ 4294967296) from decide_eq_decide.2 ⟨fun h => (hI.1 h).2, fun h => hI.2 ⟨g0, h⟩⟩]
    clear g0 hI
    by_cases g1 : 1 ≤ s.pr
    · by_cases g2 : s.pr ≤ 1000
      · by_cases g3 : 0 ≤ s.sl
        · by_cases g4 : s.sl ≤ 99
          · by_cases g5 : 0 ≤ s.uw
            · by_cases g6 : s.uw ≤ 4294967296
              · by_cases g7 : 0 ≤ s.dw
                · by_cases g8 : s.dw ≤ 4294967296
                  · rw [decide_eq_true (by omega)]
                    go_enter Try.func9, Try.ntmps9
                    go_wp2_with fail
                    refine (H1.out _).mono ?_
                    rintro e w1 ⟨rfl, rfl⟩
                    go_wp2_with fail
                    go_ret
                    exact ⟨by first | rfl | exact ret_bool (by simp; omega), HE⟩
                  · rw [decide_eq_false (by omega)]
                    have g9 : 4294967296 < s.dw := by omega
                    go_enter Try.func9, Try.ntmps9
                    go_wp2_with fail
                    refine (H1.out _).mono ?_
                    rintro e w1 ⟨rfl, rfl⟩
                    go_wp2_with fail
                    go_ret
                    exact ⟨by first | rfl | exact ret_bool (by simp; omega), HE⟩
                · rw [decide_eq_false (by omega)]
                  have g9 : s.dw < 0 := by omega
                  go_enter Try.func9, Try.ntmps9
                  go_wp2_with fail
                  refine (H1.out _).mono ?_
                  rintro e w1 ⟨rfl, rfl⟩
                  go_wp2_with fail
                  go_ret
                  exact ⟨by first | rfl | exact ret_bool (by simp; omega), HE⟩
              · rw [decide_eq_false (by omega)]
                have g9 : 4294967296 < s.uw := by omega
                go_enter Try.func9, Try.ntmps9
                go_wp2_with fail
                refine (H1.out _).mono ?_
                rintro e w1 ⟨rfl, rfl⟩
                go_wp2_with fail
                go_ret
                exact ⟨by first | rfl | exact ret_bool (by simp; omega), HE⟩
            · rw [decide_eq_false (by omega)]
              have g9 : s.uw < 0 := by omega
              go_enter Try.func9, Try.ntmps9
              go_wp2_with fail
              refine (H1.out _).mono ?_
              rintro e w1 ⟨rfl, rfl⟩
              go_wp2_with fail
              go_ret
              exact ⟨by first | rfl | exact ret_bool (by simp; omega), HE⟩
          · rw [decide_eq_false (by omega)]
            have g9 : 99 < s.sl := by omega
            go_enter Try.func9, Try.ntmps9
            go_wp2_with fail
            refine (H1.out _).mono ?_
            rintro e w1 ⟨rfl, rfl⟩
            go_wp2_with fail
            go_ret
            exact ⟨by first | rfl | exact ret_bool (by simp; omega), HE⟩
        · rw [decide_eq_false (by omega)]
          have g9 : s.sl < 0 := by omega
          go_enter Try.func9, Try.ntmps9
          go_wp2_with fail
          refine (H1.out _).mono ?_
          rintro e w1 ⟨rfl, rfl⟩
          go_wp2_with fail
          go_ret
          exact ⟨by first | rfl | exact ret_bool (by simp; omega), HE⟩
      · rw [decide_eq_false (by omega)]
        have g9 : 1000 < s.pr := by omega
        go_enter Try.func9, Try.ntmps9
        go_wp2_with fail
        refine (H1.out _).mono ?_
        rintro e w1 ⟨rfl, rfl⟩
        go_wp2_with fail
        go_ret
        exact ⟨by first | rfl | exact ret_bool (by simp; omega), HE⟩
    · rw [decide_eq_false (by omega)]
      have g9 : s.pr < 1 := by omega
      go_enter Try.func9, Try.ntmps9
      go_wp2_with fail
      refine (H1.out _).mono ?_
      rintro e w1 ⟨rfl, rfl⟩
      go_wp2_with fail
      go_ret
      exact ⟨by first | rfl | exact ret_bool (by simp; omega), HE⟩
  · rw [decide_eq_false (fun h => g0 (hI.1 h).1)]
    rw [decide_eq_false g0] at H1
    clear g0 hI
    go_enter Try.func9, Try.ntmps9
    go_wp2_with fail
    refine (H1.out _).mono ?_
    rintro e w1 ⟨rfl, rfl⟩
    go_wp2_with fail
    go_ret
    exact ⟨by first | rfl | exact ret_bool (by simp; omega), HE⟩
/-- New: a whole scaler. -/
theorem rnew_any (s : Sg) (w : World) : Calls Try.prog 11 #[.agg (SgV s)] w fun e w' => e = .returned (.agg (RkC (Pk.new s))) ∧ Hid (Below w.heap.size w w') := by
  unfold SgV
  go_enter Try.func11, Try.ntmps11
  go_wp2
  exact bodyPost_ret (v := .agg #[.int .i64 s.mn, .int .i64 s.mx, .int .i64 s.pr, .int .i64 s.sl, .int .i64 s.uw, .int .i64 s.dw, .int .i64 0, .int .i64 (-1), .int .i64 (-1)]) (by simp [results, Try.results11, go_sem]) rfl ⟨rfl, by unfold Hid; go_grown⟩
theorem rago_any (h : RkAt w b P) (hn : 0 ≤ P.now ∧ P.now ≤ 1099511627776) {t : Int} (ht : -1 ≤ t ∧ t ≤ P.now) (wt : Int) : Calls Try.prog 31 #[.pointer (some ⟨b, 0, none⟩), .int .i64 t, .int .i64 wt] w fun e w' => e = .returned (.bool (agZ t P.now wt)) ∧ w' = w := by
  have c6 := h.cs.now
  unfold agZ
  by_cases h0 : t < 0
  · rw [decide_eq_true h0]
    clear h hn ht
    go_enter Try.func31, Try.ntmps31
    go_wp2_with fail
    go_ret
    exact ⟨by first | rfl | simp, rfl⟩
  · have v1 : wrap64 (P.now - t) = P.now - t := by unfold wrap64; omega
    have v2 : IntKind.i64.wrap (P.now - t) = P.now - t := by rw [IntKind.wrap_i64]; omega
    rw [decide_eq_false h0]
    clear h hn ht
    go_enter Try.func31, Try.ntmps31
    go_wp2_with fail
    go_ret
    exact ⟨by first | rfl | simp [v1, v2], rfl⟩
theorem rset_any (h : RkAt w b P) (x y : Int) : Calls Try.prog 14 #[.pointer (some ⟨b, 0, none⟩), .int .i64 x, .int .i64 y] w fun e w' => e = .returned (.bool (decide (Bnd x y))) ∧ Hid (RkAt w' b (P.put x y) ∧ Tn b w w') := by
  have hB := rbounds_any x y w
  have c0 := h.cs.mn
  have c1 := h.cs.mx
  have f0 := h.frozen 0
  have f1 := h.frozen 1
  unfold Pk.put
  by_cases hb : Bnd x y
  · rw [if_pos hb]
    rw [decide_eq_true hb] at hB ⊢
    have HX : Hid (RkAt ((w.setCell ⟨b, 0, none⟩ (.int .i64 x)).setCell ⟨b, 1, none⟩ (.int .i64 y)) b { P with mn := x, mx := y } ∧ Tn b w ((w.setCell ⟨b, 0, none⟩ (.int .i64 x)).setCell ⟨b, 1, none⟩ (.int .i64 y))) := ⟨(h.set (P' := { P with mn := x }) rfl).set rfl, ((Tn.refl b w).set _ _).set _ _⟩
    clear h hb
    go_enter Try.func14, Try.ntmps14
    go_wp2_with fail
    refine hB.mono ?_
    rintro e w2 ⟨rfl, rfl⟩
    clear hB
    go_wp2_with fail
    go_ret
    exact ⟨rfl, HX⟩
  · rw [if_neg hb]
    rw [decide_eq_false hb] at hB ⊢
    have HX := hid (And.intro h (Tn.refl b w))
    clear h hb
    go_enter Try.func14, Try.ntmps14
    go_wp2_with fail
    refine hB.mono ?_
    rintro e w2 ⟨rfl, rfl⟩
    clear hB
    go_wp2_with fail
    go_ret
    exact ⟨rfl, HX⟩
theorem rwant_any (h : RkAt w b P) (ok : PkOk P) (load : Int) : Calls Try.prog 19 #[.pointer (some ⟨b, 0, none⟩), .int .i64 load] w fun e w' => e = .returned (.int .i64 (P.want load)) ∧ ∃ m, w' = w.drewN m := by
  have c2 := h.cs.pr
  have d0 := fun n : Nat => (h.drewN n).cs.mn
  have d1 := fun n : Nat => (h.drewN n).cs.mx
  have hnb := nd_bd ok.pr.1 load
  obtain ⟨N, hN⟩ : ∃ N : Nat, nd P.pr load = (N : Int) := ⟨(nd P.pr load).toNat, by omega⟩
  have hN8 : N ≤ 8 := by omega
  have HLE := hid fun (k : Nat) (h : (k : Int) ≤ 7) => nd_le (pr := P.pr) (load := load) ok.pr.1 (Int.natCast_nonneg k) h
  have HKB := hid fun (k : Nat) (h : (k : Int) ≤ 8) => kpr_bd ok.pr (k := (k : Int)) ⟨Int.natCast_nonneg k, h⟩
  have hm := fun W : World => bmax_i (N : Int) P.mn W
  have hi : ∀ W : World, (Builtin.min_ #[3, 3] 3 #[.int .i64 (mx2 (N : Int) P.mn), .int .i64 P.mx]).run Try.prog W = .ok (.int .i64 (P.want load)) W := fun W => by
    have := bmin_i (mx2 (N : Int) P.mn) P.mx W
    rw [← hN] at this ⊢
    exact this
  rw [hN] at HLE hnb
  clear h ok hN
  generalize P.want load = r at *
  generalize mx2 (N : Int) P.mn = g at *
  go_enter Try.func19, Try.ntmps19
  go_wp2_with fail
  go_loopw [5] (fun z W' => ∃ k : Nat, k ≤ N ∧ z = .int .i64 k ∧ W' = w) (fun z _ => N - (intOf z).toNat)
  case atStart => exact ⟨0, by omega, rfl, rfl⟩
  case round =>
  obtain ⟨k, hk, rfl, hW⟩ := hrel
  rename World => wr
  subst hW
  have kb := HKB.out k (by omega)
  have a2 : IntKind.i64.wrap ((k : Int) * P.pr) = (k : Int) * P.pr := by rw [IntKind.wrap_i64]; omega
  have a3 : wrap64 ((k : Int) * P.pr) = (k : Int) * P.pr := by unfold wrap64; omega
  by_cases h8 : k < 8
  · have g1 : (k : Int) < 8 := by omega
    have le := HLE.out k (by omega)
    by_cases hl : (k : Int) * P.pr < load
    · have hk2 : k < N := by
        have : ¬ (N : Int) ≤ k := fun h => absurd (le.2 h) (by omega)
        omega
      clear HLE HKB kb le hm hi d0 d1
      go_wp2_with fail
      go_round
      case rel => exact ⟨k + 1, by omega, by go_num, trivial⟩
      case measure => simp [intOf]; omega
    · have hk2 : k = N := by
        have : (N : Int) ≤ k := le.1 (by omega)
        omega
      have hl2 : load ≤ (k : Int) * P.pr := by omega
      clear HLE HKB kb le
      subst hk2
      go_wp2_with fail
      go_quiet (fail)
      go_wp2_with fail
      go_ret
      exact ⟨rfl, _, rfl⟩
  · have hk2 : k = N := by omega
    have hk3 : k = 8 := by omega
    have g2 : (8 : Int) ≤ (k : Int) := by omega
    clear HLE HKB kb hk3
    subst hk2
    go_wp2_with fail
    go_quiet (fail)
    go_wp2_with fail
    go_ret
    exact ⟨rfl, _, rfl⟩
end Go.Proofs.Ytkkkabgljppilaa
