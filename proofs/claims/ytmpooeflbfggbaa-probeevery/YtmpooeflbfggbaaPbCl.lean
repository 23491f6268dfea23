/-
  Package probe: New, Tick, Pong, Up, Due, Now, Asked.
-/
import Derived.Test.YtmpooeflbfggbaaPbGo
namespace Go.Proofs.Ytmpooeflbfggbaa
open Go.RowKit
set_option linter.unusedVariables false
set_option maxRecDepth 1000000
variable {b : Nat} {w w' : World} {P : Pk}

theorem ptick_any (h : PkAt w b P) (ok : PkOk P) (t : Int) : Calls Try.prog 12 #[.pointer (some ⟨b, 0, none⟩), .int .i64 t] w fun e w' => e = .returned (.tuple #[.int .u64 (P.go t).tkn, .bool (P.go t).tkb]) ∧ Hid (PkAt w' b (P.go t).tk ∧ Tn b w w') := by
  have hM := pmade_yes h ok
  have hG := pgo_any h ok t
  have okg := ok.go t
  clear h ok
  generalize P.go t = Q at *
  have HA := hid fun (W : World) (g : PkAt W b Q) => pask_any g okg
  clear okg
  by_cases hx : Q.now < Q.nx
  · have e1 : Q.tkn = 0 := if_pos hx
    have e2 : Q.tkb = false := decide_eq_false (by omega)
    have e3 : Q.tk = Q := if_pos hx
    rw [e1, e2, e3]
    have db : decide (Q.now < Q.nx) = true := decide_eq_true hx
    clear e1 e2 e3 HA hx
    go_enter Try.func12, Try.ntmps12
    go_wp2_with fail
    refine hM.mono ?_
    rintro e w1 ⟨rfl, rfl⟩
    go_wp2_with fail
    refine hG.mono ?_
    rintro e w2 ⟨rfl, H⟩
    have d4 := fun n : Nat => (H.out.1.drewN n).cs.now
    have d6 := fun n : Nat => (H.out.1.drewN n).cs.nx
    have HE := hid fun n : Nat => And.intro (H.out.1.drewN n) (H.out.2.drewN n)
    clear hM hG H
    go_wp2_with fail
    go_quiet (fail)
    go_wp2_with fail
    go_ret2
    exact ⟨rfl, HE.out _⟩
  · have e1 : Q.tkn = Q.ask + 1 := if_neg hx
    have e2 : Q.tkb = true := decide_eq_true (by omega)
    have e3 : Q.tk = Q.asks := if_neg hx
    rw [e1, e2, e3]
    have db : decide (Q.now < Q.nx) = false := decide_eq_false hx
    clear e1 e2 e3 hx
    go_enter Try.func12, Try.ntmps12
    go_wp2_with fail
    refine hM.mono ?_
    rintro e w1 ⟨rfl, rfl⟩
    go_wp2_with fail
    refine hG.mono ?_
    rintro e w2 ⟨rfl, H⟩
    have d4 := fun n : Nat => (H.out.1.drewN n).cs.now
    have d6 := fun n : Nat => (H.out.1.drewN n).cs.nx
    have HE := hid fun n : Nat => And.intro (HA.out _ (H.out.1.drewN n)) (H.out.2.drewN n)
    clear hM hG H HA
    go_wp2_with fail
    go_quiet (fail)
    go_wp2_with fail
    refine (HE.out _).1.mono ?_
    rintro e w3 ⟨rfl, H⟩
    have c8 : w3.cell? ⟨b, 8, none⟩ = some (.int .u64 (Q.ask + 1)) := H.out.1.cs.ask
    have HX := hid (And.intro H.out.1 ((HE.out _).2.trans H.out.2))
    clear H HE d4 d6
    go_wp2_with fail
    go_ret2
    exact ⟨rfl, HX⟩
theorem ppong_any (h : PkAt w b P) (ok : PkOk P) (t n : Int) : Calls Try.prog 14 #[.pointer (some ⟨b, 0, none⟩), .int .i64 t, .int .u64 n] w fun e w' => e = .returned (.bool ((P.go t).yes n)) ∧ Hid (PkAt w' b ((P.go t).pg n) ∧ Tn b w w') := by
  have hM := pmade_yes h ok
  have hG := pgo_any h ok t
  have okg := ok.go t
  clear h ok
  generalize P.go t = Q at *
  have HC := hid fun (W : World) (g : PkAt W b Q) => pcame_any g okg
  clear okg
  cases ho : Q.op with
  | false =>
    have e1 : Q.yes n = false := by unfold Pk.yes; rw [ho]; rfl
    have e2 : Q.pg n = Q := by unfold Pk.pg; rw [e1, if_neg (by decide)]
    rw [e1, e2]
    have HO := hid ho
    clear e1 e2 HC ho
    go_enter Try.func14, Try.ntmps14
    go_wp2_with fail
    refine hM.mono ?_
    rintro e w1 ⟨rfl, rfl⟩
    go_wp2_with fail
    refine hG.mono ?_
    rintro e w2 ⟨rfl, H⟩
    have c9 := H.out.1.cs.op
    rw [HO.out] at c9
    clear hM hG
    go_wp2_with fail
    go_ret
    exact ⟨rfl, H⟩
  | true =>
    by_cases hn : n = Q.ask
    · have e1 : Q.yes n = true := by unfold Pk.yes; rw [ho]; simp [hn]
      have e2 : Q.pg n = Q.came := by unfold Pk.pg; rw [e1, if_pos rfl]
      rw [e1, e2]
      have HO := hid ho
      have HN := hid hn
      clear e1 e2 ho hn
      go_enter Try.func14, Try.ntmps14
      go_wp2_with fail
      refine hM.mono ?_
      rintro e w1 ⟨rfl, rfl⟩
      go_wp2_with fail
      refine hG.mono ?_
      rintro e w2 ⟨rfl, H⟩
      have c9 := H.out.1.cs.op
      have c8 := H.out.1.cs.ask
      rw [HO.out] at c9
      rw [← HN.out] at c8
      have HX := hid (HC.out _ H.out.1)
      clear hM hG HC
      go_wp2_with fail
      refine HX.out.mono ?_
      rintro e w3 ⟨rfl, H3⟩
      have HE := hid (And.intro H3.out.1 (H.out.2.trans H3.out.2))
      clear H3 H HX
      go_wp2_with fail
      go_ret
      exact ⟨rfl, HE⟩
    · have e1 : Q.yes n = false := by unfold Pk.yes; rw [ho]; simp [hn]
      have e2 : Q.pg n = Q := by unfold Pk.pg; rw [e1, if_neg (by decide)]
      rw [e1, e2]
      have HO := hid ho
      have db : decide (n = Q.ask) = false := decide_eq_false hn
      have db2 : (n == Q.ask) = false := beq_eq_false_iff_ne.2 hn
      clear e1 e2 ho HC
      go_enter Try.func14, Try.ntmps14
      go_wp2_with fail
      refine hM.mono ?_
      rintro e w1 ⟨rfl, rfl⟩
      go_wp2_with fail
      refine hG.mono ?_
      rintro e w2 ⟨rfl, H⟩
      have c9 := H.out.1.cs.op
      have c8 := H.out.1.cs.ask
      rw [HO.out] at c9
      clear hM hG
      go_wp2_with fail
      go_ret
      exact ⟨rfl, H⟩
theorem pup_any (h : PkAt w b P) (ok : PkOk P) : Calls Try.prog 16 #[.pointer (some ⟨b, 0, none⟩)] w fun e w' => e = .returned (.bool P.up) ∧ w' = w := by
  have hM := pmade_yes h ok
  have c5 := h.cs.up
  clear h ok
  go_enter Try.func16, Try.ntmps16
  go_wp2_with fail
  refine hM.mono ?_
  rintro e w1 ⟨rfl, rfl⟩
  go_wp2_with fail
  go_ret
  exact ⟨rfl, rfl⟩
theorem pnow_any (h : PkAt w b P) (ok : PkOk P) : Calls Try.prog 19 #[.pointer (some ⟨b, 0, none⟩)] w fun e w' => e = .returned (.int .i64 P.now) ∧ w' = w := by
  have hM := pmade_yes h ok
  have c5 := h.cs.now
  clear h ok
  go_enter Try.func19, Try.ntmps19
  go_wp2_with fail
  refine hM.mono ?_
  rintro e w1 ⟨rfl, rfl⟩
  go_wp2_with fail
  go_ret
  exact ⟨rfl, rfl⟩
theorem pasked_any (h : PkAt w b P) (ok : PkOk P) : Calls Try.prog 20 #[.pointer (some ⟨b, 0, none⟩)] w fun e w' => e = .returned (.int .u64 P.ask) ∧ w' = w := by
  have hM := pmade_yes h ok
  have c5 := h.cs.ask
  clear h ok
  go_enter Try.func20, Try.ntmps20
  go_wp2_with fail
  refine hM.mono ?_
  rintro e w1 ⟨rfl, rfl⟩
  go_wp2_with fail
  go_ret
  exact ⟨rfl, rfl⟩
/-- The lesser, by the builtin min. -/
theorem min_le (x m : Int) (W : World) : (Builtin.min_ #[2, 2] 2 #[.int .i64 x, .int .i64 m]).run Try.prog W = .ok (.int .i64 (if x ≤ m then x else m)) W := by
  by_cases h : x ≤ m
  · rw [if_pos h]
    by_cases h2 : x = m
    · subst h2
      simp [Builtin.min_, Builtin.min2, go_sem]
    · have h3 : x < m := by omega
      simp [Builtin.min_, Builtin.min2, go_sem]
      omega
  · rw [if_neg h]
    have h3 : ¬ x < m := by omega
    simp [Builtin.min_, Builtin.min2, go_sem]
    omega
theorem pdue_any (h : PkAt w b P) (ok : PkOk P) : Calls Try.prog 17 #[.pointer (some ⟨b, 0, none⟩)] w fun e w' => e = .returned (.int .i64 P.due) ∧ ∃ m, w' = w.drewN m := by
  have hM := pmade_yes h ok
  have c9 := h.cs.op
  have c6 := h.cs.nx
  have d6 := fun n : Nat => (h.drewN n).cs.nx
  have d7 := fun n : Nat => (h.drewN n).cs.en
  clear h ok
  cases ho : P.op with
  | false =>
    have e : P.due = P.nx := by unfold Pk.due; rw [ho]; rfl
    rw [e]
    rw [ho] at c9
    clear e ho d6 d7
    go_enter Try.func17, Try.ntmps17
    go_wp2_with fail
    refine hM.mono ?_
    rintro e w1 ⟨rfl, rfl⟩
    go_wp2_with fail
    go_ret
    exact ⟨rfl, 0, rfl⟩
  | true =>
    have e : P.due = if P.nx ≤ P.en then P.nx else P.en := by unfold Pk.due; rw [ho]; rfl
    have hm := fun W : World => min_le P.nx P.en W
    rw [← e] at hm
    rw [ho] at c9
    clear e ho c6
    generalize P.due = du at *
    go_enter Try.func17, Try.ntmps17
    go_wp2_with fail
    refine hM.mono ?_
    rintro e w1 ⟨rfl, rfl⟩
    go_wp2_with fail
    go_quiet (fail)
    go_wp2_with fail
    go_ret
    exact ⟨rfl, _, rfl⟩
/-! ### New -/
theorem pnew_yes {s : Sg} (h : s.Is) (w : World) : Calls Try.prog 7 #[.agg (SgV s)] w fun e w' => ∃ b, e = .returned (.tuple #[.pointer (some ⟨b, 0, none⟩), .int .i64 0]) ∧ Hid (PkAt w' b (Pk.new s) ∧ Below w.heap.size w w' ∧ w.heap.size ≤ b) := by
  obtain ⟨W0, hW0⟩ : ∃ W0, W0 = w.alloc (.cells (SgV s) 29) := ⟨_, rfl⟩
  have hb0 : Below w.heap.size w W0 := by rw [hW0]; exact (Below.refl _ _).alloc (Nat.le_refl _) _
  have hv0 : W0.heap[w.heap.size]? = some (.cells (SgV s) 29 (0, 0)) := by rw [hW0]; exact heap_alloc_new w _
  have HM := pmay_any s W0
  rw [decide_eq_true h] at HM
  have HK : Hid (∀ W : World, Below W0.heap.size W0 W → W.heap[w.heap.size]? = some (.cells (SgV s) 29 (0, 0)) ∧ Below w.heap.size w W) := fun W hb => ⟨block_bel hv0 hb, hb0.trans (hb.mono hb0.size)⟩
  have c0 : W0.cell? ⟨w.heap.size, 0, none⟩ = some (.int .i64 s.e) := by rw [cell_of_row _ _ _ _ _ _ hv0]; rfl
  have c1 : W0.cell? ⟨w.heap.size, 1, none⟩ = some (.int .i64 s.wt) := by rw [cell_of_row _ _ _ _ _ _ hv0]; rfl
  have c2 : W0.cell? ⟨w.heap.size, 2, none⟩ = some (.int .i64 s.m) := by rw [cell_of_row _ _ _ _ _ _ hv0]; rfl
  have c3 : W0.cell? ⟨w.heap.size, 3, none⟩ = some (.int .i64 s.h) := by rw [cell_of_row _ _ _ _ _ _ hv0]; rfl
  unfold SgV at hW0 HM ⊢
  obtain ⟨q, hq⟩ : ∃ q, w.heap.size = q := ⟨_, rfl⟩
  have HQ := hid hq
  rw [hq] at c0 c1 c2 c3
  clear hb0 hv0 hq h
  go_enter Try.func7, Try.ntmps7
  go_wp2_with fail
  try rw [← hW0]
  try rw [HQ.out]
  refine HM.mono ?_
  rintro e w1 ⟨rfl, hb⟩
  obtain ⟨k1, k2⟩ := HK.out _ hb.out
  rw [HQ.out] at k1
  have d0 : w1.cell? ⟨q, 0, none⟩ = some (.int .i64 s.e) := by rw [cell_of_row _ _ _ _ _ _ k1]; rfl
  have d1 : w1.cell? ⟨q, 1, none⟩ = some (.int .i64 s.wt) := by rw [cell_of_row _ _ _ _ _ _ k1]; rfl
  have d2 : w1.cell? ⟨q, 2, none⟩ = some (.int .i64 s.m) := by rw [cell_of_row _ _ _ _ _ _ k1]; rfl
  have d3 : w1.cell? ⟨q, 3, none⟩ = some (.int .i64 s.h) := by rw [cell_of_row _ _ _ _ _ _ k1]; rfl
  have hs := k2.size
  have HE : Hid (PkAt (w1.alloc (.cells #[.int .i64 s.e, .int .i64 s.wt, .int .i64 s.m, .int .i64 s.h, .int .i64 0, .bool false, .int .i64 0, .int .i64 0, .int .u64 0, .bool false, .int .i64 0, .int .i64 0] 48)) w1.heap.size (Pk.new s) ∧ Below w.heap.size w (w1.alloc (.cells #[.int .i64 s.e, .int .i64 s.wt, .int .i64 s.m, .int .i64 s.h, .int .i64 0, .bool false, .int .i64 0, .int .i64 0, .int .u64 0, .bool false, .int .i64 0, .int .i64 0] 48)) ∧ w.heap.size ≤ w1.heap.size) := ⟨heap_alloc_new w1 _, k2.alloc hs _, hs⟩
  clear k1 k2 hb c0 c1 c2 c3 HK HM hW0 hs
  go_wp2_with fail
  go_ret2
  exact ⟨_, rfl, HE⟩
theorem pnew_no {s : Sg} (h : ¬ s.Is) (w : World) : Calls Try.prog 7 #[.agg (SgV s)] w fun e w' => e = .returned (.tuple #[.pointer none, .int .i64 1]) ∧ Hid (Below w.heap.size w w') := by
  obtain ⟨W0, hW0⟩ : ∃ W0, W0 = w.alloc (.cells (SgV s) 29) := ⟨_, rfl⟩
  have hb0 : Below w.heap.size w W0 := by rw [hW0]; exact (Below.refl _ _).alloc (Nat.le_refl _) _
  have hv0 : W0.heap[w.heap.size]? = some (.cells (SgV s) 29 (0, 0)) := by rw [hW0]; exact heap_alloc_new w _
  have HM := pmay_any s W0
  rw [decide_eq_false h] at HM
  have HK : Hid (∀ W : World, Below W0.heap.size W0 W → Below w.heap.size w W) := fun W hb => hb0.trans (hb.mono hb0.size)
  have c0 : W0.cell? ⟨w.heap.size, 0, none⟩ = some (.int .i64 s.e) := by rw [cell_of_row _ _ _ _ _ _ hv0]; rfl
  have c1 : W0.cell? ⟨w.heap.size, 1, none⟩ = some (.int .i64 s.wt) := by rw [cell_of_row _ _ _ _ _ _ hv0]; rfl
  have c2 : W0.cell? ⟨w.heap.size, 2, none⟩ = some (.int .i64 s.m) := by rw [cell_of_row _ _ _ _ _ _ hv0]; rfl
  have c3 : W0.cell? ⟨w.heap.size, 3, none⟩ = some (.int .i64 s.h) := by rw [cell_of_row _ _ _ _ _ _ hv0]; rfl
  unfold SgV at hW0 HM ⊢
  clear hb0 hv0 h
  go_enter Try.func7, Try.ntmps7
  go_wp2_with fail
  try rw [← hW0]
  refine HM.mono ?_
  rintro e w1 ⟨rfl, hb⟩
  have HE := hid (HK.out _ hb.out)
  clear hb HK HM hW0 c0 c1 c2 c3
  go_wp2_with fail
  go_ret2
  exact ⟨rfl, HE⟩
end Go.Proofs.Ytmpooeflbfggbaa
