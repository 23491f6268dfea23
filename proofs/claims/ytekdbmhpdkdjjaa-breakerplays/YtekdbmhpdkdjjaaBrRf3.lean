/-
  The document's breaker: Fail.
-/
import Derived.Test.YtekdbmhpdkdjjaaBrRf
import Derived.Deep.RegionHeld3
import Derived.StillTailTactics
namespace Go.Proofs.Ytekdbmhpdkdjjaa
open Go.RowKit
set_option linter.unusedVariables false
set_option maxRecDepth 1000000
variable {b : Nat} {w w' : World} {P : Pk} {R : Rk}

/-- Twice as long, by the builtin min. -/
theorem min_tw (x m : Int) (W : World) : (Builtin.min_ #[2, 2] 2 #[.int .i64 (2 * x), .int .i64 m]).run Try.prog W = .ok (.int .i64 (twZ x m)) W := by
  rw [show twZ x m = if 2 * x ≤ m then 2 * x else m from rfl]
  by_cases h : 2 * x ≤ m
  · rw [if_pos h]
    by_cases h2 : 2 * x = m
    · subst h2
      simp [Builtin.min_, Builtin.min2, go_sem]
    · have h3 : 2 * x < m := by omega
      simp [Builtin.min_, Builtin.min2, go_sem]
      omega
  · rw [if_neg h]
    have h3 : ¬ 2 * x < m := by omega
    simp [Builtin.min_, Builtin.min2, go_sem]
    omega
theorem rfail_any (h : RkAt w b R) (t : Int) (hc : (R.ltr t).st = 0 → 0 ≤ (R.ltr t).cnt ∧ (R.ltr t).cnt ≤ 1000) (hb : (0 ≤ (R.ltr t).t ∧ (R.ltr t).t ≤ 1099511627776) ∧ 0 ≤ (R.ltr t).cool ∧ (R.ltr t).cool ≤ 4294967296) : Calls Try.prog 18 #[.pointer (some ⟨b, 0, none⟩), .int .i64 t] w fun e w' => e = .returned (.tuple #[]) ∧ Hid (RkAt w' b (R.ltr t).fls ∧ Tn b w w') := by
  have hG := rlater_any h t
  clear h
  generalize R.ltr t = Q at *
  obtain ⟨⟨b0, b1⟩, b2, b3⟩ := hb
  have hw1 : IntKind.i64.wrap (Q.t + Q.cool) = Q.t + Q.cool := by rw [IntKind.wrap_i64]; omega
  have hw2 : IntKind.i64.wrap (2 * Q.cool) = 2 * Q.cool := by rw [IntKind.wrap_i64]; omega
  obtain ⟨tw, htw⟩ : ∃ tw, twZ Q.cool Q.m = tw := ⟨_, rfl⟩
  have htw2 : ∀ W : World, (Builtin.min_ #[2, 2] 2 #[.int .i64 (2 * Q.cool), .int .i64 Q.m]).run Try.prog W = .ok (.int .i64 tw) W := fun W => by
    rw [← htw]
    exact min_tw _ _ W
  have Htw := hid htw
  clear htw
  by_cases h1 : Q.st = 1
  · have e : Q.fls = Q := if_pos h1
    rw [e]
    have H2 := hid h1
    clear e h1 hc
    go_enter Try.func18, Try.ntmps18
    go_wp2_with fail
    refine hG.mono ?_
    rintro e w2 ⟨rfl, H⟩
    have c4 := H.out.1.cells.2.2.2.2.1
    rw [H2.out] at c4
    clear hG
    go_wp2_with fail
    refine bodyPost_ret (results_none rfl _ _ _) rfl ?_
    exact ⟨rfl, H⟩
  · by_cases h0 : Q.st = 0
    · obtain ⟨k0, k1⟩ := hc h0
      have H0 := hid h0
      have hw3 : IntKind.i64.wrap (Q.cnt + 1) = Q.cnt + 1 := by rw [IntKind.wrap_i64]; omega
      by_cases hn : Q.cnt + 1 < Q.f
      · have e : Q.fls = { Q with cnt := Q.cnt + 1 } := by unfold Rk.fls; rw [if_neg h1, if_pos h0, if_pos hn]
        rw [e]
        clear e h0 h1 hc
        go_enter Try.func18, Try.ntmps18
        go_wp2_with fail
        refine hG.mono ?_
        rintro e w2 ⟨rfl, H⟩
        have c4 := H.out.1.cells.2.2.2.2.1
        have c5 := H.out.1.cells.2.2.2.2.2.1
        have f5 := H.out.1.frozen 5
        rw [H0.out] at c4
        obtain ⟨W3, hW3⟩ : ∃ W3, w2.setCell ⟨b, 5, none⟩ (.int .i64 (Q.cnt + 1)) = W3 := ⟨_, rfl⟩
        have HX : Hid (RkAt W3 b { Q with cnt := Q.cnt + 1 } ∧ Tn b w W3) := by rw [← hW3]; exact ⟨H.out.1.set rfl, H.out.2.set _ _⟩
        have d5 := fun n : Nat => (HX.out.1.drewN n).cells.2.2.2.2.2.1
        have d0 := fun n : Nat => (HX.out.1.drewN n).cells.1
        simp only at d5 d0
        clear hG H
        go_wp2_with fail
        try rw [hW3]
        clear hW3 c4 c5 f5
        have HY := hid fun n : Nat => (⟨HX.out.1.drewN n, HX.out.2.drewN n⟩ : RkAt (W3.drewN n) b { Q with cnt := Q.cnt + 1 } ∧ Tn b w (W3.drewN n))
        have db : decide (Q.cnt + 1 < Q.f) = true := decide_eq_true hn
        clear HX
        go_quiet (fail)
        go_wp2_with fail
        refine bodyPost_ret (results_none rfl _ _ _) rfl ?_
        exact ⟨rfl, HY.out _⟩
      · have e : Q.fls = ({ Q with cnt := Q.cnt + 1 } : Rk).opn := by unfold Rk.fls; rw [if_neg h1, if_pos h0, if_neg hn]
        rw [e]
        clear e h0 h1 hc
        go_enter Try.func18, Try.ntmps18
        go_wp2_with fail
        refine hG.mono ?_
        rintro e w2 ⟨rfl, H⟩
        have c4 := H.out.1.cells.2.2.2.2.1
        have c5 := H.out.1.cells.2.2.2.2.2.1
        have f5 := H.out.1.frozen 5
        rw [H0.out] at c4
        obtain ⟨W3, hW3⟩ : ∃ W3, w2.setCell ⟨b, 5, none⟩ (.int .i64 (Q.cnt + 1)) = W3 := ⟨_, rfl⟩
        have HX : Hid (RkAt W3 b { Q with cnt := Q.cnt + 1 } ∧ Tn b w W3) := by rw [← hW3]; exact ⟨H.out.1.set rfl, H.out.2.set _ _⟩
        have d5 := fun n : Nat => (HX.out.1.drewN n).cells.2.2.2.2.2.1
        have d0 := fun n : Nat => (HX.out.1.drewN n).cells.1
        simp only at d5 d0
        clear hG H
        go_wp2_with fail
        try rw [hW3]
        clear hW3 c4 c5 f5
        have db : decide (Q.cnt + 1 < Q.f) = false := decide_eq_false (by omega)
        go_quiet (fail)
        go_wp2_with fail
        have HX9 := hid (And.intro (HX.out.1.drewN ‹Nat›) (HX.out.2.drewN ‹Nat›))
        clear HX d5 d0 db
        generalize W3.drewN ‹Nat› = w2 at *
        have HX := HX9
        clear HX9
        have c9 := HX.out.1.cells.2.2.2.2.2.2.2.2.2
        have c6 := HX.out.1.cells.2.2.2.2.2.2.1
        have c4 := HX.out.1.cells.2.2.2.2.1
        have c7 := HX.out.1.cells.2.2.2.2.2.2.2.1
        have f4 := HX.out.1.frozen 4
        have g1 := (HX.out.1.set (k := 4) (u := .int .i64 1) (R' := { { Q with cnt := Q.cnt + 1 } with st := 1 }) rfl)
        have t1 := HX.out.2.set 4 (.int .i64 1)
        have g2 := (g1.set (k := 7) (u := .int .i64 (Q.t + Q.cool)) (R' := { { Q with cnt := Q.cnt + 1 } with st := 1, un := Q.t + Q.cool }) rfl)
        have t2 := t1.set 7 (.int .i64 (Q.t + Q.cool))
        have d9 := g1.cells.2.2.2.2.2.2.2.2.2
        have d6 := g1.cells.2.2.2.2.2.2.1
        have d7 := g1.cells.2.2.2.2.2.2.2.1
        have f7 := g1.frozen 7
        have e9 := g2.cells.2.2.2.2.2.2.2.2.2
        have e6 := g2.cells.2.2.2.2.2.2.1
        have c9' : w2.drew.cell? ⟨b, 9, none⟩ = some (.int .i64 Q.t) := c9
        have c6' : w2.drew.cell? ⟨b, 6, none⟩ = some (.int .i64 Q.cool) := c6
        have d9' : (w2.setCell ⟨b, 4, none⟩ (.int .i64 1)).drew.cell? ⟨b, 9, none⟩ = some (.int .i64 Q.t) := d9
        have d6' : (w2.setCell ⟨b, 4, none⟩ (.int .i64 1)).drew.cell? ⟨b, 6, none⟩ = some (.int .i64 Q.cool) := d6
        have e9' : ((w2.setCell ⟨b, 4, none⟩ (.int .i64 1)).setCell ⟨b, 7, none⟩ (.int .i64 (Q.t + Q.cool))).drew.cell? ⟨b, 9, none⟩ = some (.int .i64 Q.t) := e9
        have e6' : ((w2.setCell ⟨b, 4, none⟩ (.int .i64 1)).setCell ⟨b, 7, none⟩ (.int .i64 (Q.t + Q.cool))).drew.cell? ⟨b, 6, none⟩ = some (.int .i64 Q.cool) := e6
        have HX2 : Hid (RkAt ((w2.setCell ⟨b, 4, none⟩ (.int .i64 1)).setCell ⟨b, 7, none⟩ (.int .i64 (Q.t + Q.cool))).drew b { { Q with cnt := Q.cnt + 1 } with st := 1, un := Q.t + Q.cool } ∧ Tn b w ((w2.setCell ⟨b, 4, none⟩ (.int .i64 1)).setCell ⟨b, 7, none⟩ (.int .i64 (Q.t + Q.cool))).drew) := ⟨g2, t2.drew⟩
        try simp only at c9 c6 c4 c7 d9 d6 d7 e9 e6
        clear g1 g2 t1 t2 HX
        go_region_held3 (fun W : World => W.cell? ⟨b, 9, none⟩ = some (.int .i64 Q.t) ∧ W.cell? ⟨b, 6, none⟩ = some (.int .i64 Q.cool))
          (refine And.intro ?_ ?_ <;> with_reducible assumption)
          (first | fail)
        clear c9 c6 c4 c7 f4 d9 d6 d7 f7 e9 e6 c9' c6' d9' d6' e9' e6'
        generalize ((w2.setCell ⟨b, 4, none⟩ (.int .i64 1)).setCell ⟨b, 7, none⟩ (.int .i64 (Q.t + Q.cool))).drew = W3 at *
        go_wp2_with fail
        obtain ⟨W4, hW4⟩ : ∃ W4, W3.drew = W4 := ⟨_, rfl⟩
        have g4 : RkAt W4 b { { Q with cnt := Q.cnt + 1 } with st := 1, un := Q.t + Q.cool } := by rw [← hW4]; exact HX2.out.1
        have t4 : Tn b w W4 := by rw [← hW4]; exact HX2.out.2.drew
        have d2 := g4.cells.2.2.1
        have d6 := g4.cells.2.2.2.2.2.2.1
        have f6 := g4.frozen 6
        try simp only at d2 d6
        have HF := hid (And.intro (g4.set (k := 6) (u := .int .i64 tw) (R' := ({ Q with cnt := Q.cnt + 1 } : Rk).opn) (by rw [← Htw.out]; rfl)) (t4.set 6 (.int .i64 tw)))
        clear g4 t4 HX2
        refine wp_region_still_tail 12 rfl (by kernel_rfl) ?_
        rw [show ({ W3 with drawn := W3.drawn + 1 } : World) = W4 from hW4]
        clear hW4
        simp only [List.take_succ_cons, List.take_zero, List.drop_succ_cons, List.drop_zero]
        repeat still_step
        try refine wpStill_nil ?_
        go_wp2_with fail
        go_end0
        exact ⟨rfl, HF⟩
    · have e : Q.fls = Q.opn := by unfold Rk.fls; rw [if_neg h1, if_neg h0]
      rw [e]
      clear e hc
      go_enter Try.func18, Try.ntmps18
      go_wp2_with fail
      refine hG.mono ?_
      rintro e w2 ⟨rfl, HX⟩
      have c4 := HX.out.1.cells.2.2.2.2.1
      clear hG
      go_wp2_with fail
      clear c4
      have c9 := HX.out.1.cells.2.2.2.2.2.2.2.2.2
      have c6 := HX.out.1.cells.2.2.2.2.2.2.1
      have c4 := HX.out.1.cells.2.2.2.2.1
      have c7 := HX.out.1.cells.2.2.2.2.2.2.2.1
      have f4 := HX.out.1.frozen 4
      have g1 := (HX.out.1.set (k := 4) (u := .int .i64 1) (R' := { Q with st := 1 }) rfl)
      have t1 := HX.out.2.set 4 (.int .i64 1)
      have g2 := (g1.set (k := 7) (u := .int .i64 (Q.t + Q.cool)) (R' := { Q with st := 1, un := Q.t + Q.cool }) rfl)
      have t2 := t1.set 7 (.int .i64 (Q.t + Q.cool))
      have d9 := g1.cells.2.2.2.2.2.2.2.2.2
      have d6 := g1.cells.2.2.2.2.2.2.1
      have d7 := g1.cells.2.2.2.2.2.2.2.1
      have f7 := g1.frozen 7
      have e9 := g2.cells.2.2.2.2.2.2.2.2.2
      have e6 := g2.cells.2.2.2.2.2.2.1
      have c9' : w2.drew.cell? ⟨b, 9, none⟩ = some (.int .i64 Q.t) := c9
      have c6' : w2.drew.cell? ⟨b, 6, none⟩ = some (.int .i64 Q.cool) := c6
      have d9' : (w2.setCell ⟨b, 4, none⟩ (.int .i64 1)).drew.cell? ⟨b, 9, none⟩ = some (.int .i64 Q.t) := d9
      have d6' : (w2.setCell ⟨b, 4, none⟩ (.int .i64 1)).drew.cell? ⟨b, 6, none⟩ = some (.int .i64 Q.cool) := d6
      have e9' : ((w2.setCell ⟨b, 4, none⟩ (.int .i64 1)).setCell ⟨b, 7, none⟩ (.int .i64 (Q.t + Q.cool))).drew.cell? ⟨b, 9, none⟩ = some (.int .i64 Q.t) := e9
      have e6' : ((w2.setCell ⟨b, 4, none⟩ (.int .i64 1)).setCell ⟨b, 7, none⟩ (.int .i64 (Q.t + Q.cool))).drew.cell? ⟨b, 6, none⟩ = some (.int .i64 Q.cool) := e6
      have HX2 : Hid (RkAt ((w2.setCell ⟨b, 4, none⟩ (.int .i64 1)).setCell ⟨b, 7, none⟩ (.int .i64 (Q.t + Q.cool))).drew b { Q with st := 1, un := Q.t + Q.cool } ∧ Tn b w ((w2.setCell ⟨b, 4, none⟩ (.int .i64 1)).setCell ⟨b, 7, none⟩ (.int .i64 (Q.t + Q.cool))).drew) := ⟨g2, t2.drew⟩
      try simp only at c9 c6 c4 c7 d9 d6 d7 e9 e6
      clear g1 g2 t1 t2 HX
      go_region_held3 (fun W : World => W.cell? ⟨b, 9, none⟩ = some (.int .i64 Q.t) ∧ W.cell? ⟨b, 6, none⟩ = some (.int .i64 Q.cool))
        (refine And.intro ?_ ?_ <;> with_reducible assumption)
        (first | fail)
      clear c9 c6 c4 c7 f4 d9 d6 d7 f7 e9 e6 c9' c6' d9' d6' e9' e6'
      generalize ((w2.setCell ⟨b, 4, none⟩ (.int .i64 1)).setCell ⟨b, 7, none⟩ (.int .i64 (Q.t + Q.cool))).drew = W3 at *
      go_wp2_with fail
      obtain ⟨W4, hW4⟩ : ∃ W4, W3.drew = W4 := ⟨_, rfl⟩
      have g4 : RkAt W4 b { Q with st := 1, un := Q.t + Q.cool } := by rw [← hW4]; exact HX2.out.1
      have t4 : Tn b w W4 := by rw [← hW4]; exact HX2.out.2.drew
      have d2 := g4.cells.2.2.1
      have d6 := g4.cells.2.2.2.2.2.2.1
      have f6 := g4.frozen 6
      try simp only at d2 d6
      have HF := hid (And.intro (g4.set (k := 6) (u := .int .i64 tw) (R' := (Q : Rk).opn) (by rw [← Htw.out]; rfl)) (t4.set 6 (.int .i64 tw)))
      clear g4 t4 HX2
      refine wp_region_still_tail 12 rfl (by kernel_rfl) ?_
      rw [show ({ W3 with drawn := W3.drawn + 1 } : World) = W4 from hW4]
      clear hW4
      simp only [List.take_succ_cons, List.take_zero, List.drop_succ_cons, List.drop_zero]
      repeat still_step
      try refine wpStill_nil ?_
      go_wp2_with fail
      go_end0
      exact ⟨rfl, HF⟩
end Go.Proofs.Ytekdbmhpdkdjjaa
