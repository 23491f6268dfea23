/-
  The document's breaker: New, Leave, Allow, OK, Fail.
-/
import Derived.Test.YtekdbmhpdkdjjaaBrRf
namespace Go.Proofs.Ytekdbmhpdkdjjaa
open Go.RowKit
set_option linter.unusedVariables false
set_option maxRecDepth 1000000
variable {b : Nat} {w w' : World} {P : Pk} {R : Rk}

theorem rnew_any (s : Sg) (w : World) : Calls Try.prog 11 #[.agg (SgV s)] w fun e w' => e = .returned (.agg (RkC (Rk.new s 0))) ∧ Hid (Below w.heap.size w w') := by
  unfold SgV RkC Rk.new
  simp only
  go_enter Try.func11, Try.ntmps11
  go_wp2_with fail
  refine bodyPost_ret (v := .agg #[.int .i64 s.f, .int .i64 s.c, .int .i64 s.m, .int .i64 s.n, .int .i64 0, .int .i64 0, .int .i64 s.c, .int .i64 0, .bool false, .int .i64 0]) (by simp [results, Try.results11, go_sem]) rfl ⟨rfl, ?_⟩
  unfold Hid
  go_grown
theorem rleave_any (h : RkAt w b R) (t : Int) : Calls Try.prog 21 #[.pointer (some ⟨b, 0, none⟩), .int .i64 t] w fun e w' => e = .returned (.tuple #[]) ∧ Hid (RkAt w' b (R.ltr t).lve ∧ Tn b w w') := by
  have hG := rlater_any h t
  clear h
  generalize R.ltr t = Q at *
  by_cases h2 : Q.st = 2
  · have e : Q.lve = { Q with tr := false } := if_pos h2
    rw [e]
    have HE := hid fun (W : World) (h : RkAt W b Q ∧ Tn b w W) => (⟨h.1.set rfl, h.2.set _ _⟩ : RkAt (W.setCell ⟨b, 8, none⟩ (.bool false)) b { Q with tr := false } ∧ Tn b w (W.setCell ⟨b, 8, none⟩ (.bool false)))
    have H2 := hid h2
    clear e h2
    go_enter Try.func21, Try.ntmps21
    go_wp2_with fail
    refine hG.mono ?_
    rintro e w2 ⟨rfl, H⟩
    have c4 := H.out.1.cells.2.2.2.2.1
    have c8 := H.out.1.cells.2.2.2.2.2.2.2.2.1
    have f8 := H.out.1.frozen 8
    rw [H2.out] at c4
    have HX := hid (HE.out _ H.out)
    clear hG H HE
    go_wp2_with fail
    go_end0
    exact ⟨rfl, HX⟩
  · have e : Q.lve = Q := if_neg h2
    rw [e]
    clear e
    go_enter Try.func21, Try.ntmps21
    go_wp2_with fail
    refine hG.mono ?_
    rintro e w2 ⟨rfl, H⟩
    have c4 := H.out.1.cells.2.2.2.2.1
    clear hG
    go_wp2_with fail
    go_end0
    exact ⟨rfl, H⟩
theorem rallow_any (h : RkAt w b R) (t : Int) : Calls Try.prog 14 #[.pointer (some ⟨b, 0, none⟩), .int .i64 t] w fun e w' => e = .returned (.bool (R.ltr t).may) ∧ Hid (RkAt w' b (R.ltr t).alw ∧ Tn b w w') := by
  have hG := rlater_any h t
  clear h
  generalize R.ltr t = Q at *
  by_cases h2 : Q.st = 2
  · have H2 := hid h2
    cases ht : Q.tr with
    | false =>
      have e1 : Q.may = true := if_pos ⟨h2, ht⟩
      have e2 : Q.alw = { Q with tr := true } := if_pos ⟨h2, ht⟩
      rw [e1, e2]
      have HE := hid fun (W : World) (h : RkAt W b Q ∧ Tn b w W) => (⟨h.1.set rfl, h.2.set _ _⟩ : RkAt (W.setCell ⟨b, 8, none⟩ (.bool true)) b { Q with tr := true } ∧ Tn b w (W.setCell ⟨b, 8, none⟩ (.bool true)))
      have HT := hid ht
      clear e1 e2 h2 ht
      go_enter Try.func14, Try.ntmps14
      go_wp2_with fail
      refine hG.mono ?_
      rintro e w2 ⟨rfl, H⟩
      have c4 := H.out.1.cells.2.2.2.2.1
      have c8 := H.out.1.cells.2.2.2.2.2.2.2.2.1
      have f8 := H.out.1.frozen 8
      rw [H2.out] at c4
      rw [HT.out] at c8
      have HX := hid (HE.out _ H.out)
      clear hG H HE
      go_wp2_with fail
      go_ret
      exact ⟨rfl, HX⟩
    | true =>
      have e1 : Q.may = false := by unfold Rk.may; rw [if_neg (by rw [ht]; simp), h2]; rfl
      have e2 : Q.alw = Q := by unfold Rk.alw; rw [if_neg (by rw [ht]; simp)]
      rw [e1, e2]
      have HT := hid ht
      clear e1 e2 h2 ht
      go_enter Try.func14, Try.ntmps14
      go_wp2_with fail
      refine hG.mono ?_
      rintro e w2 ⟨rfl, H⟩
      have c4 := H.out.1.cells.2.2.2.2.1
      have c8 := H.out.1.cells.2.2.2.2.2.2.2.2.1
      rw [H2.out] at c4
      rw [HT.out] at c8
      clear hG
      go_wp2_with fail
      go_ret
      exact ⟨rfl, H⟩
  · have e1 : Q.may = decide (Q.st = 0) := by unfold Rk.may; rw [if_neg (fun h => h2 h.1)]
    have e2 : Q.alw = Q := by unfold Rk.alw; rw [if_neg (fun h => h2 h.1)]
    rw [e1, e2]
    clear e1 e2
    go_enter Try.func14, Try.ntmps14
    go_wp2_with fail
    refine hG.mono ?_
    rintro e w2 ⟨rfl, H⟩
    have c4 := H.out.1.cells.2.2.2.2.1
    clear hG
    go_wp2_with fail
    go_ret
    exact ⟨by first | rfl | simp, H⟩
theorem rok_any (h : RkAt w b R) (t : Int) (hc : (R.ltr t).st = 2 → 0 ≤ (R.ltr t).cnt ∧ (R.ltr t).cnt ≤ 1000) : Calls Try.prog 16 #[.pointer (some ⟨b, 0, none⟩), .int .i64 t] w fun e w' => e = .returned (.tuple #[]) ∧ Hid (RkAt w' b (R.ltr t).oks ∧ Tn b w w') := by
  have hG := rlater_any h t
  clear h
  generalize R.ltr t = Q at *
  by_cases h0 : Q.st = 0
  · have e : Q.oks = { Q with cnt := 0 } := if_pos h0
    rw [e]
    have HE := hid fun (W : World) (h : RkAt W b Q ∧ Tn b w W) => (⟨h.1.set rfl, h.2.set _ _⟩ : RkAt (W.setCell ⟨b, 5, none⟩ (.int .i64 0)) b { Q with cnt := 0 } ∧ Tn b w (W.setCell ⟨b, 5, none⟩ (.int .i64 0)))
    have H2 := hid h0
    clear e h0 hc
    go_enter Try.func16, Try.ntmps16
    go_wp2_with fail
    refine hG.mono ?_
    rintro e w2 ⟨rfl, H⟩
    have c4 := H.out.1.cells.2.2.2.2.1
    have c8 := H.out.1.cells.2.2.2.2.2.1
    have f8 := H.out.1.frozen 5
    rw [H2.out] at c4
    have HX := hid (HE.out _ H.out)
    clear hG H HE
    go_wp2_with fail
    go_end0
    exact ⟨rfl, HX⟩
  · by_cases h2 : Q.st = 2
    · obtain ⟨k0, k1⟩ := hc h2
      have H2 := hid h2
      have hw : IntKind.i64.wrap (Q.cnt + 1) = Q.cnt + 1 := by rw [IntKind.wrap_i64]; omega
      have HE1 := hid fun (W : World) (h : RkAt W b Q ∧ Tn b w W) => (⟨(h.1.set (k := 8) (u := .bool false) (R' := { Q with tr := false }) rfl).set (k := 5) (u := .int .i64 (Q.cnt + 1)) (R' := { Q with tr := false, cnt := Q.cnt + 1 }) rfl, (h.2.set 8 (.bool false)).set 5 (.int .i64 (Q.cnt + 1))⟩ : RkAt ((W.setCell ⟨b, 8, none⟩ (.bool false)).setCell ⟨b, 5, none⟩ (.int .i64 (Q.cnt + 1))) b { Q with tr := false, cnt := Q.cnt + 1 } ∧ Tn b w ((W.setCell ⟨b, 8, none⟩ (.bool false)).setCell ⟨b, 5, none⟩ (.int .i64 (Q.cnt + 1))))
      by_cases hn : Q.n ≤ Q.cnt + 1
      · have e : Q.oks = { Q with tr := false, cnt := 0, st := 0, cool := Q.c } := by unfold Rk.oks; rw [if_neg h0, if_pos h2, if_pos hn]
        rw [e]
        clear e h0 h2 hc
        go_enter Try.func16, Try.ntmps16
        go_wp2_with fail
        refine hG.mono ?_
        rintro e w2 ⟨rfl, H⟩
        have c4 := H.out.1.cells.2.2.2.2.1
        have c5 := H.out.1.cells.2.2.2.2.2.1
        have c8 := H.out.1.cells.2.2.2.2.2.2.2.2.1
        have f8 := H.out.1.frozen 8
        have f5 := H.out.1.frozen 5
        rw [H2.out] at c4
        obtain ⟨W3, hW3⟩ : ∃ W3, (w2.setCell ⟨b, 8, none⟩ (.bool false)).setCell ⟨b, 5, none⟩ (.int .i64 (Q.cnt + 1)) = W3 := ⟨_, rfl⟩
        have HX := hid (HE1.out _ H.out)
        rw [hW3] at HX
        have d5 := fun n : Nat => (HX.out.1.drewN n).cells.2.2.2.2.2.1
        have d3 := fun n : Nat => (HX.out.1.drewN n).cells.2.2.2.1
        simp only at d5 d3
        clear hG H HE1
        go_wp2_with fail
        try rw [hW3]
        clear hW3 c4 c5 c8 f8 f5
        have HY := hid fun n : Nat => (⟨(((HX.out.1.drewN n).set (k := 4) (u := .int .i64 0) (R' := { Q with tr := false, cnt := Q.cnt + 1, st := 0 }) rfl).set (k := 5) (u := .int .i64 0) (R' := { Q with tr := false, cnt := 0, st := 0 }) rfl).set (k := 6) (u := .int .i64 Q.c) (R' := { Q with tr := false, cnt := 0, st := 0, cool := Q.c }) rfl, (((HX.out.2.drewN n).set 4 (.int .i64 0)).set 5 (.int .i64 0)).set 6 (.int .i64 Q.c)⟩ : RkAt ((((W3.drewN n).setCell ⟨b, 4, none⟩ (.int .i64 0)).setCell ⟨b, 5, none⟩ (.int .i64 0)).setCell ⟨b, 6, none⟩ (.int .i64 Q.c)) b { Q with tr := false, cnt := 0, st := 0, cool := Q.c } ∧ Tn b w ((((W3.drewN n).setCell ⟨b, 4, none⟩ (.int .i64 0)).setCell ⟨b, 5, none⟩ (.int .i64 0)).setCell ⟨b, 6, none⟩ (.int .i64 Q.c)))
        have db : decide (Q.n ≤ Q.cnt + 1) = true := decide_eq_true hn
        have d1 := fun n : Nat => (HX.out.1.drewN n).cells.2.1
        have d4 := fun n : Nat => (HX.out.1.drewN n).cells.2.2.2.2.1
        have d6 := fun n : Nat => (HX.out.1.drewN n).cells.2.2.2.2.2.2.1
        have k4 := fun n : Nat => (HX.out.1.drewN n).frozen 4
        have k5 := fun n : Nat => (HX.out.1.drewN n).frozen 5
        have k6 := fun n : Nat => (HX.out.1.drewN n).frozen 6
        simp only at d1 d4 d6
        clear HX
        go_quiet (fail)
        go_wp2_with fail
        go_end0
        exact ⟨rfl, HY.out _⟩
      · have e : Q.oks = { Q with tr := false, cnt := Q.cnt + 1 } := by unfold Rk.oks; rw [if_neg h0, if_pos h2, if_neg hn]
        rw [e]
        clear e h0 h2 hc
        go_enter Try.func16, Try.ntmps16
        go_wp2_with fail
        refine hG.mono ?_
        rintro e w2 ⟨rfl, H⟩
        have c4 := H.out.1.cells.2.2.2.2.1
        have c5 := H.out.1.cells.2.2.2.2.2.1
        have c8 := H.out.1.cells.2.2.2.2.2.2.2.2.1
        have f8 := H.out.1.frozen 8
        have f5 := H.out.1.frozen 5
        rw [H2.out] at c4
        obtain ⟨W3, hW3⟩ : ∃ W3, (w2.setCell ⟨b, 8, none⟩ (.bool false)).setCell ⟨b, 5, none⟩ (.int .i64 (Q.cnt + 1)) = W3 := ⟨_, rfl⟩
        have HX := hid (HE1.out _ H.out)
        rw [hW3] at HX
        have d5 := fun n : Nat => (HX.out.1.drewN n).cells.2.2.2.2.2.1
        have d3 := fun n : Nat => (HX.out.1.drewN n).cells.2.2.2.1
        simp only at d5 d3
        clear hG H HE1
        go_wp2_with fail
        try rw [hW3]
        clear hW3 c4 c5 c8 f8 f5
        have HY := hid fun n : Nat => (⟨HX.out.1.drewN n, HX.out.2.drewN n⟩ : RkAt (W3.drewN n) b { Q with tr := false, cnt := Q.cnt + 1 } ∧ Tn b w (W3.drewN n))
        have db : decide (Q.n ≤ Q.cnt + 1) = false := decide_eq_false (by omega)
        clear HX
        go_quiet (fail)
        go_wp2_with fail
        go_end0
        exact ⟨rfl, HY.out _⟩
    · have e : Q.oks = Q := by unfold Rk.oks; rw [if_neg h0, if_neg h2]
      rw [e]
      clear e hc
      go_enter Try.func16, Try.ntmps16
      go_wp2_with fail
      refine hG.mono ?_
      rintro e w2 ⟨rfl, H⟩
      have c4 := H.out.1.cells.2.2.2.2.1
      clear hG
      go_wp2_with fail
      go_end0
      exact ⟨rfl, H⟩
end Go.Proofs.Ytekdbmhpdkdjjaa
