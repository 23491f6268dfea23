/-
  Package breaker: goOn, New, State, Allow, OK, Fail, Leave, Reset, Cool, Now.
-/
import Derived.Test.YtekdbmhpdkdjjaaBrCl
import Derived.Test.YtekdbmhpdkdjjaaBrOpn
namespace Go.Proofs.Ytekdbmhpdkdjjaa
open Go.RowKit
set_option linter.unusedVariables false
set_option maxRecDepth 1000000
variable {b : Nat} {w w' : World} {P : Pk}

theorem bgo_any (h : PkAt w b P) (ok : PkOk P) (t : Int) : Calls Try.prog 29 #[.pointer (some ⟨b, 0, none⟩), .int .i64 t] w fun e w' => e = .returned (.tuple #[]) ∧ Hid (PkAt w' b (P.go t) ∧ Tn b w w') := by
  have c4 := h.cells.2.2.2.2.1
  have f4 := h.frozen 4
  by_cases h1 : P.now < t
  · by_cases h2 : t ≤ 1099511627776
    · have g1 : PkAt (w.setCell ⟨b, 4, none⟩ (.int .i64 t)) b { P with now := t } := h.set rfl
      have t1 : Tn b w (w.setCell ⟨b, 4, none⟩ (.int .i64 t)) := (Tn.refl b w).set _ _
      obtain ⟨W1, hW1⟩ : ∃ W1, w.setCell ⟨b, 4, none⟩ (.int .i64 t) = W1 := ⟨_, rfl⟩
      rw [hW1] at g1 t1
      have c5 := g1.cells.2.2.2.2.2.1
      have c9 := g1.cells.2.2.2.2.2.2.2.2.2.1
      simp only at c5 c9
      have h1' : ¬ t ≤ P.now := by omega
      have h2' : ¬ 1099511627776 < t := by omega
      by_cases h3 : P.st = 1
      · by_cases h4 : P.un ≤ t
        · have e : P.go t = ({ P with now := t } : Pk).half := by unfold Pk.go; rw [if_pos ⟨h1, h2⟩, if_pos ⟨h3, h4⟩]
          have HH := bhalf_any g1 ok.n.1 ok.n.2
          have HT : Hid (Tn b w W1) := t1
          rw [← e] at HH
          rw [h3] at c5
          clear h ok e g1 t1 h3
          generalize P.go t = Q at *
          go_enter Try.func29, Try.ntmps29
          go_wp2_with fail
          try rw [hW1]
          clear hW1 c4 f4
          go_wp2_with fail
          refine HH.mono ?_
          rintro e w1 ⟨rfl, H1⟩
          have HE := hid (And.intro H1.out.1 (HT.out.trans H1.out.2))
          clear H1 HH HT c5 c9
          go_wp2_with fail
          go_end0
          exact ⟨rfl, HE⟩
        · have e : P.go t = { P with now := t } := by unfold Pk.go; rw [if_pos ⟨h1, h2⟩, if_neg (fun h => h4 h.2)]
          have HE : Hid (PkAt W1 b (P.go t) ∧ Tn b w W1) := by rw [e]; exact ⟨g1, t1⟩
          have h4' : t < P.un := by omega
          rw [h3] at c5
          clear h ok e g1 t1 h3
          generalize P.go t = Q at *
          go_enter Try.func29, Try.ntmps29
          go_wp2_with fail
          try rw [hW1]
          clear hW1 c4 f4
          go_wp2_with fail
          go_end0
          exact ⟨rfl, HE⟩
      · have e : P.go t = { P with now := t } := by unfold Pk.go; rw [if_pos ⟨h1, h2⟩, if_neg (fun h => h3 h.1)]
        have HE : Hid (PkAt W1 b (P.go t) ∧ Tn b w W1) := by rw [e]; exact ⟨g1, t1⟩
        clear h ok e g1 t1
        generalize P.go t = Q at *
        go_enter Try.func29, Try.ntmps29
        go_wp2_with fail
        try rw [hW1]
        clear hW1 c4 f4
        go_wp2_with fail
        go_end0
        exact ⟨rfl, HE⟩
    · have e : P.go t = P := by unfold Pk.go; rw [if_neg (by omega)]
      have HE : Hid (PkAt w b (P.go t) ∧ Tn b w w) := by rw [e]; exact ⟨h, Tn.refl b w⟩
      have h1' : ¬ t ≤ P.now := by omega
      have h2' : 1099511627776 < t := by omega
      clear h ok e
      go_enter Try.func29, Try.ntmps29
      go_wp2
      refine bodyPost_ret (results_none rfl _ _ _) rfl ?_
      exact ⟨rfl, HE⟩
  · have e : P.go t = P := by unfold Pk.go; rw [if_neg (by omega)]
    have HE : Hid (PkAt w b (P.go t) ∧ Tn b w w) := by rw [e]; exact ⟨h, Tn.refl b w⟩
    have h1' : t ≤ P.now := by omega
    clear h ok e
    go_enter Try.func29, Try.ntmps29
    go_wp2
    refine bodyPost_ret (results_none rfl _ _ _) rfl ?_
    exact ⟨rfl, HE⟩
theorem bstate_any (h : PkAt w b P) (ok : PkOk P) (t : Int) : Calls Try.prog 23 #[.pointer (some ⟨b, 0, none⟩), .int .i64 t] w fun e w' => e = .returned (.int .i64 (P.go t).st) ∧ Hid (PkAt w' b (P.go t) ∧ Tn b w w') := by
  have hM := bmade_yes h ok
  have hG := bgo_any h ok t
  clear h ok
  generalize P.go t = Q at *
  go_enter Try.func23, Try.ntmps23
  go_wp2_with fail
  refine hM.mono ?_
  rintro e w1 ⟨rfl, rfl⟩
  go_wp2_with fail
  refine hG.mono ?_
  rintro e w2 ⟨rfl, H⟩
  have c5 := H.out.1.cells.2.2.2.2.2.1
  clear hM hG
  go_wp2_with fail
  go_ret
  exact ⟨rfl, H⟩
theorem bcool_any (h : PkAt w b P) (ok : PkOk P) : Calls Try.prog 24 #[.pointer (some ⟨b, 0, none⟩)] w fun e w' => e = .returned (.int .i64 P.cool) ∧ w' = w := by
  have hM := bmade_yes h ok
  have c5 := h.cells.2.2.2.2.2.2.1
  clear h ok
  go_enter Try.func24, Try.ntmps24
  go_wp2_with fail
  refine hM.mono ?_
  rintro e w1 ⟨rfl, rfl⟩
  go_wp2_with fail
  go_ret
  exact ⟨rfl, rfl⟩
theorem bnow_any (h : PkAt w b P) (ok : PkOk P) : Calls Try.prog 25 #[.pointer (some ⟨b, 0, none⟩)] w fun e w' => e = .returned (.int .i64 P.now) ∧ w' = w := by
  have hM := bmade_yes h ok
  have c5 := h.cells.2.2.2.2.1
  clear h ok
  go_enter Try.func25, Try.ntmps25
  go_wp2_with fail
  refine hM.mono ?_
  rintro e w1 ⟨rfl, rfl⟩
  go_wp2_with fail
  go_ret
  exact ⟨rfl, rfl⟩
theorem breset_any (h : PkAt w b P) (ok : PkOk P) : Calls Try.prog 22 #[.pointer (some ⟨b, 0, none⟩)] w fun e w' => e = .returned (.tuple #[]) ∧ Hid (PkAt w' b P.shut ∧ Tn b w w') := by
  have hM := bmade_yes h ok
  have hC := bclose_any h ok.f.1 ok.f.2
  clear h ok
  go_enter Try.func22, Try.ntmps22
  go_wp2_with fail
  refine hM.mono ?_
  rintro e w1 ⟨rfl, rfl⟩
  go_wp2_with fail
  refine hC.mono ?_
  rintro e w2 ⟨rfl, H⟩
  go_wp2_with fail
  go_end0
  exact ⟨rfl, H⟩
theorem bleave_any (h : PkAt w b P) (ok : PkOk P) (t : Int) : Calls Try.prog 20 #[.pointer (some ⟨b, 0, none⟩), .int .i64 t] w fun e w' => e = .returned (.tuple #[]) ∧ Hid (PkAt w' b (P.go t).lve ∧ Tn b w w') := by
  have hM := bmade_yes h ok
  have hG := bgo_any h ok t
  clear h ok
  generalize P.go t = Q at *
  go_enter Try.func20, Try.ntmps20
  go_wp2_with fail
  refine hM.mono ?_
  rintro e w1 ⟨rfl, rfl⟩
  go_wp2_with fail
  refine hG.mono ?_
  rintro e w2 ⟨rfl, H⟩
  have c10 := H.out.1.cells.2.2.2.2.2.2.2.2.2.2.1
  have f10 := H.out.1.frozen 10
  have HE : Hid (PkAt (w2.setCell ⟨b, 10, none⟩ (.bool false)) b Q.lve ∧ Tn b w1 (w2.setCell ⟨b, 10, none⟩ (.bool false))) := ⟨H.out.1.set rfl, H.out.2.set _ _⟩
  clear hM hG H
  go_wp2_with fail
  go_end0
  exact ⟨rfl, HE⟩
theorem ballow_any (h : PkAt w b P) (ok : PkOk P) (t : Int) : Calls Try.prog 13 #[.pointer (some ⟨b, 0, none⟩), .int .i64 t] w fun e w' => e = .returned (.bool (P.go t).may) ∧ Hid (PkAt w' b (P.go t).alw ∧ Tn b w w') := by
  have hM := bmade_yes h ok
  have hG := bgo_any h ok t
  clear h ok
  generalize P.go t = Q at *
  by_cases h2 : Q.st = 2
  · have e1 : Q.may = !Q.tr := by unfold Pk.may; rw [if_pos h2]
    have e2 : Q.alw = { Q with tr := true } := by unfold Pk.alw; rw [if_pos h2]
    rw [e1, e2]
    have HE := hid fun (W : World) (h : PkAt W b Q ∧ Tn b w W) => (⟨h.1.set rfl, h.2.set _ _⟩ : PkAt (W.setCell ⟨b, 10, none⟩ (.bool true)) b { Q with tr := true } ∧ Tn b w (W.setCell ⟨b, 10, none⟩ (.bool true)))
    have H2 := hid h2
    clear e1 e2 h2
    go_enter Try.func13, Try.ntmps13
    go_wp2_with fail
    refine hM.mono ?_
    rintro e w1 ⟨rfl, rfl⟩
    go_wp2_with fail
    refine hG.mono ?_
    rintro e w2 ⟨rfl, H⟩
    have c5 := H.out.1.cells.2.2.2.2.2.1
    have c10 := H.out.1.cells.2.2.2.2.2.2.2.2.2.2.1
    have f10 := H.out.1.frozen 10
    rw [H2.out] at c5
    have HX := hid (HE.out _ H.out)
    clear hM hG H HE
    go_wp2_with fail
    go_ret
    exact ⟨rfl, HX⟩
  · have e1 : Q.may = decide (Q.st = 0) := by unfold Pk.may; rw [if_neg h2]
    have e2 : Q.alw = Q := by unfold Pk.alw; rw [if_neg h2]
    rw [e1, e2]
    clear e1 e2
    go_enter Try.func13, Try.ntmps13
    go_wp2_with fail
    refine hM.mono ?_
    rintro e w1 ⟨rfl, rfl⟩
    go_wp2_with fail
    refine hG.mono ?_
    rintro e w2 ⟨rfl, H⟩
    have c5 := H.out.1.cells.2.2.2.2.2.1
    clear hM hG
    go_wp2_with fail
    go_ret
    exact ⟨by first | rfl | simp, H⟩
end Go.Proofs.Ytekdbmhpdkdjjaa
