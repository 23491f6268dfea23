/-
  Package breaker: OK.
-/
import Derived.Test.YtekdbmhpdkdjjaaBrOp
namespace Go.Proofs.Ytekdbmhpdkdjjaa
open Go.RowKit
set_option linter.unusedVariables false
set_option maxRecDepth 1000000
variable {b : Nat} {w w' : World} {P : Pk}

theorem bok_any (h : PkAt w b P) (ok : PkOk P) (t : Int) : Calls Try.prog 15 #[.pointer (some ⟨b, 0, none⟩), .int .i64 t] w fun e w' => e = .returned (.tuple #[]) ∧ Hid (PkAt w' b (P.go t).oks ∧ Tn b w w') := by
  have hM := bmade_yes h ok
  have hG := bgo_any h ok t
  have hok := ok.go t
  clear h ok
  generalize P.go t = Q at *
  have hst := hok.st
  rcases hst with h0 | h1 | h2
  · have e : Q.oks = { Q with fn := 0, fm := Q.f } := by unfold Pk.oks; rw [if_pos h0]
    rw [e]
    have HN := hid fun W => bnone_any Q.f W hok.f.1 hok.f.2
    have H0 := hid h0
    clear e h0 hok
    go_enter Try.func15, Try.ntmps15
    go_wp2_with fail
    refine hM.mono ?_
    rintro e w1 ⟨rfl, rfl⟩
    go_wp2_with fail
    refine hG.mono ?_
    rintro e w2 ⟨rfl, H⟩
    have c0 := H.out.1.cells.1
    have c5 := H.out.1.cells.2.2.2.2.2.1
    rw [H0.out] at c5
    clear hM hG
    go_wp2_with fail
    refine (HN.out _).mono ?_
    rintro e w3 ⟨rfl, hb⟩
    have g3 := H.out.1.below hb.out
    have t3 := H.out.2.below hb.out
    have HE : Hid (PkAt ((w3.setCell ⟨b, 7, none⟩ (.int .u32 0)).setCell ⟨b, 8, none⟩ (.int .u32 Q.f)) b { Q with fn := 0, fm := Q.f } ∧ Tn b w1 ((w3.setCell ⟨b, 7, none⟩ (.int .u32 0)).setCell ⟨b, 8, none⟩ (.int .u32 Q.f))) := ⟨(g3.set (P' := { Q with fn := 0 }) rfl).set rfl, (t3.set _ _).set _ _⟩
    have d7 := g3.cells.2.2.2.2.2.2.2.1
    have d8 := g3.cells.2.2.2.2.2.2.2.2.1
    have f7 := g3.frozen 7
    have f8 := g3.frozen 8
    clear H g3 t3 c0 c5 hb HN
    go_wp2_with fail
    go_end0
    exact ⟨rfl, HE⟩
  · have e : Q.oks = Q := by unfold Pk.oks; rw [if_neg (by omega), if_neg (by omega)]
    rw [e]
    have H1 := hid h1
    clear e h1 hok
    go_enter Try.func15, Try.ntmps15
    go_wp2_with fail
    refine hM.mono ?_
    rintro e w1 ⟨rfl, rfl⟩
    go_wp2_with fail
    refine hG.mono ?_
    rintro e w2 ⟨rfl, H⟩
    have c5 := H.out.1.cells.2.2.2.2.2.1
    rw [H1.out] at c5
    clear hM hG
    go_wp2_with fail
    go_end0
    exact ⟨rfl, H⟩
  · obtain ⟨s0, s1, s2⟩ := hok.ha h2
    have hn := hok.n
    have HU := hid fun W => bup_any Q.sn Q.sm W s0 (by omega) (by omega)
    have HF := hid fun W => bfull_any (Q.sn + 1) Q.sm W
    have HC := hid fun (W : World) (g : PkAt W b { Q with tr := false, sn := Q.sn + 1 }) => bclose_any g hok.f.1 hok.f.2
    have H2 := hid h2
    obtain ⟨fu, hfu⟩ : ∃ fu, decide (Q.sn + 1 = Q.sm) = fu := ⟨_, rfl⟩
    rw [hfu] at HF
    have e : Q.oks = if fu = true then ({ Q with tr := false, sn := Q.sn + 1 } : Pk).shut else { Q with tr := false, sn := Q.sn + 1 } := by
      unfold Pk.oks
      rw [if_neg (by omega), if_pos h2]
      by_cases hx : Q.sn + 1 = Q.sm
      · rw [if_pos hx, if_pos (by rw [← hfu]; exact decide_eq_true hx)]
        rfl
      · rw [if_neg hx, if_neg (by rw [← hfu, decide_eq_false hx]; decide)]
    rw [e]
    clear e h2 hok s0 s1 s2 hn hfu
    go_enter Try.func15, Try.ntmps15
    go_wp2_with fail
    refine hM.mono ?_
    rintro e w1 ⟨rfl, rfl⟩
    go_wp2_with fail
    refine hG.mono ?_
    rintro e w2 ⟨rfl, H⟩
    have c5 := H.out.1.cells.2.2.2.2.2.1
    have c10 := H.out.1.cells.2.2.2.2.2.2.2.2.2.2.1
    have f10 := H.out.1.frozen 10
    rw [H2.out] at c5
    obtain ⟨W3, hW3⟩ : ∃ W3, w2.setCell ⟨b, 10, none⟩ (.bool false) = W3 := ⟨_, rfl⟩
    have H3 : Hid (PkAt W3 b { Q with tr := false } ∧ Tn b w1 W3) := by rw [← hW3]; exact ⟨H.out.1.set rfl, H.out.2.set _ _⟩
    clear hM hG H
    have x11 := H3.out.1.cells.2.2.2.2.2.2.2.2.2.2.2.1
    have x12 := H3.out.1.cells.2.2.2.2.2.2.2.2.2.2.2.2
    simp only at x11 x12
    go_wp2_with fail
    try rw [hW3]
    clear hW3 c5 c10 f10
    go_wp2_with fail
    refine (HU.out _).mono ?_
    rintro e w3 ⟨rfl, hb⟩
    have g4 := H3.out.1.below hb.out
    have t4 := H3.out.2.below hb.out
    obtain ⟨W5, hW5⟩ : ∃ W5, (w3.setCell ⟨b, 11, none⟩ (.int .u32 (Q.sn + 1))).setCell ⟨b, 12, none⟩ (.int .u32 Q.sm) = W5 := ⟨_, rfl⟩
    have H5 : Hid (PkAt W5 b { Q with tr := false, sn := Q.sn + 1 } ∧ Tn b w1 W5) := by rw [← hW5]; exact ⟨(g4.set (P' := { Q with tr := false, sn := Q.sn + 1 }) rfl).set rfl, (t4.set _ _).set _ _⟩
    have f11 := g4.frozen 11
    have f12 := g4.frozen 12
    have z11 := g4.cells.2.2.2.2.2.2.2.2.2.2.2.1
    have z12 := g4.cells.2.2.2.2.2.2.2.2.2.2.2.2
    have y11 := H5.out.1.cells.2.2.2.2.2.2.2.2.2.2.2.1
    have y12 := H5.out.1.cells.2.2.2.2.2.2.2.2.2.2.2.2
    simp only at y11 y12
    clear H3 g4 t4 hb HU x11 x12
    go_wp2_with fail
    try rw [hW5]
    clear hW5 z11 z12 f11 f12
    go_wp2_with fail
    refine (HF.out _).mono ?_
    rintro e w6 ⟨rfl, hb⟩
    have H6 : Hid (PkAt w6 b { Q with tr := false, sn := Q.sn + 1 } ∧ Tn b w1 w6) := ⟨H5.out.1.below hb.out, H5.out.2.below hb.out⟩
    clear H5 hb y11 y12 HF
    cases fu with
    | true =>
      have HX := hid (HC.out _ H6.out.1)
      clear HC
      go_wp2_with fail
      refine HX.out.mono ?_
      rintro e w7 ⟨rfl, H7⟩
      have HE := hid (And.intro H7.out.1 (H6.out.2.trans H7.out.2))
      clear HX H7 H6
      go_wp2_with fail
      go_end0
      exact ⟨rfl, HE⟩
    | false =>
      clear HC
      go_wp2_with fail
      go_end0
      exact ⟨rfl, H6⟩
end Go.Proofs.Ytekdbmhpdkdjjaa
