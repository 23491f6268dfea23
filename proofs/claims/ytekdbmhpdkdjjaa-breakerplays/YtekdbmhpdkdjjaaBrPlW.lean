/-
  BreakerPlays, walked.
-/
import Derived.Test.YtekdbmhpdkdjjaaBrPl
import Derived.Deep.RegionHeld3
import Derived.Deep.DeepCutAuto
import Derived.Deep.CutBlock
import Derived.Outline
namespace Go.Proofs.Ytekdbmhpdkdjjaa
open Go.RowKit
set_option linter.unusedVariables false
set_option maxRecDepth 1000000

theorem RkAt.allset {W : World} {r : Nat} {R : Rk} (s : Sg) (h : RkAt W r R) : RkAt ((((((((((W.setCell ⟨r, 0, none⟩ (.int .i64 s.f)).setCell ⟨r, 1, none⟩ (.int .i64 s.c)).setCell ⟨r, 2, none⟩ (.int .i64 s.m)).setCell ⟨r, 3, none⟩ (.int .i64 s.n)).setCell ⟨r, 4, none⟩ (.int .i64 0)).setCell ⟨r, 5, none⟩ (.int .i64 0)).setCell ⟨r, 6, none⟩ (.int .i64 s.c)).setCell ⟨r, 7, none⟩ (.int .i64 0)).setCell ⟨r, 8, none⟩ (.bool false)).setCell ⟨r, 9, none⟩ (.int .i64 0)) r (Rk.new s 0) := ((((((((((h.set (R' := ⟨s.f, R.c, R.m, R.n, R.st, R.cnt, R.cool, R.un, R.tr, R.t⟩) rfl).set (R' := ⟨s.f, s.c, R.m, R.n, R.st, R.cnt, R.cool, R.un, R.tr, R.t⟩) rfl).set (R' := ⟨s.f, s.c, s.m, R.n, R.st, R.cnt, R.cool, R.un, R.tr, R.t⟩) rfl).set (R' := ⟨s.f, s.c, s.m, s.n, R.st, R.cnt, R.cool, R.un, R.tr, R.t⟩) rfl).set (R' := ⟨s.f, s.c, s.m, s.n, 0, R.cnt, R.cool, R.un, R.tr, R.t⟩) rfl).set (R' := ⟨s.f, s.c, s.m, s.n, 0, 0, R.cool, R.un, R.tr, R.t⟩) rfl).set (R' := ⟨s.f, s.c, s.m, s.n, 0, 0, s.c, R.un, R.tr, R.t⟩) rfl).set (R' := ⟨s.f, s.c, s.m, s.n, 0, 0, s.c, 0, R.tr, R.t⟩) rfl).set (R' := ⟨s.f, s.c, s.m, s.n, 0, 0, s.c, 0, false, R.t⟩) rfl).set (R' := ⟨s.f, s.c, s.m, s.n, 0, 0, s.c, 0, false, 0⟩) rfl)
theorem Tn.allsetR {w W : World} {r : Nat} (s : Sg) (t : Tn r w W) : Tn r w ((((((((((W.setCell ⟨r, 0, none⟩ (.int .i64 s.f)).setCell ⟨r, 1, none⟩ (.int .i64 s.c)).setCell ⟨r, 2, none⟩ (.int .i64 s.m)).setCell ⟨r, 3, none⟩ (.int .i64 s.n)).setCell ⟨r, 4, none⟩ (.int .i64 0)).setCell ⟨r, 5, none⟩ (.int .i64 0)).setCell ⟨r, 6, none⟩ (.int .i64 s.c)).setCell ⟨r, 7, none⟩ (.int .i64 0)).setCell ⟨r, 8, none⟩ (.bool false)).setCell ⟨r, 9, none⟩ (.int .i64 0)) := ((((((((((t.set _ _).set _ _).set _ _).set _ _).set _ _).set _ _).set _ _).set _ _).set _ _).set _ _)
set_option maxHeartbeats 64000000 in
theorem plays_any (s : Sg) (hs : SgIn s) {a0 : Option Addr} {l0 c0 : Nat} {xs0 : List Sp} {w : World} (ga0 : Lst w a0 l0 c0 2 xs0 SpV SpIn) : Calls Try.prog 3 #[.agg (SgV s), .slice a0 l0 c0] w fun e w' => e = .returned (.bool true) ∧ Hid (Below w.heap.size w w') := by
  have HSh := hid fun W' => short22_any a0 l0 c0 W' ga0.room ga0.most
  obtain ⟨N, HNn⟩ : ∃ n, Hid (min l0 400 = n) := ⟨_, rfl⟩
  rw [HNn.out] at HSh
  have hN1 : N ≤ l0 ∧ N ≤ 400 := by have := HNn.out; omega
  have r1 := ga0.room
  have m1 := ga0.most
  obtain ⟨w1, hW1⟩ : ∃ w1, w1 = w.alloc (.cells (SgV s) 23) := ⟨_, rfl⟩
  have b1 : Below w.heap.size w w1 := by rw [hW1]; exact (Below.refl _ _).alloc (Nat.le_refl _) _
  have HB1 := hid b1
  have HSp := hid fun (W' : World) (hb : Below w1.heap.size w1 W') => ga0.below SpV_size (b1.trans (hb.mono b1.size))
  clear ga0
  have hTh := theirs22_any s w1
  have v1 : w1.heap[w.heap.size]? = some (.cells (SgV s) 23 (0, 0)) := by rw [hW1]; exact heap_alloc_new w _
  have HBox : Hid (∀ W : World, Below w1.heap.size w1 W → W.cell? ⟨w.heap.size, 0, none⟩ = some (.int .i64 s.f) ∧ W.cell? ⟨w.heap.size, 1, none⟩ = some (.int .i64 s.c) ∧ W.cell? ⟨w.heap.size, 2, none⟩ = some (.int .i64 s.m) ∧ W.cell? ⟨w.heap.size, 3, none⟩ = some (.int .i64 s.n)) := fun W hb => by
    have hv := block_bel v1 hb
    refine ⟨?_, ?_, ?_, ?_⟩ <;> (rw [cell_of_row _ _ _ _ _ _ hv]; rfl)
  obtain ⟨c0', c1', c2', c3'⟩ := HBox.out _ (Below.refl _ _)
  by_cases his : s.Is
  · have HN := hid fun W : World => bnew_yes his W
    have HM := hid fun W : World => rmay_yes his W
    have HR := hid fun W : World => rnew_any s W
    have HI0 : Hid (∀ (b : Nat) (W W' W2 W3 W4 : World), Below w1.heap.size w1 W → (PkAt W' b (Pk.new s) ∧ Below W.heap.size W W' ∧ W.heap.size ≤ b) → Below W'.heap.size W' W2 → Below W2.heap.size W2 W3 → W4 = W3.alloc (.cells (RkC (Rk.new s 0)) 34) → PlB w1 b W3.heap.size (Pk.new s) (Rk.new s 0) W4) := fun b W W' W2 W3 W4 hb H h2 h3 h4 => by
      subst h4
      have q1 : BrS w1 b (Pk.new s) W' := BrS.new his hb H
      have q2 : BrS w1 b (Pk.new s) W3 := (q1.below h2).below h3
      refine ⟨q2.below ((Below.refl _ _).alloc (Nat.le_refl _) _), heap_alloc_new W3 _, ?_, q2.bel.size⟩
      have := q2.at'.lt
      omega
    unfold SgV at hTh hW1 HN HM HR ⊢
    unfold RkC Rk.new at HI0 HR
    simp only at HI0 HR
    obtain ⟨q, hq⟩ : ∃ q, w.heap.size = q := ⟨_, rfl⟩
    have HQ := hid hq
    rw [hq] at c0' c1' c2' c3' HBox
    clear b1 v1 hq
    go_enter Try.func3, Try.ntmps3
    go_wp2_with fail
    try rw [← hW1]
    try rw [HQ.out]
    refine hTh.mono ?_
    rintro e w2 ⟨rfl, hb2⟩
    clear hTh hW1 c0' c1' c2' c3'
    go_wp2_with fail
    refine (HN.out _).mono ?_
    rintro e w3 ⟨b, rfl, H3⟩
    clear HN
    have B3 : Hid (Below w1.heap.size w1 w3) := hb2.out.trans (H3.out.2.1.mono hb2.out.size)
    obtain ⟨d0, d1, d2, d3⟩ := HBox.out _ B3.out
    go_wp2_with fail
    refine (HM.out _).mono ?_
    rintro e w4 ⟨rfl, hb4⟩
    have B4 : Hid (Below w1.heap.size w1 w4) := B3.out.trans (hb4.out.mono B3.out.size)
    clear d0 d1 d2 d3
    obtain ⟨d0, d1, d2, d3⟩ := HBox.out _ B4.out
    go_wp2_with fail
    refine (HR.out _).mono ?_
    rintro e w5 ⟨rfl, hb5⟩
    obtain ⟨w6, hw6⟩ : ∃ w6, w6 = w5.alloc (.cells #[.int .i64 s.f, .int .i64 s.c, .int .i64 s.m, .int .i64 s.n, .int .i64 0, .int .i64 0, .int .i64 s.c, .int .i64 0, .bool false, .int .i64 0] 34) := ⟨_, rfl⟩
    have HJ := hid (HI0.out b _ _ _ _ _ hb2.out H3.out hb4.out hb5.out hw6)
    obtain ⟨r, hr⟩ : ∃ r, w5.heap.size = r := ⟨_, rfl⟩
    rw [hr] at HJ
    clear HM HR HI0 d0 d1 d2 d3 hb2 H3 B3 hb4 B4 hb5
    go_wp2_with fail
    try rw [← hw6]
    try rw [hr]
    clear hw6 hr
    refine (HSh.out _).mono ?_
    rintro e w7 ⟨rfl, rfl⟩
    clear HSh
    have HJ0 : Hid (PlB w1 b r ⟨s.f, s.c, s.m, s.n, 0, 0, s.c, 0, s.f, 0, false, 0, 0⟩ (Rk.new s 0) w7) := HJ
    clear HJ
    go_wp2_with fail
    go_loopw [44] (fun z W' => ∃ (k : Nat) (P : Pk) (R : Rk), k ≤ N ∧ z = .int .i64 k ∧ Hid (PlB w1 b r P R W' ∧ Sim P R ∧ P.sg = s)) (fun z _ => N - (intOf z).toNat)
    case atStart => exact ⟨0, _, _, by omega, rfl, HJ0.out, Sim.new his, rfl⟩
    case round =>
    obtain ⟨k, P, R, hk, rfl, HS⟩ := hrel
    rename World => wr
    clear HJ0
    by_cases hkl : k < N
    · have g1 : (k : Int) < (N : Int) := by omega
      have hL := HSp.out _ HS.out.1.br.bel
      have hx : k < xs0.length := by rw [hL.size]; omega
      obtain ⟨qq, off, rfl, hc⟩ := hL.cell k hx
      have q0 := hc 0 (by omega)
      have q1 := hc 1 (by omega)
      have HI := hid (hL.inn k hx)
      clear hc hL
      simp only [SpV, List.getElem?_toArray, List.getElem?_cons_zero, List.getElem?_cons_succ, Nat.add_zero] at q0 q1
      generalize xs0[k] = x at *
      obtain ⟨w3, hw3⟩ : ∃ w3, w3 = wr.alloc (.cells #[.int .u8 x.kd, .int .i64 x.later] 38) := ⟨_, rfl⟩
      obtain ⟨sb, hsb⟩ : ∃ sb, wr.heap.size = sb := ⟨_, rfl⟩
      have hbk : w3.heap[sb]? = some (.cells #[.int .u8 x.kd, .int .i64 x.later] 38 (0, 0)) := by rw [hw3, ← hsb]; exact heap_alloc_new wr _
      obtain ⟨y0, y1⟩ := cells_two hbk
      have HW : Hid (PlB w1 b r P R w3 ∧ Sim P R ∧ P.sg = s) := ⟨HS.out.1.below (by rw [hw3]; exact (Below.refl _ _).alloc (Nat.le_refl _) _), HS.out.2⟩
      have y9 := HW.out.1.rf.cells.2.2.2.2.2.2.2.2.2
      have y9r := y9
      rw [hw3] at y9r
      have ht0 := HW.out.2.1.t
      have ht1 := HW.out.2.1.ok.now
      have hRt : 0 ≤ R.t ∧ R.t ≤ 1099511627776 := by omega
      obtain ⟨now2, hnow2⟩ : ∃ n2 : Int, n2 = if -100000 < x.later ∧ x.later < 1125899906842624 then R.t + x.later else R.t := ⟨_, rfl⟩
      obtain ⟨kd0, kd1⟩ := HI.out.kd
      obtain ⟨rr, hrr⟩ : ∃ rr, x.kd % 6 = rr := ⟨_, rfl⟩
      have hr' : x.kd.tmod 6 = rr := by rw [Int.tmod_eq_emod_of_nonneg kd0]; exact hrr
      have hwr : IntKind.u8.wrap rr = rr := by rw [IntKind.wrap_u8]; omega
      clear HS HI hbk ht0 ht1
      go_upto_region 9 with fail
      try rw [← hw3]
      try rw [hsb]
      clear hw3 hsb q0 q1 y9r
      go_cut [57] (fun v wx => v = .bool (decide (-100000 < x.later ∧ x.later < 1125899906842624)) ∧ wx = w3)
      case first =>
        by_cases h1 : -100000 < x.later
        · by_cases h2 : x.later < 1125899906842624
          · go_wp2_with fail
            go_meet
            exact ⟨by simp [h1, h2], rfl⟩
          · have h2' : 1125899906842624 ≤ x.later := by omega
            go_wp2_with fail
            go_meet
            exact ⟨by simp [h1]; omega, rfl⟩
        · have h1' : x.later ≤ -100000 := by omega
          go_wp2_with fail
          go_meet
          exact ⟨by simp; omega, rfl⟩
      case rest =>
      obtain ⟨rfl, hwc⟩ := hcut
      have hwc' := hwc.symm
      subst hwc'
      go_upto_if 57 with fail
      go_cut [10] (fun v wx => v = .int .i64 now2 ∧ wx = w3)
      case first =>
        by_cases h1 : -100000 < x.later ∧ x.later < 1125899906842624
        · have hd : decide (-100000 < x.later ∧ x.later < 1125899906842624) = true := decide_eq_true h1
          have e : Hid (now2 = R.t + x.later) := by unfold Hid; rw [hnow2, if_pos h1]
          have e1 : IntKind.i64.wrap (R.t + x.later) = R.t + x.later := by rw [IntKind.wrap_i64]; omega
          clear hnow2
          go_wp2_with fail
          go_meet
          exact ⟨by rw [e.out], rfl⟩
        · have hd : decide (-100000 < x.later ∧ x.later < 1125899906842624) = false := decide_eq_false h1
          have e : Hid (now2 = R.t) := by unfold Hid; rw [hnow2, if_neg h1]
          clear hnow2
          go_wp2_with fail
          go_meet
          exact ⟨by rw [e.out], rfl⟩
      case rest =>
      obtain ⟨rfl, hwc⟩ := hcut
      have hwc' := hwc.symm
      subst hwc'
      clear hnow2 hRt y1 y9
      go_upto_block 2 with fail
      clear y0
      go_cut [10] (fun v wx => ∃ (now3 : Int) (P2 : Pk) (R2 : Rk), v = .int .i64 now3 ∧ Hid (PlC w1 b r s now3 P2 R2 wx))
      case first =>
        rcases (by omega : rr = 0 ∨ rr = 1 ∨ rr = 2 ∨ rr = 5 ∨ rr = 3 ∨ rr = 4) with h0 | h1 | h2 | h5 | h3 | h4
        · subst h0
          have hC := HW.out.1.allow1 now2
          have HS2 := hid (HW.out.2.1.go now2)
          have HSg : Hid ((P.go now2).alw.sg = s) := by unfold Hid; rw [Pk.sg_alw, Pk.sg_go]; exact HW.out.2.2
          rw [HS2.out.may] at hC
          have HD : Hid (∀ W' : World, PlB w1 b r (P.go now2).alw R W' → _) := fun W' h => h.allow2 now2
          have HX : Hid (∀ W' : World, PlB w1 b r (P.go now2).alw (R.ltr now2).alw W' → PlC w1 b r s now2 (P.go now2).alw (R.ltr now2).alw W') := fun W' h => ⟨h, HS2.out.alw.go now2, HSg.out⟩
          clear HW HS2 HSg
          generalize (R.ltr now2).may = mm at *
          go_wp2_with fail
          refine hC.mono ?_
          rintro e w5 ⟨rfl, H5⟩
          have hD := HD.out _ H5.out
          clear hC H5 HD
          go_wp2_with fail
          refine hD.mono ?_
          rintro e w6 ⟨rfl, H6⟩
          have HY := hid (HX.out _ H6.out)
          clear hD H6 HX
          go_wp2_with fail
          go_meet
          exact ⟨now2, _, _, rfl, HY⟩
        · subst h1
          have hC := HW.out.1.ok1 now2
          have HS2 := hid (HW.out.2.1.go now2)
          have HSg : Hid ((P.go now2).oks.sg = s) := by unfold Hid; rw [Pk.sg_oks, Pk.sg_go]; exact HW.out.2.2
          have HD : Hid (∀ W' : World, PlB w1 b r (P.go now2).oks R W' → _) := fun W' h => h.ok2 now2 HS2.out
          have HX : Hid (∀ W' : World, PlB w1 b r (P.go now2).oks (R.ltr now2).oks W' → PlC w1 b r s now2 (P.go now2).oks (R.ltr now2).oks W') := fun W' h => ⟨h, HS2.out.oks.go now2, HSg.out⟩
          clear HW HS2 HSg
          go_wp2_with fail
          refine hC.mono ?_
          rintro e w5 ⟨rfl, H5⟩
          have hD := HD.out _ H5.out
          clear hC H5 HD
          go_wp2_with fail
          refine hD.mono ?_
          rintro e w6 ⟨rfl, H6⟩
          have HY := hid (HX.out _ H6.out)
          clear hD H6 HX
          go_wp2_with fail
          go_meet
          exact ⟨now2, _, _, rfl, HY⟩
        · subst h2
          have hC := HW.out.1.fail1 now2
          have HS2 := hid (HW.out.2.1.go now2)
          have HSg : Hid ((P.go now2).fls.sg = s) := by unfold Hid; rw [Pk.sg_fls, Pk.sg_go]; exact HW.out.2.2
          have HD : Hid (∀ W' : World, PlB w1 b r (P.go now2).fls R W' → _) := fun W' h => h.fail2 now2 HS2.out
          have HX : Hid (∀ W' : World, PlB w1 b r (P.go now2).fls (R.ltr now2).fls W' → PlC w1 b r s now2 (P.go now2).fls (R.ltr now2).fls W') := fun W' h => ⟨h, HS2.out.fls.go now2, HSg.out⟩
          clear HW HS2 HSg
          go_wp2_with fail
          refine hC.mono ?_
          rintro e w5 ⟨rfl, H5⟩
          have hD := HD.out _ H5.out
          clear hC H5 HD
          go_wp2_with fail
          refine hD.mono ?_
          rintro e w6 ⟨rfl, H6⟩
          have HY := hid (HX.out _ H6.out)
          clear hD H6 HX
          go_wp2_with fail
          go_meet
          exact ⟨now2, _, _, rfl, HY⟩
        · subst h5
          have hC := HW.out.1.leave1 now2
          have HS2 := hid (HW.out.2.1.go now2)
          have HSg : Hid ((P.go now2).lve.sg = s) := by unfold Hid; show (P.go now2).sg = s; rw [Pk.sg_go]; exact HW.out.2.2
          have HD : Hid (∀ W' : World, PlB w1 b r (P.go now2).lve R W' → _) := fun W' h => h.leave2 now2
          have HX : Hid (∀ W' : World, PlB w1 b r (P.go now2).lve (R.ltr now2).lve W' → PlC w1 b r s now2 (P.go now2).lve (R.ltr now2).lve W') := fun W' h => ⟨h, HS2.out.lve.go now2, HSg.out⟩
          clear HW HS2 HSg
          go_wp2_with fail
          refine hC.mono ?_
          rintro e w5 ⟨rfl, H5⟩
          have hD := HD.out _ H5.out
          clear hC H5 HD
          go_wp2_with fail
          refine hD.mono ?_
          rintro e w6 ⟨rfl, H6⟩
          have HY := hid (HX.out _ H6.out)
          clear hD H6 HX
          go_wp2_with fail
          go_meet
          exact ⟨now2, _, _, rfl, HY⟩
        · subst h3
          have HX : Hid (∀ W' : World, PlB w1 b r P (R.ltr now2) W' → PlC w1 b r s now2 P (R.ltr now2) W') := fun W' h => ⟨h, by rw [Rk.ltr_idem]; exact HW.out.2.1.go now2, HW.out.2.2⟩
          have hD := HW.out.1.later2 now2
          clear HW
          go_wp2_with fail
          refine hD.mono ?_
          rintro e w6 ⟨rfl, H6⟩
          have HY := hid (HX.out _ H6.out)
          clear hD H6 HX
          go_wp2_with fail
          go_meet
          exact ⟨now2, _, _, rfl, HY⟩
        · subst h4
          have hC := HW.out.1.reset1
          have HSm := hid (HW.out.2.1.shut)
          have HSg := hid HW.out.2.2
          clear HW
          go_wp2_with fail
          refine hC.mono ?_
          rintro e w5 ⟨rfl, H5⟩
          have c9 := H5.out.rf.cells.2.2.2.2.2.2.2.2.2
          obtain ⟨q0, q1, q2, q3⟩ := HBox.out _ H5.out.br.bel
          have hN := rnew_any s w5
          unfold SgV RkC Rk.new at hN
          simp only at hN
          clear hC
          go_wp2_with fail
          refine hN.mono ?_
          rintro e w6 ⟨rfl, hb⟩
          have H6 := H5.out.below hb.out
          have k := fun j => H6.rf.frozen j
          obtain ⟨x0, x1, x2, x3, x4, x5, x6, x7, x8, x9⟩ := H6.rf.cells
          obtain ⟨W7, hW7⟩ : ∃ W7, ((((((((((w6.setCell ⟨r, 0, none⟩ (.int .i64 s.f)).setCell ⟨r, 1, none⟩ (.int .i64 s.c)).setCell ⟨r, 2, none⟩ (.int .i64 s.m)).setCell ⟨r, 3, none⟩ (.int .i64 s.n)).setCell ⟨r, 4, none⟩ (.int .i64 0)).setCell ⟨r, 5, none⟩ (.int .i64 0)).setCell ⟨r, 6, none⟩ (.int .i64 s.c)).setCell ⟨r, 7, none⟩ (.int .i64 0)).setCell ⟨r, 8, none⟩ (.bool false)).setCell ⟨r, 9, none⟩ (.int .i64 0)) = W7 := ⟨_, rfl⟩
          have H7 : RkAt W7 r (Rk.new s 0) ∧ Tn r w6 W7 := by rw [← hW7]; exact ⟨H6.rf.allset s, Tn.allsetR s (Tn.refl r w6)⟩
          have y9 := H7.1.cells.2.2.2.2.2.2.2.2.2
          have j9 := H7.1.frozen 9
          have HY : Hid (PlC w1 b r s R.t P.shut (Rk.new s R.t) (W7.setCell ⟨r, 9, none⟩ (.int .i64 R.t))) := by
            have e : (⟨P.f, P.c, P.m, P.n⟩ : Sg) = s := HSg.out
            have h1 := HSm.out
            rw [e] at h1
            refine ⟨(H6.toR H7).toR ⟨H7.1.set rfl, (Tn.refl r W7).set _ _⟩, h1.go R.t, HSg.out⟩
          clear H5 H6 H7 HSm HSg hb hN c9 q0 q1 q2 q3
          go_wp2_with fail
          try rw [hW7]
          clear hW7 x0 x1 x2 x3 x4 x5 x6 x7 x8 x9 k
          go_wp2_with fail
          go_meet
          exact ⟨R.t, _, _, rfl, HY⟩
      case rest =>
      obtain ⟨now3, P2, R2, rfl, HC⟩ := hcut
      rename World => wz
      have hL := HC.out.bo.later2 now3
      have HSm := hid HC.out.sim
      have HSg : Hid ((P2.go now3).sg = s) := by unfold Hid; rw [Pk.sg_go]; exact HC.out.sg
      have HPS : Hid (∀ W' : World, PlB w1 b r P2 (R2.ltr now3) W' → Calls Try.prog 23 #[.pointer (some ⟨b, 0, none⟩), .int .i64 now3] W' fun e w' => e = .returned (.int .i64 (R2.ltr now3).st) ∧ Hid (PlB w1 b r (P2.go now3) (R2.ltr now3) w')) := fun W' h => by
        rw [HSm.out.st]
        exact h.state1 now3
      have HPC : Hid (∀ W' : World, PlB w1 b r (P2.go now3) (R2.ltr now3) W' → Calls Try.prog 24 #[.pointer (some ⟨b, 0, none⟩)] W' fun e w' => e = .returned (.int .i64 (R2.ltr now3).cool) ∧ w' = W') := fun W' h => by
        rw [HSm.out.cool]
        exact h.br.cCool
      have HPN : Hid (∀ W' : World, PlB w1 b r (P2.go now3) (R2.ltr now3) W' → Calls Try.prog 25 #[.pointer (some ⟨b, 0, none⟩)] W' fun e w' => e = .returned (.int .i64 (R2.ltr now3).t) ∧ w' = W') := fun W' h => by
        rw [HSm.out.t]
        exact h.br.cNow
      clear HC HW
      generalize P2.go now3 = P3 at *
      generalize R2.ltr now3 = R3 at *
      go_wp2_with fail
      refine hL.mono ?_
      rintro e w8 ⟨rfl, H8⟩
      clear hL
      have HV0 := hid (H8.out.below (Below.refl _ _).drew)
      have HK : Hid (∀ (W' : World) (P' : Pk), PlB w1 b r P' R3 W' → W'.cell? ⟨r, 4, none⟩ = some (.int .i64 R3.st) ∧ W'.cell? ⟨r, 6, none⟩ = some (.int .i64 R3.cool) ∧ W'.cell? ⟨r, 9, none⟩ = some (.int .i64 R3.t)) := fun W' P' h => ⟨h.rf.cells.2.2.2.2.1, h.rf.cells.2.2.2.2.2.2.1, h.rf.cells.2.2.2.2.2.2.2.2.2⟩
      clear H8
      go_wp2_with fail
      go_region_held3 (fun W : World => W.cell? ⟨r, 4, none⟩ = some (.int .i64 R3.st) ∧ W.cell? ⟨r, 6, none⟩ = some (.int .i64 R3.cool) ∧ W.cell? ⟨r, 9, none⟩ = some (.int .i64 R3.t))
        (first | (with_reducible exact HK.out _ _ HV0.out) | (with_reducible exact HK.out _ _ HV1.out))
        (first
          | (go_at_call 23; (with_reducible refine (HPS.out _ HV0.out).mono ?_); rintro e x1 ⟨rfl, HV1⟩)
          | (go_at_call 24; (with_reducible refine (HPC.out _ HV1.out).mono ?_); rintro e x2 ⟨rfl, rfl⟩)
          | (go_at_call 25; (with_reducible refine (HPN.out _ HV1.out).mono ?_); rintro e x2 ⟨rfl, rfl⟩)
          | fail)
      all_goals
        have HX := hid (And.intro HV1.out (And.intro HSm.out HSg.out))
        clear HPS HPC HPN HV0 HV1 HK HSm HSg
        go_wp2_with fail
        go_round
        case rel => exact ⟨k + 1, P3, R3, by omega, by go_num, HX⟩
        case measure => simp [intOf]; omega
    · have g1 : ¬ (k : Int) < (N : Int) := by omega
      go_wp2_with fail
      refine (alive22_any _).mono ?_
      rintro e w4 ⟨rfl, H4⟩
      have HE : Hid (Below w.heap.size w w4) := (HB1.out.trans (HS.out.1.br.bel.mono HB1.out.size)).trans (H4.out.mono (Nat.le_trans HB1.out.size HS.out.1.br.bel.size))
      clear HS H4
      go_wp2_with fail
      go_ret
      exact ⟨rfl, HE⟩
  · have HN := hid fun W : World => bnew_no his W
    have HM := hid fun W : World => rmay_no his W
    unfold SgV at hTh hW1 HN HM ⊢
    obtain ⟨q, hq⟩ : ∃ q, w.heap.size = q := ⟨_, rfl⟩
    have HQ := hid hq
    rw [hq] at c0' c1' c2' c3' HBox
    clear b1 v1 hq HSp HSh
    go_enter Try.func3, Try.ntmps3
    go_wp2_with fail
    try rw [← hW1]
    try rw [HQ.out]
    refine hTh.mono ?_
    rintro e w2 ⟨rfl, hb2⟩
    clear hTh hW1 c0' c1' c2' c3'
    go_wp2_with fail
    refine (HN.out _).mono ?_
    rintro e w3 ⟨rfl, hb3⟩
    clear HN
    have B3 : Hid (Below w1.heap.size w1 w3) := hb2.out.trans (hb3.out.mono hb2.out.size)
    obtain ⟨d0, d1, d2, d3⟩ := HBox.out _ B3.out
    go_wp2_with fail
    refine (HM.out _).mono ?_
    rintro e w4 ⟨rfl, hb4⟩
    have B4 : Hid (Below w1.heap.size w1 w4) := B3.out.trans (hb4.out.mono B3.out.size)
    clear d0 d1 d2 d3
    obtain ⟨d0, d1, d2, d3⟩ := HBox.out _ B4.out
    go_wp2_with fail
    refine (HM.out _).mono ?_
    rintro e w5 ⟨rfl, hb5⟩
    have B5 : Hid (Below w1.heap.size w1 w5) := B4.out.trans (hb5.out.mono B4.out.size)
    clear d0 d1 d2 d3 hb2 hb3 hb4 hb5 B3 B4 HM HBox
    go_wp2_with fail
    refine (alive22_any _).mono ?_
    rintro e w6 ⟨rfl, H6⟩
    have HE : Hid (Below w.heap.size w w6) := (HB1.out.trans (B5.out.mono HB1.out.size)).trans (H6.out.mono (Nat.le_trans HB1.out.size B5.out.size))
    clear H6 B5 HB1
    go_wp2_with fail
    go_ret
    exact ⟨rfl, HE⟩
end Go.Proofs.Ytekdbmhpdkdjjaa
