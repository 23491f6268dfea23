/-
  ScalePlays, walked.
-/
import Derived.Test.YtkkkabgljppilaaScPl
import Derived.Deep.RegionHeld3
import Derived.Deep.DeepCutAuto
import Derived.Deep.CutBlock
import Derived.Outline
namespace Go.Proofs.Ytkkkabgljppilaa
open Go.RowKit
set_option linter.unusedVariables false
set_option maxRecDepth 1000000

set_option maxHeartbeats 64000000 in
theorem plays_any (s : Sg) (hs : SgIn s) {a0 : Option Addr} {l0 c0 : Nat} {xs0 : List Sp} {w : World} (ga0 : Lst w a0 l0 c0 6 xs0 SpV SpIn) : Calls Try.prog 3 #[.agg (SgV s), .slice a0 l0 c0] w fun e w' => e = .returned (.bool true) ∧ Hid (Below w.heap.size w w') := by
  have HSh := hid fun W' => short25_any a0 l0 c0 W' ga0.room ga0.most
  obtain ⟨N, HNn⟩ : ∃ n, Hid (min l0 300 = n) := ⟨_, rfl⟩
  rw [HNn.out] at HSh
  have hN1 : N ≤ l0 ∧ N ≤ 300 := by have := HNn.out; omega
  have r1 := ga0.room
  have m1 := ga0.most
  obtain ⟨w1, hW1⟩ : ∃ w1, w1 = w.alloc (.cells (SgV s) 23) := ⟨_, rfl⟩
  have b1 : Below w.heap.size w w1 := by rw [hW1]; exact (Below.refl _ _).alloc (Nat.le_refl _) _
  have HB1 := hid b1
  have HSp := hid fun (W' : World) (hb : Below w1.heap.size w1 W') => ga0.below SpV_size (b1.trans (hb.mono b1.size))
  clear ga0
  have hTh := theirs25_any s w1
  have v1 : w1.heap[w.heap.size]? = some (.cells (SgV s) 23 (0, 0)) := by rw [hW1]; exact heap_alloc_new w _
  have HBox : Hid (∀ W : World, Below w1.heap.size w1 W → W.cell? ⟨w.heap.size, 0, none⟩ = some (.int .i64 s.mn) ∧ W.cell? ⟨w.heap.size, 1, none⟩ = some (.int .i64 s.mx) ∧ W.cell? ⟨w.heap.size, 2, none⟩ = some (.int .i64 s.pr) ∧ W.cell? ⟨w.heap.size, 3, none⟩ = some (.int .i64 s.sl) ∧ W.cell? ⟨w.heap.size, 4, none⟩ = some (.int .i64 s.uw) ∧ W.cell? ⟨w.heap.size, 5, none⟩ = some (.int .i64 s.dw)) := fun W hb => by
    have hv := block_bel v1 hb
    refine ⟨?_, ?_, ?_, ?_, ?_, ?_⟩ <;> (rw [cell_of_row _ _ _ _ _ _ hv]; rfl)
  obtain ⟨c0', c1', c2', c3', c4', c5'⟩ := HBox.out _ (Below.refl _ _)
  by_cases his : s.Is
  · have HN := hid fun W : World => snew_yes his W
    have HM := hid fun W : World => rmay_any s W
    rw [decide_eq_true his] at HM
    have HR0 := hid fun W : World => rnew_any s W
    have HI0 : Hid (∀ (b : Nat) (W W' W2 W3 : World), Below w1.heap.size w1 W → (PkAt W' b (Pk.new s) ∧ Below W.heap.size W W' ∧ W.heap.size ≤ b) → Below W'.heap.size W' W2 → W3 = W2.alloc (.cells (RkC (Pk.new s)) 34) → PlB w1 b W2.heap.size (Pk.new s) (Pk.new s) W3) := fun b W W' W2 W3 hb H h2 h4 => by
      subst h4
      have q1 : PkS w1 b (Pk.new s) W' := PkS.new his hb H
      have q2 : PkS w1 b (Pk.new s) W2 := q1.below h2
      refine ⟨q2.below ((Below.refl _ _).alloc (Nat.le_refl _) _), heap_alloc_new W2 _, PkOk.new his, ?_, q2.bel.size⟩
      have := q2.at'.lt
      omega
    unfold SgV at hTh hW1 HN HM HR0 ⊢
    unfold RkC at HI0 HR0
    have HI1 : Hid (∀ (b : Nat) (W W' W2 W3 : World), Below w1.heap.size w1 W → (PkAt W' b (Pk.new s) ∧ Below W.heap.size W W' ∧ W.heap.size ≤ b) → Below W'.heap.size W' W2 → W3 = W2.alloc (.cells #[.int .i64 s.mn, .int .i64 s.mx, .int .i64 s.pr, .int .i64 s.sl, .int .i64 s.uw, .int .i64 s.dw, .int .i64 0, .int .i64 (-1), .int .i64 (-1)] 34) → PlB w1 b W2.heap.size (Pk.new s) (Pk.new s) W3) := HI0
    have HR : Hid (∀ W : World, Calls Try.prog 11 #[.agg #[.int .i64 s.mn, .int .i64 s.mx, .int .i64 s.pr, .int .i64 s.sl, .int .i64 s.uw, .int .i64 s.dw]] W fun e w' => e = .returned (.agg #[.int .i64 s.mn, .int .i64 s.mx, .int .i64 s.pr, .int .i64 s.sl, .int .i64 s.uw, .int .i64 s.dw, .int .i64 0, .int .i64 (-1), .int .i64 (-1)]) ∧ Hid (Below W.heap.size W w')) := HR0
    clear HI0 HR0
    obtain ⟨q, hq⟩ : ∃ q, w.heap.size = q := ⟨_, rfl⟩
    have HQ := hid hq
    rw [hq] at c0' c1' c2' c3' c4' c5' HBox
    clear b1 v1 hq
    go_enter Try.func3, Try.ntmps3
    go_wp2_with fail
    try rw [← hW1]
    try rw [HQ.out]
    refine hTh.mono ?_
    rintro e w2 ⟨rfl, hb2⟩
    clear hTh hW1 c0' c1' c2' c3' c4' c5'
    go_wp2_with fail
    refine (HN.out _).mono ?_
    rintro e w3 ⟨b, rfl, H3⟩
    clear HN
    have B3 : Hid (Below w1.heap.size w1 w3) := hb2.out.trans (H3.out.2.1.mono hb2.out.size)
    obtain ⟨d0, d1, d2, d3, d4, d5⟩ := HBox.out _ B3.out
    go_wp2_with fail
    refine (HM.out _).mono ?_
    rintro e w4 ⟨rfl, hb4⟩
    have B4 : Hid (Below w1.heap.size w1 w4) := B3.out.trans (hb4.out.mono B3.out.size)
    clear d0 d1 d2 d3 d4 d5
    obtain ⟨d0, d1, d2, d3, d4, d5⟩ := HBox.out _ B4.out
    go_wp2_with fail
    refine (HR.out _).mono ?_
    rintro e w5 ⟨rfl, hb5⟩
    have B5 : Hid (Below w3.heap.size w3 w5) := hb4.out.trans (hb5.out.mono hb4.out.size)
    obtain ⟨w6, hw6⟩ : ∃ w6, w6 = w5.alloc (.cells #[.int .i64 s.mn, .int .i64 s.mx, .int .i64 s.pr, .int .i64 s.sl, .int .i64 s.uw, .int .i64 s.dw, .int .i64 0, .int .i64 (-1), .int .i64 (-1)] 34) := ⟨_, rfl⟩
    have HJ := hid (HI1.out b _ _ _ _ hb2.out H3.out B5.out hw6)
    obtain ⟨r, hr⟩ : ∃ r, w5.heap.size = r := ⟨_, rfl⟩
    rw [hr] at HJ
    clear HM HI1 HR hb2 H3 B3 hb4 B4 hb5 B5
    go_wp2_with fail
    try rw [← hw6]
    try rw [hr]
    clear hw6 hr d0 d1 d2 d3 d4 d5
    refine (HSh.out _).mono ?_
    rintro e w7 ⟨rfl, rfl⟩
    clear HSh
    go_wp2_with fail
    go_loopw [45] (fun z W' => ∃ (k : Nat) (P : Pk), k ≤ N ∧ z = .int .i64 k ∧ Hid (PlB w1 b r P P W')) (fun z _ => N - (intOf z).toNat)
    case atStart => exact ⟨0, _, by omega, rfl, HJ.out⟩
    case round =>
    obtain ⟨k, P, hk, rfl, HS⟩ := hrel
    rename World => wr
    clear HJ
    by_cases hkl : k < N
    · have g1 : (k : Int) < (N : Int) := by omega
      have hL := HSp.out _ HS.out.br.bel
      have hx : k < xs0.length := by rw [hL.size]; omega
      obtain ⟨qq, off, rfl, hc⟩ := hL.cell k hx
      have q0 := hc 0 (by omega)
      have q1 := hc 1 (by omega)
      have q2 := hc 2 (by omega)
      have q3 := hc 3 (by omega)
      have q4 := hc 4 (by omega)
      have q5 := hc 5 (by omega)
      have HI := hid (hL.inn k hx)
      clear hc hL
      simp only [SpV, List.getElem?_toArray, List.getElem?_cons_zero, List.getElem?_cons_succ, Nat.add_zero] at q0 q1 q2 q3 q4 q5
      generalize xs0[k] = x at *
      obtain ⟨w3, hw3⟩ : ∃ w3, w3 = wr.alloc (.cells #[.bool x.sb, .int .i64 x.later, .int .i64 x.live, .int .i64 x.load, .int .i64 x.mn, .int .i64 x.mx] 38) := ⟨_, rfl⟩
      obtain ⟨sb, hsb⟩ : ∃ sb, wr.heap.size = sb := ⟨_, rfl⟩
      have HW : Hid (PlX w1 b r sb x P P w3) := by rw [← hsb]; exact PlX.new HS.out x hw3
      obtain ⟨y0, y1, y2, y3, y4, y5⟩ := HW.out.cells
      have y9 := HW.out.bo.rf.cs.now
      have y9r := y9
      rw [hw3] at y9r
      have ht1 := HW.out.bo.okr.now
      obtain ⟨now2, hnow2⟩ : ∃ n2 : Int, n2 = if -100000 < x.later ∧ x.later < 1125899906842624 then P.now + x.later else P.now := ⟨_, rfl⟩
      clear HS HI y3 y4 y5
      go_upto_region 9 with fail
      try rw [← hw3]
      try rw [hsb]
      clear hw3 hsb q0 q1 q2 q3 q4 q5 y9r
      go_cut [58] (fun v wx => v = .bool (decide (-100000 < x.later ∧ x.later < 1125899906842624)) ∧ wx = w3)
      case first =>
        by_cases h1 : -100000 < x.later
        · by_cases h2 : x.later < 1125899906842624
          · go_wp2_with fail
            go_meet
            exact ⟨by simp [h1, h2], rfl⟩
          · have h2' : 1125899906842624 ≤ x.later := by omega
            go_wp2_with fail
            go_meet
            exact ⟨by simp [h1]; omega, rfl⟩
        · have h1' : x.later ≤ -100000 := by omega
          go_wp2_with fail
          go_meet
          exact ⟨by simp; omega, rfl⟩
      case rest =>
      obtain ⟨rfl, hwc⟩ := hcut
      have hwc' := hwc.symm
      subst hwc'
      go_upto_if 58 with fail
      go_cut [10] (fun v wx => v = .int .i64 now2 ∧ wx = w3)
      case first =>
        by_cases h1 : -100000 < x.later ∧ x.later < 1125899906842624
        · have hd : decide (-100000 < x.later ∧ x.later < 1125899906842624) = true := decide_eq_true h1
          have e : Hid (now2 = P.now + x.later) := by unfold Hid; rw [hnow2, if_pos h1]
          have e1 : IntKind.i64.wrap (P.now + x.later) = P.now + x.later := by rw [IntKind.wrap_i64]; omega
          clear hnow2
          go_wp2_with fail
          go_meet
          exact ⟨by rw [e.out], rfl⟩
        · have hd : decide (-100000 < x.later ∧ x.later < 1125899906842624) = false := decide_eq_false h1
          have e : Hid (now2 = P.now) := by unfold Hid; rw [hnow2, if_neg h1]
          clear hnow2
          go_wp2_with fail
          go_meet
          exact ⟨by rw [e.out], rfl⟩
      case rest =>
      obtain ⟨rfl, hwc⟩ := hcut
      have hwc' := hwc.symm
      subst hwc'
      clear hnow2 ht1 y1 y9
      by_cases hlv : 1048576 < x.live
      · clear y0
        go_wp2_with fail
        refine (alive25_any _).mono ?_
        rintro e w4 ⟨rfl, H4⟩
        have HE : Hid (Below w.heap.size w w4) := (HB1.out.trans (HW.out.bo.br.bel.mono HB1.out.size)).trans (H4.out.mono (Nat.le_trans HB1.out.size HW.out.bo.br.bel.size))
        clear HW H4 y2
        go_wp2_with fail
        go_ret
        exact ⟨rfl, HE⟩
      have hlv2 : x.live ≤ 1048576 := by omega
      clear hlv
      obtain ⟨tb, htb⟩ : ∃ tb, x.sb = tb := ⟨_, rfl⟩
      rw [htb] at y0
      clear htb
      go_upto_if 68 with fail
      clear y0 y2 hlv2
      go_cut [10] (fun v wx => ∃ P2 : Pk, v = .int .i64 now2 ∧ Hid (PlX w1 b r sb x P2 P2 wx))
      case first =>
        have HV0 := hid HW.out.drew
        cases tb with
        | true =>
          have HC : Hid (∀ W' : World, PlX w1 b r sb x P P W' → Calls Try.prog 13 #[.pointer (some ⟨b, 0, none⟩), .int .i64 x.mn, .int .i64 x.mx] W' fun e w' => e = .returned (.int .i64 (if Bnd x.mn x.mx then 0 else 1)) ∧ Hid (PlX w1 b r sb x (P.put x.mn x.mx) P w')) := fun W' h => h.set1 x.mn x.mx
          have HD : Hid (∀ W' : World, PlX w1 b r sb x (P.put x.mn x.mx) P W' → Calls Try.prog 14 #[.pointer (some ⟨r, 0, none⟩), .int .i64 x.mn, .int .i64 x.mx] W' fun e w' => e = .returned (.bool (decide (Bnd x.mn x.mx))) ∧ Hid (PlX w1 b r sb x (P.put x.mn x.mx) (P.put x.mn x.mx) w')) := fun W' h => h.set2 x.mn x.mx
          have HK : Hid (∀ (W' : World) (P' Q' : Pk), PlX w1 b r sb x P' Q' W' → W'.cell? ⟨sb, 4, none⟩ = some (.int .i64 x.mn) ∧ W'.cell? ⟨sb, 5, none⟩ = some (.int .i64 x.mx)) := fun W' P' Q' h => ⟨h.cells.mn, h.cells.mx⟩
          clear HW
          generalize P.put x.mn x.mx = P2 at *
          by_cases hb : Bnd x.mn x.mx
          · rw [if_pos hb] at HC
            rw [decide_eq_true hb] at HD
            clear hb
            go_wp2_with fail
            go_region_held3 (fun W : World => W.cell? ⟨sb, 4, none⟩ = some (.int .i64 x.mn) ∧ W.cell? ⟨sb, 5, none⟩ = some (.int .i64 x.mx))
              (first | (with_reducible exact HK.out _ _ _ HV0.out) | (with_reducible exact HK.out _ _ _ HV1.out) | (with_reducible exact HK.out _ _ _ HV2.out))
              (first
                | (go_at_call 13; (with_reducible refine (HC.out _ HV0.out).mono ?_); rintro e x1 ⟨rfl, HV1⟩)
                | (go_at_call 14; (with_reducible refine (HD.out _ HV1.out).mono ?_); rintro e x2 ⟨rfl, HV2⟩)
                | fail)
            all_goals
              clear HC HD HV0 HV1 HK
              go_wp2_with fail
              go_meet
              exact ⟨_, rfl, HV2⟩
          · rw [if_neg hb] at HC
            rw [decide_eq_false hb] at HD
            clear hb
            go_wp2_with fail
            go_region_held3 (fun W : World => W.cell? ⟨sb, 4, none⟩ = some (.int .i64 x.mn) ∧ W.cell? ⟨sb, 5, none⟩ = some (.int .i64 x.mx))
              (first | (with_reducible exact HK.out _ _ _ HV0.out) | (with_reducible exact HK.out _ _ _ HV1.out) | (with_reducible exact HK.out _ _ _ HV2.out))
              (first
                | (go_at_call 13; (with_reducible refine (HC.out _ HV0.out).mono ?_); rintro e x1 ⟨rfl, HV1⟩)
                | (go_at_call 14; (with_reducible refine (HD.out _ HV1.out).mono ?_); rintro e x2 ⟨rfl, HV2⟩)
                | fail)
            all_goals
              clear HC HD HV0 HV1 HK
              go_wp2_with fail
              go_meet
              exact ⟨_, rfl, HV2⟩
        | false =>
          have HC : Hid (∀ W' : World, PlX w1 b r sb x P P W' → Calls Try.prog 15 #[.pointer (some ⟨b, 0, none⟩), .int .i64 now2, .int .i64 x.live, .int .i64 x.load] W' fun e w' => e = .returned (.int .i64 (P.stp now2 x.live x.load)) ∧ Hid (PlX w1 b r sb x (P.stpd now2 x.live x.load) P w')) := fun W' h => h.step1 now2 x.live x.load
          have HD : Hid (∀ W' : World, PlX w1 b r sb x (P.stpd now2 x.live x.load) P W' → Calls Try.prog 16 #[.pointer (some ⟨r, 0, none⟩), .int .i64 now2, .int .i64 x.live, .int .i64 x.load] W' fun e w' => e = .returned (.int .i64 (P.stp now2 x.live x.load)) ∧ Hid (PlX w1 b r sb x (P.stpd now2 x.live x.load) (P.stpd now2 x.live x.load) w')) := fun W' h => h.step2 now2 x.live x.load
          have HK : Hid (∀ (W' : World) (P' Q' : Pk), PlX w1 b r sb x P' Q' W' → W'.cell? ⟨sb, 2, none⟩ = some (.int .i64 x.live) ∧ W'.cell? ⟨sb, 3, none⟩ = some (.int .i64 x.load)) := fun W' P' Q' h => ⟨h.cells.live, h.cells.load⟩
          clear HW
          generalize P.stpd now2 x.live x.load = P2 at *
          generalize P.stp now2 x.live x.load = dd at *
          go_wp2_with fail
          go_region_held3 (fun W : World => W.cell? ⟨sb, 2, none⟩ = some (.int .i64 x.live) ∧ W.cell? ⟨sb, 3, none⟩ = some (.int .i64 x.load))
            (first | (with_reducible exact HK.out _ _ _ HV0.out) | (with_reducible exact HK.out _ _ _ HV1.out) | (with_reducible exact HK.out _ _ _ HV2.out))
            (first
              | (go_at_call 15; (with_reducible refine (HC.out _ HV0.out).mono ?_); rintro e x1 ⟨rfl, HV1⟩)
              | (go_at_call 16; (with_reducible refine (HD.out _ HV1.out).mono ?_); rintro e x2 ⟨rfl, HV2⟩)
              | fail)
          all_goals
            clear HC HD HV0 HV1 HK
            go_wp2_with fail
            go_meet
            exact ⟨_, rfl, HV2⟩
      case rest =>
      obtain ⟨P2, rfl, HC⟩ := hcut
      rename World => wz
      have HBo := hid HC.out.bo.br.cBounds
      go_wp2_with fail
      refine HBo.out.mono ?_
      rintro e wy ⟨rfl, mm, rfl⟩
      have HC2 := hid (HC.out.drewN mm)
      generalize World.drewN _ mm = wv at *
      clear HBo HC HW
      have HWa := hid fun n : Nat => (HC2.out.drewN n).bo.br.cWant x.load
      have HWb := hid fun n : Nat => (HC2.out.drewN n).want2 x.load
      have HNo := hid fun n : Nat => (HC2.out.drewN n).bo.br.cNow
      have e0 := fun n : Nat => (HC2.out.drewN n).bo.rf.cs.mn
      have e1 := fun n : Nat => (HC2.out.drewN n).bo.rf.cs.mx
      have e6 := fun n : Nat => (HC2.out.drewN n).bo.rf.cs.now
      have e3 := fun n : Nat => (HC2.out.drewN n).cells.load
      have HX := hid fun n : Nat => HC2.out.bo.drewN n
      clear HC2
      generalize P2.want x.load = wa at *
      go_wp2_with fail
      go_quiet (first
        | (go_at_call 18; exact Calls.quiet_of_same (HWa.out _))
        | (go_at_call 19; exact Calls.quiet_of (HWb.out _))
        | (go_at_call 20; exact Calls.quiet_of_same (HNo.out _)))
      clear HWa HWb HNo e0 e1 e6 e3
      go_wp2_with fail
      go_round
      case rel => exact ⟨k + 1, P2, by omega, by go_num, HX.out _⟩
      case measure => simp [intOf]; omega
    · have g1 : ¬ (k : Int) < (N : Int) := by omega
      go_wp2_with fail
      refine (alive25_any _).mono ?_
      rintro e w4 ⟨rfl, H4⟩
      have HE : Hid (Below w.heap.size w w4) := (HB1.out.trans (HS.out.br.bel.mono HB1.out.size)).trans (H4.out.mono (Nat.le_trans HB1.out.size HS.out.br.bel.size))
      clear HS H4
      go_wp2_with fail
      go_ret
      exact ⟨rfl, HE⟩
  · have HN := hid fun W : World => snew_no his W
    have HM := hid fun W : World => rmay_any s W
    rw [decide_eq_false his] at HM
    unfold SgV at hTh hW1 HN HM ⊢
    obtain ⟨q, hq⟩ : ∃ q, w.heap.size = q := ⟨_, rfl⟩
    have HQ := hid hq
    rw [hq] at c0' c1' c2' c3' c4' c5' HBox
    clear b1 v1 hq HSp HSh
    go_enter Try.func3, Try.ntmps3
    go_wp2_with fail
    try rw [← hW1]
    try rw [HQ.out]
    refine hTh.mono ?_
    rintro e w2 ⟨rfl, hb2⟩
    clear hTh hW1 c0' c1' c2' c3' c4' c5'
    go_wp2_with fail
    refine (HN.out _).mono ?_
    rintro e w3 ⟨rfl, hb3⟩
    clear HN
    have B3 : Hid (Below w1.heap.size w1 w3) := hb2.out.trans (hb3.out.mono hb2.out.size)
    obtain ⟨d0, d1, d2, d3, d4, d5⟩ := HBox.out _ B3.out
    go_wp2_with fail
    refine (HM.out _).mono ?_
    rintro e w4 ⟨rfl, hb4⟩
    have B4 : Hid (Below w1.heap.size w1 w4) := B3.out.trans (hb4.out.mono B3.out.size)
    clear d0 d1 d2 d3 d4 d5
    obtain ⟨d0, d1, d2, d3, d4, d5⟩ := HBox.out _ B4.out
    go_wp2_with fail
    refine (HM.out _).mono ?_
    rintro e w5 ⟨rfl, hb5⟩
    have B5 : Hid (Below w1.heap.size w1 w5) := B4.out.trans (hb5.out.mono B4.out.size)
    clear d0 d1 d2 d3 d4 d5 hb2 hb3 hb4 hb5 B3 B4 HM HBox
    go_wp2_with fail
    refine (alive25_any _).mono ?_
    rintro e w6 ⟨rfl, H6⟩
    have HE : Hid (Below w.heap.size w w6) := (HB1.out.trans (B5.out.mono HB1.out.size)).trans (H6.out.mono (Nat.le_trans HB1.out.size B5.out.size))
    clear H6 B5 HB1
    go_wp2_with fail
    go_ret
    exact ⟨rfl, HE⟩
end Go.Proofs.Ytkkkabgljppilaa
