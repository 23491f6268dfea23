/-
  ProbePlays, walked.
-/
import Derived.Test.YtmpooeflbfggbaaPbPl
import Derived.Test.YtmpooeflbfggbaaPbNo
import Derived.Deep.RegionHeld3
import Derived.Deep.DeepCutAuto
import Derived.Deep.CutBlock
import Derived.Outline
namespace Go.Proofs.Ytmpooeflbfggbaa
open Go.RowKit
set_option linter.unusedVariables false
set_option maxRecDepth 1000000

set_option maxHeartbeats 64000000 in
theorem plays_any (s : Sg) (hs : SgIn s) {a0 : Option Addr} {l0 c0 : Nat} {xs0 : List Sp} {w : World} (ga0 : Lst w a0 l0 c0 3 xs0 SpV SpIn) : Calls Try.prog 3 #[.agg (SgV s), .slice a0 l0 c0] w fun e w' => e = .returned (.bool true) ∧ Hid (Below w.heap.size w w') := by
  have HSh := hid fun W' => short23_any a0 l0 c0 W' ga0.room ga0.most
  obtain ⟨N, HNn⟩ : ∃ n, Hid (min l0 400 = n) := ⟨_, rfl⟩
  rw [HNn.out] at HSh
  have hN1 : N ≤ l0 ∧ N ≤ 400 := by have := HNn.out; omega
  have r1 := ga0.room
  have m1 := ga0.most
  obtain ⟨w1, hW1⟩ : ∃ w1, w1 = w.alloc (.cells (SgV s) 23) := ⟨_, rfl⟩
  have b1 : Below w.heap.size w w1 := by rw [hW1]; exact (Below.refl _ _).alloc (Nat.le_refl _) _
  have HB1 := hid b1
  have HSp := hid fun (W' : World) (hb : Below w1.heap.size w1 W') => ga0.below SpV_size (b1.trans (hb.mono b1.size))
  clear ga0
  have hTh := theirs23_any s w1
  have v1 : w1.heap[w.heap.size]? = some (.cells (SgV s) 23 (0, 0)) := by rw [hW1]; exact heap_alloc_new w _
  have HBox : Hid (∀ W : World, Below w1.heap.size w1 W → W.cell? ⟨w.heap.size, 0, none⟩ = some (.int .i64 s.e) ∧ W.cell? ⟨w.heap.size, 1, none⟩ = some (.int .i64 s.wt) ∧ W.cell? ⟨w.heap.size, 2, none⟩ = some (.int .i64 s.m) ∧ W.cell? ⟨w.heap.size, 3, none⟩ = some (.int .i64 s.h)) := fun W hb => by
    have hv := block_bel v1 hb
    refine ⟨?_, ?_, ?_, ?_⟩ <;> (rw [cell_of_row _ _ _ _ _ _ hv]; rfl)
  obtain ⟨c0', c1', c2', c3'⟩ := HBox.out _ (Below.refl _ _)
  by_cases his : s.Is
  · have HN := hid fun W : World => pnew_yes his W
    have HM := hid fun W : World => rmay_any s W
    rw [decide_eq_true his] at HM
    have HI0 : Hid (∀ (b : Nat) (W W' W2 W3 : World), Below w1.heap.size w1 W → (PkAt W' b (Pk.new s) ∧ Below W.heap.size W W' ∧ W.heap.size ≤ b) → Below W'.heap.size W' W2 → W3 = W2.alloc (.cells (RkC (Pk.new s) 0) 35) → PlB w1 b W2.heap.size (Pk.new s) (Pk.new s) 0 W3) := fun b W W' W2 W3 hb H h2 h4 => by
      subst h4
      have q1 : PkS w1 b (Pk.new s) W' := PkS.new his hb H
      have q2 : PkS w1 b (Pk.new s) W2 := q1.below h2
      refine ⟨q2.below ((Below.refl _ _).alloc (Nat.le_refl _) _), heap_alloc_new W2 _, PkOk.new his, RkI.new s, ?_, q2.bel.size⟩
      have := q2.at'.lt
      omega
    unfold SgV at hTh hW1 HN HM ⊢
    unfold RkC at HI0
    have HI1 : Hid (∀ (b : Nat) (W W' W2 W3 : World), Below w1.heap.size w1 W → (PkAt W' b (Pk.new s) ∧ Below W.heap.size W W' ∧ W.heap.size ≤ b) → Below W'.heap.size W' W2 → W3 = W2.alloc (.cells #[.int .i64 s.e, .int .i64 s.wt, .int .i64 s.m, .int .i64 s.h, .int .i64 0, .int .i64 0, .int .u64 0, .bool false, .int .i64 0, .int .i64 0, .int .i64 0, .bool false] 35) → PlB w1 b W2.heap.size (Pk.new s) (Pk.new s) 0 W3) := HI0
    clear HI0
    obtain ⟨q, hq⟩ : ∃ q, w.heap.size = q := ⟨_, rfl⟩
    have HQ := hid hq
    rw [hq] at c0' c1' c2' c3' HBox
    clear b1 v1 hq
    go_enter Try.func3, Try.ntmps3
    go_wp2_with fail
    try rw [← hW1]
    try rw [HQ.out]
    refine hTh.mono ?_
    rintro e w2 ⟨rfl, hb2⟩
    clear hTh hW1 c0' c1' c2' c3'
    go_wp2_with fail
    refine (HN.out _).mono ?_
    rintro e w3 ⟨b, rfl, H3⟩
    clear HN
    have B3 : Hid (Below w1.heap.size w1 w3) := hb2.out.trans (H3.out.2.1.mono hb2.out.size)
    obtain ⟨d0, d1, d2, d3⟩ := HBox.out _ B3.out
    go_wp2_with fail
    refine (HM.out _).mono ?_
    rintro e w4 ⟨rfl, hb4⟩
    have B4 : Hid (Below w1.heap.size w1 w4) := B3.out.trans (hb4.out.mono B3.out.size)
    clear d0 d1 d2 d3
    obtain ⟨d0, d1, d2, d3⟩ := HBox.out _ B4.out
    obtain ⟨w6, hw6⟩ : ∃ w6, w6 = w4.alloc (.cells #[.int .i64 s.e, .int .i64 s.wt, .int .i64 s.m, .int .i64 s.h, .int .i64 0, .int .i64 0, .int .u64 0, .bool false, .int .i64 0, .int .i64 0, .int .i64 0, .bool false] 35) := ⟨_, rfl⟩
    have HJ := hid (HI1.out b _ _ _ _ hb2.out H3.out hb4.out hw6)
    obtain ⟨r, hr⟩ : ∃ r, w4.heap.size = r := ⟨_, rfl⟩
    rw [hr] at HJ
    clear HM HI1 hb2 H3 B3 hb4 B4
    go_wp2_with fail
    try rw [← hw6]
    try rw [hr]
    clear hw6 hr d0 d1 d2 d3
    refine (HSh.out _).mono ?_
    rintro e w7 ⟨rfl, rfl⟩
    clear HSh
    go_wp2_with fail
    go_loopw [48] (fun z W' => ∃ (k : Nat) (P : Pk) (a : Int), k ≤ N ∧ z = .int .i64 k ∧ Hid (PlB w1 b r P P a W')) (fun z _ => N - (intOf z).toNat)
    case atStart => exact ⟨0, _, _, by omega, rfl, HJ.out⟩
    case round =>
    obtain ⟨k, P, a, hk, rfl, HS⟩ := hrel
    rename World => wr
    clear HJ
    by_cases hkl : k < N
    · have g1 : (k : Int) < (N : Int) := by omega
      have hL := HSp.out _ HS.out.br.bel
      have hx : k < xs0.length := by rw [hL.size]; omega
      obtain ⟨qq, off, rfl, hc⟩ := hL.cell k hx
      have q0 := hc 0 (by omega)
      have q1 := hc 1 (by omega)
      have q2 := hc 2 (by omega)
      have HI := hid (hL.inn k hx)
      clear hc hL
      simp only [SpV, List.getElem?_toArray, List.getElem?_cons_zero, List.getElem?_cons_succ, Nat.add_zero] at q0 q1 q2
      generalize xs0[k] = x at *
      obtain ⟨w3, hw3⟩ : ∃ w3, w3 = wr.alloc (.cells #[.int .u8 x.kd, .int .i64 x.later, .int .u64 x.n] 38) := ⟨_, rfl⟩
      obtain ⟨sb, hsb⟩ : ∃ sb, wr.heap.size = sb := ⟨_, rfl⟩
      have HW : Hid (PlX w1 b r sb x P P a w3) := by rw [← hsb]; exact PlX.new HS.out x hw3
      obtain ⟨y0, y1, y2⟩ := HW.out.cells
      have y9 := HW.out.bo.rf.cs.now
      have y9r := y9
      rw [hw3] at y9r
      have ht1 := HW.out.bo.okr.now
      obtain ⟨now2, hnow2⟩ : ∃ n2 : Int, n2 = if -100000 < x.later ∧ x.later < 1125899906842624 then P.now + x.later else P.now := ⟨_, rfl⟩
      obtain ⟨kd0, kd1⟩ := HI.out.kd
      obtain ⟨rr, hrr⟩ : ∃ rr, x.kd % 3 = rr := ⟨_, rfl⟩
      have hr' : x.kd.tmod 3 = rr := by rw [Int.tmod_eq_emod_of_nonneg kd0]; exact hrr
      have hwr : IntKind.u8.wrap rr = rr := by rw [IntKind.wrap_u8]; omega
      clear HS HI
      go_upto_region 9 with fail
      try rw [← hw3]
      try rw [hsb]
      clear hw3 hsb q0 q1 q2 y9r
      go_cut [61] (fun v wx => v = .bool (decide (-100000 < x.later ∧ x.later < 1125899906842624)) ∧ wx = w3)
      case first =>
        by_cases h1 : -100000 < x.later
        · by_cases h2 : x.later < 1125899906842624
          · go_wp2_with fail
            go_meet
            exact ⟨by simp [h1, h2], rfl⟩
          · have h2' : 1125899906842624 ≤ x.later := by omega
            go_wp2_with fail
            go_meet
            exact ⟨by simp [h1]; omega, rfl⟩
        · have h1' : x.later ≤ -100000 := by omega
          go_wp2_with fail
          go_meet
          exact ⟨by simp; omega, rfl⟩
      case rest =>
      obtain ⟨rfl, hwc⟩ := hcut
      have hwc' := hwc.symm
      subst hwc'
      go_upto_if 61 with fail
      go_cut [10] (fun v wx => v = .int .i64 now2 ∧ wx = w3)
      case first =>
        by_cases h1 : -100000 < x.later ∧ x.later < 1125899906842624
        · have hd : decide (-100000 < x.later ∧ x.later < 1125899906842624) = true := decide_eq_true h1
          have e : Hid (now2 = P.now + x.later) := by unfold Hid; rw [hnow2, if_pos h1]
          have e1 : IntKind.i64.wrap (P.now + x.later) = P.now + x.later := by rw [IntKind.wrap_i64]; omega
          clear hnow2
          go_wp2_with fail
          go_meet
          exact ⟨by rw [e.out], rfl⟩
        · have hd : decide (-100000 < x.later ∧ x.later < 1125899906842624) = false := decide_eq_false h1
          have e : Hid (now2 = P.now) := by unfold Hid; rw [hnow2, if_neg h1]
          clear hnow2
          go_wp2_with fail
          go_meet
          exact ⟨by rw [e.out], rfl⟩
      case rest =>
      obtain ⟨rfl, hwc⟩ := hcut
      have hwc' := hwc.symm
      subst hwc'
      clear hnow2 ht1 y1 y9
      go_upto_block 2 with fail
      clear y0
      go_cut [11] (fun v wx => ∃ (P2 : Pk) (a2 : Int), v = .bool true ∧ Hid (PlX w1 b r sb x P2 P2 a2 wx))
      case first =>
        rcases (by omega : rr = 0 ∨ rr = 1 ∨ rr = 2) with h0 | h1 | h2
        · subst h0
          have hC := HW.out.tick1 now2
          have HD : Hid (∀ W' : World, PlX w1 b r sb x (P.go now2).tk P a W' → _) := fun W' h => h.tick2 now2
          clear HW y2
          generalize (P.go now2).tkn = tn at *
          generalize (P.go now2).tkb = tb at *
          go_wp2_with fail
          refine hC.mono ?_
          rintro e w5 ⟨rfl, H5⟩
          have hD := HD.out _ H5.out
          clear hC H5 HD
          go_wp2_with fail
          refine hD.mono ?_
          rintro e w6 ⟨rfl, H6⟩
          clear hD
          go_wp2_with fail
          go_meet
          exact ⟨_, _, by simp, H6⟩
        · subst h1
          have HV0 := hid HW.out.drew
          have HC : Hid (∀ W' : World, PlX w1 b r sb x P P a W' → Calls Try.prog 14 #[.pointer (some ⟨b, 0, none⟩), .int .i64 now2, .int .u64 x.n] W' fun e w' => e = .returned (.bool ((P.go now2).yes x.n)) ∧ Hid (PlX w1 b r sb x ((P.go now2).pg x.n) P a w')) := fun W' h => h.pong1 now2 x.n
          have HD : Hid (∀ W' : World, PlX w1 b r sb x ((P.go now2).pg x.n) P a W' → Calls Try.prog 15 #[.pointer (some ⟨r, 0, none⟩), .int .i64 now2, .int .u64 x.n] W' fun e w' => e = .returned (.bool ((P.go now2).yes x.n)) ∧ Hid (PlX w1 b r sb x ((P.go now2).pg x.n) ((P.go now2).pg x.n) a w')) := fun W' h => h.pong2 now2 x.n
          clear HW
          generalize (P.go now2).yes x.n = mm at *
          generalize (P.go now2).pg x.n = P2 at *
          have HK : Hid (∀ (W' : World) (P' Q' : Pk), PlX w1 b r sb x P' Q' a W' → W'.cell? ⟨sb, 2, none⟩ = some (.int .u64 x.n)) := fun W' P' Q' h => h.cells.2.2
          go_wp2_with fail
          go_region_held3 (fun W : World => W.cell? ⟨sb, 2, none⟩ = some (.int .u64 x.n))
            (first | (with_reducible exact HK.out _ _ _ HV0.out) | (with_reducible exact HK.out _ _ _ HV1.out) | (with_reducible exact HK.out _ _ _ HV2.out))
            (first
              | (go_at_call 14; (with_reducible refine (HC.out _ HV0.out).mono ?_); rintro e x1 ⟨rfl, HV1⟩)
              | (go_at_call 15; (with_reducible refine (HD.out _ HV1.out).mono ?_); rintro e x2 ⟨rfl, HV2⟩)
              | fail)
          all_goals
            clear HC HD HV0 HV1 HK
            go_wp2_with fail
            go_meet
            exact ⟨_, _, by simp, HV2⟩
        · subst h2
          have HV0 := hid HW.out.drew
          have HC : Hid (∀ W' : World, PlX w1 b r sb x P P a W' → Calls Try.prog 14 #[.pointer (some ⟨b, 0, none⟩), .int .i64 now2, .int .u64 P.ask] W' fun e w' => e = .returned (.bool ((P.go now2).yes P.ask)) ∧ Hid (PlX w1 b r sb x ((P.go now2).pg P.ask) P a w')) := fun W' h => h.pong1 now2 P.ask
          have HD : Hid (∀ W' : World, PlX w1 b r sb x ((P.go now2).pg P.ask) P a W' → Calls Try.prog 15 #[.pointer (some ⟨r, 0, none⟩), .int .i64 now2, .int .u64 P.ask] W' fun e w' => e = .returned (.bool ((P.go now2).yes P.ask)) ∧ Hid (PlX w1 b r sb x ((P.go now2).pg P.ask) ((P.go now2).pg P.ask) a w')) := fun W' h => h.pong2 now2 P.ask
          have hask : ((P.go now2).pg P.ask).ask = P.ask := by rw [Pk.ask_pg, Pk.ask_go]
          have HK : Hid (∀ (W' : World) (P' Q' : Pk), PlX w1 b r sb x P' Q' a W' → Q'.ask = P.ask → W'.cell? ⟨r, 6, none⟩ = some (.int .u64 P.ask)) := fun W' P' Q' h e => by rw [← e]; exact h.bo.rf.cs.ask
          clear HW y2
          generalize (P.go now2).yes P.ask = mm at *
          generalize (P.go now2).pg P.ask = P2 at *
          have HA := hid hask
          clear hask
          go_wp2_with fail
          go_region_held3 (fun W : World => W.cell? ⟨r, 6, none⟩ = some (.int .u64 P.ask))
            (first | (with_reducible exact HK.out _ _ _ HV0.out rfl) | (with_reducible exact HK.out _ _ _ HV1.out rfl) | (with_reducible exact HK.out _ _ _ HV2.out HA.out))
            (first
              | (go_at_call 14; (with_reducible refine (HC.out _ HV0.out).mono ?_); rintro e x1 ⟨rfl, HV1⟩)
              | (go_at_call 15; (with_reducible refine (HD.out _ HV1.out).mono ?_); rintro e x2 ⟨rfl, HV2⟩)
              | fail)
          all_goals
            clear HC HD HV0 HV1 HK
            go_wp2_with fail
            go_meet
            exact ⟨_, _, by simp, HV2⟩
      case rest =>
      obtain ⟨P2, a2, rfl, HC⟩ := hcut
      rename World => wz
      have HU := hid fun n : Nat => (HC.out.bo.drewN n).br.cUp
      have HNo := hid fun n : Nat => (HC.out.bo.drewN n).br.cNow
      have HA := hid fun n : Nat => (HC.out.bo.drewN n).br.cAsked
      have HD1 := hid fun n : Nat => (HC.out.bo.drewN n).br.cDue
      have HD2 := hid fun n : Nat => (HC.out.bo.drewN n).due2
      have e11 := fun n : Nat => (HC.out.bo.drewN n).rf.cs.up
      have e4 := fun n : Nat => (HC.out.bo.drewN n).rf.cs.now
      have e6 := fun n : Nat => (HC.out.bo.drewN n).rf.cs.ask
      have HX := hid fun n : Nat => HC.out.bo.drewN n
      clear HC HW y2
      generalize P2.due = du at *
      go_wp2_with fail
      go_quiet (first
        | (go_at_call 16; exact Calls.quiet_of_same (HU.out _))
        | (go_at_call 19; exact Calls.quiet_of_same (HNo.out _))
        | (go_at_call 20; exact Calls.quiet_of_same (HA.out _))
        | (go_at_call 17; exact Calls.quiet_of (HD1.out _))
        | (go_at_call 18; exact Calls.quiet_of (HD2.out _)))
      clear HU HNo HA HD1 HD2 e11 e4 e6
      go_wp2_with fail
      go_round
      case rel => exact ⟨k + 1, P2, a2, by omega, by go_num, HX.out _⟩
      case measure => simp [intOf]; omega
    · have g1 : ¬ (k : Int) < (N : Int) := by omega
      go_wp2_with fail
      refine (alive23_any _).mono ?_
      rintro e w4 ⟨rfl, H4⟩
      have HE : Hid (Below w.heap.size w w4) := (HB1.out.trans (HS.out.br.bel.mono HB1.out.size)).trans (H4.out.mono (Nat.le_trans HB1.out.size HS.out.br.bel.size))
      clear HS H4
      go_wp2_with fail
      go_ret
      exact ⟨rfl, HE⟩
  · have HN := hid fun W : World => pnew_no his W
    have HM := hid fun W : World => rmay_any s W
    rw [decide_eq_false his] at HM
    unfold SgV at hTh hW1 HN HM ⊢
    obtain ⟨q, hq⟩ : ∃ q, w.heap.size = q := ⟨_, rfl⟩
    have HQ := hid hq
    rw [hq] at c0' c1' c2' c3' HBox
    clear b1 v1 hq HSp HSh
    go_enter Try.func3, Try.ntmps3
    go_wp2_with fail
    try rw [← hW1]
    try rw [HQ.out]
    refine hTh.mono ?_
    rintro e w2 ⟨rfl, hb2⟩
    clear hTh hW1 c0' c1' c2' c3'
    go_wp2_with fail
    refine (HN.out _).mono ?_
    rintro e w3 ⟨rfl, hb3⟩
    clear HN
    have B3 : Hid (Below w1.heap.size w1 w3) := hb2.out.trans (hb3.out.mono hb2.out.size)
    obtain ⟨d0, d1, d2, d3⟩ := HBox.out _ B3.out
    go_wp2_with fail
    refine (HM.out _).mono ?_
    rintro e w4 ⟨rfl, hb4⟩
    have B4 : Hid (Below w1.heap.size w1 w4) := B3.out.trans (hb4.out.mono B3.out.size)
    clear d0 d1 d2 d3
    obtain ⟨d0, d1, d2, d3⟩ := HBox.out _ B4.out
    go_wp2_with fail
    refine (HM.out _).mono ?_
    rintro e w5 ⟨rfl, hb5⟩
    have B5 : Hid (Below w1.heap.size w1 w5) := B4.out.trans (hb5.out.mono B4.out.size)
    clear d0 d1 d2 d3 hb2 hb3 hb4 hb5 B3 B4 HM HBox
    go_wp2_with fail
    refine (alive23_any _).mono ?_
    rintro e w6 ⟨rfl, H6⟩
    have HE : Hid (Below w.heap.size w w6) := (HB1.out.trans (B5.out.mono HB1.out.size)).trans (H6.out.mono (Nat.le_trans HB1.out.size B5.out.size))
    clear H6 B5 HB1
    go_wp2_with fail
    go_ret
    exact ⟨rfl, HE⟩
end Go.Proofs.Ytmpooeflbfggbaa
