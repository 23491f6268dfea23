/-
  BreakerEdges, walked.
-/
import Derived.Test.YtekdbmhpdkdjjaaBrEd
import Derived.Deep.RegionHeld3
import Derived.Deep.DeepCutAuto
import Derived.Deep.CutBlock
import Derived.Outline
namespace Go.Proofs.Ytekdbmhpdkdjjaa
open Go.RowKit
set_option linter.unusedVariables false
set_option maxRecDepth 1000000

set_option maxHeartbeats 32000000 in
theorem edges_any (s : Sg) (hs : SgIn s) {a0 : Option Addr} {l0 c0 : Nat} {xs0 : List Sp} {w : World} (ga0 : Lst w a0 l0 c0 2 xs0 SpV SpIn) : Calls Try.prog 4 #[.agg (SgV s), .slice a0 l0 c0] w fun e w' => e = .returned (.bool true) ∧ Hid (Below w.heap.size w w') := by
  have HSp := hid fun (W' : World) (hb : Below w.heap.size w W') => ga0.below SpV_size hb
  have HSh := hid fun W' => short22_any a0 l0 c0 W' ga0.room ga0.most
  obtain ⟨N, HNn⟩ : ∃ n, Hid (min l0 400 = n) := ⟨_, rfl⟩
  rw [HNn.out] at HSh
  have hN1 : N ≤ l0 ∧ N ≤ 400 := by have := HNn.out; omega
  have r1 := ga0.room
  have m1 := ga0.most
  clear ga0
  obtain ⟨W1, hW1⟩ : ∃ W1, W1 = w.alloc (.cells (SgV s) 23) := ⟨_, rfl⟩
  have b1 : Below w.heap.size w W1 := by rw [hW1]; exact (Below.refl _ _).alloc (Nat.le_refl _) _
  have HB1 := hid b1
  have hTh := theirs22_any s W1
  have v1 : W1.heap[w.heap.size]? = some (.cells (SgV s) 23 (0, 0)) := by rw [hW1]; exact heap_alloc_new w _
  have c0' : W1.cell? ⟨w.heap.size, 0, none⟩ = some (.int .i64 s.f) := by rw [cell_of_row _ _ _ _ _ _ v1]; rfl
  have c1' : W1.cell? ⟨w.heap.size, 1, none⟩ = some (.int .i64 s.c) := by rw [cell_of_row _ _ _ _ _ _ v1]; rfl
  have c2' : W1.cell? ⟨w.heap.size, 2, none⟩ = some (.int .i64 s.m) := by rw [cell_of_row _ _ _ _ _ _ v1]; rfl
  have c3' : W1.cell? ⟨w.heap.size, 3, none⟩ = some (.int .i64 s.n) := by rw [cell_of_row _ _ _ _ _ _ v1]; rfl
  by_cases his : s.Is
  · have HN := hid fun W : World => bnew_yes his W
    have HI0 : Hid (∀ (b : Nat) (W W' : World), Below W1.heap.size W1 W → (PkAt W' b (Pk.new s) ∧ Below W.heap.size W W' ∧ W.heap.size ≤ b) → BrS w b (Pk.new s) W') := fun b W W' hb H => BrS.new his (HB1.out.trans (hb.mono HB1.out.size)) H
    unfold SgV at hTh hW1 HN ⊢
    clear b1 v1
    go_enter Try.func4, Try.ntmps4
    go_wp2_with fail
    try rw [← hW1]
    refine hTh.mono ?_
    rintro e w1 ⟨rfl, hb⟩
    go_wp2_with fail
    refine (HN.out _).mono ?_
    rintro e w2 ⟨b, rfl, H2⟩
    have HJ := hid (HI0.out b _ _ hb.out H2.out)
    clear hb H2 HN hTh HI0 hW1 c0' c1' c2' c3' HB1
    go_wp2_with fail
    refine (HSh.out _).mono ?_
    rintro e w3 ⟨rfl, rfl⟩
    clear HSh
    go_wp2_with fail
    go_loopw [7, 8, 30] (fun nv tv z W' => ∃ (k : Nat) (now tl : Int) (P : Pk), k ≤ N ∧ nv = .int .i64 now ∧ tv = .int .i64 tl ∧ z = .int .i64 k ∧ Hid (BrS w b P W' ∧ EdI k now tl P)) (fun _ _ z _ => N - (intOf z).toNat)
    case atStart => exact ⟨0, 0, 0, _, by omega, rfl, rfl, rfl, HJ.out, EdI.new s⟩
    case round =>
    obtain ⟨k, now, tl, P, hk, rfl, rfl, rfl, HS⟩ := hrel
    rename World => wr
    clear HJ
    by_cases hkl : k < N
    · have g1 : (k : Int) < (N : Int) := by omega
      have hL := HSp.out _ HS.out.1.bel
      have hx : k < xs0.length := by rw [hL.size]; omega
      obtain ⟨q, off, rfl, hc⟩ := hL.cell k hx
      have q0 := hc 0 (by omega)
      have q1 := hc 1 (by omega)
      have HI := hid (hL.inn k hx)
      clear hc hL
      simp only [SpV, List.getElem?_toArray, List.getElem?_cons_zero, List.getElem?_cons_succ, Nat.add_zero] at q0 q1
      generalize xs0[k] = x at *
      obtain ⟨w3, hw3⟩ : ∃ w3, w3 = wr.alloc (.cells #[.int .u8 x.kd, .int .i64 x.later] 38) := ⟨_, rfl⟩
      obtain ⟨sb, hsb⟩ : ∃ sb, wr.heap.size = sb := ⟨_, rfl⟩
      have HG : Hid (EdM w b sb x P w3) := by rw [← hsb]; exact EdM.new HS.out.1 x hw3
      obtain ⟨now2, hnow2⟩ : ∃ n2 : Int, n2 = if 0 < x.later ∧ x.later < 1073741824 then now + x.later else now := ⟨_, rfl⟩
      have HED : Hid (EdI (k + 1) now2 tl (P.go now2)) := HS.out.2.go (by omega) (by rw [hnow2]; split <;> omega) (by rw [hnow2]; split <;> omega)
      have hbd := HS.out.2.bd
      have hT := HG.out.cState now2
      obtain ⟨y0, y1⟩ := HG.out.cells
      obtain ⟨kd0, kd1⟩ := HI.out.kd
      obtain ⟨rr, hrr⟩ : ∃ rr, x.kd % 6 = rr := ⟨_, rfl⟩
      have hr' : x.kd.tmod 6 = rr := by rw [Int.tmod_eq_emod_of_nonneg kd0]; exact hrr
      have hwr : IntKind.u8.wrap rr = rr := by rw [IntKind.wrap_u8]; omega
      clear HS HI
      generalize P.go now2 = Q at *
      have hbdk : now + 1073741824 ≤ 1099511627776 := by omega
      go_upto_region 9 with fail
      try rw [← hw3]
      try rw [hsb]
      clear hw3 hsb q0 q1
      go_cut [41] (fun v wx => v = .bool (decide (0 < x.later ∧ x.later < 1073741824)) ∧ wx = w3)
      case first =>
        by_cases h1 : 0 < x.later
        · by_cases h2 : x.later < 1073741824
          · go_wp2_with fail
            go_meet
            exact ⟨by simp [h1, h2], rfl⟩
          · have h2' : 1073741824 ≤ x.later := by omega
            go_wp2_with fail
            go_meet
            exact ⟨by simp [h1]; omega, rfl⟩
        · have h1' : x.later ≤ 0 := by omega
          go_wp2_with fail
          go_meet
          exact ⟨by simp; omega, rfl⟩
      case rest =>
      obtain ⟨rfl, hwc⟩ := hcut
      have hwc' := hwc.symm
      subst hwc'
      go_upto_if 41 with fail
      go_cut [7] (fun v wx => v = .int .i64 now2 ∧ wx = w3)
      case first =>
        by_cases h1 : 0 < x.later ∧ x.later < 1073741824
        · have hd : decide (0 < x.later ∧ x.later < 1073741824) = true := decide_eq_true h1
          have e : Hid (now2 = now + x.later) := by unfold Hid; rw [hnow2, if_pos h1]
          have e1 : IntKind.i64.wrap (now + x.later) = now + x.later := by rw [IntKind.wrap_i64]; omega
          clear hnow2
          go_wp2_with fail
          go_meet
          exact ⟨by rw [e.out], rfl⟩
        · have hd : decide (0 < x.later ∧ x.later < 1073741824) = false := decide_eq_false h1
          have e : Hid (now2 = now) := by unfold Hid; rw [hnow2, if_neg h1]
          clear hnow2
          go_wp2_with fail
          go_meet
          exact ⟨by rw [e.out], rfl⟩
      case rest =>
      obtain ⟨rfl, hwc⟩ := hcut
      have hwc' := hwc.symm
      subst hwc'
      clear hnow2 hbd hbdk y1
      go_upto_region 12 with fail
      refine hT.mono ?_
      rintro e w4 ⟨rfl, H4⟩
      clear hT y0 HG
      obtain ⟨y0, y1⟩ := H4.out.cells
      have HW := hid (And.intro H4.out HED.out)
      clear H4 HED
      go_upto_block 2 with fail
      go_cut [8] (fun v wx => ∃ (t2 : Int) (Q2 : Pk), v = .int .i64 t2 ∧ Hid (EdM w b sb x Q2 wx ∧ EdI (k + 1) now2 t2 Q2 ∧ Way Q.st Q2.st))
      case first =>
        rcases (by omega : rr = 0 ∨ rr = 1 ∨ rr = 2 ∨ rr = 5 ∨ rr = 3 ∨ rr = 4) with h0 | h1 | h2 | h5 | h3 | h4
        · subst h0
          have hC := HW.out.1.go (HW.out.1.br.ok.go now2).alw (ballow_any HW.out.1.br.at' HW.out.1.br.ok now2)
          rw [Pk.go_same (by rw [HW.out.2.nw]; exact Int.le_refl _)] at hC
          by_cases h2 : Q.st = 2
          · cases htr : Q.tr with
            | false =>
              obtain ⟨et, em, HQ0⟩ := HW.out.2.alw_yes h2 htr
              have HQ := hid HQ0
              subst et
              rw [em] at hC
              clear HQ0 em htr
              have b0 : (Q.st == 0) = false := beq_eq_false_iff_ne.2 (by omega)
              have d0 : decide (Q.st = 0) = false := decide_eq_false (by omega)
              have b1 : (Q.st == 1) = false := beq_eq_false_iff_ne.2 (by omega)
              have d1 : decide (Q.st = 1) = false := decide_eq_false (by omega)
              have b2 : (Q.st == 2) = true := beq_iff_eq.2 (by omega)
              have d2 : decide (Q.st = 2) = true := decide_eq_true (by omega)
              clear h2
              go_wp2_with fail
              refine hC.mono ?_
              rintro e w5 ⟨rfl, H5⟩
              have HX := hid (And.intro H5.out HQ.out)
              clear hC HW HQ H5 y0 y1
              go_wp2_with fail
              go_meet
              exact ⟨1, _, rfl, HX⟩
            | true =>
              obtain ⟨em, HQ0⟩ := HW.out.2.alw_no h2 htr
              have HQ := hid HQ0
              obtain ⟨tl0, tl1⟩ := HW.out.2.tl_bd
              have tl2 : ¬ 1 < tl := by omega
              rw [em] at hC
              clear HQ0 em htr
              have b0 : (Q.st == 0) = false := beq_eq_false_iff_ne.2 (by omega)
              have d0 : decide (Q.st = 0) = false := decide_eq_false (by omega)
              have b1 : (Q.st == 1) = false := beq_eq_false_iff_ne.2 (by omega)
              have d1 : decide (Q.st = 1) = false := decide_eq_false (by omega)
              have b2 : (Q.st == 2) = true := beq_iff_eq.2 (by omega)
              have d2 : decide (Q.st = 2) = true := decide_eq_true (by omega)
              clear h2
              go_wp2_with fail
              refine hC.mono ?_
              rintro e w5 ⟨rfl, H5⟩
              have HX := hid (And.intro H5.out HQ.out)
              clear hC HW HQ H5 y0 y1
              go_wp2_with fail
              go_meet
              exact ⟨tl, _, rfl, HX⟩
          · obtain ⟨et, em, HQ0⟩ := HW.out.2.alw_else h2
            have HQ := hid HQ0
            subst et
            rw [em] at hC
            clear HQ0 em
            rcases HW.out.1.br.ok.st with h0 | h1 | h2'
            · have b0 : (Q.st == 0) = true := beq_iff_eq.2 (by omega)
              have d0 : decide (Q.st = 0) = true := decide_eq_true (by omega)
              have b1 : (Q.st == 1) = false := beq_eq_false_iff_ne.2 (by omega)
              have d1 : decide (Q.st = 1) = false := decide_eq_false (by omega)
              have b2 : (Q.st == 2) = false := beq_eq_false_iff_ne.2 (by omega)
              have d2 : decide (Q.st = 2) = false := decide_eq_false (by omega)
              rw [d0] at hC
              clear h0 h2
              go_wp2_with fail
              refine hC.mono ?_
              rintro e w5 ⟨rfl, H5⟩
              have HX := hid (And.intro H5.out HQ.out)
              clear hC HW HQ H5 y0 y1
              go_wp2_with fail
              go_meet
              exact ⟨0, _, rfl, HX⟩
            · have b0 : (Q.st == 0) = false := beq_eq_false_iff_ne.2 (by omega)
              have d0 : decide (Q.st = 0) = false := decide_eq_false (by omega)
              have b1 : (Q.st == 1) = true := beq_iff_eq.2 (by omega)
              have d1 : decide (Q.st = 1) = true := decide_eq_true (by omega)
              have b2 : (Q.st == 2) = false := beq_eq_false_iff_ne.2 (by omega)
              have d2 : decide (Q.st = 2) = false := decide_eq_false (by omega)
              rw [d0] at hC
              clear h1 h2
              go_wp2_with fail
              refine hC.mono ?_
              rintro e w5 ⟨rfl, H5⟩
              have HX := hid (And.intro H5.out HQ.out)
              clear hC HW HQ H5 y0 y1
              go_wp2_with fail
              go_meet
              exact ⟨0, _, rfl, HX⟩
            · exact absurd h2' h2
        · subst h1
          have hC := HW.out.1.go ((HW.out.1.br.ok.go now2).oks) (bok_any HW.out.1.br.at' HW.out.1.br.ok now2)
          rw [Pk.go_same (by rw [HW.out.2.nw]; exact Int.le_refl _)] at hC
          have HQ := hid HW.out.2.oks
          go_wp2_with fail
          refine hC.mono ?_
          rintro e w5 ⟨rfl, H5⟩
          have HX := hid (And.intro H5.out HQ.out)
          clear hC HW HQ H5 y0 y1
          go_wp2_with fail
          go_meet
          exact ⟨0, _, rfl, HX⟩
        · subst h2
          have hC := HW.out.1.go ((HW.out.1.br.ok.go now2).fls) (bfail_any HW.out.1.br.at' HW.out.1.br.ok now2)
          rw [Pk.go_same (by rw [HW.out.2.nw]; exact Int.le_refl _)] at hC
          have HQ := hid HW.out.2.fls
          go_wp2_with fail
          refine hC.mono ?_
          rintro e w5 ⟨rfl, H5⟩
          have HX := hid (And.intro H5.out HQ.out)
          clear hC HW HQ H5 y0 y1
          go_wp2_with fail
          go_meet
          exact ⟨0, _, rfl, HX⟩
        · subst h5
          have hC := HW.out.1.go ((HW.out.1.br.ok.go now2).lve) (bleave_any HW.out.1.br.at' HW.out.1.br.ok now2)
          rw [Pk.go_same (by rw [HW.out.2.nw]; exact Int.le_refl _)] at hC
          have HQ := hid HW.out.2.lve
          go_wp2_with fail
          refine hC.mono ?_
          rintro e w5 ⟨rfl, H5⟩
          have HX := hid (And.intro H5.out HQ.out)
          clear hC HW HQ H5 y0 y1
          go_wp2_with fail
          go_meet
          exact ⟨0, _, rfl, HX⟩
        · subst h3
          have HX : Hid (BrS w b Q w4 ∧ EdI (k + 1) now2 tl Q) := ⟨HW.out.1.br, HW.out.2⟩
          clear HW y0 y1
          go_wp2_with fail
          go_round
          case rel => exact ⟨k + 1, now2, tl, Q, by omega, rfl, rfl, by go_num, HX⟩
          case measure => simp [intOf]; omega
        · subst h4
          have HX : Hid (BrS w b Q w4 ∧ EdI (k + 1) now2 tl Q) := ⟨HW.out.1.br, HW.out.2⟩
          clear HW y0 y1
          go_wp2_with fail
          go_round
          case rel => exact ⟨k + 1, now2, tl, Q, by omega, rfl, rfl, by go_num, HX⟩
          case measure => simp [intOf]; omega
      case rest =>
      obtain ⟨t2, Q2, rfl, HC⟩ := hcut
      rename World => wz
      have hT := HC.out.1.cState now2
      rw [Pk.go_same (by rw [HC.out.2.1.nw]; exact Int.le_refl _)] at hT
      have HWy := hid HC.out.2.2
      have HD := hid HC.out.2.1
      have hok := HW.out.1.br.ok.st
      clear HC HW
      go_wp2_with fail
      refine hT.mono ?_
      rintro e w6 ⟨rfl, H6⟩
      have HX : Hid (BrS w b Q2 w6 ∧ EdI (k + 1) now2 t2 Q2) := ⟨H6.out.br, HD.out⟩
      clear hT H6 HD
      obtain ⟨wy0, wy1⟩ := HWy.out
      clear HWy y0 y1
      rcases hok with h0 | h1 | h2
      · rcases wy0 h0 with z0 | z0
        · skip
          clear wy0 wy1
          go_wp2_with fail
          go_round
          case rel => exact ⟨k + 1, now2, t2, Q2, by omega, rfl, rfl, by go_num, HX⟩
          case measure => simp [intOf]; omega
        · skip
          clear wy0 wy1
          go_wp2_with fail
          go_round
          case rel => exact ⟨k + 1, now2, t2, Q2, by omega, rfl, rfl, by go_num, HX⟩
          case measure => simp [intOf]; omega
      · have z0 := wy1 h1
        clear wy0 wy1
        go_wp2_with fail
        go_round
        case rel => exact ⟨k + 1, now2, t2, Q2, by omega, rfl, rfl, by go_num, HX⟩
        case measure => simp [intOf]; omega
      · clear wy0 wy1
        go_wp2_with fail
        go_round
        case rel => exact ⟨k + 1, now2, t2, Q2, by omega, rfl, rfl, by go_num, HX⟩
        case measure => simp [intOf]; omega
    · have g1 : ¬ (k : Int) < (N : Int) := by omega
      go_wp2_with fail
      refine (alive22_any _).mono ?_
      rintro e w4 ⟨rfl, H4⟩
      have HE := hid (HS.out.1.bel.trans (H4.out.mono HS.out.1.bel.size))
      clear HS H4
      go_wp2_with fail
      go_ret
      exact ⟨rfl, HE⟩
  · have HN := hid fun W : World => bnew_no his W
    unfold SgV at hTh hW1 HN ⊢
    clear b1 v1 HSp HSh
    go_enter Try.func4, Try.ntmps4
    go_wp2_with fail
    try rw [← hW1]
    refine hTh.mono ?_
    rintro e w1 ⟨rfl, hb⟩
    go_wp2_with fail
    refine (HN.out _).mono ?_
    rintro e w2 ⟨rfl, H2⟩
    have HJ : Hid (Below w.heap.size w w2) := (HB1.out.trans (hb.out.mono HB1.out.size)).trans (H2.out.mono (Nat.le_trans HB1.out.size hb.out.size))
    clear hb H2 HN hTh hW1 c0' c1' c2' c3' HB1
    go_wp2_with fail
    refine (alive22_any _).mono ?_
    rintro e w3 ⟨rfl, H3⟩
    have HE := hid (HJ.out.trans (H3.out.mono HJ.out.size))
    clear HJ H3
    go_wp2_with fail
    go_ret
    exact ⟨rfl, HE⟩
end Go.Proofs.Ytekdbmhpdkdjjaa
