/-
  MemberPlays, walked.
-/
import Derived.Test.YtlhhkgjolilpiaaMbPl
import Derived.Deep.RegionHeld3
import Derived.Deep.DeepCutAuto
import Derived.Deep.CutBlock
import Derived.Outline
namespace Go.Proofs.Ytlhhkgjolilpiaa
open Go.RowKit
set_option linter.unusedVariables false
set_option maxRecDepth 1000000

theorem PB.start {w w2 w3 : World} {b : Nat} (h : MbS w b Ml.zero w2) (hw : w3 = w2.alloc (.cells #[.int .i64 0, .int .u64 0, .slice none 0 0] 28)) : PB w b w2.heap.size Ml.zero Ml.zero w3 := by
  subst hw
  obtain ⟨M, f, h1, h2, h3, h4⟩ := h
  have hb : Below w2.heap.size w2 (w2.alloc (.cells #[.int .i64 0, .int .u64 0, .slice none 0 0] 28)) := (Below.refl _ _).alloc (Nat.le_refl _) _
  exact ⟨M, f, _, h1.below hb, h2, ⟨heap_alloc_new w2 _, RwM.nil _ _ _, h3.size⟩, h2, h3.trans (hb.mono h3.size), h4⟩
set_option maxHeartbeats 64000000 in
theorem plays_any {a0 : Option Addr} {l0 c0 : Nat} {xs0 : List Sp} {w : World} (ga0 : Lst w a0 l0 c0 6 xs0 SpV SpIn) : Calls Try.prog 3 #[.slice a0 l0 c0] w fun e w' => e = .returned (.bool true) ∧ Hid (Below w.heap.size w w') := by
  have HSh := hid fun W' => short24_any a0 l0 c0 W' ga0.room ga0.most
  obtain ⟨N, HNn⟩ : ∃ n, Hid (min l0 200 = n) := ⟨_, rfl⟩
  rw [HNn.out] at HSh
  have hN1 : N ≤ l0 ∧ N ≤ 200 := by have := HNn.out; omega
  have r1 := ga0.room
  have m1 := ga0.most
  have HSp := hid fun (W' : World) (hb : Below w.heap.size w W') => ga0.below SpV_size hb
  clear ga0
  have hNw := mnew_S (w := w) w (Below.refl _ _)
  go_enter Try.func3, Try.ntmps3
  go_wp2_with fail
  refine hNw.mono ?_
  rintro e w2 ⟨b, rfl, H2⟩
  obtain ⟨w6, hw6⟩ : ∃ w6, w6 = w2.alloc (.cells #[.int .i64 0, .int .u64 0, .slice none 0 0] 28) := ⟨_, rfl⟩
  have HJ := hid (PB.start H2.out hw6)
  obtain ⟨d, hd⟩ : ∃ d, w2.heap.size = d := ⟨_, rfl⟩
  rw [hd] at HJ
  clear hNw H2
  go_wp2_with fail
  try rw [← hw6]
  try rw [hd]
  clear hw6 hd
  refine (HSh.out _).mono ?_
  rintro e w7 ⟨rfl, rfl⟩
  clear HSh
  go_wp2_with fail
  go_loopw [23] (fun z W' => ∃ (k : Nat) (P : Ml), k ≤ N ∧ z = .int .i64 k ∧ Hid (PB w b d P P W')) (fun z _ => N - (intOf z).toNat)
  case atStart => exact ⟨0, _, by omega, rfl, HJ.out⟩
  case round =>
  obtain ⟨k, P, hk, rfl, HS⟩ := hrel
  rename World => wr
  clear HJ
  by_cases hkl : k < N
  · have g1 : (k : Int) < (N : Int) := by omega
    have hL := HSp.out _ HS.out.bel
    have hx : k < xs0.length := by rw [hL.size]; omega
    obtain ⟨qq, off, rfl, hc⟩ := hL.cell k hx
    have q0 := hc 0 (by omega)
    have q1 := hc 1 (by omega)
    have q2 := hc 2 (by omega)
    have q3 := hc 3 (by omega)
    have q4 := hc 4 (by omega)
    have q5 := hc 5 (by omega)
    have HI := hid (hL.inn k hx)
    clear hc hL
    simp only [SpV, List.getElem?_toArray, List.getElem?_cons_zero, List.getElem?_cons_succ, Nat.add_zero] at q0 q1 q2 q3 q4 q5
    generalize xs0[k] = x at *
    obtain ⟨w3, hw3⟩ : ∃ w3, w3 = wr.alloc (.cells #[.int .u8 x.kd, .int .i64 x.later, .int .u64 x.n, .int .u64 x.inc, .int .i64 x.wt, .int .i64 x.bv] 31) := ⟨_, rfl⟩
    obtain ⟨sb, hsb⟩ : ∃ sb, wr.heap.size = sb := ⟨_, rfl⟩
    have HW : Hid (PX w b d sb x P P w3) := by rw [← hsb]; exact PX.new HS.out x hw3
    obtain ⟨y0, y1, y2, y3, y4, y5⟩ := HW.out.cs
    have y9 := HW.out.pb.now
    have y9r := y9
    rw [hw3] at y9r
    have ht1 := HW.out.pb.ok.now
    obtain ⟨now2, hnow2⟩ : ∃ n2 : Int, n2 = if -100000 < x.later ∧ x.later < 1125899906842624 then P.now + x.later else P.now := ⟨_, rfl⟩
    obtain ⟨kd0, kd1⟩ := HI.out.kd
    obtain ⟨rr, hrr⟩ : ∃ rr, x.kd % 7 = rr := ⟨_, rfl⟩
    have hr' : x.kd.tmod 7 = rr := by rw [Int.tmod_eq_emod_of_nonneg kd0]; exact hrr
    have hwr : IntKind.u8.wrap rr = rr := by rw [IntKind.wrap_u8]; omega
    have HU := hid HI.out.n
    have HUi := hid HI.out.inc
    clear HS HI
    go_upto_region 9 with fail
    try rw [← hw3]
    try rw [hsb]
    clear hw3 hsb q0 q1 q2 q3 q4 q5 y9r
    go_cut [36] (fun v wx => v = .bool (decide (-100000 < x.later ∧ x.later < 1125899906842624)) ∧ wx = w3)
    case first =>
      by_cases h1 : -100000 < x.later
      · by_cases h2 : x.later < 1125899906842624
        · go_wp2_with fail
          go_meet
          exact ⟨by simp [h1, h2], rfl⟩
        · have h2' : 1125899906842624 ≤ x.later := by omega
          go_wp2_with fail
          go_meet
          exact ⟨by simp [h1]; omega, rfl⟩
      · have h1' : x.later ≤ -100000 := by omega
        go_wp2_with fail
        go_meet
        exact ⟨by simp; omega, rfl⟩
    case rest =>
    obtain ⟨rfl, hwc⟩ := hcut
    have hwc' := hwc.symm
    subst hwc'
    go_upto_if 36 with fail
    go_cut [7] (fun v wx => v = .int .i64 now2 ∧ wx = w3)
    case first =>
      by_cases h1 : -100000 < x.later ∧ x.later < 1125899906842624
      · have hd : decide (-100000 < x.later ∧ x.later < 1125899906842624) = true := decide_eq_true h1
        have e : Hid (now2 = P.now + x.later) := by unfold Hid; rw [hnow2, if_pos h1]
        have e1 : IntKind.i64.wrap (P.now + x.later) = P.now + x.later := by rw [IntKind.wrap_i64]; omega
        clear hnow2
        go_wp2_with fail
        go_meet
        exact ⟨by rw [e.out], rfl⟩
      · have hd : decide (-100000 < x.later ∧ x.later < 1125899906842624) = false := decide_eq_false h1
        have e : Hid (now2 = P.now) := by unfold Hid; rw [hnow2, if_neg h1]
        clear hnow2
        go_wp2_with fail
        go_meet
        exact ⟨by rw [e.out], rfl⟩
    case rest =>
    obtain ⟨rfl, hwc⟩ := hcut
    have hwc' := hwc.symm
    subst hwc'
    clear hnow2 ht1 y1 y9
    go_upto_block 2 with fail
    clear y0
    go_cut [8] (fun v wx => ∃ P2 : Ml, v = .bool true ∧ Hid (PX w b d sb x P2 P2 wx))
    case first =>
      rcases (by omega : rr = 0 ∨ rr = 1 ∨ rr = 2 ∨ rr = 3 ∨ rr = 4 ∨ rr = 5 ∨ rr = 6) with h0 | h0 | h0 | h0 | h0 | h0 | h0
      · subst h0
        have hC := HW.out.add1 now2
        have HD : Hid (∀ W' : World, PX w b d sb x (P.tm now2).addS P W' → _) := fun W' h => h.add2 now2
        clear HW y2 y3 y4 y5 HU HUi
        generalize (P.tm now2).addN = tn at *
        generalize (P.tm now2).addE = te at *
        go_wp2_with fail
        refine hC.mono ?_
        rintro e w5 ⟨rfl, H5⟩
        have hD := HD.out _ H5.out
        clear hC H5 HD
        go_wp2_with fail
        refine hD.mono ?_
        rintro e w6 ⟨rfl, H6⟩
        clear hD
        go_wp2_with fail
        go_meet
        exact ⟨_, by simp, H6⟩
      · subst h0
        have hC := HW.out.up1 now2 HU.out HUi.out
        have HD : Hid (∀ W' : World, PX w b d sb x ((P.tm now2).upS x.n x.inc) P W' → _) := fun W' h => h.up2 now2 x.n HUi.out
        have HK : Hid (∀ (W' : World) (P' Q' : Ml), PX w b d sb x P' Q' W' → SpCs W' sb x) := fun W' P' Q' h => h.cs
        clear HW HU HUi y4 y5
        generalize (P.tm now2).upB x.n x.inc = tn at *
        generalize (P.tm now2).upE x.n x.inc = te at *
        go_wp2_with fail
        refine hC.mono ?_
        rintro e w5 ⟨rfl, H5⟩
        have hD := HD.out _ H5.out
        obtain ⟨_, _, z2, z3, _, _⟩ := HK.out _ _ _ H5.out
        clear hC H5 HD HK y2 y3
        go_wp2_with fail
        refine hD.mono ?_
        rintro e w6 ⟨rfl, H6⟩
        clear hD z2 z3
        go_wp2_with fail
        go_meet
        exact ⟨_, by simp, H6⟩
      · subst h0
        have HV0 := hid HW.out.drew
        have HC : Hid (∀ W' : World, PX w b d sb x P P W' → Calls Try.prog 10 #[.pointer (some ⟨b, 0, none⟩), .int .i64 now2, .int .u64 x.n] W' fun e w' => e = .returned (.int .i64 ((P.tm now2).turnE x.n)) ∧ Hid (PX w b d sb x ((P.tm now2).turnS x.n 4) P w')) := fun W' h => h.lost1 now2 HU.out
        have HD : Hid (∀ W' : World, PX w b d sb x ((P.tm now2).turnS x.n 4) P W' → Calls Try.prog 11 #[.pointer (some ⟨d, 0, none⟩), .int .i64 now2, .int .u64 x.n] W' fun e w' => e = .returned (.int .i64 ((P.tm now2).turnE x.n)) ∧ Hid (PX w b d sb x ((P.tm now2).turnS x.n 4) ((P.tm now2).turnS x.n 4) w')) := fun W' h => h.lost2 now2 x.n
        have HK : Hid (∀ (W : World) (P' Q' : Ml), PX w b d sb x P' Q' W → W.cell? ⟨sb, 2, none⟩ = some (.int .u64 x.n)) := fun W' P' Q' h => h.cs.n
        clear HW HU HUi y3 y4 y5
        generalize (P.tm now2).turnE x.n = mm at *
        generalize (P.tm now2).turnS x.n 4 = P2 at *
        go_wp2_with fail
        go_region_held3 (fun W : World => W.cell? ⟨sb, 2, none⟩ = some (.int .u64 x.n))
          (first | (with_reducible exact HK.out _ _ _ HV0.out) | (with_reducible exact HK.out _ _ _ HV1.out) | (with_reducible exact HK.out _ _ _ HV2.out))
          (first
            | (go_at_call 10; (with_reducible refine (HC.out _ HV0.out).mono ?_); rintro e x1 ⟨rfl, HV1⟩)
            | (go_at_call 11; (with_reducible refine (HD.out _ HV1.out).mono ?_); rintro e x2 ⟨rfl, HV2⟩)
            | fail)
        all_goals
          clear HC HD HV0 HV1 HK
          go_wp2_with fail
          go_meet
          exact ⟨_, by simp, HV2⟩
      · subst h0
        have HV0 := hid HW.out.drew
        have HC : Hid (∀ W' : World, PX w b d sb x P P W' → Calls Try.prog 12 #[.pointer (some ⟨b, 0, none⟩), .int .i64 now2, .int .u64 x.n] W' fun e w' => e = .returned (.int .i64 ((P.tm now2).turnE x.n)) ∧ Hid (PX w b d sb x ((P.tm now2).turnS x.n 3) P w')) := fun W' h => h.drain1 now2 HU.out
        have HD : Hid (∀ W' : World, PX w b d sb x ((P.tm now2).turnS x.n 3) P W' → Calls Try.prog 13 #[.pointer (some ⟨d, 0, none⟩), .int .i64 now2, .int .u64 x.n] W' fun e w' => e = .returned (.int .i64 ((P.tm now2).turnE x.n)) ∧ Hid (PX w b d sb x ((P.tm now2).turnS x.n 3) ((P.tm now2).turnS x.n 3) w')) := fun W' h => h.drain2 now2 x.n
        have HK : Hid (∀ (W : World) (P' Q' : Ml), PX w b d sb x P' Q' W → W.cell? ⟨sb, 2, none⟩ = some (.int .u64 x.n)) := fun W' P' Q' h => h.cs.n
        clear HW HU HUi y3 y4 y5
        generalize (P.tm now2).turnE x.n = mm at *
        generalize (P.tm now2).turnS x.n 3 = P2 at *
        go_wp2_with fail
        go_region_held3 (fun W : World => W.cell? ⟨sb, 2, none⟩ = some (.int .u64 x.n))
          (first | (with_reducible exact HK.out _ _ _ HV0.out) | (with_reducible exact HK.out _ _ _ HV1.out) | (with_reducible exact HK.out _ _ _ HV2.out))
          (first
            | (go_at_call 12; (with_reducible refine (HC.out _ HV0.out).mono ?_); rintro e x1 ⟨rfl, HV1⟩)
            | (go_at_call 13; (with_reducible refine (HD.out _ HV1.out).mono ?_); rintro e x2 ⟨rfl, HV2⟩)
            | fail)
        all_goals
          clear HC HD HV0 HV1 HK
          go_wp2_with fail
          go_meet
          exact ⟨_, by simp, HV2⟩
      · subst h0
        have HV0 := hid HW.out.drew
        have HC : Hid (∀ W' : World, PX w b d sb x P P W' → Calls Try.prog 14 #[.pointer (some ⟨b, 0, none⟩), .int .i64 now2, .int .u64 x.n, .int .i64 x.wt] W' fun e w' => e = .returned (.int .i64 ((P.tm now2).rmE x.n x.wt)) ∧ Hid (PX w b d sb x ((P.tm now2).rmS x.n x.wt) P w')) := fun W' h => h.remove1 now2 HU.out x.wt
        have HD : Hid (∀ W' : World, PX w b d sb x ((P.tm now2).rmS x.n x.wt) P W' → Calls Try.prog 15 #[.pointer (some ⟨d, 0, none⟩), .int .i64 now2, .int .u64 x.n, .int .i64 x.wt] W' fun e w' => e = .returned (.int .i64 ((P.tm now2).rmE x.n x.wt)) ∧ Hid (PX w b d sb x ((P.tm now2).rmS x.n x.wt) ((P.tm now2).rmS x.n x.wt) w')) := fun W' h => h.remove2 now2 x.n x.wt
        have HK : Hid (∀ (W : World) (P' Q' : Ml), PX w b d sb x P' Q' W → W.cell? ⟨sb, 2, none⟩ = some (.int .u64 x.n) ∧ W.cell? ⟨sb, 4, none⟩ = some (.int .i64 x.wt)) := fun W' P' Q' h => ⟨h.cs.n, h.cs.wt⟩
        clear HW HU HUi y3 y5
        generalize (P.tm now2).rmE x.n x.wt = mm at *
        generalize (P.tm now2).rmS x.n x.wt = P2 at *
        go_wp2_with fail
        go_region_held3 (fun W : World => W.cell? ⟨sb, 2, none⟩ = some (.int .u64 x.n) ∧ W.cell? ⟨sb, 4, none⟩ = some (.int .i64 x.wt))
          (first | (with_reducible exact HK.out _ _ _ HV0.out) | (with_reducible exact HK.out _ _ _ HV1.out) | (with_reducible exact HK.out _ _ _ HV2.out))
          (first
            | (go_at_call 14; (with_reducible refine (HC.out _ HV0.out).mono ?_); rintro e x1 ⟨rfl, HV1⟩)
            | (go_at_call 15; (with_reducible refine (HD.out _ HV1.out).mono ?_); rintro e x2 ⟨rfl, HV2⟩)
            | fail)
        all_goals
          clear HC HD HV0 HV1 HK
          go_wp2_with fail
          go_meet
          exact ⟨_, by simp, HV2⟩
      · subst h0
        have HV0 := hid HW.out.drew
        have HC : Hid (∀ W' : World, PX w b d sb x P P W' → Calls Try.prog 16 #[.pointer (some ⟨b, 0, none⟩), .int .u64 x.n, .int .i64 x.bv] W' fun e w' => e = .returned (.int .i64 (P.bindE x.n x.bv)) ∧ Hid (PX w b d sb x (P.bindS x.n x.bv) P w')) := fun W' h => h.bind1 HU.out x.bv
        have HD : Hid (∀ W' : World, PX w b d sb x (P.bindS x.n x.bv) P W' → Calls Try.prog 17 #[.pointer (some ⟨d, 0, none⟩), .int .u64 x.n, .int .i64 x.bv] W' fun e w' => e = .returned (.int .i64 (P.bindE x.n x.bv)) ∧ Hid (PX w b d sb x (P.bindS x.n x.bv) (P.bindS x.n x.bv) w')) := fun W' h => h.bind2 x.n x.bv
        have HK : Hid (∀ (W : World) (P' Q' : Ml), PX w b d sb x P' Q' W → W.cell? ⟨sb, 2, none⟩ = some (.int .u64 x.n) ∧ W.cell? ⟨sb, 5, none⟩ = some (.int .i64 x.bv)) := fun W' P' Q' h => ⟨h.cs.n, h.cs.bv⟩
        clear HW HU HUi y3 y4
        generalize P.bindE x.n x.bv = mm at *
        generalize P.bindS x.n x.bv = P2 at *
        go_wp2_with fail
        go_region_held3 (fun W : World => W.cell? ⟨sb, 2, none⟩ = some (.int .u64 x.n) ∧ W.cell? ⟨sb, 5, none⟩ = some (.int .i64 x.bv))
          (first | (with_reducible exact HK.out _ _ _ HV0.out) | (with_reducible exact HK.out _ _ _ HV1.out) | (with_reducible exact HK.out _ _ _ HV2.out))
          (first
            | (go_at_call 16; (with_reducible refine (HC.out _ HV0.out).mono ?_); rintro e x1 ⟨rfl, HV1⟩)
            | (go_at_call 17; (with_reducible refine (HD.out _ HV1.out).mono ?_); rintro e x2 ⟨rfl, HV2⟩)
            | fail)
        all_goals
          clear HC HD HV0 HV1 HK
          go_wp2_with fail
          go_meet
          exact ⟨_, by simp, HV2⟩
      · subst h0
        have hC := HW.out.up1 now2 HU.out HUi.out
        have HD : Hid (∀ W' : World, PX w b d sb x ((P.tm now2).upS x.n x.inc) P W' → _) := fun W' h => h.up2 now2 x.n HUi.out
        have HK : Hid (∀ (W' : World) (P' Q' : Ml), PX w b d sb x P' Q' W' → SpCs W' sb x) := fun W' P' Q' h => h.cs
        clear HW HU HUi y4 y5
        generalize (P.tm now2).upB x.n x.inc = tn at *
        generalize (P.tm now2).upE x.n x.inc = te at *
        go_wp2_with fail
        refine hC.mono ?_
        rintro e w5 ⟨rfl, H5⟩
        have hD := HD.out _ H5.out
        obtain ⟨_, _, z2, z3, _, _⟩ := HK.out _ _ _ H5.out
        clear hC H5 HD HK y2 y3
        go_wp2_with fail
        refine hD.mono ?_
        rintro e w6 ⟨rfl, H6⟩
        clear hD z2 z3
        go_wp2_with fail
        go_meet
        exact ⟨_, by simp, H6⟩
    case rest =>
    obtain ⟨P2, rfl, HC⟩ := hcut
    rename World => wz
    obtain ⟨nn, av, cv, hlk⟩ := HC.out.pb.look
    obtain ⟨kAll, kSame, kLive1, kLive2, kNow, kCells, kPb⟩ := hlk
    have HAll := hid kAll
    have HSame := hid kSame
    have HLive1 := hid kLive1
    have HLive2 := hid kLive2
    have HNow := hid kNow
    have HCe := hid kCells
    have HPb := hid kPb
    have HV : Hid (Below wz.heap.size wz wz.drew) := (Below.refl _ _).drew
    clear kAll kSame kLive1 kLive2 kNow kCells kPb HC HW y2 y3 y4 y5
    generalize liveL P2.L = lv at *
    generalize P2.now = nw at *
    go_wp2_with fail
    go_region_held3 (fun W : World => W.cell? ⟨d, 2, none⟩ = some (.slice av nn cv) ∧ W.cell? ⟨d, 0, none⟩ = some (.int .i64 nw))
      (first | (with_reducible exact HCe.out _ HV.out))
      (first
        | (go_at_call 21; (with_reducible refine (HAll.out _ HV.out).mono ?_); rintro e y1 ⟨a1, cap1, rfl, H1⟩; have HR1 := hid H1.out.1; replace HV := hid (HV.out.trans (H1.out.2.mono HV.out.size)); clear H1)
        | (go_at_call 20; (with_reducible refine (HSame.out _ HV.out _ _ _ HR1.out).mono ?_); rintro e y2 ⟨rfl, H2⟩; replace HV := hid (HV.out.trans (H2.out.mono HV.out.size)); clear H2)
        | (go_at_call 22; (with_reducible refine (HLive1.out _ HV.out).mono ?_); rintro e y3 ⟨rfl, H3⟩; replace HV := hid (HV.out.trans (H3.out.mono HV.out.size)); clear H3)
        | (go_at_call 23; (with_reducible refine (HLive2.out _ HV.out).mono ?_); rintro e y4 ⟨rfl, rfl⟩)
        | (go_at_call 24; (with_reducible refine (HNow.out _ HV.out).mono ?_); rintro e y5 ⟨rfl, rfl⟩)
        | fail)
    all_goals
      have HX := hid (HPb.out _ HV.out)
      clear HAll HSame HLive1 HLive2 HNow HCe HPb HV
      go_wp2_with fail
      go_round
      case rel => exact ⟨k + 1, P2, by omega, by go_num, HX⟩
      case measure => simp [intOf]; omega
  · have g1 : ¬ (k : Int) < (N : Int) := by omega
    go_wp2_with fail
    refine (alive24_any _).mono ?_
    rintro e w4 ⟨rfl, H4⟩
    have HE : Hid (Below w.heap.size w w4) := HS.out.bel.trans (H4.out.mono HS.out.bel.size)
    clear HS H4
    go_wp2_with fail
    go_ret
    exact ⟨rfl, HE⟩
end Go.Proofs.Ytlhhkgjolilpiaa
