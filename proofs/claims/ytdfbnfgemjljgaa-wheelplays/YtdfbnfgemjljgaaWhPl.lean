/-
  WheelPlays, over whatever keeps Whl (written by wip/tools/mkpl.py).
-/
import Derived.Test.YtdfbnfgemjljgaaWhSkip
import Derived.Deep.RegionHeld3
namespace Go.Proofs.Ytdfbnfgemjljgaa
open Go.RowKit Go.Maps
set_option linter.unusedVariables false
set_option linter.unusedSimpArgs false
set_option maxRecDepth 1000000

set_option maxHeartbeats 64000000 in
theorem plays_any {P : WPred} (HP : Hid (Whl P)) {a0 : Option Addr} {l0 c0 : Nat} {xs0 : List Sp} {w : World} (ga0 : Lst w a0 l0 c0 5 xs0 SpV SpIn) :
    Calls Try.prog 3 #[.slice a0 l0 c0] w fun e w' => e = .returned (.bool true) ∧ Hid (Below w.heap.size w w') := by
  have HSp := hid fun (W' : World) (hb : Below w.heap.size w W') => ga0.below hb
  have hSh := fun W' => short_any a0 l0 c0 W' ga0.room ga0.most
  obtain ⟨n, Hn⟩ : ∃ n, Hid (min l0 300 = n) := ⟨_, rfl⟩
  rw [Hn.out] at hSh
  have hn1 : n ≤ l0 ∧ n ≤ 300 := by have := Hn.out; omega
  have r1 := ga0.room
  have m1 := ga0.most
  have HSh := hid hSh
  clear ga0 hSh
  have hN := HP.out.new w
  go_enter Try.func3, Try.ntmps3
  go_wp2_with fail
  refine hN.mono ?_
  rintro r w1 ⟨B, rfl, H1⟩
  clear hN
  obtain ⟨F0, hp1, hl1, hb1⟩ := H1.out
  obtain ⟨w2, hw2⟩ : ∃ w2, w2 = w1.alloc (.cells #[.int .i64 0, .int .i64 0, .slice none 0 0] 27) := ⟨_, rfl⟩
  obtain ⟨B2, hB2⟩ : ∃ B2, w1.heap.size = B2 := ⟨_, rfl⟩
  have HS2 : Hid (PlS P w B F0 0 0 [] B2 w2) := by
    have hb2 : Below w1.heap.size w1 w2 := by rw [hw2]; exact (Below.refl _ _).alloc (Nat.le_refl _) _
    refine ⟨HP.out.below hp1 hb2, ⟨none, 0, 0, ?_, TsAt.nil _ _, by omega⟩, hb1.trans (hb2.mono hb1.size), hl1, by rw [← hB2]; exact hb1.size, fun hF => by have := HP.out.lt hp1 _ hF; omega⟩
    rw [hw2, ← hB2]
    exact heap_alloc_new w1 _
  clear H1 hp1 hl1 hb1
  go_wp2_with fail
  (first | rw [← hw2] | skip)
  clear hw2 hB2
  with_reducible refine (HSh.out _).mono ?_
  rintro r w3 ⟨rfl, rfl⟩
  clear HSh
  go_wp2_with fail
  go_loopw [21] (fun z W' => ∃ (k : Nat) (T last : Int) (L : List Tm) (F : Nat → Prop), k ≤ n ∧ z = .int .i64 k ∧ Hid (PlS P w B F T last L B2 W')) (fun z _ => n - (intOf z).toNat)
  case atStart => exact ⟨0, 0, 0, [], F0, by omega, rfl, HS2.out⟩
  case round =>
  obtain ⟨k, T, last, L, F, hk, rfl, HS⟩ := hrel
  rename World => wr
  clear HS2
  by_cases hkl : k < n
  · have g1 : (k : Int) < (n : Int) := by omega
    obtain ⟨b, off, s, rfl, hsk, hsi, q0, q1, q2, q3, q4⟩ := (HSp.out _ HS.out.bel).at (i := k) (by omega)
    obtain ⟨w3, hw3⟩ : ∃ w3, w3 = wr.alloc (.cells #[.int .u8 s.kd, .int .i64 s.later, .int .i64 s.after, .int .u64 s.label, .int .i64 s.num] 31) := ⟨_, rfl⟩
    obtain ⟨sb, hsb⟩ : ∃ sb, wr.heap.size = sb := ⟨_, rfl⟩
    have HG : Hid (PlM P w B F T last L B2 T last L sb s w3) := by rw [← hsb]; exact HS.out.step HP.out s hw3
    have HBd := hid (HP.out.bd HG.out.wl)
    obtain ⟨⟨kd0, kd1⟩, hla0, haf, hlb, hnu⟩ := hsi
    obtain ⟨kd, la, af, lb, nu⟩ := s
    have HAf : Hid (isI af) := haf
    have HLb : Hid (isU lb) := hlb
    have HNu : Hid (isI nu) := hnu
    have HLa : Hid (isI la) := hla0
    clear haf hlb hnu hla0
    simp only at kd0 kd1 q0 q1 q2 q3 q4 hw3
    have hla1 : -9223372036854775808 ≤ la ∧ la ≤ 9223372036854775807 := HLa.out
    have hla : (-100000 < la ∧ la < 1125899906842624) ∨ (-100000 < la ∧ ¬ la < 1125899906842624) ∨ ¬ -100000 < la := by omega
    have hrT : w3.cell? ⟨B2, 0, none⟩ = some (.int .i64 T) := by obtain ⟨_, _, _, hr⟩ := HG.out.rt; exact hr.cells.1
    obtain ⟨y0, y1, y2, y3, y4⟩ := HG.out.cells
    simp only at y0 y1 y2 y3 y4
    have Hy := hid (And.intro y0 (And.intro y1 (And.intro y2 (And.intro y3 y4))))
    rw [hw3] at y0 y1 y2 y3 y4 hrT
    clear hsk HS HLa
    obtain ⟨rr, hrr⟩ : ∃ rr, kd % 5 = rr := ⟨_, rfl⟩
    have hr' : kd.tmod 5 = rr := by rw [Int.tmod_eq_emod_of_nonneg kd0]; exact hrr
    have hwr : IntKind.u8.wrap rr = rr := by rw [IntKind.wrap_u8]; omega
    obtain ⟨tb, Htb⟩ : ∃ tb : Bool, Hid (decide (-100000 < la ∧ la < 1125899906842624) = tb) := ⟨_, rfl⟩
    obtain ⟨nw, Hnw⟩ : ∃ nw, Hid ((if tb = true then T + la else T) = nw) := ⟨_, rfl⟩
    have HNw : Hid (isI nw) := by
      have h1 := HBd.out
      have h2 := Hnw.out
      have h3 := Htb.out
      unfold Hid isI
      cases tb
      · simp at h2; omega
      · simp at h2 h3; omega
    go_upto_region 9 with fail
    rw [← hw3]
    clear hsb hw3 q0 q1 q2 q3 q4 y0 y1 y2 y3 y4 hrT
    obtain ⟨y0, y1, y2, y3, y4⟩ := Hy.out
    clear Hy
    go_cut [34] (fun v wx => v = .bool tb ∧ wx = w3)
    case first =>
      rcases hla with ⟨l1, l2⟩ | ⟨l1, l2⟩ | l1
      · have HB : Hid (tb = true) := by unfold Hid; rw [← Htb.out]; exact decide_eq_true ⟨l1, l2⟩
        clear Htb Hnw HNw hla1
        go_wp2_with fail
        go_meet
        exact ⟨by rw [HB.out], rfl⟩
      · have HB : Hid (tb = false) := by unfold Hid; rw [← Htb.out]; exact decide_eq_false fun h => l2 h.2
        clear Htb Hnw HNw hla1
        go_wp2_with fail
        go_meet
        exact ⟨by rw [HB.out], rfl⟩
      · have HB : Hid (tb = false) := by unfold Hid; rw [← Htb.out]; exact decide_eq_false fun h => l1 h.1
        clear Htb Hnw HNw hla1
        go_wp2_with fail
        go_meet
        exact ⟨by rw [HB.out], rfl⟩
    case rest =>
    obtain ⟨rfl, hw⟩ := hcut
    have hw' := hw.symm
    subst hw'
    clear hw hla hla1 Htb
    go_upto_if 34 with fail
    go_cut [7] (fun v wx => v = .int .i64 nw ∧ wx = w3)
    case first =>
      cases tb with
      | true =>
        have hwn : IntKind.i64.wrap (T + la) = nw := by
          have h1 := Hnw.out
          simp at h1
          rw [h1]; exact wrap64_in HNw.out.1 HNw.out.2
        clear Hnw HNw
        go_wp2_with fail
        go_meet
        exact ⟨rfl, rfl⟩
      | false =>
        have HB : Hid (T = nw) := by have h1 := Hnw.out; simp at h1; exact h1
        clear Hnw HNw
        go_wp2_with fail
        go_meet
        exact ⟨by rw [HB.out], rfl⟩
    case rest =>
    obtain ⟨rfl, hw⟩ := hcut
    have hw' := hw.symm
    subst hw'
    clear hw Hnw
    by_cases h1 : rr = 1
    · subst h1
      as_aux_lemma =>
        have HF1 : Hid (∀ (W' : World), PlM P w B F T last L B2 T last L sb ⟨kd, la, af, lb, nu⟩ W' → Calls Try.prog 8 #[.pointer (some ⟨B, 0, none⟩), .int .i64 nu] W' fun e w' => e = .returned (.int .i64 (stpC nu L)) ∧ Hid (∃ F', PlM P w B F' T last (stpT nu L) B2 T last L sb ⟨kd, la, af, lb, nu⟩ w')) := fun W' h => h.stop1 HP.out HNu.out
        have HF2 : Hid (∀ (F' : Nat → Prop) (L' : List Tm) (W' : World), PlM P w B F' T last L' B2 T last L sb ⟨kd, la, af, lb, nu⟩ W' → Calls Try.prog 9 #[.pointer (some ⟨B2, 0, none⟩), .int .i64 nu] W' fun e w' => e = .returned (.int .i64 (stpC nu L)) ∧ Hid (PlM P w B F' T last L' B2 T last (stpT nu L) sb ⟨kd, la, af, lb, nu⟩ w')) := fun F' L' W' h => h.stop2 HP.out nu
        generalize stpC nu L = fr at HF1 HF2
        generalize stpT nu L = L1 at HF1 HF2
        have HC0 : Hid (∀ (F' : Nat → Prop) (L' L2 : List Tm) (W' : World), PlM P w B F' T last L' B2 T last L2 sb ⟨kd, la, af, lb, nu⟩ W' → W'.cell? ⟨sb, 4, none⟩ = some (.int .i64 nu)) := fun _ _ _ W' h => h.cells.2.2.2.2
        have HGd := hid (HG.out.below HP.out (Below.refl _ _).drew)
        go_wp2_with fail
        clear y0 y1 y2 y3 y4 hrr hr' hwr
        go_region_held3 (fun W' : World => W'.cell? ⟨sb, 4, none⟩ = some (.int .i64 nu))
          (first | (with_reducible exact HC0.out _ _ _ _ HG.out) | (with_reducible exact HC0.out _ _ _ _ HGd.out) | (with_reducible exact HC0.out _ _ _ _ HG1.out) | (with_reducible exact HC0.out _ _ _ _ HG2.out))
          (first
            | (go_at_call 8; (with_reducible refine (HF1.out _ HGd.out).mono ?_); rintro r x1 ⟨rfl, H5⟩; obtain ⟨F1, hg1⟩ := H5.out; have HG1 := hid hg1; clear H5 hg1)
            | (go_at_call 9; (with_reducible refine (HF2.out _ _ _ HG1.out).mono ?_); rintro r wx ⟨rfl, H5⟩; have HG2 := hid H5.out; clear H5))
        all_goals
          have HGx := hid HG2.out
          clear HG HGd HG1 HG2 HF1 HF2 HC0
          obtain ⟨av, N, cv, hrx⟩ := HGx.out.rt
          have HRx := hid hrx
          have hN9 := hrx.lst.size
          have rm9 := hrx.lst.room
          have ms9 := hrx.lst.most
          clear hrx
          have HLe : Hid (∀ W' : World, Below wx.heap.size wx W' → Calls Try.prog 18 #[.pointer (some ⟨B, 0, none⟩)] W' fun e w' => e = .returned (.int .i64 N) ∧ Hid (Below wx.heap.size wx w')) := fun W' hb => by
            have h := HP.out.len (HP.out.below HGx.out.wl hb)
            rw [hN9] at h
            exact h.mono fun e w' ⟨he, H⟩ => ⟨he, hb.trans (H.out.mono hb.size)⟩
          have HNo : Hid (∀ W' : World, Below wx.heap.size wx W' → Calls Try.prog 19 #[.pointer (some ⟨B, 0, none⟩)] W' fun e w' => e = .returned (.int .i64 T) ∧ Hid (Below wx.heap.size wx w')) := fun W' hb =>
            (HP.out.now (HP.out.below HGx.out.wl hb)).mono fun e w' ⟨he, H⟩ => ⟨he, hb.trans (H.out.mono hb.size)⟩
          have HNx := hid (HP.out.next HGx.out.wl)
          cases L1 with
          | nil =>
            have g8 : ¬ 0 < N := by have h0 : 0 = N := hN9; omega
            have g9 : ¬ (0 : Int) < (N : Int) := by omega
            have d8 : decide (0 < N) = false := decide_eq_false g8
            have d9 : decide ((0 : Int) < (N : Int)) = false := decide_eq_false g9
            clear hN9
            simp only [List.head?_nil, Option.map_none, Option.getD_none, List.length_nil] at HNx
            rw [show decide (0 < 0) = false from rfl] at HNx
            have HCx : Hid (∀ W' : World, Below wx.heap.size wx W' → W'.cell? ⟨B2, 2, none⟩ = some (.slice av N cv) ∧ W'.cell? ⟨B2, 0, none⟩ = some (.int .i64 T)) := fun W' hb => by
              have h := HRx.out.below hb
              exact ⟨h.cells.2.2, h.cells.1⟩
            go_wp2_with fail
            with_reducible refine HNx.out.mono ?_
            rintro r w9 ⟨rfl, H9⟩
            have HV9 : Hid (Below wx.heap.size wx w9) := H9.out
            have HVd : Hid (Below wx.heap.size wx w9.drew) := H9.out.drew
            have hCx := HCx.out _ H9.out
            clear HNx H9 HRx
            go_wp2_with fail
            refine wp_region_noPanic ?_
            refine wp_region_held_drew (S := fun W' : World => W'.cell? ⟨B2, 2, none⟩ = some (.slice av N cv) ∧ W'.cell? ⟨B2, 0, none⟩ = some (.int .i64 T)) (by kernel_rfl) (HCx.out _ HVd.out) (fun hHeld => ?_)
            refine takeH 0 (oi := ?oib0) ?hib0 (v := ?vb0) (by kernel_rfl) (by kernel_rfl) (by kernel_rfl) (fun _ _ _ h => h) ?hwb0 ?hyb0 hHeld ?_
            case hib0 => (simp only [List.getElem?_toArray, List.getElem?_cons_zero]; exact rfl)
            case hwb0 => rfl
            case hyb0 => (intro w hSw; (try dsimp only at hSw); go_simp; all_goals (with_reducible rfl))
            try simp only [Act.put, List.setIfInBounds_toArray, List.set_cons_zero, List.set_cons_succ]
            refine takeH 1 (oi := ?oib1) ?hib1 (v := ?vb1) (by kernel_rfl) (by kernel_rfl) (by kernel_rfl) (fun _ _ _ h => h) ?hwb1 ?hyb1 hHeld ?_
            case hib1 => (simp only [List.getElem?_toArray, List.getElem?_cons_succ, List.getElem?_cons_zero]; exact rfl)
            case hwb1 => rfl
            case hyb1 => (intro w hSw; (try dsimp only at hSw); go_simp; all_goals (with_reducible rfl))
            try simp only [Act.put, List.setIfInBounds_toArray, List.set_cons_zero, List.set_cons_succ]
            refine takeH 2 (oi := ?oib2) ?hib2 (v := ?vb2) (by kernel_rfl) (by kernel_rfl) (by kernel_rfl) (fun _ _ _ h => h) ?hwb2 ?hyb2 hHeld ?_
            case hib2 => (simp only [List.getElem?_toArray, List.getElem?_cons_succ, List.getElem?_cons_zero]; exact rfl)
            case hwb2 => rfl
            case hyb2 => (intro w hSw; (try dsimp only at hSw); go_simp; all_goals (with_reducible rfl))
            try simp only [Act.put, List.setIfInBounds_toArray, List.set_cons_zero, List.set_cons_succ]
            refine takeH 3 (oi := ?oib3) ?hib3 (v := ?vb3) (by kernel_rfl) (by kernel_rfl) (by kernel_rfl) (fun _ _ _ h => h) ?hwb3 ?hyb3 hHeld ?_
            case hib3 => (simp only [List.getElem?_toArray, List.getElem?_cons_succ, List.getElem?_cons_zero]; exact rfl)
            case hwb3 => rfl
            case hyb3 => (intro w hSw; (try dsimp only at hSw); go_simp; all_goals (with_reducible rfl))
            try simp only [Act.put, List.setIfInBounds_toArray, List.set_cons_zero, List.set_cons_succ]
            refine takeH 5 (oi := ?oib5) ?hib5 (v := ?vb5) (by kernel_rfl) (by kernel_rfl) (by kernel_rfl) (fun _ _ _ h => h) ?hwb5 ?hyb5 hHeld ?_
            case hib5 => (simp only [List.getElem?_toArray, List.getElem?_cons_succ, List.getElem?_cons_zero]; exact rfl)
            case hwb5 => rfl
            case hyb5 => (intro w hSw; (try dsimp only at hSw); go_simp; all_goals (with_reducible rfl))
            try simp only [Act.put, List.setIfInBounds_toArray, List.set_cons_zero, List.set_cons_succ]
            refine takeH 6 (oi := ?oib6) ?hib6 (v := ?vb6) (by kernel_rfl) (by kernel_rfl) (by kernel_rfl) (fun _ _ _ h => h) ?hwb6 ?hyb6 hHeld ?_
            case hib6 => (simp only [List.getElem?_toArray, List.getElem?_cons_succ, List.getElem?_cons_zero]; exact rfl)
            case hwb6 => rfl
            case hyb6 => (intro w hSw; (try dsimp only at hSw); go_simp; all_goals (with_reducible rfl))
            try simp only [Act.put, List.setIfInBounds_toArray, List.set_cons_zero, List.set_cons_succ]
            refine takeH 7 (oi := ?oib7) ?hib7 (v := ?vb7) (by kernel_rfl) (by kernel_rfl) (by kernel_rfl) (fun _ _ _ h => h) ?hwb7 ?hyb7 hHeld ?_
            case hib7 => (simp only [List.getElem?_toArray, List.getElem?_cons_succ, List.getElem?_cons_zero]; exact rfl)
            case hwb7 => rfl
            case hyb7 => (intro w hSw; (try dsimp only at hSw); go_simp; all_goals (with_reducible rfl))
            try simp only [Act.put, List.setIfInBounds_toArray, List.set_cons_zero, List.set_cons_succ]
            refine runH 4 (oi := ?oib4) ?hib4 (by kernel_rfl) (fun K hK => ?_)
            case hib4 => (simp only [List.getElem?_toArray, List.getElem?_cons_succ, List.getElem?_cons_zero]; exact rfl)
            go_simp
            (go_at_call 18; (with_reducible refine (HLe.out _ HVd.out).mono ?_); rintro r wa ⟨rfl, H5⟩; have HVe := hid H5.out; clear H5)
            go_wp2_with fail
            refine hK.out _ _ ?_ (fun hHeld2 => ?_)
            · (try dsimp only); (first | (with_reducible exact HCx.out _ HVd.out) | (with_reducible exact HCx.out _ HVe.out) | (with_reducible exact HCx.out _ HVf.out))
            clear hK K hHeld
            have hHeld := hHeld2
            clear hHeld2
            try simp only [Act.put, List.setIfInBounds_toArray, List.set_cons_zero, List.set_cons_succ]
            refine takeH 8 (oi := ?oib8) ?hib8 (v := ?vb8) (by kernel_rfl) (by kernel_rfl) (by kernel_rfl) (fun _ _ _ h => h) ?hwb8 ?hyb8 hHeld ?_
            case hib8 => (simp only [List.getElem?_toArray, List.getElem?_cons_succ, List.getElem?_cons_zero]; exact rfl)
            case hwb8 => rfl
            case hyb8 => (intro w hSw; (try dsimp only at hSw); go_simp; all_goals (with_reducible rfl))
            try simp only [Act.put, List.setIfInBounds_toArray, List.set_cons_zero, List.set_cons_succ]
            refine takeH 9 (oi := ?oib9) ?hib9 (v := ?vb9) (by kernel_rfl) (by kernel_rfl) (by kernel_rfl) (fun _ _ _ h => h) ?hwb9 ?hyb9 hHeld ?_
            case hib9 => (simp only [List.getElem?_toArray, List.getElem?_cons_succ, List.getElem?_cons_zero]; exact rfl)
            case hwb9 => rfl
            case hyb9 => (intro w hSw; (try dsimp only at hSw); go_simp; all_goals (with_reducible rfl))
            try simp only [Act.put, List.setIfInBounds_toArray, List.set_cons_zero, List.set_cons_succ]
            refine takeH 10 (oi := ?oib10) ?hib10 (v := ?vb10) (by kernel_rfl) (by kernel_rfl) (by kernel_rfl) (fun _ _ _ h => h) ?hwb10 ?hyb10 hHeld ?_
            case hib10 => (simp only [List.getElem?_toArray, List.getElem?_cons_succ, List.getElem?_cons_zero]; exact rfl)
            case hwb10 => rfl
            case hyb10 => (intro w hSw; (try dsimp only at hSw); go_simp; all_goals (with_reducible rfl))
            try simp only [Act.put, List.setIfInBounds_toArray, List.set_cons_zero, List.set_cons_succ]
            refine takeH 11 (oi := ?oib11) ?hib11 (v := ?vb11) (by kernel_rfl) (by kernel_rfl) (by kernel_rfl) (fun _ _ _ h => h) ?hwb11 ?hyb11 hHeld ?_
            case hib11 => (simp only [List.getElem?_toArray, List.getElem?_cons_succ, List.getElem?_cons_zero]; exact rfl)
            case hwb11 => rfl
            case hyb11 => (intro w hSw; (try dsimp only at hSw); go_simp; all_goals (with_reducible rfl))
            try simp only [Act.put, List.setIfInBounds_toArray, List.set_cons_zero, List.set_cons_succ]
            refine takeH 13 (oi := ?oib13) ?hib13 (v := ?vb13) (by kernel_rfl) (by kernel_rfl) (by kernel_rfl) (fun _ _ _ h => h) ?hwb13 ?hyb13 hHeld ?_
            case hib13 => (simp only [List.getElem?_toArray, List.getElem?_cons_succ, List.getElem?_cons_zero]; exact rfl)
            case hwb13 => rfl
            case hyb13 => (intro w hSw; (try dsimp only at hSw); go_simp; all_goals (with_reducible rfl))
            try simp only [Act.put, List.setIfInBounds_toArray, List.set_cons_zero, List.set_cons_succ]
            refine takeH 14 (oi := ?oib14) ?hib14 (v := ?vb14) (by kernel_rfl) (by kernel_rfl) (by kernel_rfl) (fun _ _ _ h => h) ?hwb14 ?hyb14 hHeld ?_
            case hib14 => (simp only [List.getElem?_toArray, List.getElem?_cons_succ, List.getElem?_cons_zero]; exact rfl)
            case hwb14 => rfl
            case hyb14 => (intro w hSw; (try dsimp only at hSw); go_simp; all_goals (with_reducible rfl))
            try simp only [Act.put, List.setIfInBounds_toArray, List.set_cons_zero, List.set_cons_succ]
            refine runH 12 (oi := ?oib12) ?hib12 (by kernel_rfl) (fun K hK => ?_)
            case hib12 => (simp only [List.getElem?_toArray, List.getElem?_cons_succ, List.getElem?_cons_zero]; exact rfl)
            go_simp
            (go_at_call 19; (with_reducible refine (HNo.out _ HVe.out).mono ?_); rintro r wb ⟨rfl, H5⟩; have HVf := hid H5.out; clear H5)
            go_wp2_with fail
            refine hK.out _ _ ?_ (fun hHeld2 => ?_)
            · (try dsimp only); (first | (with_reducible exact HCx.out _ HVd.out) | (with_reducible exact HCx.out _ HVe.out) | (with_reducible exact HCx.out _ HVf.out))
            clear hK K hHeld
            have hHeld := hHeld2
            clear hHeld2
            try simp only [Act.put, List.setIfInBounds_toArray, List.set_cons_zero, List.set_cons_succ]
            refine takeH 15 (oi := ?oib15) ?hib15 (v := ?vb15) (by kernel_rfl) (by kernel_rfl) (by kernel_rfl) (fun _ _ _ h => h) ?hwb15 ?hyb15 hHeld ?_
            case hib15 => (simp only [List.getElem?_toArray, List.getElem?_cons_succ, List.getElem?_cons_zero]; exact rfl)
            case hwb15 => rfl
            case hyb15 => (intro w hSw; (try dsimp only at hSw); go_simp; all_goals (with_reducible rfl))
            try simp only [Act.put, List.setIfInBounds_toArray, List.set_cons_zero, List.set_cons_succ]
            refine takeH 16 (oi := ?oib16) ?hib16 (v := ?vb16) (by kernel_rfl) (by kernel_rfl) (by kernel_rfl) (fun _ _ _ h => h) ?hwb16 ?hyb16 hHeld ?_
            case hib16 => (simp only [List.getElem?_toArray, List.getElem?_cons_succ, List.getElem?_cons_zero]; exact rfl)
            case hwb16 => rfl
            case hyb16 => (intro w hSw; (try dsimp only at hSw); go_simp; all_goals (with_reducible rfl))
            try simp only [Act.put, List.setIfInBounds_toArray, List.set_cons_zero, List.set_cons_succ]
            refine takeH 17 (oi := ?oib17) ?hib17 (v := ?vb17) (by kernel_rfl) (by kernel_rfl) (by kernel_rfl) (fun _ _ _ h => h) ?hwb17 ?hyb17 hHeld ?_
            case hib17 => (simp only [List.getElem?_toArray, List.getElem?_cons_succ, List.getElem?_cons_zero]; exact rfl)
            case hwb17 => rfl
            case hyb17 => (intro w hSw; (try dsimp only at hSw); go_simp; all_goals (with_reducible rfl))
            try simp only [Act.put, List.setIfInBounds_toArray, List.set_cons_zero, List.set_cons_succ]
            refine takeH 18 (oi := ?oib18) ?hib18 (v := ?vb18) (by kernel_rfl) (by kernel_rfl) (by kernel_rfl) (fun _ _ _ h => h) ?hwb18 ?hyb18 hHeld ?_
            case hib18 => (simp only [List.getElem?_toArray, List.getElem?_cons_succ, List.getElem?_cons_zero]; exact rfl)
            case hwb18 => rfl
            case hyb18 => (intro w hSw; (try dsimp only at hSw); go_simp; all_goals (with_reducible rfl))
            try simp only [Act.put, List.setIfInBounds_toArray, List.set_cons_zero, List.set_cons_succ]
            refine takeH 19 (oi := ?oib19) ?hib19 (v := ?vb19) (by kernel_rfl) (by kernel_rfl) (by kernel_rfl) (fun _ _ _ h => h) ?hwb19 ?hyb19 hHeld ?_
            case hib19 => (simp only [List.getElem?_toArray, List.getElem?_cons_succ, List.getElem?_cons_zero]; exact rfl)
            case hwb19 => rfl
            case hyb19 => (intro w hSw; (try dsimp only at hSw); go_simp; all_goals (with_reducible rfl))
            try simp only [Act.put, List.setIfInBounds_toArray, List.set_cons_zero, List.set_cons_succ]
            refine takeH 20 (oi := ?oib20) ?hib20 (v := ?vb20) (by kernel_rfl) (by kernel_rfl) (by kernel_rfl) (fun _ _ _ h => h) ?hwb20 ?hyb20 hHeld ?_
            case hib20 => (simp only [List.getElem?_toArray, List.getElem?_cons_succ, List.getElem?_cons_zero]; exact rfl)
            case hwb20 => rfl
            case hyb20 => (intro w hSw; (try dsimp only at hSw); go_simp; all_goals (with_reducible rfl))
            try simp only [Act.put, List.setIfInBounds_toArray, List.set_cons_zero, List.set_cons_succ]
            refine takeH 21 (oi := ?oib21) ?hib21 (v := ?vb21) (by kernel_rfl) (by kernel_rfl) (by kernel_rfl) (fun _ _ _ h => h) ?hwb21 ?hyb21 hHeld ?_
            case hib21 => (simp only [List.getElem?_toArray, List.getElem?_cons_succ, List.getElem?_cons_zero]; exact rfl)
            case hwb21 => rfl
            case hyb21 => (intro w hSw; (try dsimp only at hSw); go_simp; all_goals (with_reducible rfl))
            try simp only [Act.put, List.setIfInBounds_toArray, List.set_cons_zero, List.set_cons_succ]
            refine takeH 22 (oi := ?oib22) ?hib22 (v := ?vb22) (by kernel_rfl) (by kernel_rfl) (by kernel_rfl) (fun _ _ _ h => h) ?hwb22 ?hyb22 hHeld ?_
            case hib22 => (simp only [List.getElem?_toArray, List.getElem?_cons_succ, List.getElem?_cons_zero]; exact rfl)
            case hwb22 => rfl
            case hyb22 => (intro w hSw; (try dsimp only at hSw); go_simp; all_goals (with_reducible rfl))
            try simp only [Act.put, List.setIfInBounds_toArray, List.set_cons_zero, List.set_cons_succ]
            refine takeH 23 (oi := ?oib23) ?hib23 (v := ?vb23) (by kernel_rfl) (by kernel_rfl) (by kernel_rfl) (fun _ _ _ h => h) ?hwb23 ?hyb23 hHeld ?_
            case hib23 => (simp only [List.getElem?_toArray, List.getElem?_cons_succ, List.getElem?_cons_zero]; exact rfl)
            case hwb23 => rfl
            case hyb23 => (intro w hSw; (try dsimp only at hSw); go_simp; all_goals (with_reducible rfl))
            try simp only [Act.put, List.setIfInBounds_toArray, List.set_cons_zero, List.set_cons_succ]
            refine takeH 24 (oi := ?oib24) ?hib24 (v := ?vb24) (by kernel_rfl) (by kernel_rfl) (by kernel_rfl) (fun _ _ _ h => h) ?hwb24 ?hyb24 hHeld ?_
            case hib24 => (simp only [List.getElem?_toArray, List.getElem?_cons_succ, List.getElem?_cons_zero]; exact rfl)
            case hwb24 => rfl
            case hyb24 => (intro w hSw; (try dsimp only at hSw); go_simp; all_goals (with_reducible rfl))
            try simp only [Act.put, List.setIfInBounds_toArray, List.set_cons_zero, List.set_cons_succ]
            refine takeH 25 (oi := ?oib25) ?hib25 (v := ?vb25) (by kernel_rfl) (by kernel_rfl) (by kernel_rfl) (fun _ _ _ h => h) ?hwb25 ?hyb25 hHeld ?_
            case hib25 => (simp only [List.getElem?_toArray, List.getElem?_cons_succ, List.getElem?_cons_zero]; exact rfl)
            case hwb25 => rfl
            case hyb25 => (intro w hSw; (try dsimp only at hSw); go_simp; all_goals (with_reducible rfl))
            try simp only [Act.put, List.setIfInBounds_toArray, List.set_cons_zero, List.set_cons_succ]
            refine takeH 26 (oi := ?oib26) ?hib26 (v := ?vb26) (by kernel_rfl) (by kernel_rfl) (by kernel_rfl) (fun _ _ _ h => h) ?hwb26 ?hyb26 hHeld ?_
            case hib26 => (simp only [List.getElem?_toArray, List.getElem?_cons_succ, List.getElem?_cons_zero]; exact rfl)
            case hwb26 => rfl
            case hyb26 => (intro w hSw; (try dsimp only at hSw); go_simp; all_goals (with_reducible rfl))
            try simp only [Act.put, List.setIfInBounds_toArray, List.set_cons_zero, List.set_cons_succ]
            refine takeH 27 (oi := ?oib27) ?hib27 (v := ?vb27) (by kernel_rfl) (by kernel_rfl) (by kernel_rfl) (fun _ _ _ h => h) ?hwb27 ?hyb27 hHeld ?_
            case hib27 => (simp only [List.getElem?_toArray, List.getElem?_cons_succ, List.getElem?_cons_zero]; exact rfl)
            case hwb27 => rfl
            case hyb27 => (intro w hSw; (try dsimp only at hSw); go_simp; all_goals (with_reducible rfl))
            try simp only [Act.put, List.setIfInBounds_toArray, List.set_cons_zero, List.set_cons_succ]
            refine skipH 28 (oi := ?oib28) ?hib28 (by kernel_rfl) (by kernel_rfl) (by kernel_rfl) (fun _ _ _ h => h) ?hwb28 hHeld ?_
            case hib28 => (simp only [List.getElem?_toArray, List.getElem?_cons_succ, List.getElem?_cons_zero]; exact rfl)
            case hwb28 => rfl
            try simp only [Act.put, List.setIfInBounds_toArray, List.set_cons_zero, List.set_cons_succ]
            refine skipH 29 (oi := ?oib29) ?hib29 (by kernel_rfl) (by kernel_rfl) (by kernel_rfl) (fun _ _ _ h => h) ?hwb29 hHeld ?_
            case hib29 => (simp only [List.getElem?_toArray, List.getElem?_cons_succ, List.getElem?_cons_zero]; exact rfl)
            case hwb29 => rfl
            try simp only [Act.put, List.setIfInBounds_toArray, List.set_cons_zero, List.set_cons_succ]
            refine skipH 30 (oi := ?oib30) ?hib30 (by kernel_rfl) (by kernel_rfl) (by kernel_rfl) (fun _ _ _ h => h) ?hwb30 hHeld ?_
            case hib30 => (simp only [List.getElem?_toArray, List.getElem?_cons_succ, List.getElem?_cons_zero]; exact rfl)
            case hwb30 => rfl
            try simp only [Act.put, List.setIfInBounds_toArray, List.set_cons_zero, List.set_cons_succ]
            refine skipH 31 (oi := ?oib31) ?hib31 (by kernel_rfl) (by kernel_rfl) (by kernel_rfl) (fun _ _ _ h => h) ?hwb31 hHeld ?_
            case hib31 => (simp only [List.getElem?_toArray, List.getElem?_cons_succ, List.getElem?_cons_zero]; exact rfl)
            case hwb31 => rfl
            try simp only [Act.put, List.setIfInBounds_toArray, List.set_cons_zero, List.set_cons_succ]
            refine skipH 32 (oi := ?oib32) ?hib32 (by kernel_rfl) (by kernel_rfl) (by kernel_rfl) (fun _ _ _ h => h) ?hwb32 hHeld ?_
            case hib32 => (simp only [List.getElem?_toArray, List.getElem?_cons_succ, List.getElem?_cons_zero]; exact rfl)
            case hwb32 => rfl
            try simp only [Act.put, List.setIfInBounds_toArray, List.set_cons_zero, List.set_cons_succ]
            refine skipH 33 (oi := ?oib33) ?hib33 (by kernel_rfl) (by kernel_rfl) (by kernel_rfl) (fun _ _ _ h => h) ?hwb33 hHeld ?_
            case hib33 => (simp only [List.getElem?_toArray, List.getElem?_cons_succ, List.getElem?_cons_zero]; exact rfl)
            case hwb33 => rfl
            try simp only [Act.put, List.setIfInBounds_toArray, List.set_cons_zero, List.set_cons_succ]
            refine skipH 34 (oi := ?oib34) ?hib34 (by kernel_rfl) (by kernel_rfl) (by kernel_rfl) (fun _ _ _ h => h) ?hwb34 hHeld ?_
            case hib34 => (simp only [List.getElem?_toArray, List.getElem?_cons_succ, List.getElem?_cons_zero]; exact rfl)
            case hwb34 => rfl
            try simp only [Act.put, List.setIfInBounds_toArray, List.set_cons_zero, List.set_cons_succ]
            refine takeH 35 (oi := ?oib35) ?hib35 (v := ?vb35) (by kernel_rfl) (by kernel_rfl) (by kernel_rfl) (fun _ _ _ h => h) ?hwb35 ?hyb35 hHeld ?_
            case hib35 => (simp only [List.getElem?_toArray, List.getElem?_cons_succ, List.getElem?_cons_zero]; exact rfl)
            case hwb35 => rfl
            case hyb35 => (intro w hSw; (try dsimp only at hSw); go_simp; all_goals (with_reducible rfl))
            try simp only [Act.put, List.setIfInBounds_toArray, List.set_cons_zero, List.set_cons_succ]
            refine takeH 36 (oi := ?oib36) ?hib36 (v := ?vb36) (by kernel_rfl) (by kernel_rfl) (by kernel_rfl) (fun _ _ _ h => h) ?hwb36 ?hyb36 hHeld ?_
            case hib36 => (simp only [List.getElem?_toArray, List.getElem?_cons_succ, List.getElem?_cons_zero]; exact rfl)
            case hwb36 => rfl
            case hyb36 => (intro w hSw; (try dsimp only at hSw); go_simp; all_goals (with_reducible rfl))
            try simp only [Act.put, List.setIfInBounds_toArray, List.set_cons_zero, List.set_cons_succ]
            refine wpAnyH_done (by kernel_rfl) ?_ _
            refine NoPanic.normal ?_
            clear hHeld
            all_goals
              have HSx := hid (HGx.out.below HP.out HVf.out).to
              clear HGx HVd HVe HVf HLe HNo HCx
              go_wp2_with fail
              go_round
              case rel => exact ⟨k + 1, T, last, _, _, by omega, by go_num, HSx.out⟩
              case measure => simp [intOf]; omega
          | cons t9 L9 =>
            have hN1 : 0 < N := by rw [← hN9]; simp
            have g9 : (0 : Int) < (N : Int) := by omega
            simp only [List.head?_cons, Option.map_some, Option.getD_some] at HNx
            rw [hN9, decide_eq_true hN1] at HNx
            obtain ⟨b9, o9, hav, hc9⟩ := HRx.out.lst.cell 0 hN1
            subst hav
            obtain ⟨dd, Hdd⟩ : ∃ dd, Hid (t9.due = dd) := ⟨_, rfl⟩
            have HTk : Hid (∀ (W' : World) (b o : Nat), TmAt W' b o (tk (t9 :: L9) 0) → W'.cell? ⟨b, o + 3, none⟩ = some (.int .i64 dd)) := fun W' b o h => by rw [← Hdd.out]; exact h.c3
            rw [Hdd.out] at HNx
            clear hN9 hc9
            have HCx : Hid (∀ W' : World, Below wx.heap.size wx W' → W'.cell? ⟨B2, 2, none⟩ = some (.slice (some ⟨b9, o9, none⟩) N cv) ∧ W'.cell? ⟨B2, 0, none⟩ = some (.int .i64 T) ∧ W'.cell? ⟨b9, o9 + 3, none⟩ = some (.int .i64 dd)) := fun W' hb => by
              have h := HRx.out.below hb
              obtain ⟨b', o', e', hc'⟩ := h.lst.cell 0 (by omega)
              cases e'
              have h3 := HTk.out _ _ _ hc'
              rw [Nat.zero_mul, Nat.add_zero] at h3
              exact ⟨h.cells.2.2, h.cells.1, h3⟩
            go_wp2_with fail
            with_reducible refine HNx.out.mono ?_
            rintro r w9 ⟨rfl, H9⟩
            have HV9 : Hid (Below wx.heap.size wx w9) := H9.out
            have HVd : Hid (Below wx.heap.size wx w9.drew) := H9.out.drew
            have hCx := HCx.out _ H9.out
            clear HNx H9 HRx
            go_wp2_with fail
            go_region_held3 (fun W' : World => W'.cell? ⟨B2, 2, none⟩ = some (.slice (some ⟨b9, o9, none⟩) N cv) ∧ W'.cell? ⟨B2, 0, none⟩ = some (.int .i64 T) ∧ W'.cell? ⟨b9, o9 + 3, none⟩ = some (.int .i64 dd))
              (first | (with_reducible exact HCx.out _ HVd.out) | (with_reducible exact HCx.out _ HVe.out) | (with_reducible exact HCx.out _ HVf.out))
              (first
                | (go_at_call 18; (with_reducible refine (HLe.out _ HVd.out).mono ?_); rintro r wa ⟨rfl, H5⟩; have HVe := hid H5.out; clear H5)
                | (go_at_call 19; (with_reducible refine (HNo.out _ HVe.out).mono ?_); rintro r wb ⟨rfl, H5⟩; have HVf := hid H5.out; clear H5))
            all_goals
              have HSx := hid (HGx.out.below HP.out HVf.out).to
              clear HGx HVd HVe HVf HLe HNo HCx
              go_wp2_with fail
              go_round
              case rel => exact ⟨k + 1, T, last, _, _, by omega, by go_num, HSx.out⟩
              case measure => simp [intOf]; omega
    · have h1' : (rr == 1) = false := by simpa using h1
      by_cases h2 : rr = 2
      · subst h2
        as_aux_lemma =>
          have HF1 : Hid (∀ (W' : World), PlM P w B F T last L B2 T last L sb ⟨kd, la, af, lb, nu⟩ W' → Calls Try.prog 10 #[.pointer (some ⟨B, 0, none⟩), .int .u64 lb] W' fun e w' => e = .returned (.int .i64 ((L.length : Int) - (allT lb L).length)) ∧ Hid (∃ F', PlM P w B F' T last (allT lb L) B2 T last L sb ⟨kd, la, af, lb, nu⟩ w')) := fun W' h => h.all1 HP.out HLb.out
          have HF2 : Hid (∀ (F' : Nat → Prop) (L' : List Tm) (W' : World), PlM P w B F' T last L' B2 T last L sb ⟨kd, la, af, lb, nu⟩ W' → Calls Try.prog 11 #[.pointer (some ⟨B2, 0, none⟩), .int .u64 lb] W' fun e w' => e = .returned (.int .i64 ((L.length : Int) - (allT lb L).length)) ∧ Hid (PlM P w B F' T last L' B2 T last (allT lb L) sb ⟨kd, la, af, lb, nu⟩ w')) := fun F' L' W' h => h.all2 HP.out lb
          generalize (L.length : Int) - (allT lb L).length = fr at HF1 HF2
          generalize allT lb L = L1 at HF1 HF2
          have HC0 : Hid (∀ (F' : Nat → Prop) (L' L2 : List Tm) (W' : World), PlM P w B F' T last L' B2 T last L2 sb ⟨kd, la, af, lb, nu⟩ W' → W'.cell? ⟨sb, 3, none⟩ = some (.int .u64 lb)) := fun _ _ _ W' h => h.cells.2.2.2.1
          have HGd := hid (HG.out.below HP.out (Below.refl _ _).drew)
          go_wp2_with fail
          clear y0 y1 y2 y3 y4 hrr hr' hwr
          go_region_held3 (fun W' : World => W'.cell? ⟨sb, 3, none⟩ = some (.int .u64 lb))
            (first | (with_reducible exact HC0.out _ _ _ _ HG.out) | (with_reducible exact HC0.out _ _ _ _ HGd.out) | (with_reducible exact HC0.out _ _ _ _ HG1.out) | (with_reducible exact HC0.out _ _ _ _ HG2.out))
            (first
              | (go_at_call 10; (with_reducible refine (HF1.out _ HGd.out).mono ?_); rintro r x1 ⟨rfl, H5⟩; obtain ⟨F1, hg1⟩ := H5.out; have HG1 := hid hg1; clear H5 hg1)
              | (go_at_call 11; (with_reducible refine (HF2.out _ _ _ HG1.out).mono ?_); rintro r wx ⟨rfl, H5⟩; have HG2 := hid H5.out; clear H5))
          all_goals
            have HGx := hid HG2.out
            clear HG HGd HG1 HG2 HF1 HF2 HC0
            obtain ⟨av, N, cv, hrx⟩ := HGx.out.rt
            have HRx := hid hrx
            have hN9 := hrx.lst.size
            have rm9 := hrx.lst.room
            have ms9 := hrx.lst.most
            clear hrx
            have HLe : Hid (∀ W' : World, Below wx.heap.size wx W' → Calls Try.prog 18 #[.pointer (some ⟨B, 0, none⟩)] W' fun e w' => e = .returned (.int .i64 N) ∧ Hid (Below wx.heap.size wx w')) := fun W' hb => by
              have h := HP.out.len (HP.out.below HGx.out.wl hb)
              rw [hN9] at h
              exact h.mono fun e w' ⟨he, H⟩ => ⟨he, hb.trans (H.out.mono hb.size)⟩
            have HNo : Hid (∀ W' : World, Below wx.heap.size wx W' → Calls Try.prog 19 #[.pointer (some ⟨B, 0, none⟩)] W' fun e w' => e = .returned (.int .i64 T) ∧ Hid (Below wx.heap.size wx w')) := fun W' hb =>
              (HP.out.now (HP.out.below HGx.out.wl hb)).mono fun e w' ⟨he, H⟩ => ⟨he, hb.trans (H.out.mono hb.size)⟩
            have HNx := hid (HP.out.next HGx.out.wl)
            cases L1 with
            | nil =>
              have g8 : ¬ 0 < N := by have h0 : 0 = N := hN9; omega
              have g9 : ¬ (0 : Int) < (N : Int) := by omega
              have d8 : decide (0 < N) = false := decide_eq_false g8
              have d9 : decide ((0 : Int) < (N : Int)) = false := decide_eq_false g9
              clear hN9
              simp only [List.head?_nil, Option.map_none, Option.getD_none, List.length_nil] at HNx
              rw [show decide (0 < 0) = false from rfl] at HNx
              have HCx : Hid (∀ W' : World, Below wx.heap.size wx W' → W'.cell? ⟨B2, 2, none⟩ = some (.slice av N cv) ∧ W'.cell? ⟨B2, 0, none⟩ = some (.int .i64 T)) := fun W' hb => by
                have h := HRx.out.below hb
                exact ⟨h.cells.2.2, h.cells.1⟩
              go_wp2_with fail
              with_reducible refine HNx.out.mono ?_
              rintro r w9 ⟨rfl, H9⟩
              have HV9 : Hid (Below wx.heap.size wx w9) := H9.out
              have HVd : Hid (Below wx.heap.size wx w9.drew) := H9.out.drew
              have hCx := HCx.out _ H9.out
              clear HNx H9 HRx
              go_wp2_with fail
              refine wp_region_noPanic ?_
              refine wp_region_held_drew (S := fun W' : World => W'.cell? ⟨B2, 2, none⟩ = some (.slice av N cv) ∧ W'.cell? ⟨B2, 0, none⟩ = some (.int .i64 T)) (by kernel_rfl) (HCx.out _ HVd.out) (fun hHeld => ?_)
              refine takeH 0 (oi := ?oic0) ?hic0 (v := ?vc0) (by kernel_rfl) (by kernel_rfl) (by kernel_rfl) (fun _ _ _ h => h) ?hwc0 ?hyc0 hHeld ?_
              case hic0 => (simp only [List.getElem?_toArray, List.getElem?_cons_zero]; exact rfl)
              case hwc0 => rfl
              case hyc0 => (intro w hSw; (try dsimp only at hSw); go_simp; all_goals (with_reducible rfl))
              try simp only [Act.put, List.setIfInBounds_toArray, List.set_cons_zero, List.set_cons_succ]
              refine takeH 1 (oi := ?oic1) ?hic1 (v := ?vc1) (by kernel_rfl) (by kernel_rfl) (by kernel_rfl) (fun _ _ _ h => h) ?hwc1 ?hyc1 hHeld ?_
              case hic1 => (simp only [List.getElem?_toArray, List.getElem?_cons_succ, List.getElem?_cons_zero]; exact rfl)
              case hwc1 => rfl
              case hyc1 => (intro w hSw; (try dsimp only at hSw); go_simp; all_goals (with_reducible rfl))
              try simp only [Act.put, List.setIfInBounds_toArray, List.set_cons_zero, List.set_cons_succ]
              refine takeH 2 (oi := ?oic2) ?hic2 (v := ?vc2) (by kernel_rfl) (by kernel_rfl) (by kernel_rfl) (fun _ _ _ h => h) ?hwc2 ?hyc2 hHeld ?_
              case hic2 => (simp only [List.getElem?_toArray, List.getElem?_cons_succ, List.getElem?_cons_zero]; exact rfl)
              case hwc2 => rfl
              case hyc2 => (intro w hSw; (try dsimp only at hSw); go_simp; all_goals (with_reducible rfl))
              try simp only [Act.put, List.setIfInBounds_toArray, List.set_cons_zero, List.set_cons_succ]
              refine takeH 3 (oi := ?oic3) ?hic3 (v := ?vc3) (by kernel_rfl) (by kernel_rfl) (by kernel_rfl) (fun _ _ _ h => h) ?hwc3 ?hyc3 hHeld ?_
              case hic3 => (simp only [List.getElem?_toArray, List.getElem?_cons_succ, List.getElem?_cons_zero]; exact rfl)
              case hwc3 => rfl
              case hyc3 => (intro w hSw; (try dsimp only at hSw); go_simp; all_goals (with_reducible rfl))
              try simp only [Act.put, List.setIfInBounds_toArray, List.set_cons_zero, List.set_cons_succ]
              refine takeH 5 (oi := ?oic5) ?hic5 (v := ?vc5) (by kernel_rfl) (by kernel_rfl) (by kernel_rfl) (fun _ _ _ h => h) ?hwc5 ?hyc5 hHeld ?_
              case hic5 => (simp only [List.getElem?_toArray, List.getElem?_cons_succ, List.getElem?_cons_zero]; exact rfl)
              case hwc5 => rfl
              case hyc5 => (intro w hSw; (try dsimp only at hSw); go_simp; all_goals (with_reducible rfl))
              try simp only [Act.put, List.setIfInBounds_toArray, List.set_cons_zero, List.set_cons_succ]
              refine takeH 6 (oi := ?oic6) ?hic6 (v := ?vc6) (by kernel_rfl) (by kernel_rfl) (by kernel_rfl) (fun _ _ _ h => h) ?hwc6 ?hyc6 hHeld ?_
              case hic6 => (simp only [List.getElem?_toArray, List.getElem?_cons_succ, List.getElem?_cons_zero]; exact rfl)
              case hwc6 => rfl
              case hyc6 => (intro w hSw; (try dsimp only at hSw); go_simp; all_goals (with_reducible rfl))
              try simp only [Act.put, List.setIfInBounds_toArray, List.set_cons_zero, List.set_cons_succ]
              refine takeH 7 (oi := ?oic7) ?hic7 (v := ?vc7) (by kernel_rfl) (by kernel_rfl) (by kernel_rfl) (fun _ _ _ h => h) ?hwc7 ?hyc7 hHeld ?_
              case hic7 => (simp only [List.getElem?_toArray, List.getElem?_cons_succ, List.getElem?_cons_zero]; exact rfl)
              case hwc7 => rfl
              case hyc7 => (intro w hSw; (try dsimp only at hSw); go_simp; all_goals (with_reducible rfl))
              try simp only [Act.put, List.setIfInBounds_toArray, List.set_cons_zero, List.set_cons_succ]
              refine runH 4 (oi := ?oic4) ?hic4 (by kernel_rfl) (fun K hK => ?_)
              case hic4 => (simp only [List.getElem?_toArray, List.getElem?_cons_succ, List.getElem?_cons_zero]; exact rfl)
              go_simp
              (go_at_call 18; (with_reducible refine (HLe.out _ HVd.out).mono ?_); rintro r wa ⟨rfl, H5⟩; have HVe := hid H5.out; clear H5)
              go_wp2_with fail
              refine hK.out _ _ ?_ (fun hHeld2 => ?_)
              · (try dsimp only); (first | (with_reducible exact HCx.out _ HVd.out) | (with_reducible exact HCx.out _ HVe.out) | (with_reducible exact HCx.out _ HVf.out))
              clear hK K hHeld
              have hHeld := hHeld2
              clear hHeld2
              try simp only [Act.put, List.setIfInBounds_toArray, List.set_cons_zero, List.set_cons_succ]
              refine takeH 8 (oi := ?oic8) ?hic8 (v := ?vc8) (by kernel_rfl) (by kernel_rfl) (by kernel_rfl) (fun _ _ _ h => h) ?hwc8 ?hyc8 hHeld ?_
              case hic8 => (simp only [List.getElem?_toArray, List.getElem?_cons_succ, List.getElem?_cons_zero]; exact rfl)
              case hwc8 => rfl
              case hyc8 => (intro w hSw; (try dsimp only at hSw); go_simp; all_goals (with_reducible rfl))
              try simp only [Act.put, List.setIfInBounds_toArray, List.set_cons_zero, List.set_cons_succ]
              refine takeH 9 (oi := ?oic9) ?hic9 (v := ?vc9) (by kernel_rfl) (by kernel_rfl) (by kernel_rfl) (fun _ _ _ h => h) ?hwc9 ?hyc9 hHeld ?_
              case hic9 => (simp only [List.getElem?_toArray, List.getElem?_cons_succ, List.getElem?_cons_zero]; exact rfl)
              case hwc9 => rfl
              case hyc9 => (intro w hSw; (try dsimp only at hSw); go_simp; all_goals (with_reducible rfl))
              try simp only [Act.put, List.setIfInBounds_toArray, List.set_cons_zero, List.set_cons_succ]
              refine takeH 10 (oi := ?oic10) ?hic10 (v := ?vc10) (by kernel_rfl) (by kernel_rfl) (by kernel_rfl) (fun _ _ _ h => h) ?hwc10 ?hyc10 hHeld ?_
              case hic10 => (simp only [List.getElem?_toArray, List.getElem?_cons_succ, List.getElem?_cons_zero]; exact rfl)
              case hwc10 => rfl
              case hyc10 => (intro w hSw; (try dsimp only at hSw); go_simp; all_goals (with_reducible rfl))
              try simp only [Act.put, List.setIfInBounds_toArray, List.set_cons_zero, List.set_cons_succ]
              refine takeH 11 (oi := ?oic11) ?hic11 (v := ?vc11) (by kernel_rfl) (by kernel_rfl) (by kernel_rfl) (fun _ _ _ h => h) ?hwc11 ?hyc11 hHeld ?_
              case hic11 => (simp only [List.getElem?_toArray, List.getElem?_cons_succ, List.getElem?_cons_zero]; exact rfl)
              case hwc11 => rfl
              case hyc11 => (intro w hSw; (try dsimp only at hSw); go_simp; all_goals (with_reducible rfl))
              try simp only [Act.put, List.setIfInBounds_toArray, List.set_cons_zero, List.set_cons_succ]
              refine takeH 13 (oi := ?oic13) ?hic13 (v := ?vc13) (by kernel_rfl) (by kernel_rfl) (by kernel_rfl) (fun _ _ _ h => h) ?hwc13 ?hyc13 hHeld ?_
              case hic13 => (simp only [List.getElem?_toArray, List.getElem?_cons_succ, List.getElem?_cons_zero]; exact rfl)
              case hwc13 => rfl
              case hyc13 => (intro w hSw; (try dsimp only at hSw); go_simp; all_goals (with_reducible rfl))
              try simp only [Act.put, List.setIfInBounds_toArray, List.set_cons_zero, List.set_cons_succ]
              refine takeH 14 (oi := ?oic14) ?hic14 (v := ?vc14) (by kernel_rfl) (by kernel_rfl) (by kernel_rfl) (fun _ _ _ h => h) ?hwc14 ?hyc14 hHeld ?_
              case hic14 => (simp only [List.getElem?_toArray, List.getElem?_cons_succ, List.getElem?_cons_zero]; exact rfl)
              case hwc14 => rfl
              case hyc14 => (intro w hSw; (try dsimp only at hSw); go_simp; all_goals (with_reducible rfl))
              try simp only [Act.put, List.setIfInBounds_toArray, List.set_cons_zero, List.set_cons_succ]
              refine runH 12 (oi := ?oic12) ?hic12 (by kernel_rfl) (fun K hK => ?_)
              case hic12 => (simp only [List.getElem?_toArray, List.getElem?_cons_succ, List.getElem?_cons_zero]; exact rfl)
              go_simp
              (go_at_call 19; (with_reducible refine (HNo.out _ HVe.out).mono ?_); rintro r wb ⟨rfl, H5⟩; have HVf := hid H5.out; clear H5)
              go_wp2_with fail
              refine hK.out _ _ ?_ (fun hHeld2 => ?_)
              · (try dsimp only); (first | (with_reducible exact HCx.out _ HVd.out) | (with_reducible exact HCx.out _ HVe.out) | (with_reducible exact HCx.out _ HVf.out))
              clear hK K hHeld
              have hHeld := hHeld2
              clear hHeld2
              try simp only [Act.put, List.setIfInBounds_toArray, List.set_cons_zero, List.set_cons_succ]
              refine takeH 15 (oi := ?oic15) ?hic15 (v := ?vc15) (by kernel_rfl) (by kernel_rfl) (by kernel_rfl) (fun _ _ _ h => h) ?hwc15 ?hyc15 hHeld ?_
              case hic15 => (simp only [List.getElem?_toArray, List.getElem?_cons_succ, List.getElem?_cons_zero]; exact rfl)
              case hwc15 => rfl
              case hyc15 => (intro w hSw; (try dsimp only at hSw); go_simp; all_goals (with_reducible rfl))
              try simp only [Act.put, List.setIfInBounds_toArray, List.set_cons_zero, List.set_cons_succ]
              refine takeH 16 (oi := ?oic16) ?hic16 (v := ?vc16) (by kernel_rfl) (by kernel_rfl) (by kernel_rfl) (fun _ _ _ h => h) ?hwc16 ?hyc16 hHeld ?_
              case hic16 => (simp only [List.getElem?_toArray, List.getElem?_cons_succ, List.getElem?_cons_zero]; exact rfl)
              case hwc16 => rfl
              case hyc16 => (intro w hSw; (try dsimp only at hSw); go_simp; all_goals (with_reducible rfl))
              try simp only [Act.put, List.setIfInBounds_toArray, List.set_cons_zero, List.set_cons_succ]
              refine takeH 17 (oi := ?oic17) ?hic17 (v := ?vc17) (by kernel_rfl) (by kernel_rfl) (by kernel_rfl) (fun _ _ _ h => h) ?hwc17 ?hyc17 hHeld ?_
              case hic17 => (simp only [List.getElem?_toArray, List.getElem?_cons_succ, List.getElem?_cons_zero]; exact rfl)
              case hwc17 => rfl
              case hyc17 => (intro w hSw; (try dsimp only at hSw); go_simp; all_goals (with_reducible rfl))
              try simp only [Act.put, List.setIfInBounds_toArray, List.set_cons_zero, List.set_cons_succ]
              refine takeH 18 (oi := ?oic18) ?hic18 (v := ?vc18) (by kernel_rfl) (by kernel_rfl) (by kernel_rfl) (fun _ _ _ h => h) ?hwc18 ?hyc18 hHeld ?_
              case hic18 => (simp only [List.getElem?_toArray, List.getElem?_cons_succ, List.getElem?_cons_zero]; exact rfl)
              case hwc18 => rfl
              case hyc18 => (intro w hSw; (try dsimp only at hSw); go_simp; all_goals (with_reducible rfl))
              try simp only [Act.put, List.setIfInBounds_toArray, List.set_cons_zero, List.set_cons_succ]
              refine takeH 19 (oi := ?oic19) ?hic19 (v := ?vc19) (by kernel_rfl) (by kernel_rfl) (by kernel_rfl) (fun _ _ _ h => h) ?hwc19 ?hyc19 hHeld ?_
              case hic19 => (simp only [List.getElem?_toArray, List.getElem?_cons_succ, List.getElem?_cons_zero]; exact rfl)
              case hwc19 => rfl
              case hyc19 => (intro w hSw; (try dsimp only at hSw); go_simp; all_goals (with_reducible rfl))
              try simp only [Act.put, List.setIfInBounds_toArray, List.set_cons_zero, List.set_cons_succ]
              refine takeH 20 (oi := ?oic20) ?hic20 (v := ?vc20) (by kernel_rfl) (by kernel_rfl) (by kernel_rfl) (fun _ _ _ h => h) ?hwc20 ?hyc20 hHeld ?_
              case hic20 => (simp only [List.getElem?_toArray, List.getElem?_cons_succ, List.getElem?_cons_zero]; exact rfl)
              case hwc20 => rfl
              case hyc20 => (intro w hSw; (try dsimp only at hSw); go_simp; all_goals (with_reducible rfl))
              try simp only [Act.put, List.setIfInBounds_toArray, List.set_cons_zero, List.set_cons_succ]
              refine takeH 21 (oi := ?oic21) ?hic21 (v := ?vc21) (by kernel_rfl) (by kernel_rfl) (by kernel_rfl) (fun _ _ _ h => h) ?hwc21 ?hyc21 hHeld ?_
              case hic21 => (simp only [List.getElem?_toArray, List.getElem?_cons_succ, List.getElem?_cons_zero]; exact rfl)
              case hwc21 => rfl
              case hyc21 => (intro w hSw; (try dsimp only at hSw); go_simp; all_goals (with_reducible rfl))
              try simp only [Act.put, List.setIfInBounds_toArray, List.set_cons_zero, List.set_cons_succ]
              refine takeH 22 (oi := ?oic22) ?hic22 (v := ?vc22) (by kernel_rfl) (by kernel_rfl) (by kernel_rfl) (fun _ _ _ h => h) ?hwc22 ?hyc22 hHeld ?_
              case hic22 => (simp only [List.getElem?_toArray, List.getElem?_cons_succ, List.getElem?_cons_zero]; exact rfl)
              case hwc22 => rfl
              case hyc22 => (intro w hSw; (try dsimp only at hSw); go_simp; all_goals (with_reducible rfl))
              try simp only [Act.put, List.setIfInBounds_toArray, List.set_cons_zero, List.set_cons_succ]
              refine takeH 23 (oi := ?oic23) ?hic23 (v := ?vc23) (by kernel_rfl) (by kernel_rfl) (by kernel_rfl) (fun _ _ _ h => h) ?hwc23 ?hyc23 hHeld ?_
              case hic23 => (simp only [List.getElem?_toArray, List.getElem?_cons_succ, List.getElem?_cons_zero]; exact rfl)
              case hwc23 => rfl
              case hyc23 => (intro w hSw; (try dsimp only at hSw); go_simp; all_goals (with_reducible rfl))
              try simp only [Act.put, List.setIfInBounds_toArray, List.set_cons_zero, List.set_cons_succ]
              refine takeH 24 (oi := ?oic24) ?hic24 (v := ?vc24) (by kernel_rfl) (by kernel_rfl) (by kernel_rfl) (fun _ _ _ h => h) ?hwc24 ?hyc24 hHeld ?_
              case hic24 => (simp only [List.getElem?_toArray, List.getElem?_cons_succ, List.getElem?_cons_zero]; exact rfl)
              case hwc24 => rfl
              case hyc24 => (intro w hSw; (try dsimp only at hSw); go_simp; all_goals (with_reducible rfl))
              try simp only [Act.put, List.setIfInBounds_toArray, List.set_cons_zero, List.set_cons_succ]
              refine takeH 25 (oi := ?oic25) ?hic25 (v := ?vc25) (by kernel_rfl) (by kernel_rfl) (by kernel_rfl) (fun _ _ _ h => h) ?hwc25 ?hyc25 hHeld ?_
              case hic25 => (simp only [List.getElem?_toArray, List.getElem?_cons_succ, List.getElem?_cons_zero]; exact rfl)
              case hwc25 => rfl
              case hyc25 => (intro w hSw; (try dsimp only at hSw); go_simp; all_goals (with_reducible rfl))
              try simp only [Act.put, List.setIfInBounds_toArray, List.set_cons_zero, List.set_cons_succ]
              refine takeH 26 (oi := ?oic26) ?hic26 (v := ?vc26) (by kernel_rfl) (by kernel_rfl) (by kernel_rfl) (fun _ _ _ h => h) ?hwc26 ?hyc26 hHeld ?_
              case hic26 => (simp only [List.getElem?_toArray, List.getElem?_cons_succ, List.getElem?_cons_zero]; exact rfl)
              case hwc26 => rfl
              case hyc26 => (intro w hSw; (try dsimp only at hSw); go_simp; all_goals (with_reducible rfl))
              try simp only [Act.put, List.setIfInBounds_toArray, List.set_cons_zero, List.set_cons_succ]
              refine takeH 27 (oi := ?oic27) ?hic27 (v := ?vc27) (by kernel_rfl) (by kernel_rfl) (by kernel_rfl) (fun _ _ _ h => h) ?hwc27 ?hyc27 hHeld ?_
              case hic27 => (simp only [List.getElem?_toArray, List.getElem?_cons_succ, List.getElem?_cons_zero]; exact rfl)
              case hwc27 => rfl
              case hyc27 => (intro w hSw; (try dsimp only at hSw); go_simp; all_goals (with_reducible rfl))
              try simp only [Act.put, List.setIfInBounds_toArray, List.set_cons_zero, List.set_cons_succ]
              refine skipH 28 (oi := ?oic28) ?hic28 (by kernel_rfl) (by kernel_rfl) (by kernel_rfl) (fun _ _ _ h => h) ?hwc28 hHeld ?_
              case hic28 => (simp only [List.getElem?_toArray, List.getElem?_cons_succ, List.getElem?_cons_zero]; exact rfl)
              case hwc28 => rfl
              try simp only [Act.put, List.setIfInBounds_toArray, List.set_cons_zero, List.set_cons_succ]
              refine skipH 29 (oi := ?oic29) ?hic29 (by kernel_rfl) (by kernel_rfl) (by kernel_rfl) (fun _ _ _ h => h) ?hwc29 hHeld ?_
              case hic29 => (simp only [List.getElem?_toArray, List.getElem?_cons_succ, List.getElem?_cons_zero]; exact rfl)
              case hwc29 => rfl
              try simp only [Act.put, List.setIfInBounds_toArray, List.set_cons_zero, List.set_cons_succ]
              refine skipH 30 (oi := ?oic30) ?hic30 (by kernel_rfl) (by kernel_rfl) (by kernel_rfl) (fun _ _ _ h => h) ?hwc30 hHeld ?_
              case hic30 => (simp only [List.getElem?_toArray, List.getElem?_cons_succ, List.getElem?_cons_zero]; exact rfl)
              case hwc30 => rfl
              try simp only [Act.put, List.setIfInBounds_toArray, List.set_cons_zero, List.set_cons_succ]
              refine skipH 31 (oi := ?oic31) ?hic31 (by kernel_rfl) (by kernel_rfl) (by kernel_rfl) (fun _ _ _ h => h) ?hwc31 hHeld ?_
              case hic31 => (simp only [List.getElem?_toArray, List.getElem?_cons_succ, List.getElem?_cons_zero]; exact rfl)
              case hwc31 => rfl
              try simp only [Act.put, List.setIfInBounds_toArray, List.set_cons_zero, List.set_cons_succ]
              refine skipH 32 (oi := ?oic32) ?hic32 (by kernel_rfl) (by kernel_rfl) (by kernel_rfl) (fun _ _ _ h => h) ?hwc32 hHeld ?_
              case hic32 => (simp only [List.getElem?_toArray, List.getElem?_cons_succ, List.getElem?_cons_zero]; exact rfl)
              case hwc32 => rfl
              try simp only [Act.put, List.setIfInBounds_toArray, List.set_cons_zero, List.set_cons_succ]
              refine skipH 33 (oi := ?oic33) ?hic33 (by kernel_rfl) (by kernel_rfl) (by kernel_rfl) (fun _ _ _ h => h) ?hwc33 hHeld ?_
              case hic33 => (simp only [List.getElem?_toArray, List.getElem?_cons_succ, List.getElem?_cons_zero]; exact rfl)
              case hwc33 => rfl
              try simp only [Act.put, List.setIfInBounds_toArray, List.set_cons_zero, List.set_cons_succ]
              refine skipH 34 (oi := ?oic34) ?hic34 (by kernel_rfl) (by kernel_rfl) (by kernel_rfl) (fun _ _ _ h => h) ?hwc34 hHeld ?_
              case hic34 => (simp only [List.getElem?_toArray, List.getElem?_cons_succ, List.getElem?_cons_zero]; exact rfl)
              case hwc34 => rfl
              try simp only [Act.put, List.setIfInBounds_toArray, List.set_cons_zero, List.set_cons_succ]
              refine takeH 35 (oi := ?oic35) ?hic35 (v := ?vc35) (by kernel_rfl) (by kernel_rfl) (by kernel_rfl) (fun _ _ _ h => h) ?hwc35 ?hyc35 hHeld ?_
              case hic35 => (simp only [List.getElem?_toArray, List.getElem?_cons_succ, List.getElem?_cons_zero]; exact rfl)
              case hwc35 => rfl
              case hyc35 => (intro w hSw; (try dsimp only at hSw); go_simp; all_goals (with_reducible rfl))
              try simp only [Act.put, List.setIfInBounds_toArray, List.set_cons_zero, List.set_cons_succ]
              refine takeH 36 (oi := ?oic36) ?hic36 (v := ?vc36) (by kernel_rfl) (by kernel_rfl) (by kernel_rfl) (fun _ _ _ h => h) ?hwc36 ?hyc36 hHeld ?_
              case hic36 => (simp only [List.getElem?_toArray, List.getElem?_cons_succ, List.getElem?_cons_zero]; exact rfl)
              case hwc36 => rfl
              case hyc36 => (intro w hSw; (try dsimp only at hSw); go_simp; all_goals (with_reducible rfl))
              try simp only [Act.put, List.setIfInBounds_toArray, List.set_cons_zero, List.set_cons_succ]
              refine wpAnyH_done (by kernel_rfl) ?_ _
              refine NoPanic.normal ?_
              clear hHeld
              all_goals
                have HSx := hid (HGx.out.below HP.out HVf.out).to
                clear HGx HVd HVe HVf HLe HNo HCx
                go_wp2_with fail
                go_round
                case rel => exact ⟨k + 1, T, last, _, _, by omega, by go_num, HSx.out⟩
                case measure => simp [intOf]; omega
            | cons t9 L9 =>
              have hN1 : 0 < N := by rw [← hN9]; simp
              have g9 : (0 : Int) < (N : Int) := by omega
              simp only [List.head?_cons, Option.map_some, Option.getD_some] at HNx
              rw [hN9, decide_eq_true hN1] at HNx
              obtain ⟨b9, o9, hav, hc9⟩ := HRx.out.lst.cell 0 hN1
              subst hav
              obtain ⟨dd, Hdd⟩ : ∃ dd, Hid (t9.due = dd) := ⟨_, rfl⟩
              have HTk : Hid (∀ (W' : World) (b o : Nat), TmAt W' b o (tk (t9 :: L9) 0) → W'.cell? ⟨b, o + 3, none⟩ = some (.int .i64 dd)) := fun W' b o h => by rw [← Hdd.out]; exact h.c3
              rw [Hdd.out] at HNx
              clear hN9 hc9
              have HCx : Hid (∀ W' : World, Below wx.heap.size wx W' → W'.cell? ⟨B2, 2, none⟩ = some (.slice (some ⟨b9, o9, none⟩) N cv) ∧ W'.cell? ⟨B2, 0, none⟩ = some (.int .i64 T) ∧ W'.cell? ⟨b9, o9 + 3, none⟩ = some (.int .i64 dd)) := fun W' hb => by
                have h := HRx.out.below hb
                obtain ⟨b', o', e', hc'⟩ := h.lst.cell 0 (by omega)
                cases e'
                have h3 := HTk.out _ _ _ hc'
                rw [Nat.zero_mul, Nat.add_zero] at h3
                exact ⟨h.cells.2.2, h.cells.1, h3⟩
              go_wp2_with fail
              with_reducible refine HNx.out.mono ?_
              rintro r w9 ⟨rfl, H9⟩
              have HV9 : Hid (Below wx.heap.size wx w9) := H9.out
              have HVd : Hid (Below wx.heap.size wx w9.drew) := H9.out.drew
              have hCx := HCx.out _ H9.out
              clear HNx H9 HRx
              go_wp2_with fail
              go_region_held3 (fun W' : World => W'.cell? ⟨B2, 2, none⟩ = some (.slice (some ⟨b9, o9, none⟩) N cv) ∧ W'.cell? ⟨B2, 0, none⟩ = some (.int .i64 T) ∧ W'.cell? ⟨b9, o9 + 3, none⟩ = some (.int .i64 dd))
                (first | (with_reducible exact HCx.out _ HVd.out) | (with_reducible exact HCx.out _ HVe.out) | (with_reducible exact HCx.out _ HVf.out))
                (first
                  | (go_at_call 18; (with_reducible refine (HLe.out _ HVd.out).mono ?_); rintro r wa ⟨rfl, H5⟩; have HVe := hid H5.out; clear H5)
                  | (go_at_call 19; (with_reducible refine (HNo.out _ HVe.out).mono ?_); rintro r wb ⟨rfl, H5⟩; have HVf := hid H5.out; clear H5))
              all_goals
                have HSx := hid (HGx.out.below HP.out HVf.out).to
                clear HGx HVd HVe HVf HLe HNo HCx
                go_wp2_with fail
                go_round
                case rel => exact ⟨k + 1, T, last, _, _, by omega, by go_num, HSx.out⟩
                case measure => simp [intOf]; omega
      · have h2' : (rr == 2) = false := by simpa using h2
        by_cases h3 : rr = 3
        · subst h3
          as_aux_lemma =>
            have h1 := HG.out.due1 HP.out HNw.out
            obtain ⟨T1, HT1⟩ : ∃ T1, Hid (timeZ T nw = T1) := ⟨_, rfl⟩
            obtain ⟨D, HD⟩ : ∃ D, Hid (L.takeWhile (dueB T1) = D) := ⟨_, rfl⟩
            obtain ⟨L1, HL1⟩ : ∃ L1, Hid (L.dropWhile (dueB T1) = L1) := ⟨_, rfl⟩
            rw [HT1.out, HD.out, HL1.out] at h1
            have HDl : Hid (D.length ≤ 5000) := by
              have h2 := HBd.out.2.2
              have h3 : D.length ≤ L.length := by rw [← HD.out]; exact (List.takeWhile_sublist _).length_le
              unfold Hid; omega
            have HF2 : Hid (∀ (F' : Nat → Prop) (L' : List Tm) (W' : World) (a : Option Addr) (len cap : Nat), PlM P w B F' T1 last L' B2 T last L sb ⟨kd, la, af, lb, nu⟩ W' → TsAt 54 W' a len cap D → (∀ ad, a = some ad → ad.block ≠ B2) → Calls Try.prog 14 #[.pointer (some ⟨B2, 0, none⟩), .int .i64 nw] W' fun e w' => ∃ a2 cap2, e = .returned (.slice a2 len cap2) ∧ Hid (TsAt 49 w' a2 len cap2 D ∧ TsAt 54 w' a len cap D ∧ PlM P w B F' T1 last L' B2 T1 last L1 sb ⟨kd, la, af, lb, nu⟩ w')) := fun F' L' W' a len cap h ht hne => by
              have h2 := h.due2 HP.out nw ht hne (by rw [HT1.out]; exact HD.out)
              rw [HT1.out, HL1.out] at h2
              exact h2
            clear HT1 HD HL1
            go_wp2_with fail
            clear y0 y1 y2 y3 y4 hrr hr' hwr
            with_reducible refine h1.mono ?_
            rintro r w5 ⟨a, len, cap, rfl, H5⟩
            obtain ⟨ht5, hn5, F5, hg5⟩ := H5.out
            have h2 := HF2.out _ _ _ _ _ _ hg5 ht5 hn5
            clear h1 HF2 H5 ht5 hn5 hg5 HG
            go_wp2_with fail
            with_reducible refine h2.mono ?_
            rintro r w6 ⟨a2, cap2, rfl, H6⟩
            have h3 := same20_yes H6.out.2.1 H6.out.1 (by rw [← H6.out.1.size]; exact HDl.out)
            clear h2
            go_wp2_with fail
            with_reducible refine h3.mono ?_
            rintro r wx ⟨rfl, H7⟩
            have HGx := hid (H6.out.2.2.below HP.out H7.out)
            clear h3 H6 H7 HDl
            obtain ⟨av, N, cv, hrx⟩ := HGx.out.rt
            have HRx := hid hrx
            have hN9 := hrx.lst.size
            have rm9 := hrx.lst.room
            have ms9 := hrx.lst.most
            clear hrx
            have HLe : Hid (∀ W' : World, Below wx.heap.size wx W' → Calls Try.prog 18 #[.pointer (some ⟨B, 0, none⟩)] W' fun e w' => e = .returned (.int .i64 N) ∧ Hid (Below wx.heap.size wx w')) := fun W' hb => by
              have h := HP.out.len (HP.out.below HGx.out.wl hb)
              rw [hN9] at h
              exact h.mono fun e w' ⟨he, H⟩ => ⟨he, hb.trans (H.out.mono hb.size)⟩
            have HNo : Hid (∀ W' : World, Below wx.heap.size wx W' → Calls Try.prog 19 #[.pointer (some ⟨B, 0, none⟩)] W' fun e w' => e = .returned (.int .i64 T1) ∧ Hid (Below wx.heap.size wx w')) := fun W' hb =>
              (HP.out.now (HP.out.below HGx.out.wl hb)).mono fun e w' ⟨he, H⟩ => ⟨he, hb.trans (H.out.mono hb.size)⟩
            have HNx := hid (HP.out.next HGx.out.wl)
            cases L1 with
            | nil =>
              have g8 : ¬ 0 < N := by have h0 : 0 = N := hN9; omega
              have g9 : ¬ (0 : Int) < (N : Int) := by omega
              have d8 : decide (0 < N) = false := decide_eq_false g8
              have d9 : decide ((0 : Int) < (N : Int)) = false := decide_eq_false g9
              clear hN9
              simp only [List.head?_nil, Option.map_none, Option.getD_none, List.length_nil] at HNx
              rw [show decide (0 < 0) = false from rfl] at HNx
              have HCx : Hid (∀ W' : World, Below wx.heap.size wx W' → W'.cell? ⟨B2, 2, none⟩ = some (.slice av N cv) ∧ W'.cell? ⟨B2, 0, none⟩ = some (.int .i64 T1)) := fun W' hb => by
                have h := HRx.out.below hb
                exact ⟨h.cells.2.2, h.cells.1⟩
              go_wp2_with fail
              with_reducible refine HNx.out.mono ?_
              rintro r w9 ⟨rfl, H9⟩
              have HV9 : Hid (Below wx.heap.size wx w9) := H9.out
              have HVd : Hid (Below wx.heap.size wx w9.drew) := H9.out.drew
              have hCx := HCx.out _ H9.out
              clear HNx H9 HRx
              go_wp2_with fail
              refine wp_region_noPanic ?_
              refine wp_region_held_drew (S := fun W' : World => W'.cell? ⟨B2, 2, none⟩ = some (.slice av N cv) ∧ W'.cell? ⟨B2, 0, none⟩ = some (.int .i64 T1)) (by kernel_rfl) (HCx.out _ HVd.out) (fun hHeld => ?_)
              refine takeH 0 (oi := ?oid0) ?hid0 (v := ?vd0) (by kernel_rfl) (by kernel_rfl) (by kernel_rfl) (fun _ _ _ h => h) ?hwd0 ?hyd0 hHeld ?_
              case hid0 => (simp only [List.getElem?_toArray, List.getElem?_cons_zero]; exact rfl)
              case hwd0 => rfl
              case hyd0 => (intro w hSw; (try dsimp only at hSw); go_simp; all_goals (with_reducible rfl))
              try simp only [Act.put, List.setIfInBounds_toArray, List.set_cons_zero, List.set_cons_succ]
              refine takeH 1 (oi := ?oid1) ?hid1 (v := ?vd1) (by kernel_rfl) (by kernel_rfl) (by kernel_rfl) (fun _ _ _ h => h) ?hwd1 ?hyd1 hHeld ?_
              case hid1 => (simp only [List.getElem?_toArray, List.getElem?_cons_succ, List.getElem?_cons_zero]; exact rfl)
              case hwd1 => rfl
              case hyd1 => (intro w hSw; (try dsimp only at hSw); go_simp; all_goals (with_reducible rfl))
              try simp only [Act.put, List.setIfInBounds_toArray, List.set_cons_zero, List.set_cons_succ]
              refine takeH 2 (oi := ?oid2) ?hid2 (v := ?vd2) (by kernel_rfl) (by kernel_rfl) (by kernel_rfl) (fun _ _ _ h => h) ?hwd2 ?hyd2 hHeld ?_
              case hid2 => (simp only [List.getElem?_toArray, List.getElem?_cons_succ, List.getElem?_cons_zero]; exact rfl)
              case hwd2 => rfl
              case hyd2 => (intro w hSw; (try dsimp only at hSw); go_simp; all_goals (with_reducible rfl))
              try simp only [Act.put, List.setIfInBounds_toArray, List.set_cons_zero, List.set_cons_succ]
              refine takeH 3 (oi := ?oid3) ?hid3 (v := ?vd3) (by kernel_rfl) (by kernel_rfl) (by kernel_rfl) (fun _ _ _ h => h) ?hwd3 ?hyd3 hHeld ?_
              case hid3 => (simp only [List.getElem?_toArray, List.getElem?_cons_succ, List.getElem?_cons_zero]; exact rfl)
              case hwd3 => rfl
              case hyd3 => (intro w hSw; (try dsimp only at hSw); go_simp; all_goals (with_reducible rfl))
              try simp only [Act.put, List.setIfInBounds_toArray, List.set_cons_zero, List.set_cons_succ]
              refine takeH 5 (oi := ?oid5) ?hid5 (v := ?vd5) (by kernel_rfl) (by kernel_rfl) (by kernel_rfl) (fun _ _ _ h => h) ?hwd5 ?hyd5 hHeld ?_
              case hid5 => (simp only [List.getElem?_toArray, List.getElem?_cons_succ, List.getElem?_cons_zero]; exact rfl)
              case hwd5 => rfl
              case hyd5 => (intro w hSw; (try dsimp only at hSw); go_simp; all_goals (with_reducible rfl))
              try simp only [Act.put, List.setIfInBounds_toArray, List.set_cons_zero, List.set_cons_succ]
              refine takeH 6 (oi := ?oid6) ?hid6 (v := ?vd6) (by kernel_rfl) (by kernel_rfl) (by kernel_rfl) (fun _ _ _ h => h) ?hwd6 ?hyd6 hHeld ?_
              case hid6 => (simp only [List.getElem?_toArray, List.getElem?_cons_succ, List.getElem?_cons_zero]; exact rfl)
              case hwd6 => rfl
              case hyd6 => (intro w hSw; (try dsimp only at hSw); go_simp; all_goals (with_reducible rfl))
              try simp only [Act.put, List.setIfInBounds_toArray, List.set_cons_zero, List.set_cons_succ]
              refine takeH 7 (oi := ?oid7) ?hid7 (v := ?vd7) (by kernel_rfl) (by kernel_rfl) (by kernel_rfl) (fun _ _ _ h => h) ?hwd7 ?hyd7 hHeld ?_
              case hid7 => (simp only [List.getElem?_toArray, List.getElem?_cons_succ, List.getElem?_cons_zero]; exact rfl)
              case hwd7 => rfl
              case hyd7 => (intro w hSw; (try dsimp only at hSw); go_simp; all_goals (with_reducible rfl))
              try simp only [Act.put, List.setIfInBounds_toArray, List.set_cons_zero, List.set_cons_succ]
              refine runH 4 (oi := ?oid4) ?hid4 (by kernel_rfl) (fun K hK => ?_)
              case hid4 => (simp only [List.getElem?_toArray, List.getElem?_cons_succ, List.getElem?_cons_zero]; exact rfl)
              go_simp
              (go_at_call 18; (with_reducible refine (HLe.out _ HVd.out).mono ?_); rintro r wa ⟨rfl, H5⟩; have HVe := hid H5.out; clear H5)
              go_wp2_with fail
              refine hK.out _ _ ?_ (fun hHeld2 => ?_)
              · (try dsimp only); (first | (with_reducible exact HCx.out _ HVd.out) | (with_reducible exact HCx.out _ HVe.out) | (with_reducible exact HCx.out _ HVf.out))
              clear hK K hHeld
              have hHeld := hHeld2
              clear hHeld2
              try simp only [Act.put, List.setIfInBounds_toArray, List.set_cons_zero, List.set_cons_succ]
              refine takeH 8 (oi := ?oid8) ?hid8 (v := ?vd8) (by kernel_rfl) (by kernel_rfl) (by kernel_rfl) (fun _ _ _ h => h) ?hwd8 ?hyd8 hHeld ?_
              case hid8 => (simp only [List.getElem?_toArray, List.getElem?_cons_succ, List.getElem?_cons_zero]; exact rfl)
              case hwd8 => rfl
              case hyd8 => (intro w hSw; (try dsimp only at hSw); go_simp; all_goals (with_reducible rfl))
              try simp only [Act.put, List.setIfInBounds_toArray, List.set_cons_zero, List.set_cons_succ]
              refine takeH 9 (oi := ?oid9) ?hid9 (v := ?vd9) (by kernel_rfl) (by kernel_rfl) (by kernel_rfl) (fun _ _ _ h => h) ?hwd9 ?hyd9 hHeld ?_
              case hid9 => (simp only [List.getElem?_toArray, List.getElem?_cons_succ, List.getElem?_cons_zero]; exact rfl)
              case hwd9 => rfl
              case hyd9 => (intro w hSw; (try dsimp only at hSw); go_simp; all_goals (with_reducible rfl))
              try simp only [Act.put, List.setIfInBounds_toArray, List.set_cons_zero, List.set_cons_succ]
              refine takeH 10 (oi := ?oid10) ?hid10 (v := ?vd10) (by kernel_rfl) (by kernel_rfl) (by kernel_rfl) (fun _ _ _ h => h) ?hwd10 ?hyd10 hHeld ?_
              case hid10 => (simp only [List.getElem?_toArray, List.getElem?_cons_succ, List.getElem?_cons_zero]; exact rfl)
              case hwd10 => rfl
              case hyd10 => (intro w hSw; (try dsimp only at hSw); go_simp; all_goals (with_reducible rfl))
              try simp only [Act.put, List.setIfInBounds_toArray, List.set_cons_zero, List.set_cons_succ]
              refine takeH 11 (oi := ?oid11) ?hid11 (v := ?vd11) (by kernel_rfl) (by kernel_rfl) (by kernel_rfl) (fun _ _ _ h => h) ?hwd11 ?hyd11 hHeld ?_
              case hid11 => (simp only [List.getElem?_toArray, List.getElem?_cons_succ, List.getElem?_cons_zero]; exact rfl)
              case hwd11 => rfl
              case hyd11 => (intro w hSw; (try dsimp only at hSw); go_simp; all_goals (with_reducible rfl))
              try simp only [Act.put, List.setIfInBounds_toArray, List.set_cons_zero, List.set_cons_succ]
              refine takeH 13 (oi := ?oid13) ?hid13 (v := ?vd13) (by kernel_rfl) (by kernel_rfl) (by kernel_rfl) (fun _ _ _ h => h) ?hwd13 ?hyd13 hHeld ?_
              case hid13 => (simp only [List.getElem?_toArray, List.getElem?_cons_succ, List.getElem?_cons_zero]; exact rfl)
              case hwd13 => rfl
              case hyd13 => (intro w hSw; (try dsimp only at hSw); go_simp; all_goals (with_reducible rfl))
              try simp only [Act.put, List.setIfInBounds_toArray, List.set_cons_zero, List.set_cons_succ]
              refine takeH 14 (oi := ?oid14) ?hid14 (v := ?vd14) (by kernel_rfl) (by kernel_rfl) (by kernel_rfl) (fun _ _ _ h => h) ?hwd14 ?hyd14 hHeld ?_
              case hid14 => (simp only [List.getElem?_toArray, List.getElem?_cons_succ, List.getElem?_cons_zero]; exact rfl)
              case hwd14 => rfl
              case hyd14 => (intro w hSw; (try dsimp only at hSw); go_simp; all_goals (with_reducible rfl))
              try simp only [Act.put, List.setIfInBounds_toArray, List.set_cons_zero, List.set_cons_succ]
              refine runH 12 (oi := ?oid12) ?hid12 (by kernel_rfl) (fun K hK => ?_)
              case hid12 => (simp only [List.getElem?_toArray, List.getElem?_cons_succ, List.getElem?_cons_zero]; exact rfl)
              go_simp
              (go_at_call 19; (with_reducible refine (HNo.out _ HVe.out).mono ?_); rintro r wb ⟨rfl, H5⟩; have HVf := hid H5.out; clear H5)
              go_wp2_with fail
              refine hK.out _ _ ?_ (fun hHeld2 => ?_)
              · (try dsimp only); (first | (with_reducible exact HCx.out _ HVd.out) | (with_reducible exact HCx.out _ HVe.out) | (with_reducible exact HCx.out _ HVf.out))
              clear hK K hHeld
              have hHeld := hHeld2
              clear hHeld2
              try simp only [Act.put, List.setIfInBounds_toArray, List.set_cons_zero, List.set_cons_succ]
              refine takeH 15 (oi := ?oid15) ?hid15 (v := ?vd15) (by kernel_rfl) (by kernel_rfl) (by kernel_rfl) (fun _ _ _ h => h) ?hwd15 ?hyd15 hHeld ?_
              case hid15 => (simp only [List.getElem?_toArray, List.getElem?_cons_succ, List.getElem?_cons_zero]; exact rfl)
              case hwd15 => rfl
              case hyd15 => (intro w hSw; (try dsimp only at hSw); go_simp; all_goals (with_reducible rfl))
              try simp only [Act.put, List.setIfInBounds_toArray, List.set_cons_zero, List.set_cons_succ]
              refine takeH 16 (oi := ?oid16) ?hid16 (v := ?vd16) (by kernel_rfl) (by kernel_rfl) (by kernel_rfl) (fun _ _ _ h => h) ?hwd16 ?hyd16 hHeld ?_
              case hid16 => (simp only [List.getElem?_toArray, List.getElem?_cons_succ, List.getElem?_cons_zero]; exact rfl)
              case hwd16 => rfl
              case hyd16 => (intro w hSw; (try dsimp only at hSw); go_simp; all_goals (with_reducible rfl))
              try simp only [Act.put, List.setIfInBounds_toArray, List.set_cons_zero, List.set_cons_succ]
              refine takeH 17 (oi := ?oid17) ?hid17 (v := ?vd17) (by kernel_rfl) (by kernel_rfl) (by kernel_rfl) (fun _ _ _ h => h) ?hwd17 ?hyd17 hHeld ?_
              case hid17 => (simp only [List.getElem?_toArray, List.getElem?_cons_succ, List.getElem?_cons_zero]; exact rfl)
              case hwd17 => rfl
              case hyd17 => (intro w hSw; (try dsimp only at hSw); go_simp; all_goals (with_reducible rfl))
              try simp only [Act.put, List.setIfInBounds_toArray, List.set_cons_zero, List.set_cons_succ]
              refine takeH 18 (oi := ?oid18) ?hid18 (v := ?vd18) (by kernel_rfl) (by kernel_rfl) (by kernel_rfl) (fun _ _ _ h => h) ?hwd18 ?hyd18 hHeld ?_
              case hid18 => (simp only [List.getElem?_toArray, List.getElem?_cons_succ, List.getElem?_cons_zero]; exact rfl)
              case hwd18 => rfl
              case hyd18 => (intro w hSw; (try dsimp only at hSw); go_simp; all_goals (with_reducible rfl))
              try simp only [Act.put, List.setIfInBounds_toArray, List.set_cons_zero, List.set_cons_succ]
              refine takeH 19 (oi := ?oid19) ?hid19 (v := ?vd19) (by kernel_rfl) (by kernel_rfl) (by kernel_rfl) (fun _ _ _ h => h) ?hwd19 ?hyd19 hHeld ?_
              case hid19 => (simp only [List.getElem?_toArray, List.getElem?_cons_succ, List.getElem?_cons_zero]; exact rfl)
              case hwd19 => rfl
              case hyd19 => (intro w hSw; (try dsimp only at hSw); go_simp; all_goals (with_reducible rfl))
              try simp only [Act.put, List.setIfInBounds_toArray, List.set_cons_zero, List.set_cons_succ]
              refine takeH 20 (oi := ?oid20) ?hid20 (v := ?vd20) (by kernel_rfl) (by kernel_rfl) (by kernel_rfl) (fun _ _ _ h => h) ?hwd20 ?hyd20 hHeld ?_
              case hid20 => (simp only [List.getElem?_toArray, List.getElem?_cons_succ, List.getElem?_cons_zero]; exact rfl)
              case hwd20 => rfl
              case hyd20 => (intro w hSw; (try dsimp only at hSw); go_simp; all_goals (with_reducible rfl))
              try simp only [Act.put, List.setIfInBounds_toArray, List.set_cons_zero, List.set_cons_succ]
              refine takeH 21 (oi := ?oid21) ?hid21 (v := ?vd21) (by kernel_rfl) (by kernel_rfl) (by kernel_rfl) (fun _ _ _ h => h) ?hwd21 ?hyd21 hHeld ?_
              case hid21 => (simp only [List.getElem?_toArray, List.getElem?_cons_succ, List.getElem?_cons_zero]; exact rfl)
              case hwd21 => rfl
              case hyd21 => (intro w hSw; (try dsimp only at hSw); go_simp; all_goals (with_reducible rfl))
              try simp only [Act.put, List.setIfInBounds_toArray, List.set_cons_zero, List.set_cons_succ]
              refine takeH 22 (oi := ?oid22) ?hid22 (v := ?vd22) (by kernel_rfl) (by kernel_rfl) (by kernel_rfl) (fun _ _ _ h => h) ?hwd22 ?hyd22 hHeld ?_
              case hid22 => (simp only [List.getElem?_toArray, List.getElem?_cons_succ, List.getElem?_cons_zero]; exact rfl)
              case hwd22 => rfl
              case hyd22 => (intro w hSw; (try dsimp only at hSw); go_simp; all_goals (with_reducible rfl))
              try simp only [Act.put, List.setIfInBounds_toArray, List.set_cons_zero, List.set_cons_succ]
              refine takeH 23 (oi := ?oid23) ?hid23 (v := ?vd23) (by kernel_rfl) (by kernel_rfl) (by kernel_rfl) (fun _ _ _ h => h) ?hwd23 ?hyd23 hHeld ?_
              case hid23 => (simp only [List.getElem?_toArray, List.getElem?_cons_succ, List.getElem?_cons_zero]; exact rfl)
              case hwd23 => rfl
              case hyd23 => (intro w hSw; (try dsimp only at hSw); go_simp; all_goals (with_reducible rfl))
              try simp only [Act.put, List.setIfInBounds_toArray, List.set_cons_zero, List.set_cons_succ]
              refine takeH 24 (oi := ?oid24) ?hid24 (v := ?vd24) (by kernel_rfl) (by kernel_rfl) (by kernel_rfl) (fun _ _ _ h => h) ?hwd24 ?hyd24 hHeld ?_
              case hid24 => (simp only [List.getElem?_toArray, List.getElem?_cons_succ, List.getElem?_cons_zero]; exact rfl)
              case hwd24 => rfl
              case hyd24 => (intro w hSw; (try dsimp only at hSw); go_simp; all_goals (with_reducible rfl))
              try simp only [Act.put, List.setIfInBounds_toArray, List.set_cons_zero, List.set_cons_succ]
              refine takeH 25 (oi := ?oid25) ?hid25 (v := ?vd25) (by kernel_rfl) (by kernel_rfl) (by kernel_rfl) (fun _ _ _ h => h) ?hwd25 ?hyd25 hHeld ?_
              case hid25 => (simp only [List.getElem?_toArray, List.getElem?_cons_succ, List.getElem?_cons_zero]; exact rfl)
              case hwd25 => rfl
              case hyd25 => (intro w hSw; (try dsimp only at hSw); go_simp; all_goals (with_reducible rfl))
              try simp only [Act.put, List.setIfInBounds_toArray, List.set_cons_zero, List.set_cons_succ]
              refine takeH 26 (oi := ?oid26) ?hid26 (v := ?vd26) (by kernel_rfl) (by kernel_rfl) (by kernel_rfl) (fun _ _ _ h => h) ?hwd26 ?hyd26 hHeld ?_
              case hid26 => (simp only [List.getElem?_toArray, List.getElem?_cons_succ, List.getElem?_cons_zero]; exact rfl)
              case hwd26 => rfl
              case hyd26 => (intro w hSw; (try dsimp only at hSw); go_simp; all_goals (with_reducible rfl))
              try simp only [Act.put, List.setIfInBounds_toArray, List.set_cons_zero, List.set_cons_succ]
              refine takeH 27 (oi := ?oid27) ?hid27 (v := ?vd27) (by kernel_rfl) (by kernel_rfl) (by kernel_rfl) (fun _ _ _ h => h) ?hwd27 ?hyd27 hHeld ?_
              case hid27 => (simp only [List.getElem?_toArray, List.getElem?_cons_succ, List.getElem?_cons_zero]; exact rfl)
              case hwd27 => rfl
              case hyd27 => (intro w hSw; (try dsimp only at hSw); go_simp; all_goals (with_reducible rfl))
              try simp only [Act.put, List.setIfInBounds_toArray, List.set_cons_zero, List.set_cons_succ]
              refine skipH 28 (oi := ?oid28) ?hid28 (by kernel_rfl) (by kernel_rfl) (by kernel_rfl) (fun _ _ _ h => h) ?hwd28 hHeld ?_
              case hid28 => (simp only [List.getElem?_toArray, List.getElem?_cons_succ, List.getElem?_cons_zero]; exact rfl)
              case hwd28 => rfl
              try simp only [Act.put, List.setIfInBounds_toArray, List.set_cons_zero, List.set_cons_succ]
              refine skipH 29 (oi := ?oid29) ?hid29 (by kernel_rfl) (by kernel_rfl) (by kernel_rfl) (fun _ _ _ h => h) ?hwd29 hHeld ?_
              case hid29 => (simp only [List.getElem?_toArray, List.getElem?_cons_succ, List.getElem?_cons_zero]; exact rfl)
              case hwd29 => rfl
              try simp only [Act.put, List.setIfInBounds_toArray, List.set_cons_zero, List.set_cons_succ]
              refine skipH 30 (oi := ?oid30) ?hid30 (by kernel_rfl) (by kernel_rfl) (by kernel_rfl) (fun _ _ _ h => h) ?hwd30 hHeld ?_
              case hid30 => (simp only [List.getElem?_toArray, List.getElem?_cons_succ, List.getElem?_cons_zero]; exact rfl)
              case hwd30 => rfl
              try simp only [Act.put, List.setIfInBounds_toArray, List.set_cons_zero, List.set_cons_succ]
              refine skipH 31 (oi := ?oid31) ?hid31 (by kernel_rfl) (by kernel_rfl) (by kernel_rfl) (fun _ _ _ h => h) ?hwd31 hHeld ?_
              case hid31 => (simp only [List.getElem?_toArray, List.getElem?_cons_succ, List.getElem?_cons_zero]; exact rfl)
              case hwd31 => rfl
              try simp only [Act.put, List.setIfInBounds_toArray, List.set_cons_zero, List.set_cons_succ]
              refine skipH 32 (oi := ?oid32) ?hid32 (by kernel_rfl) (by kernel_rfl) (by kernel_rfl) (fun _ _ _ h => h) ?hwd32 hHeld ?_
              case hid32 => (simp only [List.getElem?_toArray, List.getElem?_cons_succ, List.getElem?_cons_zero]; exact rfl)
              case hwd32 => rfl
              try simp only [Act.put, List.setIfInBounds_toArray, List.set_cons_zero, List.set_cons_succ]
              refine skipH 33 (oi := ?oid33) ?hid33 (by kernel_rfl) (by kernel_rfl) (by kernel_rfl) (fun _ _ _ h => h) ?hwd33 hHeld ?_
              case hid33 => (simp only [List.getElem?_toArray, List.getElem?_cons_succ, List.getElem?_cons_zero]; exact rfl)
              case hwd33 => rfl
              try simp only [Act.put, List.setIfInBounds_toArray, List.set_cons_zero, List.set_cons_succ]
              refine skipH 34 (oi := ?oid34) ?hid34 (by kernel_rfl) (by kernel_rfl) (by kernel_rfl) (fun _ _ _ h => h) ?hwd34 hHeld ?_
              case hid34 => (simp only [List.getElem?_toArray, List.getElem?_cons_succ, List.getElem?_cons_zero]; exact rfl)
              case hwd34 => rfl
              try simp only [Act.put, List.setIfInBounds_toArray, List.set_cons_zero, List.set_cons_succ]
              refine takeH 35 (oi := ?oid35) ?hid35 (v := ?vd35) (by kernel_rfl) (by kernel_rfl) (by kernel_rfl) (fun _ _ _ h => h) ?hwd35 ?hyd35 hHeld ?_
              case hid35 => (simp only [List.getElem?_toArray, List.getElem?_cons_succ, List.getElem?_cons_zero]; exact rfl)
              case hwd35 => rfl
              case hyd35 => (intro w hSw; (try dsimp only at hSw); go_simp; all_goals (with_reducible rfl))
              try simp only [Act.put, List.setIfInBounds_toArray, List.set_cons_zero, List.set_cons_succ]
              refine takeH 36 (oi := ?oid36) ?hid36 (v := ?vd36) (by kernel_rfl) (by kernel_rfl) (by kernel_rfl) (fun _ _ _ h => h) ?hwd36 ?hyd36 hHeld ?_
              case hid36 => (simp only [List.getElem?_toArray, List.getElem?_cons_succ, List.getElem?_cons_zero]; exact rfl)
              case hwd36 => rfl
              case hyd36 => (intro w hSw; (try dsimp only at hSw); go_simp; all_goals (with_reducible rfl))
              try simp only [Act.put, List.setIfInBounds_toArray, List.set_cons_zero, List.set_cons_succ]
              refine wpAnyH_done (by kernel_rfl) ?_ _
              refine NoPanic.normal ?_
              clear hHeld
              all_goals
                have HSx := hid (HGx.out.below HP.out HVf.out).to
                clear HGx HVd HVe HVf HLe HNo HCx
                go_wp2_with fail
                go_round
                case rel => exact ⟨k + 1, T1, last, _, _, by omega, by go_num, HSx.out⟩
                case measure => simp [intOf]; omega
            | cons t9 L9 =>
              have hN1 : 0 < N := by rw [← hN9]; simp
              have g9 : (0 : Int) < (N : Int) := by omega
              simp only [List.head?_cons, Option.map_some, Option.getD_some] at HNx
              rw [hN9, decide_eq_true hN1] at HNx
              obtain ⟨b9, o9, hav, hc9⟩ := HRx.out.lst.cell 0 hN1
              subst hav
              obtain ⟨dd, Hdd⟩ : ∃ dd, Hid (t9.due = dd) := ⟨_, rfl⟩
              have HTk : Hid (∀ (W' : World) (b o : Nat), TmAt W' b o (tk (t9 :: L9) 0) → W'.cell? ⟨b, o + 3, none⟩ = some (.int .i64 dd)) := fun W' b o h => by rw [← Hdd.out]; exact h.c3
              rw [Hdd.out] at HNx
              clear hN9 hc9
              have HCx : Hid (∀ W' : World, Below wx.heap.size wx W' → W'.cell? ⟨B2, 2, none⟩ = some (.slice (some ⟨b9, o9, none⟩) N cv) ∧ W'.cell? ⟨B2, 0, none⟩ = some (.int .i64 T1) ∧ W'.cell? ⟨b9, o9 + 3, none⟩ = some (.int .i64 dd)) := fun W' hb => by
                have h := HRx.out.below hb
                obtain ⟨b', o', e', hc'⟩ := h.lst.cell 0 (by omega)
                cases e'
                have h3 := HTk.out _ _ _ hc'
                rw [Nat.zero_mul, Nat.add_zero] at h3
                exact ⟨h.cells.2.2, h.cells.1, h3⟩
              go_wp2_with fail
              with_reducible refine HNx.out.mono ?_
              rintro r w9 ⟨rfl, H9⟩
              have HV9 : Hid (Below wx.heap.size wx w9) := H9.out
              have HVd : Hid (Below wx.heap.size wx w9.drew) := H9.out.drew
              have hCx := HCx.out _ H9.out
              clear HNx H9 HRx
              go_wp2_with fail
              go_region_held3 (fun W' : World => W'.cell? ⟨B2, 2, none⟩ = some (.slice (some ⟨b9, o9, none⟩) N cv) ∧ W'.cell? ⟨B2, 0, none⟩ = some (.int .i64 T1) ∧ W'.cell? ⟨b9, o9 + 3, none⟩ = some (.int .i64 dd))
                (first | (with_reducible exact HCx.out _ HVd.out) | (with_reducible exact HCx.out _ HVe.out) | (with_reducible exact HCx.out _ HVf.out))
                (first
                  | (go_at_call 18; (with_reducible refine (HLe.out _ HVd.out).mono ?_); rintro r wa ⟨rfl, H5⟩; have HVe := hid H5.out; clear H5)
                  | (go_at_call 19; (with_reducible refine (HNo.out _ HVe.out).mono ?_); rintro r wb ⟨rfl, H5⟩; have HVf := hid H5.out; clear H5))
              all_goals
                have HSx := hid (HGx.out.below HP.out HVf.out).to
                clear HGx HVd HVe HVf HLe HNo HCx
                go_wp2_with fail
                go_round
                case rel => exact ⟨k + 1, T1, last, _, _, by omega, by go_num, HSx.out⟩
                case measure => simp [intOf]; omega
        · have h3' : (rr == 3) = false := by simpa using h3
          as_aux_lemma =>
            have h1 := HG.out.set1 HP.out HNw.out HAf.out HNu.out HLb.out
            obtain ⟨T1, HT1⟩ : ∃ T1, Hid (timeZ T nw = T1) := ⟨_, rfl⟩
            obtain ⟨fr, Hfr⟩ : ∃ fr, Hid ((if setC last L af = 0 then last + 1 else 0) = fr) := ⟨_, rfl⟩
            obtain ⟨last1, Hl1⟩ : ∃ l1, Hid ((if setC last L af = 0 then last + 1 else last) = l1) := ⟨_, rfl⟩
            obtain ⟨L1, HL1⟩ : ∃ L1, Hid (setL T1 last af nu lb L = L1) := ⟨_, rfl⟩
            obtain ⟨C, HC⟩ : ∃ C, Hid (setC last L af = C) := ⟨_, rfl⟩
            have HF2 : Hid (∀ (F' : Nat → Prop) (L' : List Tm) (T' last' : Int) (W' : World), PlM P w B F' T' last' L' B2 T last L sb ⟨kd, la, af, lb, nu⟩ W' → Calls Try.prog 16 #[.pointer (some ⟨B2, 0, none⟩), .int .i64 nw, .int .i64 af, .int .i64 nu, .int .u64 lb] W' fun e w' => e = .returned (.tuple #[.int .i64 fr, .int .i64 C]) ∧ Hid (PlM P w B F' T' last' L' B2 T1 last1 L1 sb ⟨kd, la, af, lb, nu⟩ w')) := fun F' L' T' last' W' h => by
              have h2 := h.set2 HP.out HBd.out.1 HBd.out.2.1 nw HAf.out HNu.out HLb.out
              rw [HT1.out, Hfr.out, Hl1.out, HL1.out, HC.out] at h2
              exact h2
            rw [HT1.out, Hfr.out, Hl1.out, HL1.out, HC.out] at h1
            clear HT1 Hfr Hl1 HL1 HC
            go_wp2_with fail
            clear y0 y1 y2 y3 y4 hrr hr' hwr
            with_reducible refine h1.mono ?_
            rintro r w5 ⟨rfl, H5⟩
            obtain ⟨F5, hg5⟩ := H5.out
            obtain ⟨y0, y1, y2, y3, y4⟩ := hg5.cells
            simp only at y0 y1 y2 y3 y4
            have h2 := HF2.out _ _ _ _ _ hg5
            clear h1 HF2 H5 hg5 HG
            go_wp2_with fail
            with_reducible refine h2.mono ?_
            rintro r wx ⟨rfl, H6⟩
            have HGx := hid H6.out
            clear h2 H6 y0 y1 y2 y3 y4
            obtain ⟨av, N, cv, hrx⟩ := HGx.out.rt
            have HRx := hid hrx
            have hN9 := hrx.lst.size
            have rm9 := hrx.lst.room
            have ms9 := hrx.lst.most
            clear hrx
            have HLe : Hid (∀ W' : World, Below wx.heap.size wx W' → Calls Try.prog 18 #[.pointer (some ⟨B, 0, none⟩)] W' fun e w' => e = .returned (.int .i64 N) ∧ Hid (Below wx.heap.size wx w')) := fun W' hb => by
              have h := HP.out.len (HP.out.below HGx.out.wl hb)
              rw [hN9] at h
              exact h.mono fun e w' ⟨he, H⟩ => ⟨he, hb.trans (H.out.mono hb.size)⟩
            have HNo : Hid (∀ W' : World, Below wx.heap.size wx W' → Calls Try.prog 19 #[.pointer (some ⟨B, 0, none⟩)] W' fun e w' => e = .returned (.int .i64 T1) ∧ Hid (Below wx.heap.size wx w')) := fun W' hb =>
              (HP.out.now (HP.out.below HGx.out.wl hb)).mono fun e w' ⟨he, H⟩ => ⟨he, hb.trans (H.out.mono hb.size)⟩
            have HNx := hid (HP.out.next HGx.out.wl)
            cases L1 with
            | nil =>
              have g8 : ¬ 0 < N := by have h0 : 0 = N := hN9; omega
              have g9 : ¬ (0 : Int) < (N : Int) := by omega
              have d8 : decide (0 < N) = false := decide_eq_false g8
              have d9 : decide ((0 : Int) < (N : Int)) = false := decide_eq_false g9
              clear hN9
              simp only [List.head?_nil, Option.map_none, Option.getD_none, List.length_nil] at HNx
              rw [show decide (0 < 0) = false from rfl] at HNx
              have HCx : Hid (∀ W' : World, Below wx.heap.size wx W' → W'.cell? ⟨B2, 2, none⟩ = some (.slice av N cv) ∧ W'.cell? ⟨B2, 0, none⟩ = some (.int .i64 T1)) := fun W' hb => by
                have h := HRx.out.below hb
                exact ⟨h.cells.2.2, h.cells.1⟩
              go_wp2_with fail
              with_reducible refine HNx.out.mono ?_
              rintro r w9 ⟨rfl, H9⟩
              have HV9 : Hid (Below wx.heap.size wx w9) := H9.out
              have HVd : Hid (Below wx.heap.size wx w9.drew) := H9.out.drew
              have hCx := HCx.out _ H9.out
              clear HNx H9 HRx
              go_wp2_with fail
              refine wp_region_noPanic ?_
              refine wp_region_held_drew (S := fun W' : World => W'.cell? ⟨B2, 2, none⟩ = some (.slice av N cv) ∧ W'.cell? ⟨B2, 0, none⟩ = some (.int .i64 T1)) (by kernel_rfl) (HCx.out _ HVd.out) (fun hHeld => ?_)
              refine takeH 0 (oi := ?oie0) ?hie0 (v := ?ve0) (by kernel_rfl) (by kernel_rfl) (by kernel_rfl) (fun _ _ _ h => h) ?hwe0 ?hye0 hHeld ?_
              case hie0 => (simp only [List.getElem?_toArray, List.getElem?_cons_zero]; exact rfl)
              case hwe0 => rfl
              case hye0 => (intro w hSw; (try dsimp only at hSw); go_simp; all_goals (with_reducible rfl))
              try simp only [Act.put, List.setIfInBounds_toArray, List.set_cons_zero, List.set_cons_succ]
              refine takeH 1 (oi := ?oie1) ?hie1 (v := ?ve1) (by kernel_rfl) (by kernel_rfl) (by kernel_rfl) (fun _ _ _ h => h) ?hwe1 ?hye1 hHeld ?_
              case hie1 => (simp only [List.getElem?_toArray, List.getElem?_cons_succ, List.getElem?_cons_zero]; exact rfl)
              case hwe1 => rfl
              case hye1 => (intro w hSw; (try dsimp only at hSw); go_simp; all_goals (with_reducible rfl))
              try simp only [Act.put, List.setIfInBounds_toArray, List.set_cons_zero, List.set_cons_succ]
              refine takeH 2 (oi := ?oie2) ?hie2 (v := ?ve2) (by kernel_rfl) (by kernel_rfl) (by kernel_rfl) (fun _ _ _ h => h) ?hwe2 ?hye2 hHeld ?_
              case hie2 => (simp only [List.getElem?_toArray, List.getElem?_cons_succ, List.getElem?_cons_zero]; exact rfl)
              case hwe2 => rfl
              case hye2 => (intro w hSw; (try dsimp only at hSw); go_simp; all_goals (with_reducible rfl))
              try simp only [Act.put, List.setIfInBounds_toArray, List.set_cons_zero, List.set_cons_succ]
              refine takeH 3 (oi := ?oie3) ?hie3 (v := ?ve3) (by kernel_rfl) (by kernel_rfl) (by kernel_rfl) (fun _ _ _ h => h) ?hwe3 ?hye3 hHeld ?_
              case hie3 => (simp only [List.getElem?_toArray, List.getElem?_cons_succ, List.getElem?_cons_zero]; exact rfl)
              case hwe3 => rfl
              case hye3 => (intro w hSw; (try dsimp only at hSw); go_simp; all_goals (with_reducible rfl))
              try simp only [Act.put, List.setIfInBounds_toArray, List.set_cons_zero, List.set_cons_succ]
              refine takeH 5 (oi := ?oie5) ?hie5 (v := ?ve5) (by kernel_rfl) (by kernel_rfl) (by kernel_rfl) (fun _ _ _ h => h) ?hwe5 ?hye5 hHeld ?_
              case hie5 => (simp only [List.getElem?_toArray, List.getElem?_cons_succ, List.getElem?_cons_zero]; exact rfl)
              case hwe5 => rfl
              case hye5 => (intro w hSw; (try dsimp only at hSw); go_simp; all_goals (with_reducible rfl))
              try simp only [Act.put, List.setIfInBounds_toArray, List.set_cons_zero, List.set_cons_succ]
              refine takeH 6 (oi := ?oie6) ?hie6 (v := ?ve6) (by kernel_rfl) (by kernel_rfl) (by kernel_rfl) (fun _ _ _ h => h) ?hwe6 ?hye6 hHeld ?_
              case hie6 => (simp only [List.getElem?_toArray, List.getElem?_cons_succ, List.getElem?_cons_zero]; exact rfl)
              case hwe6 => rfl
              case hye6 => (intro w hSw; (try dsimp only at hSw); go_simp; all_goals (with_reducible rfl))
              try simp only [Act.put, List.setIfInBounds_toArray, List.set_cons_zero, List.set_cons_succ]
              refine takeH 7 (oi := ?oie7) ?hie7 (v := ?ve7) (by kernel_rfl) (by kernel_rfl) (by kernel_rfl) (fun _ _ _ h => h) ?hwe7 ?hye7 hHeld ?_
              case hie7 => (simp only [List.getElem?_toArray, List.getElem?_cons_succ, List.getElem?_cons_zero]; exact rfl)
              case hwe7 => rfl
              case hye7 => (intro w hSw; (try dsimp only at hSw); go_simp; all_goals (with_reducible rfl))
              try simp only [Act.put, List.setIfInBounds_toArray, List.set_cons_zero, List.set_cons_succ]
              refine runH 4 (oi := ?oie4) ?hie4 (by kernel_rfl) (fun K hK => ?_)
              case hie4 => (simp only [List.getElem?_toArray, List.getElem?_cons_succ, List.getElem?_cons_zero]; exact rfl)
              go_simp
              (go_at_call 18; (with_reducible refine (HLe.out _ HVd.out).mono ?_); rintro r wa ⟨rfl, H5⟩; have HVe := hid H5.out; clear H5)
              go_wp2_with fail
              refine hK.out _ _ ?_ (fun hHeld2 => ?_)
              · (try dsimp only); (first | (with_reducible exact HCx.out _ HVd.out) | (with_reducible exact HCx.out _ HVe.out) | (with_reducible exact HCx.out _ HVf.out))
              clear hK K hHeld
              have hHeld := hHeld2
              clear hHeld2
              try simp only [Act.put, List.setIfInBounds_toArray, List.set_cons_zero, List.set_cons_succ]
              refine takeH 8 (oi := ?oie8) ?hie8 (v := ?ve8) (by kernel_rfl) (by kernel_rfl) (by kernel_rfl) (fun _ _ _ h => h) ?hwe8 ?hye8 hHeld ?_
              case hie8 => (simp only [List.getElem?_toArray, List.getElem?_cons_succ, List.getElem?_cons_zero]; exact rfl)
              case hwe8 => rfl
              case hye8 => (intro w hSw; (try dsimp only at hSw); go_simp; all_goals (with_reducible rfl))
              try simp only [Act.put, List.setIfInBounds_toArray, List.set_cons_zero, List.set_cons_succ]
              refine takeH 9 (oi := ?oie9) ?hie9 (v := ?ve9) (by kernel_rfl) (by kernel_rfl) (by kernel_rfl) (fun _ _ _ h => h) ?hwe9 ?hye9 hHeld ?_
              case hie9 => (simp only [List.getElem?_toArray, List.getElem?_cons_succ, List.getElem?_cons_zero]; exact rfl)
              case hwe9 => rfl
              case hye9 => (intro w hSw; (try dsimp only at hSw); go_simp; all_goals (with_reducible rfl))
              try simp only [Act.put, List.setIfInBounds_toArray, List.set_cons_zero, List.set_cons_succ]
              refine takeH 10 (oi := ?oie10) ?hie10 (v := ?ve10) (by kernel_rfl) (by kernel_rfl) (by kernel_rfl) (fun _ _ _ h => h) ?hwe10 ?hye10 hHeld ?_
              case hie10 => (simp only [List.getElem?_toArray, List.getElem?_cons_succ, List.getElem?_cons_zero]; exact rfl)
              case hwe10 => rfl
              case hye10 => (intro w hSw; (try dsimp only at hSw); go_simp; all_goals (with_reducible rfl))
              try simp only [Act.put, List.setIfInBounds_toArray, List.set_cons_zero, List.set_cons_succ]
              refine takeH 11 (oi := ?oie11) ?hie11 (v := ?ve11) (by kernel_rfl) (by kernel_rfl) (by kernel_rfl) (fun _ _ _ h => h) ?hwe11 ?hye11 hHeld ?_
              case hie11 => (simp only [List.getElem?_toArray, List.getElem?_cons_succ, List.getElem?_cons_zero]; exact rfl)
              case hwe11 => rfl
              case hye11 => (intro w hSw; (try dsimp only at hSw); go_simp; all_goals (with_reducible rfl))
              try simp only [Act.put, List.setIfInBounds_toArray, List.set_cons_zero, List.set_cons_succ]
              refine takeH 13 (oi := ?oie13) ?hie13 (v := ?ve13) (by kernel_rfl) (by kernel_rfl) (by kernel_rfl) (fun _ _ _ h => h) ?hwe13 ?hye13 hHeld ?_
              case hie13 => (simp only [List.getElem?_toArray, List.getElem?_cons_succ, List.getElem?_cons_zero]; exact rfl)
              case hwe13 => rfl
              case hye13 => (intro w hSw; (try dsimp only at hSw); go_simp; all_goals (with_reducible rfl))
              try simp only [Act.put, List.setIfInBounds_toArray, List.set_cons_zero, List.set_cons_succ]
              refine takeH 14 (oi := ?oie14) ?hie14 (v := ?ve14) (by kernel_rfl) (by kernel_rfl) (by kernel_rfl) (fun _ _ _ h => h) ?hwe14 ?hye14 hHeld ?_
              case hie14 => (simp only [List.getElem?_toArray, List.getElem?_cons_succ, List.getElem?_cons_zero]; exact rfl)
              case hwe14 => rfl
              case hye14 => (intro w hSw; (try dsimp only at hSw); go_simp; all_goals (with_reducible rfl))
              try simp only [Act.put, List.setIfInBounds_toArray, List.set_cons_zero, List.set_cons_succ]
              refine runH 12 (oi := ?oie12) ?hie12 (by kernel_rfl) (fun K hK => ?_)
              case hie12 => (simp only [List.getElem?_toArray, List.getElem?_cons_succ, List.getElem?_cons_zero]; exact rfl)
              go_simp
              (go_at_call 19; (with_reducible refine (HNo.out _ HVe.out).mono ?_); rintro r wb ⟨rfl, H5⟩; have HVf := hid H5.out; clear H5)
              go_wp2_with fail
              refine hK.out _ _ ?_ (fun hHeld2 => ?_)
              · (try dsimp only); (first | (with_reducible exact HCx.out _ HVd.out) | (with_reducible exact HCx.out _ HVe.out) | (with_reducible exact HCx.out _ HVf.out))
              clear hK K hHeld
              have hHeld := hHeld2
              clear hHeld2
              try simp only [Act.put, List.setIfInBounds_toArray, List.set_cons_zero, List.set_cons_succ]
              refine takeH 15 (oi := ?oie15) ?hie15 (v := ?ve15) (by kernel_rfl) (by kernel_rfl) (by kernel_rfl) (fun _ _ _ h => h) ?hwe15 ?hye15 hHeld ?_
              case hie15 => (simp only [List.getElem?_toArray, List.getElem?_cons_succ, List.getElem?_cons_zero]; exact rfl)
              case hwe15 => rfl
              case hye15 => (intro w hSw; (try dsimp only at hSw); go_simp; all_goals (with_reducible rfl))
              try simp only [Act.put, List.setIfInBounds_toArray, List.set_cons_zero, List.set_cons_succ]
              refine takeH 16 (oi := ?oie16) ?hie16 (v := ?ve16) (by kernel_rfl) (by kernel_rfl) (by kernel_rfl) (fun _ _ _ h => h) ?hwe16 ?hye16 hHeld ?_
              case hie16 => (simp only [List.getElem?_toArray, List.getElem?_cons_succ, List.getElem?_cons_zero]; exact rfl)
              case hwe16 => rfl
              case hye16 => (intro w hSw; (try dsimp only at hSw); go_simp; all_goals (with_reducible rfl))
              try simp only [Act.put, List.setIfInBounds_toArray, List.set_cons_zero, List.set_cons_succ]
              refine takeH 17 (oi := ?oie17) ?hie17 (v := ?ve17) (by kernel_rfl) (by kernel_rfl) (by kernel_rfl) (fun _ _ _ h => h) ?hwe17 ?hye17 hHeld ?_
              case hie17 => (simp only [List.getElem?_toArray, List.getElem?_cons_succ, List.getElem?_cons_zero]; exact rfl)
              case hwe17 => rfl
              case hye17 => (intro w hSw; (try dsimp only at hSw); go_simp; all_goals (with_reducible rfl))
              try simp only [Act.put, List.setIfInBounds_toArray, List.set_cons_zero, List.set_cons_succ]
              refine takeH 18 (oi := ?oie18) ?hie18 (v := ?ve18) (by kernel_rfl) (by kernel_rfl) (by kernel_rfl) (fun _ _ _ h => h) ?hwe18 ?hye18 hHeld ?_
              case hie18 => (simp only [List.getElem?_toArray, List.getElem?_cons_succ, List.getElem?_cons_zero]; exact rfl)
              case hwe18 => rfl
              case hye18 => (intro w hSw; (try dsimp only at hSw); go_simp; all_goals (with_reducible rfl))
              try simp only [Act.put, List.setIfInBounds_toArray, List.set_cons_zero, List.set_cons_succ]
              refine takeH 19 (oi := ?oie19) ?hie19 (v := ?ve19) (by kernel_rfl) (by kernel_rfl) (by kernel_rfl) (fun _ _ _ h => h) ?hwe19 ?hye19 hHeld ?_
              case hie19 => (simp only [List.getElem?_toArray, List.getElem?_cons_succ, List.getElem?_cons_zero]; exact rfl)
              case hwe19 => rfl
              case hye19 => (intro w hSw; (try dsimp only at hSw); go_simp; all_goals (with_reducible rfl))
              try simp only [Act.put, List.setIfInBounds_toArray, List.set_cons_zero, List.set_cons_succ]
              refine takeH 20 (oi := ?oie20) ?hie20 (v := ?ve20) (by kernel_rfl) (by kernel_rfl) (by kernel_rfl) (fun _ _ _ h => h) ?hwe20 ?hye20 hHeld ?_
              case hie20 => (simp only [List.getElem?_toArray, List.getElem?_cons_succ, List.getElem?_cons_zero]; exact rfl)
              case hwe20 => rfl
              case hye20 => (intro w hSw; (try dsimp only at hSw); go_simp; all_goals (with_reducible rfl))
              try simp only [Act.put, List.setIfInBounds_toArray, List.set_cons_zero, List.set_cons_succ]
              refine takeH 21 (oi := ?oie21) ?hie21 (v := ?ve21) (by kernel_rfl) (by kernel_rfl) (by kernel_rfl) (fun _ _ _ h => h) ?hwe21 ?hye21 hHeld ?_
              case hie21 => (simp only [List.getElem?_toArray, List.getElem?_cons_succ, List.getElem?_cons_zero]; exact rfl)
              case hwe21 => rfl
              case hye21 => (intro w hSw; (try dsimp only at hSw); go_simp; all_goals (with_reducible rfl))
              try simp only [Act.put, List.setIfInBounds_toArray, List.set_cons_zero, List.set_cons_succ]
              refine takeH 22 (oi := ?oie22) ?hie22 (v := ?ve22) (by kernel_rfl) (by kernel_rfl) (by kernel_rfl) (fun _ _ _ h => h) ?hwe22 ?hye22 hHeld ?_
              case hie22 => (simp only [List.getElem?_toArray, List.getElem?_cons_succ, List.getElem?_cons_zero]; exact rfl)
              case hwe22 => rfl
              case hye22 => (intro w hSw; (try dsimp only at hSw); go_simp; all_goals (with_reducible rfl))
              try simp only [Act.put, List.setIfInBounds_toArray, List.set_cons_zero, List.set_cons_succ]
              refine takeH 23 (oi := ?oie23) ?hie23 (v := ?ve23) (by kernel_rfl) (by kernel_rfl) (by kernel_rfl) (fun _ _ _ h => h) ?hwe23 ?hye23 hHeld ?_
              case hie23 => (simp only [List.getElem?_toArray, List.getElem?_cons_succ, List.getElem?_cons_zero]; exact rfl)
              case hwe23 => rfl
              case hye23 => (intro w hSw; (try dsimp only at hSw); go_simp; all_goals (with_reducible rfl))
              try simp only [Act.put, List.setIfInBounds_toArray, List.set_cons_zero, List.set_cons_succ]
              refine takeH 24 (oi := ?oie24) ?hie24 (v := ?ve24) (by kernel_rfl) (by kernel_rfl) (by kernel_rfl) (fun _ _ _ h => h) ?hwe24 ?hye24 hHeld ?_
              case hie24 => (simp only [List.getElem?_toArray, List.getElem?_cons_succ, List.getElem?_cons_zero]; exact rfl)
              case hwe24 => rfl
              case hye24 => (intro w hSw; (try dsimp only at hSw); go_simp; all_goals (with_reducible rfl))
              try simp only [Act.put, List.setIfInBounds_toArray, List.set_cons_zero, List.set_cons_succ]
              refine takeH 25 (oi := ?oie25) ?hie25 (v := ?ve25) (by kernel_rfl) (by kernel_rfl) (by kernel_rfl) (fun _ _ _ h => h) ?hwe25 ?hye25 hHeld ?_
              case hie25 => (simp only [List.getElem?_toArray, List.getElem?_cons_succ, List.getElem?_cons_zero]; exact rfl)
              case hwe25 => rfl
              case hye25 => (intro w hSw; (try dsimp only at hSw); go_simp; all_goals (with_reducible rfl))
              try simp only [Act.put, List.setIfInBounds_toArray, List.set_cons_zero, List.set_cons_succ]
              refine takeH 26 (oi := ?oie26) ?hie26 (v := ?ve26) (by kernel_rfl) (by kernel_rfl) (by kernel_rfl) (fun _ _ _ h => h) ?hwe26 ?hye26 hHeld ?_
              case hie26 => (simp only [List.getElem?_toArray, List.getElem?_cons_succ, List.getElem?_cons_zero]; exact rfl)
              case hwe26 => rfl
              case hye26 => (intro w hSw; (try dsimp only at hSw); go_simp; all_goals (with_reducible rfl))
              try simp only [Act.put, List.setIfInBounds_toArray, List.set_cons_zero, List.set_cons_succ]
              refine takeH 27 (oi := ?oie27) ?hie27 (v := ?ve27) (by kernel_rfl) (by kernel_rfl) (by kernel_rfl) (fun _ _ _ h => h) ?hwe27 ?hye27 hHeld ?_
              case hie27 => (simp only [List.getElem?_toArray, List.getElem?_cons_succ, List.getElem?_cons_zero]; exact rfl)
              case hwe27 => rfl
              case hye27 => (intro w hSw; (try dsimp only at hSw); go_simp; all_goals (with_reducible rfl))
              try simp only [Act.put, List.setIfInBounds_toArray, List.set_cons_zero, List.set_cons_succ]
              refine skipH 28 (oi := ?oie28) ?hie28 (by kernel_rfl) (by kernel_rfl) (by kernel_rfl) (fun _ _ _ h => h) ?hwe28 hHeld ?_
              case hie28 => (simp only [List.getElem?_toArray, List.getElem?_cons_succ, List.getElem?_cons_zero]; exact rfl)
              case hwe28 => rfl
              try simp only [Act.put, List.setIfInBounds_toArray, List.set_cons_zero, List.set_cons_succ]
              refine skipH 29 (oi := ?oie29) ?hie29 (by kernel_rfl) (by kernel_rfl) (by kernel_rfl) (fun _ _ _ h => h) ?hwe29 hHeld ?_
              case hie29 => (simp only [List.getElem?_toArray, List.getElem?_cons_succ, List.getElem?_cons_zero]; exact rfl)
              case hwe29 => rfl
              try simp only [Act.put, List.setIfInBounds_toArray, List.set_cons_zero, List.set_cons_succ]
              refine skipH 30 (oi := ?oie30) ?hie30 (by kernel_rfl) (by kernel_rfl) (by kernel_rfl) (fun _ _ _ h => h) ?hwe30 hHeld ?_
              case hie30 => (simp only [List.getElem?_toArray, List.getElem?_cons_succ, List.getElem?_cons_zero]; exact rfl)
              case hwe30 => rfl
              try simp only [Act.put, List.setIfInBounds_toArray, List.set_cons_zero, List.set_cons_succ]
              refine skipH 31 (oi := ?oie31) ?hie31 (by kernel_rfl) (by kernel_rfl) (by kernel_rfl) (fun _ _ _ h => h) ?hwe31 hHeld ?_
              case hie31 => (simp only [List.getElem?_toArray, List.getElem?_cons_succ, List.getElem?_cons_zero]; exact rfl)
              case hwe31 => rfl
              try simp only [Act.put, List.setIfInBounds_toArray, List.set_cons_zero, List.set_cons_succ]
              refine skipH 32 (oi := ?oie32) ?hie32 (by kernel_rfl) (by kernel_rfl) (by kernel_rfl) (fun _ _ _ h => h) ?hwe32 hHeld ?_
              case hie32 => (simp only [List.getElem?_toArray, List.getElem?_cons_succ, List.getElem?_cons_zero]; exact rfl)
              case hwe32 => rfl
              try simp only [Act.put, List.setIfInBounds_toArray, List.set_cons_zero, List.set_cons_succ]
              refine skipH 33 (oi := ?oie33) ?hie33 (by kernel_rfl) (by kernel_rfl) (by kernel_rfl) (fun _ _ _ h => h) ?hwe33 hHeld ?_
              case hie33 => (simp only [List.getElem?_toArray, List.getElem?_cons_succ, List.getElem?_cons_zero]; exact rfl)
              case hwe33 => rfl
              try simp only [Act.put, List.setIfInBounds_toArray, List.set_cons_zero, List.set_cons_succ]
              refine skipH 34 (oi := ?oie34) ?hie34 (by kernel_rfl) (by kernel_rfl) (by kernel_rfl) (fun _ _ _ h => h) ?hwe34 hHeld ?_
              case hie34 => (simp only [List.getElem?_toArray, List.getElem?_cons_succ, List.getElem?_cons_zero]; exact rfl)
              case hwe34 => rfl
              try simp only [Act.put, List.setIfInBounds_toArray, List.set_cons_zero, List.set_cons_succ]
              refine takeH 35 (oi := ?oie35) ?hie35 (v := ?ve35) (by kernel_rfl) (by kernel_rfl) (by kernel_rfl) (fun _ _ _ h => h) ?hwe35 ?hye35 hHeld ?_
              case hie35 => (simp only [List.getElem?_toArray, List.getElem?_cons_succ, List.getElem?_cons_zero]; exact rfl)
              case hwe35 => rfl
              case hye35 => (intro w hSw; (try dsimp only at hSw); go_simp; all_goals (with_reducible rfl))
              try simp only [Act.put, List.setIfInBounds_toArray, List.set_cons_zero, List.set_cons_succ]
              refine takeH 36 (oi := ?oie36) ?hie36 (v := ?ve36) (by kernel_rfl) (by kernel_rfl) (by kernel_rfl) (fun _ _ _ h => h) ?hwe36 ?hye36 hHeld ?_
              case hie36 => (simp only [List.getElem?_toArray, List.getElem?_cons_succ, List.getElem?_cons_zero]; exact rfl)
              case hwe36 => rfl
              case hye36 => (intro w hSw; (try dsimp only at hSw); go_simp; all_goals (with_reducible rfl))
              try simp only [Act.put, List.setIfInBounds_toArray, List.set_cons_zero, List.set_cons_succ]
              refine wpAnyH_done (by kernel_rfl) ?_ _
              refine NoPanic.normal ?_
              clear hHeld
              all_goals
                have HSx := hid (HGx.out.below HP.out HVf.out).to
                clear HGx HVd HVe HVf HLe HNo HCx
                go_wp2_with fail
                go_round
                case rel => exact ⟨k + 1, T1, last1, _, _, by omega, by go_num, HSx.out⟩
                case measure => simp [intOf]; omega
            | cons t9 L9 =>
              have hN1 : 0 < N := by rw [← hN9]; simp
              have g9 : (0 : Int) < (N : Int) := by omega
              simp only [List.head?_cons, Option.map_some, Option.getD_some] at HNx
              rw [hN9, decide_eq_true hN1] at HNx
              obtain ⟨b9, o9, hav, hc9⟩ := HRx.out.lst.cell 0 hN1
              subst hav
              obtain ⟨dd, Hdd⟩ : ∃ dd, Hid (t9.due = dd) := ⟨_, rfl⟩
              have HTk : Hid (∀ (W' : World) (b o : Nat), TmAt W' b o (tk (t9 :: L9) 0) → W'.cell? ⟨b, o + 3, none⟩ = some (.int .i64 dd)) := fun W' b o h => by rw [← Hdd.out]; exact h.c3
              rw [Hdd.out] at HNx
              clear hN9 hc9
              have HCx : Hid (∀ W' : World, Below wx.heap.size wx W' → W'.cell? ⟨B2, 2, none⟩ = some (.slice (some ⟨b9, o9, none⟩) N cv) ∧ W'.cell? ⟨B2, 0, none⟩ = some (.int .i64 T1) ∧ W'.cell? ⟨b9, o9 + 3, none⟩ = some (.int .i64 dd)) := fun W' hb => by
                have h := HRx.out.below hb
                obtain ⟨b', o', e', hc'⟩ := h.lst.cell 0 (by omega)
                cases e'
                have h3 := HTk.out _ _ _ hc'
                rw [Nat.zero_mul, Nat.add_zero] at h3
                exact ⟨h.cells.2.2, h.cells.1, h3⟩
              go_wp2_with fail
              with_reducible refine HNx.out.mono ?_
              rintro r w9 ⟨rfl, H9⟩
              have HV9 : Hid (Below wx.heap.size wx w9) := H9.out
              have HVd : Hid (Below wx.heap.size wx w9.drew) := H9.out.drew
              have hCx := HCx.out _ H9.out
              clear HNx H9 HRx
              go_wp2_with fail
              go_region_held3 (fun W' : World => W'.cell? ⟨B2, 2, none⟩ = some (.slice (some ⟨b9, o9, none⟩) N cv) ∧ W'.cell? ⟨B2, 0, none⟩ = some (.int .i64 T1) ∧ W'.cell? ⟨b9, o9 + 3, none⟩ = some (.int .i64 dd))
                (first | (with_reducible exact HCx.out _ HVd.out) | (with_reducible exact HCx.out _ HVe.out) | (with_reducible exact HCx.out _ HVf.out))
                (first
                  | (go_at_call 18; (with_reducible refine (HLe.out _ HVd.out).mono ?_); rintro r wa ⟨rfl, H5⟩; have HVe := hid H5.out; clear H5)
                  | (go_at_call 19; (with_reducible refine (HNo.out _ HVe.out).mono ?_); rintro r wb ⟨rfl, H5⟩; have HVf := hid H5.out; clear H5))
              all_goals
                have HSx := hid (HGx.out.below HP.out HVf.out).to
                clear HGx HVd HVe HVf HLe HNo HCx
                go_wp2_with fail
                go_round
                case rel => exact ⟨k + 1, T1, last1, _, _, by omega, by go_num, HSx.out⟩
                case measure => simp [intOf]; omega
  · have g1 : ¬ (k : Int) < (n : Int) := by omega
    have HVE := hid HS.out.bel
    clear HS HSp
    go_wp2_with fail
    with_reducible refine (alive20_any HP _).mono ?_
    rintro e wz ⟨rfl, HZ0⟩
    have HZ := hid (HVE.out.trans (HZ0.out.mono HVE.out.size))
    clear HZ0
    go_wp2_with fail
    go_ret
    exact ⟨rfl, HZ.out⟩
end Go.Proofs.Ytdfbnfgemjljgaa
