/-
  ProbeEvery, walked.
-/
import Derived.Test.YtmpooeflbfggbaaPbEv
import Derived.Deep.RegionHeld3
import Derived.Deep.DeepCutAuto
import Derived.Deep.CutBlock
import Derived.Outline
namespace Go.Proofs.Ytmpooeflbfggbaa
open Go.RowKit
set_option linter.unusedVariables false
set_option maxRecDepth 1000000

set_option maxHeartbeats 32000000 in
theorem every_any (s : Sg) (hs : SgIn s) {a0 : Option Addr} {l0 c0 : Nat} {xs0 : List Sp} {w : World} (ga0 : Lst w a0 l0 c0 3 xs0 SpV SpIn) : Calls Try.prog 5 #[.agg (SgV s), .slice a0 l0 c0] w fun e w' => e = .returned (.bool true) ∧ Hid (Below w.heap.size w w') := by
  have HSp := hid fun (W' : World) (hb : Below w.heap.size w W') => ga0.below SpV_size hb
  have HSh := hid fun W' => short23_any a0 l0 c0 W' ga0.room ga0.most
  obtain ⟨N, HNn⟩ : ∃ n, Hid (min l0 400 = n) := ⟨_, rfl⟩
  rw [HNn.out] at HSh
  have hN1 : N ≤ l0 ∧ N ≤ 400 := by have := HNn.out; omega
  have r1 := ga0.room
  have m1 := ga0.most
  clear ga0
  obtain ⟨W1, hW1⟩ : ∃ W1, W1 = w.alloc (.cells (SgV s) 23) := ⟨_, rfl⟩
  have b1 : Below w.heap.size w W1 := by rw [hW1]; exact (Below.refl _ _).alloc (Nat.le_refl _) _
  have HB1 := hid b1
  have hTh := theirs23_any s W1
  have v1 : W1.heap[w.heap.size]? = some (.cells (SgV s) 23 (0, 0)) := by rw [hW1]; exact heap_alloc_new w _
  have c0' : W1.cell? ⟨w.heap.size, 0, none⟩ = some (.int .i64 s.e) := by rw [cell_of_row _ _ _ _ _ _ v1]; rfl
  have c1' : W1.cell? ⟨w.heap.size, 1, none⟩ = some (.int .i64 s.wt) := by rw [cell_of_row _ _ _ _ _ _ v1]; rfl
  have c2' : W1.cell? ⟨w.heap.size, 2, none⟩ = some (.int .i64 s.m) := by rw [cell_of_row _ _ _ _ _ _ v1]; rfl
  have c3' : W1.cell? ⟨w.heap.size, 3, none⟩ = some (.int .i64 s.h) := by rw [cell_of_row _ _ _ _ _ _ v1]; rfl
  by_cases his : s.Is
  · have HN := hid fun W : World => pnew_yes his W
    have HI0 : Hid (∀ (b : Nat) (W W' : World), Below W1.heap.size W1 W → (PkAt W' b (Pk.new s) ∧ Below W.heap.size W W' ∧ W.heap.size ≤ b) → UpW w w.heap.size b s (Pk.new s) W') := fun b W W' hb H => by
      have hb2 : PkS W1 b (Pk.new s) W' := PkS.new his hb H
      exact ⟨hW1 ▸ hb2, block_bel v1 hb2.bel, rfl⟩
    unfold SgV at hTh hW1 HN ⊢
    obtain ⟨q, hq⟩ : ∃ q, w.heap.size = q := ⟨_, rfl⟩
    have HQ := hid hq
    rw [hq] at c0' c1' c2' c3' HI0
    clear b1 v1 hq
    go_enter Try.func5, Try.ntmps5
    go_wp2_with fail
    try rw [← hW1]
    try rw [HQ.out]
    refine hTh.mono ?_
    rintro e w1 ⟨rfl, hb⟩
    go_wp2_with fail
    refine (HN.out _).mono ?_
    rintro e w2 ⟨b, rfl, H2⟩
    have HJ0 := hid (HI0.out b _ _ hb.out H2.out)
    clear hb H2 HN hTh HI0 hW1 c0' c1' c2' c3' HB1 HQ
    obtain ⟨w3, hw3⟩ : ∃ w3, w3 = w2.alloc (.map #[] 0) := ⟨_, rfl⟩
    obtain ⟨M, hM⟩ : ∃ M, w2.heap.size = M := ⟨_, rfl⟩
    have HJ : Hid (EvW w q b M 0 s [] (Pk.new s) w3) := by rw [← hM]; exact EvW.new HJ0.out hw3
    have hmk : (Instr.makeMap 46 none).run Try.prog w2 = .ok (.map (some M)) w3 := by rw [hw3, ← hM]; rfl
    clear HJ0 hw3 hM
    go_wp2_with fail
    clear hmk
    refine (HSh.out _).mono ?_
    rintro e w4 ⟨rfl, rfl⟩
    clear HSh
    go_wp2_with fail
    go_loopw [7, 8, 9, 32] (fun nv lv av z W' => ∃ (k : Nat) (now last : Int) (K : List Int) (P : Pk), k ≤ N ∧ nv = .int .i64 now ∧ lv = .int .i64 last ∧ av = .int .u64 P.ask ∧ z = .int .i64 k ∧ Hid (EvW w q b M k s K P W' ∧ EvI s k now last K P)) (fun _ _ _ z _ => N - (intOf z).toNat)
    case atStart => exact ⟨0, 0, -1, [], _, by omega, rfl, rfl, rfl, rfl, HJ.out, EvI.new s⟩
    case round =>
    obtain ⟨k, now, last, K, P, hk, rfl, rfl, rfl, rfl, HS⟩ := hrel
    rename World => wr
    clear HJ
    by_cases hkl : k < N
    · have g1 : (k : Int) < (N : Int) := by omega
      have hL := HSp.out _ HS.out.1.up.bel
      have hx : k < xs0.length := by rw [hL.size]; omega
      obtain ⟨qq, off, rfl, hc⟩ := hL.cell k hx
      have q0 := hc 0 (by omega)
      have q1 := hc 1 (by omega)
      have q2 := hc 2 (by omega)
      have HI := hid (hL.inn k hx)
      clear hc hL
      simp only [SpV, List.getElem?_toArray, List.getElem?_cons_zero, List.getElem?_cons_succ, Nat.add_zero] at q0 q1 q2
      generalize xs0[k] = x at *
      obtain ⟨w3, hw3⟩ : ∃ w3, w3 = wr.alloc (.cells #[.int .u8 x.kd, .int .i64 x.later, .int .u64 x.n] 38) := ⟨_, rfl⟩
      obtain ⟨sb, hsb⟩ : ∃ sb, wr.heap.size = sb := ⟨_, rfl⟩
      have HG : Hid (EvX w q b M k sb s x K P w3) := by rw [← hsb]; exact EvX.new HS.out.1 x hw3
      obtain ⟨now2, hnow2⟩ : ∃ n2 : Int, n2 = if 0 < x.later ∧ x.later < 1048576 then now + x.later else now := ⟨_, rfl⟩
      have HED : Hid (EvI s (k + 1) now2 last K (P.go now2)) := HS.out.2.go (by omega) (by rw [hnow2]; split <;> omega) (by rw [hnow2]; split <;> omega)
      have hbd := HS.out.2.bd
      obtain ⟨y0, y1, y2⟩ := HG.out.cells
      obtain ⟨kd0, kd1⟩ := HI.out.kd
      obtain ⟨rr, hrr⟩ : ∃ rr, x.kd % 3 = rr := ⟨_, rfl⟩
      have hr' : x.kd.tmod 3 = rr := by rw [Int.tmod_eq_emod_of_nonneg kd0]; exact hrr
      have hwr : IntKind.u8.wrap rr = rr := by rw [IntKind.wrap_u8]; omega
      have hbdk : now + 1048576 ≤ 1099511627776 := by omega
      clear HS
      go_upto_region 10 with fail
      try rw [← hw3]
      try rw [hsb]
      clear hw3 hsb q0 q1 q2
      go_cut [43] (fun v wx => v = .bool (decide (0 < x.later ∧ x.later < 1048576)) ∧ wx = w3)
      case first =>
        by_cases h1 : 0 < x.later
        · by_cases h2 : x.later < 1048576
          · go_wp2_with fail
            go_meet
            exact ⟨by simp [h1, h2], rfl⟩
          · have h2' : 1048576 ≤ x.later := by omega
            go_wp2_with fail
            go_meet
            exact ⟨by simp [h1]; omega, rfl⟩
        · have h1' : x.later ≤ 0 := by omega
          go_wp2_with fail
          go_meet
          exact ⟨by simp; omega, rfl⟩
      case rest =>
      obtain ⟨rfl, hwc⟩ := hcut
      have hwc' := hwc.symm
      subst hwc'
      go_upto_if 43 with fail
      go_cut [7] (fun v wx => v = .int .i64 now2 ∧ wx = w3)
      case first =>
        by_cases h1 : 0 < x.later ∧ x.later < 1048576
        · have hd : decide (0 < x.later ∧ x.later < 1048576) = true := decide_eq_true h1
          have e : Hid (now2 = now + x.later) := by unfold Hid; rw [hnow2, if_pos h1]
          have e1 : IntKind.i64.wrap (now + x.later) = now + x.later := by rw [IntKind.wrap_i64]; omega
          clear hnow2
          go_wp2_with fail
          go_meet
          exact ⟨by rw [e.out], rfl⟩
        · have hd : decide (0 < x.later ∧ x.later < 1048576) = false := decide_eq_false h1
          have e : Hid (now2 = now) := by unfold Hid; rw [hnow2, if_neg h1]
          clear hnow2
          go_wp2_with fail
          go_meet
          exact ⟨by rw [e.out], rfl⟩
      case rest =>
      obtain ⟨rfl, hwc⟩ := hcut
      have hwc' := hwc.symm
      subst hwc'
      clear hnow2 hbd hbdk y1
      have hT := HG.out.tick now2
      have hPo := HG.out.pong now2 x.n
      have ha : Hid ((P.go now2).ask = P.ask) := Pk.ask_go P now2
      have hgo : Hid ((P.go now2).op = true → (P.go now2).now < (P.go now2).en) := Pk.go_open now2
      have okQ := hid (HG.out.ev.up.br.ok.go now2)
      clear HG
      generalize P.go now2 = Q at *
      have hab : 0 ≤ P.ask ∧ P.ask ≤ 9999999999999 := by have h1 := ha.out; have h2 := okQ.out.ask; have h3 := okQ.out.nx; omega
      have hnb := HED.out.bd
      by_cases hk0 : rr = 0
      · subst hk0
        clear hPo hgo y2
        by_cases hx2 : Q.now < Q.nx
        · obtain ⟨t1, t2, t3⟩ := HED.out.tick_no hx2
          rw [t1, t2, t3] at hT
          have HA : Hid (P.ask = Q.ask) := ha.out.symm
          clear t1 t2 t3 hx2 ha okQ
          go_wp2_with fail
          refine hT.mono ?_
          rintro e w5 ⟨rfl, H5⟩
          have HX := hid (And.intro H5.out.ev.more HED.out)
          clear hT H5 HED
          go_wp2_with fail
          go_round
          case rel => exact ⟨k + 1, now2, last, K, Q, by omega, rfl, rfl, by rw [HA.out], by go_num, HX⟩
          case measure => simp [intOf]; omega
        · obtain ⟨t1, t2, t3, t4, t5⟩ := HED.out.tick_yes okQ.out hx2
          rw [t1, t2] at hT
          rw [ha.out] at hT t4
          have HA := hid t4
          have HE2 := hid t3
          have hw1 : IntKind.u64.wrap (P.ask + 1) = P.ask + 1 := by rw [IntKind.wrap_u64]; omega
          clear t1 t2 t3 t4 hx2 ha okQ
          generalize Q.tk = P2 at *
          rcases t5 with rfl | ⟨u1, u2, u3⟩
          · clear HED
            go_wp2_with fail
            refine hT.mono ?_
            rintro e w5 ⟨rfl, H5⟩
            have HX := hid (And.intro H5.out.ev.more HE2.out)
            clear hT H5 HE2
            go_wp2_with fail
            go_round
            case rel => exact ⟨k + 1, now2, now2, K, P2, by omega, rfl, rfl, by rw [HA.out], by go_num, HX⟩
            case measure => simp [intOf]; omega
          · have d1 : decide (0 ≤ last) = true := decide_eq_true u1
            have v1 : wrap64 (now2 - last) = now2 - last := by unfold wrap64; omega
            have v2 : IntKind.i64.wrap (now2 - last) = now2 - last := by rw [IntKind.wrap_i64]; omega
            have d2 : decide (now2 - last < s.e) = false := decide_eq_false (by omega)
            clear HED
            go_wp2_with fail
            refine hT.mono ?_
            rintro e w5 ⟨rfl, H5⟩
            have z0 := H5.out.ev.up.cells.1
            have HX := hid (And.intro H5.out.ev.more HE2.out)
            clear hT H5 HE2
            go_wp2_with fail
            go_round
            case rel => exact ⟨k + 1, now2, now2, K, P2, by omega, rfl, rfl, by rw [HA.out], by go_num, HX⟩
            case measure => simp [intOf]; omega
      · clear hT
        have b0 : (rr == 0) = false := beq_eq_false_iff_ne.2 hk0
        have b1 : decide (rr = 0) = false := decide_eq_false hk0
        clear hk0
        cases hy : Q.yes x.n with
        | false =>
          rw [hy, HED.out.pong_no hy] at hPo
          have HA : Hid (P.ask = Q.ask) := ha.out.symm
          clear hy ha okQ hgo
          go_wp2_with fail
          refine hPo.mono ?_
          rintro e w5 ⟨rfl, H5⟩
          have HX := hid (And.intro H5.out.ev.more HED.out)
          clear hPo H5 HED
          go_wp2_with fail
          go_round
          case rel => exact ⟨k + 1, now2, last, K, Q, by omega, rfl, rfl, by rw [HA.out], by go_num, HX⟩
          case measure => simp [intOf]; omega
        | true =>
          obtain ⟨t1, t2, t3, t4, t5, t6, t7⟩ := HED.out.pong_yes okQ.out hgo.out hy
          rw [hy] at hPo
          rw [ha.out] at t1 t7
          have hau := HI.out.n
          rw [t1] at hPo y2 t2 t6 t7 hau
          have HAU := hid hau
          have HA := hid t7
          have HE2 := hid t6
          have HT2 := hid t2
          have HT1 := hid t1
          have v1 : wrap64 (now2 - last) = now2 - last := by unfold wrap64; omega
          have v2 : IntKind.i64.wrap (now2 - last) = now2 - last := by rw [IntKind.wrap_i64]; omega
          have d2 : decide (s.wt ≤ now2 - last) = false := decide_eq_false (by omega)
          clear hy ha okQ hgo t1 t2 t6 t7 HED hau
          generalize Q.pg P.ask = P2 at *
          go_wp2_with fail
          refine hPo.mono ?_
          rintro e w5 ⟨rfl, H5⟩
          have z1 := H5.out.ev.up.cells.2.1
          obtain ⟨_, _, z2⟩ := H5.out.cells
          rw [HT1.out] at z2
          have lk := H5.out.ev.map.look HAU.out
          rw [decide_eq_false HT2.out] at lk
          obtain ⟨w6, hst, hm6, hf6⟩ := H5.out.ev.map.store (by omega) HAU.out
          have HX := hid (And.intro (H5.out.ev.map_to hm6 hf6) HE2.out)
          clear hPo H5 HE2 hm6 hf6 y2
          go_wp2_with fail
          go_round
          case rel => exact ⟨k + 1, now2, last, _, P2, by omega, rfl, rfl, by rw [HA.out], by go_num, HX⟩
          case measure => simp [intOf]; omega
    · have g1 : ¬ (k : Int) < (N : Int) := by omega
      have HV := hid HS.out.1.up.bel
      clear HS
      go_wp2_with fail
      refine (alive23_any _).mono ?_
      rintro e w4 ⟨rfl, H4⟩
      have HE : Hid (Below w.heap.size w w4) := HV.out.trans (H4.out.mono HV.out.size)
      clear HV H4
      go_wp2_with fail
      go_ret
      exact ⟨rfl, HE⟩
  · have HN := hid fun W : World => pnew_no his W
    unfold SgV at hTh hW1 HN ⊢
    clear b1 v1 HSp HSh
    go_enter Try.func5, Try.ntmps5
    go_wp2_with fail
    try rw [← hW1]
    refine hTh.mono ?_
    rintro e w1 ⟨rfl, hb⟩
    go_wp2_with fail
    refine (HN.out _).mono ?_
    rintro e w2 ⟨rfl, H2⟩
    have HJ : Hid (Below w.heap.size w w2) := (HB1.out.trans (hb.out.mono HB1.out.size)).trans (H2.out.mono (Nat.le_trans HB1.out.size hb.out.size))
    clear hb H2 HN hTh hW1 c0' c1' c2' c3' HB1
    go_wp2_with fail
    refine (alive23_any _).mono ?_
    rintro e w3 ⟨rfl, H3⟩
    have HE := hid (HJ.out.trans (H3.out.mono HJ.out.size))
    clear HJ H3
    go_wp2_with fail
    go_ret
    exact ⟨rfl, HE⟩
end Go.Proofs.Ytmpooeflbfggbaa
