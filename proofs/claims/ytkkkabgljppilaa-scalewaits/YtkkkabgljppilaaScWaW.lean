/-
  ScaleWaits, walked.
-/
import Derived.Test.YtkkkabgljppilaaScWa
import Derived.Deep.RegionHeld3
import Derived.Deep.DeepCutAuto
import Derived.Deep.CutBlock
import Derived.Outline
namespace Go.Proofs.Ytkkkabgljppilaa
open Go.RowKit
set_option linter.unusedVariables false
set_option maxRecDepth 1000000

set_option maxHeartbeats 32000000 in
theorem waits_any (s : Sg) (hs : SgIn s) {a0 : Option Addr} {l0 c0 : Nat} {xs0 : List Sp} {w : World} (ga0 : Lst w a0 l0 c0 6 xs0 SpV SpIn) : Calls Try.prog 5 #[.agg (SgV s), .slice a0 l0 c0] w fun e w' => e = .returned (.bool true) ∧ Hid (Below w.heap.size w w') := by
  have HSp := hid fun (W' : World) (hb : Below w.heap.size w W') => ga0.below SpV_size hb
  have HSh := hid fun W' => short25_any a0 l0 c0 W' ga0.room ga0.most
  obtain ⟨N, HNn⟩ : ∃ n, Hid (min l0 300 = n) := ⟨_, rfl⟩
  rw [HNn.out] at HSh
  have hN1 : N ≤ l0 ∧ N ≤ 300 := by have := HNn.out; omega
  have r1 := ga0.room
  have m1 := ga0.most
  clear ga0
  obtain ⟨W1, hW1⟩ : ∃ W1, W1 = w.alloc (.cells (SgV s) 23) := ⟨_, rfl⟩
  have b1 : Below w.heap.size w W1 := by rw [hW1]; exact (Below.refl _ _).alloc (Nat.le_refl _) _
  have HB1 := hid b1
  have hTh := theirs25_any s W1
  have v1 : W1.heap[w.heap.size]? = some (.cells (SgV s) 23 (0, 0)) := by rw [hW1]; exact heap_alloc_new w _
  obtain ⟨c0', c1', c2', c3', c4', c5'⟩ := sg_cells v1
  by_cases his : s.Is
  · have HN := hid fun W : World => snew_yes his W
    have HI0 : Hid (∀ (b : Nat) (W W' : World), Below W1.heap.size W1 W → (PkAt W' b (Pk.new s) ∧ Below W.heap.size W W' ∧ W.heap.size ≤ b) → UpW w w.heap.size b s (Pk.new s) W') := fun b W W' hb H => by
      have hb2 : PkS W1 b (Pk.new s) W' := PkS.new his hb H
      exact ⟨hW1 ▸ hb2, block_bel v1 hb2.bel, rfl⟩
    unfold SgV at hTh hW1 HN ⊢
    obtain ⟨q, hq⟩ : ∃ q, w.heap.size = q := ⟨_, rfl⟩
    have HQ := hid hq
    rw [hq] at c0' c1' c2' c3' c4' c5' HI0
    clear b1 v1 hq
    go_enter Try.func5, Try.ntmps5
    go_wp2_with fail
    try rw [← hW1]
    try rw [HQ.out]
    refine hTh.mono ?_
    rintro e w1 ⟨rfl, hb⟩
    go_wp2_with fail
    refine (HN.out _).mono ?_
    rintro e w2 ⟨b, rfl, H2⟩
    have HJ := hid (HI0.out b _ _ hb.out H2.out)
    clear hb H2 HN hTh HI0 hW1 c0' c1' c2' c3' c4' c5' HB1 HQ
    go_wp2_with fail
    refine (HSh.out _).mono ?_
    rintro e w4 ⟨rfl, rfl⟩
    clear HSh
    go_wp2_with fail
    go_loopw [7, 8, 9, 31] (fun nv uv dv z W' => ∃ (k : Nat) (now up dn : Int) (P : Pk), k ≤ N ∧ nv = .int .i64 now ∧ uv = .int .i64 up ∧ dv = .int .i64 dn ∧ z = .int .i64 k ∧ Hid (UpW w q b s P W' ∧ WaI s k now up dn P)) (fun _ _ _ z _ => N - (intOf z).toNat)
    case atStart => exact ⟨0, 0, -1, -1, _, by omega, rfl, rfl, rfl, rfl, HJ.out, WaI.new s⟩
    case round =>
    obtain ⟨k, now, up, dn, P, hk, rfl, rfl, rfl, rfl, HS⟩ := hrel
    rename World => wr
    clear HJ
    by_cases hkl : k < N
    · have g1 : (k : Int) < (N : Int) := by omega
      have hL := HSp.out _ HS.out.1.bel
      have hx : k < xs0.length := by rw [hL.size]; omega
      obtain ⟨qq, off, rfl, hc⟩ := hL.cell k hx
      have q0 := hc 0 (by omega)
      have q1 := hc 1 (by omega)
      have q2 := hc 2 (by omega)
      have q3 := hc 3 (by omega)
      have q4 := hc 4 (by omega)
      have q5 := hc 5 (by omega)
      clear hc hL
      simp only [SpV, List.getElem?_toArray, List.getElem?_cons_zero, List.getElem?_cons_succ, Nat.add_zero] at q0 q1 q2 q3 q4 q5
      generalize xs0[k] = x at *
      obtain ⟨w3, hw3⟩ : ∃ w3, w3 = wr.alloc (.cells #[.bool x.sb, .int .i64 x.later, .int .i64 x.live, .int .i64 x.load, .int .i64 x.mn, .int .i64 x.mx] 38) := ⟨_, rfl⟩
      obtain ⟨sb, hsb⟩ : ∃ sb, wr.heap.size = sb := ⟨_, rfl⟩
      have HG : Hid (WaX w q b sb s x P w3) := by rw [← hsb]; exact WaX.new HS.out.1 x hw3
      obtain ⟨now2, hnow2⟩ : ∃ n2 : Int, n2 = if 0 < x.later ∧ x.later < 1048576 then now + x.later else now := ⟨_, rfl⟩
      have hge : now ≤ now2 ∧ now2 ≤ now + 1048576 := by rw [hnow2]; split <;> omega
      obtain ⟨L, hLv⟩ : ∃ L, l20 x.live = L := ⟨_, rfl⟩
      have hLb := l20_bd x.live
      rw [hLv] at hLb
      have hm := fun W : World => bmax_lv x.live W
      have hi := fun W : World => bmin_lv x.live W
      rw [hLv] at hi
      have hmm := fun W : World => bmax_i64 up dn W
      obtain ⟨ls, hls⟩ : ∃ ls, mx2 up dn = ls := ⟨_, rfl⟩
      have hst := WaI.step (by omega) HS.out.2 hge.1 hge.2 hLb.1 x.load
      rw [hls] at hmm hst
      have hbd := HS.out.2.bd
      have hub := HS.out.2.ub
      have hdb := HS.out.2.db
      have hlb : -1 ≤ ls ∧ ls ≤ now := by obtain ⟨u1, u2, u3⟩ := mx2_of up dn; omega
      obtain ⟨y0, y1, y2, y3⟩ := HG.out.cells
      have hbdk : now + 1048576 ≤ 1099511627776 := by omega
      clear HS hLv hls y0
      go_upto_region 8 with fail
      try rw [← hw3]
      try rw [hsb]
      clear hw3 hsb q0 q1 q2 q3 q4 q5
      go_cut [42] (fun v wx => v = .bool (decide (0 < x.later ∧ x.later < 1048576)) ∧ wx = w3)
      case first =>
        by_cases h1 : 0 < x.later
        · by_cases h2 : x.later < 1048576
          · go_wp2_with fail
            go_meet
            exact ⟨by simp [h1, h2], rfl⟩
          · have h2' : 1048576 ≤ x.later := by omega
            go_wp2_with fail
            go_meet
            exact ⟨by simp [h1]; omega, rfl⟩
        · have h1' : x.later ≤ 0 := by omega
          go_wp2_with fail
          go_meet
          exact ⟨by simp; omega, rfl⟩
      case rest =>
      obtain ⟨rfl, hwc⟩ := hcut
      have hwc' := hwc.symm
      subst hwc'
      go_upto_if 42 with fail
      go_cut [7] (fun v wx => v = .int .i64 now2 ∧ wx = w3)
      case first =>
        by_cases h1 : 0 < x.later ∧ x.later < 1048576
        · have hd : decide (0 < x.later ∧ x.later < 1048576) = true := decide_eq_true h1
          have e : Hid (now2 = now + x.later) := by unfold Hid; rw [hnow2, if_pos h1]
          have e1 : IntKind.i64.wrap (now + x.later) = now + x.later := by rw [IntKind.wrap_i64]; omega
          clear hnow2
          go_wp2_with fail
          go_meet
          exact ⟨by rw [e.out], rfl⟩
        · have hd : decide (0 < x.later ∧ x.later < 1048576) = false := decide_eq_false h1
          have e : Hid (now2 = now) := by unfold Hid; rw [hnow2, if_neg h1]
          clear hnow2
          go_wp2_with fail
          go_meet
          exact ⟨by rw [e.out], rfl⟩
      case rest =>
      obtain ⟨rfl, hwc⟩ := hcut
      have hwc' := hwc.symm
      subst hwc'
      clear hnow2 y1
      have hT := HG.out.up.go (HG.out.up.br.cStep now2 L x.load)
      clear HG
      generalize P.stpd now2 L x.load = P2 at *
      have v1 : wrap64 (now2 - up) = now2 - up := by unfold wrap64; omega
      have v2 : IntKind.i64.wrap (now2 - up) = now2 - up := by rw [IntKind.wrap_i64]; omega
      have v3 : wrap64 (now2 - ls) = now2 - ls := by unfold wrap64; omega
      have v4 : IntKind.i64.wrap (now2 - ls) = now2 - ls := by rw [IntKind.wrap_i64]; omega
      clear hbdk hbd hge hub hdb hlb
      rcases hst with ⟨z1, z2⟩ | ⟨z1, z2, hag⟩ | ⟨z1, z2, hag⟩
      · rw [z1] at hT
        have HE := hid z2
        clear z1 z2
        by_cases k1 : s.mn ≤ L
        · by_cases k2 : L ≤ s.mx
          · skip
            go_wp2_with fail
            refine hT.mono ?_
            rintro e w5 ⟨rfl, H5⟩
            have HX := hid (And.intro H5.out HE.out)
            obtain ⟨d0, d1, d2, d3, d4, d5⟩ := H5.out.cells
            clear hT H5 HE
            go_wp2_with fail
            go_round
            case rel => exact ⟨k + 1, now2, up, dn, P2, by omega, rfl, rfl, rfl, by go_num, HX.out⟩
            case measure => simp [intOf]; omega
          · have k3 : s.mx < L := by omega
            clear k2
            go_wp2_with fail
            refine hT.mono ?_
            rintro e w5 ⟨rfl, H5⟩
            have HX := hid (And.intro H5.out HE.out)
            obtain ⟨d0, d1, d2, d3, d4, d5⟩ := H5.out.cells
            clear hT H5 HE
            go_wp2_with fail
            go_round
            case rel => exact ⟨k + 1, now2, up, dn, P2, by omega, rfl, rfl, rfl, by go_num, HX.out⟩
            case measure => simp [intOf]; omega
        · have k3 : L < s.mn := by omega
          clear k1
          go_wp2_with fail
          refine hT.mono ?_
          rintro e w5 ⟨rfl, H5⟩
          have HX := hid (And.intro H5.out HE.out)
          obtain ⟨d0, d1, d2, d3, d4, d5⟩ := H5.out.cells
          clear hT H5 HE
          go_wp2_with fail
          go_round
          case rel => exact ⟨k + 1, now2, up, dn, P2, by omega, rfl, rfl, rfl, by go_num, HX.out⟩
          case measure => simp [intOf]; omega
      · rw [z1] at hT
        have HE := hid z2
        clear z1 z2
        by_cases k1 : s.mn ≤ L
        · by_cases k2 : L ≤ s.mx
          · have hag := hag k1 k2
            by_cases k4 : 0 ≤ up
            · have k5 : s.uw ≤ now2 - up := by omega
              clear hag
              go_wp2_with fail
              refine hT.mono ?_
              rintro e w5 ⟨rfl, H5⟩
              have HX := hid (And.intro H5.out HE.out)
              obtain ⟨d0, d1, d2, d3, d4, d5⟩ := H5.out.cells
              clear hT H5 HE
              go_wp2_with fail
              go_round
              case rel => exact ⟨k + 1, now2, now2, dn, P2, by omega, rfl, rfl, rfl, by go_num, HX.out⟩
              case measure => simp [intOf]; omega
            · have k5 : up < 0 := by omega
              clear hag k4
              go_wp2_with fail
              refine hT.mono ?_
              rintro e w5 ⟨rfl, H5⟩
              have HX := hid (And.intro H5.out HE.out)
              obtain ⟨d0, d1, d2, d3, d4, d5⟩ := H5.out.cells
              clear hT H5 HE
              go_wp2_with fail
              go_round
              case rel => exact ⟨k + 1, now2, now2, dn, P2, by omega, rfl, rfl, rfl, by go_num, HX.out⟩
              case measure => simp [intOf]; omega
          · have k3 : s.mx < L := by omega
            clear hag k2
            go_wp2_with fail
            refine hT.mono ?_
            rintro e w5 ⟨rfl, H5⟩
            have HX := hid (And.intro H5.out HE.out)
            obtain ⟨d0, d1, d2, d3, d4, d5⟩ := H5.out.cells
            clear hT H5 HE
            go_wp2_with fail
            go_round
            case rel => exact ⟨k + 1, now2, now2, dn, P2, by omega, rfl, rfl, rfl, by go_num, HX.out⟩
            case measure => simp [intOf]; omega
        · have k3 : L < s.mn := by omega
          clear hag k1
          go_wp2_with fail
          refine hT.mono ?_
          rintro e w5 ⟨rfl, H5⟩
          have HX := hid (And.intro H5.out HE.out)
          obtain ⟨d0, d1, d2, d3, d4, d5⟩ := H5.out.cells
          clear hT H5 HE
          go_wp2_with fail
          go_round
          case rel => exact ⟨k + 1, now2, now2, dn, P2, by omega, rfl, rfl, rfl, by go_num, HX.out⟩
          case measure => simp [intOf]; omega
      · rw [z1] at hT
        have HE := hid z2
        clear z1 z2
        by_cases k1 : s.mn ≤ L
        · by_cases k2 : L ≤ s.mx
          · have hag := hag k1 k2
            by_cases k4 : 0 ≤ ls
            · have k5 : s.dw ≤ now2 - ls := by omega
              clear hag
              go_wp2_with fail
              refine hT.mono ?_
              rintro e w5 ⟨rfl, H5⟩
              have HX := hid (And.intro H5.out HE.out)
              obtain ⟨d0, d1, d2, d3, d4, d5⟩ := H5.out.cells
              clear hT H5 HE
              go_wp2_with fail
              go_round
              case rel => exact ⟨k + 1, now2, up, now2, P2, by omega, rfl, rfl, rfl, by go_num, HX.out⟩
              case measure => simp [intOf]; omega
            · have k5 : ls < 0 := by omega
              clear hag k4
              go_wp2_with fail
              refine hT.mono ?_
              rintro e w5 ⟨rfl, H5⟩
              have HX := hid (And.intro H5.out HE.out)
              obtain ⟨d0, d1, d2, d3, d4, d5⟩ := H5.out.cells
              clear hT H5 HE
              go_wp2_with fail
              go_round
              case rel => exact ⟨k + 1, now2, up, now2, P2, by omega, rfl, rfl, rfl, by go_num, HX.out⟩
              case measure => simp [intOf]; omega
          · have k3 : s.mx < L := by omega
            clear hag k2
            go_wp2_with fail
            refine hT.mono ?_
            rintro e w5 ⟨rfl, H5⟩
            have HX := hid (And.intro H5.out HE.out)
            obtain ⟨d0, d1, d2, d3, d4, d5⟩ := H5.out.cells
            clear hT H5 HE
            go_wp2_with fail
            go_round
            case rel => exact ⟨k + 1, now2, up, now2, P2, by omega, rfl, rfl, rfl, by go_num, HX.out⟩
            case measure => simp [intOf]; omega
        · have k3 : L < s.mn := by omega
          clear hag k1
          go_wp2_with fail
          refine hT.mono ?_
          rintro e w5 ⟨rfl, H5⟩
          have HX := hid (And.intro H5.out HE.out)
          obtain ⟨d0, d1, d2, d3, d4, d5⟩ := H5.out.cells
          clear hT H5 HE
          go_wp2_with fail
          go_round
          case rel => exact ⟨k + 1, now2, up, now2, P2, by omega, rfl, rfl, rfl, by go_num, HX.out⟩
          case measure => simp [intOf]; omega
    · have g1 : ¬ (k : Int) < (N : Int) := by omega
      have HV := hid HS.out.1.bel
      clear HS
      go_wp2_with fail
      refine (alive25_any _).mono ?_
      rintro e w4 ⟨rfl, H4⟩
      have HE : Hid (Below w.heap.size w w4) := HV.out.trans (H4.out.mono HV.out.size)
      clear HV H4
      go_wp2_with fail
      go_ret
      exact ⟨rfl, HE⟩
  · have HN := hid fun W : World => snew_no his W
    unfold SgV at hTh hW1 HN ⊢
    clear b1 v1 HSp HSh
    go_enter Try.func5, Try.ntmps5
    go_wp2_with fail
    try rw [← hW1]
    refine hTh.mono ?_
    rintro e w1 ⟨rfl, hb⟩
    go_wp2_with fail
    refine (HN.out _).mono ?_
    rintro e w2 ⟨rfl, H2⟩
    have HJ : Hid (Below w.heap.size w w2) := (HB1.out.trans (hb.out.mono HB1.out.size)).trans (H2.out.mono (Nat.le_trans HB1.out.size hb.out.size))
    clear hb H2 HN hTh hW1 c0' c1' c2' c3' c4' c5' HB1
    go_wp2_with fail
    refine (alive25_any _).mono ?_
    rintro e w3 ⟨rfl, H3⟩
    have HE := hid (HJ.out.trans (H3.out.mono HJ.out.size))
    clear HJ H3
    go_wp2_with fail
    go_ret
    exact ⟨rfl, HE⟩
end Go.Proofs.Ytkkkabgljppilaa
