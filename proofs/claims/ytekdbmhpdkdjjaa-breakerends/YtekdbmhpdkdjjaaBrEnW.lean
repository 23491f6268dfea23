/-
  BreakerEnds, walked.
-/
import Derived.Test.YtekdbmhpdkdjjaaBrEn
import Derived.Deep.RegionHeld3
namespace Go.Proofs.Ytekdbmhpdkdjjaa
open Go.RowKit
set_option linter.unusedVariables false
set_option maxRecDepth 1000000

/-- What stands in both loops: the setting's box, the breaker. -/
structure EnW (w : World) (q b : Nat) (s : Sg) (P : Pk) (W : World) : Prop where
  br : BrS (w.alloc (.cells (SgV s) 23)) b P W
  box : W.heap[q]? = some (.cells (SgV s) 23 (0, 0))
  q : w.heap.size = q
theorem EnW.qb {w W : World} {q b : Nat} {s : Sg} {P : Pk} (h : EnW w q b s P W) : q < b := by
  have h1 := h.br.lo
  have h2 := h.q
  rw [World.size_alloc] at h1
  omega
theorem EnW.below {w W W' : World} {q b : Nat} {s : Sg} {P : Pk} (h : EnW w q b s P W) (hb : Below W.heap.size W W') : EnW w q b s P W' := ⟨h.br.below hb, block_bel h.box hb, h.q⟩
theorem EnW.to {w W W' : World} {q b : Nat} {s : Sg} {P P' : Pk} (h : EnW w q b s P W) (hb : BrS (w.alloc (.cells (SgV s) 23)) b P' W') : EnW w q b s P' W' := ⟨hb, by
  have h1 : (w.alloc (.cells (SgV s) 23)).heap[q]? = some (.cells (SgV s) 23 (0, 0)) := by rw [← h.q]; exact heap_alloc_new w _
  exact block_bel h1 hb.bel, h.q⟩
theorem EnW.cells {w W : World} {q b : Nat} {s : Sg} {P : Pk} (h : EnW w q b s P W) : W.cell? ⟨q, 0, none⟩ = some (.int .i64 s.f) ∧ W.cell? ⟨q, 1, none⟩ = some (.int .i64 s.c) ∧ W.cell? ⟨q, 2, none⟩ = some (.int .i64 s.m) ∧ W.cell? ⟨q, 3, none⟩ = some (.int .i64 s.n) := by
  have hc := h.box
  refine ⟨?_, ?_, ?_, ?_⟩ <;> (rw [cell_of_row _ _ _ _ _ _ hc]; rfl)
theorem EnW.bel {w W : World} {q b : Nat} {s : Sg} {P : Pk} (h : EnW w q b s P W) : Below w.heap.size w W := by
  have h1 : Below w.heap.size w (w.alloc (.cells (SgV s) 23)) := (Below.refl _ _).alloc (Nat.le_refl _) _
  exact h1.trans (h.br.bel.mono h1.size)
theorem EnW.go {w W : World} {q b : Nat} {s : Sg} {P P' : Pk} (h : EnW w q b s P W) {f : Nat} {ar : Array Value} {v : Value} (hc : Calls Try.prog f ar W fun e w' => e = .returned v ∧ Hid (BrS (w.alloc (.cells (SgV s) 23)) b P' w')) : Calls Try.prog f ar W fun e w' => e = .returned v ∧ Hid (EnW w q b s P' w') := hc.mono fun e w' ⟨he, H⟩ => ⟨he, h.to H.out⟩
set_option maxHeartbeats 16000000 in
theorem ends_any (s : Sg) (hs : SgIn s) (f : Int) (hf : isB f) (w : World) : Calls Try.prog 5 #[.agg (SgV s), .int .u8 f] w fun e w' => e = .returned (.bool true) ∧ Hid (Below w.heap.size w w') := by
  obtain ⟨W1, hW1⟩ : ∃ W1, W1 = w.alloc (.cells (SgV s) 23) := ⟨_, rfl⟩
  have b1 : Below w.heap.size w W1 := by rw [hW1]; exact (Below.refl _ _).alloc (Nat.le_refl _) _
  have HB1 := hid b1
  have hTh := theirs22_any s W1
  have v1 : W1.heap[w.heap.size]? = some (.cells (SgV s) 23 (0, 0)) := by rw [hW1]; exact heap_alloc_new w _
  have c0 : W1.cell? ⟨w.heap.size, 0, none⟩ = some (.int .i64 s.f) := by rw [cell_of_row _ _ _ _ _ _ v1]; rfl
  have c1 : W1.cell? ⟨w.heap.size, 1, none⟩ = some (.int .i64 s.c) := by rw [cell_of_row _ _ _ _ _ _ v1]; rfl
  have c2 : W1.cell? ⟨w.heap.size, 2, none⟩ = some (.int .i64 s.m) := by rw [cell_of_row _ _ _ _ _ _ v1]; rfl
  have c3 : W1.cell? ⟨w.heap.size, 3, none⟩ = some (.int .i64 s.n) := by rw [cell_of_row _ _ _ _ _ _ v1]; rfl
  by_cases his : s.Is
  · have HN := hid fun W : World => bnew_yes his W
    have HI0 : Hid (∀ (b : Nat) (W W' : World), Below W1.heap.size W1 W → (PkAt W' b (Pk.new s) ∧ Below W.heap.size W W' ∧ W.heap.size ≤ b) → EnW w w.heap.size b s (Pk.new s) W') := fun b W W' hb H => by
      have hb2 : BrS W1 b (Pk.new s) W' := BrS.new his hb H
      exact ⟨hW1 ▸ hb2, block_bel v1 hb2.bel, rfl⟩
    unfold SgV at hTh hW1 HN ⊢
    obtain ⟨q, hq⟩ : ∃ q, w.heap.size = q := ⟨_, rfl⟩
    have HQ := hid hq
    rw [hq] at c0 c1 c2 c3 HI0
    clear b1 v1 hq
    go_enter Try.func5, Try.ntmps5
    go_wp2_with fail
    try rw [← hW1]
    try rw [HQ.out]
    refine hTh.mono ?_
    rintro e w1 ⟨rfl, hb⟩
    go_wp2_with fail
    refine (HN.out _).mono ?_
    rintro e w2 ⟨b, rfl, H2⟩
    have HJ := hid (HI0.out b _ _ hb.out H2.out)
    clear hb H2 HN hTh HI0 hW1 c0 c1 c2 c3 HB1 HQ
    obtain ⟨d0, d1, d2, d3⟩ := HJ.out.cells
    by_cases hf50 : s.f ≤ 50
    · by_cases hn50 : s.n ≤ 50
      · obtain ⟨N, hN, hN1, hN2⟩ : ∃ N : Nat, wrap64 ((wrap64 f).tmod 10 + s.f) = (N : Int) ∧ s.f ≤ (N : Int) ∧ N ≤ 59 := by
          obtain ⟨f0, f1⟩ := hf
          have s0 := his.1.1
          have e1 : wrap64 f = f := by unfold wrap64; omega
          have e2 : f.tmod 10 = f % 10 := Int.tmod_eq_emod_of_nonneg f0
          rw [e1, e2]
          have e3 : wrap64 (f % 10 + s.f) = f % 10 + s.f := by unfold wrap64; omega
          rw [e3]
          exact ⟨(f % 10 + s.f).toNat, by omega, by omega, by omega⟩
        go_wp2_with fail
        rw [hN]
        clear hN hf
        go_loopw [7, 40] (fun nv z W' => ∃ (k : Nat) (now : Int) (P : Pk), k ≤ N ∧ nv = .int .i64 now ∧ z = .int .i64 k ∧ Hid (EnW w q b s P W' ∧ EnI s k now P)) (fun _ z _ => N - (intOf z).toNat)
        case atStart => exact ⟨0, 0, _, by omega, rfl, rfl, HJ.out, EnI.new his⟩
        case round =>
        obtain ⟨k, now, P, hk, rfl, rfl, HS⟩ := hrel
        rename World => wr
        clear HJ d0 d1 d2 d3
        by_cases hkl : k < N
        · have g1 : (k : Int) < (N : Int) := by omega
          have hF := HS.out.1.go (HS.out.1.br.cFail now)
          have HST := hid (EnI.step his (by omega) HS.out.2 HS.out.1.br.ok)
          have HBD := HS.out.2.bd
          clear HS
          generalize (P.go now).fls = Q at *
          go_wp2_with fail
          refine hF.mono ?_
          rintro e w3 ⟨rfl, H3⟩
          clear hF
          have HT : Hid (Calls Try.prog 23 #[.pointer (some ⟨b, 0, none⟩), .int .i64 now] w3 fun e w' => e = .returned (.int .i64 Q.st) ∧ w' = w3) := bstate_same H3.out.br.at' H3.out.br.ok (by rcases HST.out with h | h <;> (rw [h.2.1]; exact Int.le_refl _))
          rcases HST.out with ⟨hq1, hq2, hq3⟩ | ⟨hq1, hq2, hq3, hq4⟩
          · rw [hq1] at HT
            have HW := hid (And.intro H3.out hq3)
            have HC : Hid (∀ n : Nat, Calls Try.prog 24 #[.pointer (some ⟨b, 0, none⟩)] (w3.drewN n) fun e w' => e = .returned (.int .i64 Q.cool) ∧ w' = (w3.drewN n)) := fun n => bcool_any (w := w3.drewN n) HW.out.1.br.at' HW.out.1.br.ok
            have hcl := HW.out.1.br.ok.cool
            rw [HW.out.2.c, HW.out.2.m] at hcl
            obtain ⟨l1, l2⟩ := hcl
            obtain ⟨d0, d1, d2, d3⟩ := HW.out.1.cells
            clear HST H3 hq1 hq2 hq3 HBD
            go_wp2_with fail
            refine HT.out.mono ?_
            rintro e w4 ⟨rfl, rfl⟩
            clear HT
            go_wp2_with fail
            have x1 : decide (Q.cool < s.c) = false := decide_eq_false (by omega)
            have x2 : decide (s.m < Q.cool) = false := decide_eq_false (by omega)
            go_quiet ((go_at_call 24; exact Calls.quiet_of_same (HC.out _)))
            have HX := hid (And.intro (HW.out.1.below (W' := w4.drewN ‹Nat›) ⟨rfl, rfl, rfl, Nat.le_refl _, fun _ _ => rfl⟩) HW.out.2)
            clear HW HC d0 d1 d2 d3
            go_wp2_with fail
            go_round
            case rel => exact ⟨k + 1, _, _, by omega, rfl, by go_num, HX⟩
            case measure => simp [intOf]; omega
          · rw [hq1] at HT
            have hT2 := H3.out.go (H3.out.br.cState (now + s.m))
            rw [hq3] at hT2
            have HQ4 := hid hq4
            have hsm := his.2.2.2
            have hsc := his.2.2.1
            have e3 : wrap64 (now + s.m) = now + s.m := by unfold wrap64; omega
            have e4 : IntKind.i64.wrap (now + s.m) = now + s.m := by rw [IntKind.wrap_i64]; omega
            obtain ⟨d0, d1, d2, d3⟩ := H3.out.cells
            clear HST H3 hq1 hq2 hq3 hq4 HBD hsm hsc
            generalize Q.go (now + s.m) = Q2 at *
            go_wp2_with fail
            refine HT.out.mono ?_
            rintro e w4 ⟨rfl, rfl⟩
            clear HT
            go_wp2_with fail
            refine hT2.mono ?_
            rintro e w5 ⟨rfl, H5⟩
            have HW := hid (And.intro H5.out HQ4.out)
            clear HQ4 hT2 H5 d0 d1 d2 d3
            have HC : Hid (∀ n : Nat, Calls Try.prog 24 #[.pointer (some ⟨b, 0, none⟩)] (w5.drewN n) fun e w' => e = .returned (.int .i64 Q2.cool) ∧ w' = (w5.drewN n)) := fun n => bcool_any (w := w5.drewN n) HW.out.1.br.at' HW.out.1.br.ok
            have hcl := HW.out.1.br.ok.cool
            rw [HW.out.2.c, HW.out.2.m] at hcl
            obtain ⟨l1, l2⟩ := hcl
            obtain ⟨d0, d1, d2, d3⟩ := HW.out.1.cells
            go_wp2_with fail
            have x1 : decide (Q2.cool < s.c) = false := decide_eq_false (by omega)
            have x2 : decide (s.m < Q2.cool) = false := decide_eq_false (by omega)
            go_quiet ((go_at_call 24; exact Calls.quiet_of_same (HC.out _)))
            have HX := hid (And.intro (HW.out.1.below (W' := w5.drewN ‹Nat›) ⟨rfl, rfl, rfl, Nat.le_refl _, fun _ _ => rfl⟩) HW.out.2)
            clear HW HC d0 d1 d2 d3
            go_wp2_with fail
            go_round
            case rel => exact ⟨k + 1, _, _, by omega, rfl, by go_num, HX⟩
            case measure => simp [intOf]; omega
        · obtain rfl : k = N := by omega
          have HJ := hid (And.intro HS.out.1 (HS.out.2.last his hN1))
          obtain ⟨d0, d1, d2, d3⟩ := HJ.out.1.cells
          obtain ⟨M, hM⟩ : ∃ M : Nat, s.n = (M : Int) := ⟨s.n.toNat, by have := his.2.1.1; omega⟩
          have HM := hid hM
          have hM50 : M ≤ 50 := by omega
          rw [hM] at d3
          clear HS hM
          go_wp2_with fail
          go_loopw [72] (fun z W' => ∃ (j : Nat) (P : Pk), j ≤ M ∧ z = .int .i64 j ∧ Hid (EnW w q b s P W' ∧ EnK s j now P)) (fun z _ => M - (intOf z).toNat)
          case atStart => exact ⟨0, _, by omega, rfl, HJ.out⟩
          case round =>
          obtain ⟨j, P2, hj, rfl, HS⟩ := hrel
          rename World => wx
          clear HJ d0 d1 d2 d3
          by_cases hjl : j < M
          · have g2 : (j : Int) < (M : Int) := by omega
            have hKM := HS.out.2.may (by rw [HM.out]; exact g2)
            have hA := HS.out.1.go (HS.out.1.br.cAllow now)
            rw [hKM.1] at hA
            have HK2 := hid hKM.2
            clear HS hKM
            generalize (P2.go now).alw = Q at *
            go_wp2_with fail
            refine hA.mono ?_
            rintro e w3 ⟨rfl, H3⟩
            have hO := H3.out.go (H3.out.br.cOK now)
            generalize (Q.go now).oks = Q2 at *
            clear H3 hA
            go_wp2_with fail
            refine hO.mono ?_
            rintro e w4 ⟨rfl, H4⟩
            have HX := hid (And.intro H4.out HK2.out)
            clear HK2 H4 hO
            go_wp2_with fail
            go_round
            case rel => exact ⟨j + 1, Q2, by omega, by go_num, HX⟩
            case measure => simp [intOf]; omega
          · obtain rfl : j = M := by omega
            obtain ⟨k1, k2⟩ := HS.out.2.cl (by rw [HM.out]; exact Int.le_refl _)
            have hS := bstate_same HS.out.1.br.at' HS.out.1.br.ok (t := now) (by rw [HS.out.2.nw]; exact Int.le_refl _)
            rw [k1] at hS
            have HSS : Hid (∀ W : World, Below wx.heap.size wx W → Calls Try.prog 23 #[.pointer (some ⟨b, 0, none⟩), .int .i64 now] W fun e w' => e = .returned (.int .i64 0) ∧ w' = W) := fun W hb => by
              have := bstate_same (HS.out.1.br.at'.below hb) HS.out.1.br.ok (t := now) (by rw [HS.out.2.nw]; exact Int.le_refl _)
              rwa [k1] at this
            have HCC : Hid (∀ W : World, Below wx.heap.size wx W → Calls Try.prog 24 #[.pointer (some ⟨b, 0, none⟩)] W fun e w' => e = .returned (.int .i64 s.c) ∧ w' = W) := fun W hb => by
              have := bcool_any (HS.out.1.br.at'.below hb) HS.out.1.br.ok
              rwa [k2] at this
            have HBX : Hid (∀ W : World, Below wx.heap.size wx W → W.cell? ⟨q, 1, none⟩ = some (.int .i64 s.c) ∧ Below w.heap.size w W) := fun W hb => ⟨(HS.out.1.below hb).cells.2.1, HS.out.1.bel.trans (hb.mono HS.out.1.bel.size)⟩
            have HV : Hid (Below wx.heap.size wx wx.drew) := (Below.refl _ _).drew
            clear HS k1 k2 hS
            go_wp2_with fail
            go_region_held3 (fun W : World => W.cell? ⟨q, 1, none⟩ = some (.int .i64 s.c))
              (with_reducible exact (HBX.out _ HV.out).1)
              (first
                | (go_at_call 23; (with_reducible refine (HSS.out _ HV.out).mono ?_); rintro e x1 ⟨rfl, rfl⟩)
                | (go_at_call 24; (with_reducible refine (HCC.out _ HV.out).mono ?_); rintro e x1 ⟨rfl, rfl⟩)
                | (go_at_call 10; (with_reducible refine (alive22_any _).mono ?_); rintro e x1 ⟨rfl, H⟩; replace HV := hid (HV.out.trans (H.out.mono HV.out.size)); clear H)
                | fail)
            all_goals
              have HE := hid (HBX.out _ HV.out).2
              clear HSS HCC HBX HV
              go_wp2_with fail
              go_ret
              exact ⟨rfl, HE⟩
      · have x1 : decide (50 < s.f) = false := decide_eq_false (by omega)
        have x2 : decide (50 < s.n) = true := decide_eq_true (by omega)
        clear d1 d2
        go_wp2_with fail
        refine (alive22_any _).mono ?_
        rintro e w3 ⟨rfl, H3⟩
        have HE := hid (HJ.out.bel.trans (H3.out.mono HJ.out.bel.size))
        clear HJ H3
        go_wp2_with fail
        go_ret
        exact ⟨rfl, HE⟩
    · have x1 : decide (50 < s.f) = true := decide_eq_true (by omega)
      go_wp2_with fail
      refine (alive22_any _).mono ?_
      rintro e w3 ⟨rfl, H3⟩
      have HE := hid (HJ.out.bel.trans (H3.out.mono HJ.out.bel.size))
      clear HJ H3
      go_wp2_with fail
      go_ret
      exact ⟨rfl, HE⟩
  · have HN := hid fun W : World => bnew_no his W
    unfold SgV at hTh hW1 HN ⊢
    clear b1 v1
    go_enter Try.func5, Try.ntmps5
    go_wp2_with fail
    try rw [← hW1]
    refine hTh.mono ?_
    rintro e w1 ⟨rfl, hb⟩
    go_wp2_with fail
    refine (HN.out _).mono ?_
    rintro e w2 ⟨rfl, H2⟩
    have HJ : Hid (Below w.heap.size w w2) := (HB1.out.trans (hb.out.mono HB1.out.size)).trans (H2.out.mono (Nat.le_trans HB1.out.size hb.out.size))
    clear hb H2 HN hTh hW1 c0 c1 c2 c3 HB1
    go_wp2_with fail
    refine (alive22_any _).mono ?_
    rintro e w3 ⟨rfl, H3⟩
    have HE := hid (HJ.out.trans (H3.out.mono HJ.out.size))
    clear HJ H3
    go_wp2_with fail
    go_ret
    exact ⟨rfl, HE⟩
end Go.Proofs.Ytekdbmhpdkdjjaa
