/-
  ProbeUp, walked.
-/
import Derived.Test.YtmpooeflbfggbaaPbUp
import Derived.Deep.RegionHeld3
namespace Go.Proofs.Ytmpooeflbfggbaa
open Go.RowKit
set_option linter.unusedVariables false
set_option maxRecDepth 1000000

/-- What stands in both loops: the setting's box, the prober. -/
structure UpW (w : World) (q b : Nat) (s : Sg) (P : Pk) (W : World) : Prop where
  br : PkS (w.alloc (.cells (SgV s) 23)) b P W
  box : W.heap[q]? = some (.cells (SgV s) 23 (0, 0))
  q : w.heap.size = q
theorem UpW.below {w W W' : World} {q b : Nat} {s : Sg} {P : Pk} (h : UpW w q b s P W) (hb : Below W.heap.size W W') : UpW w q b s P W' := ⟨h.br.below hb, block_bel h.box hb, h.q⟩
theorem UpW.drewN {w W : World} {q b : Nat} {s : Sg} {P : Pk} (h : UpW w q b s P W) (n : Nat) : UpW w q b s P (W.drewN n) := h.below ⟨rfl, rfl, rfl, Nat.le_refl _, fun _ _ => rfl⟩
theorem UpW.drew {w W : World} {q b : Nat} {s : Sg} {P : Pk} (h : UpW w q b s P W) : UpW w q b s P W.drew := h.drewN 1
theorem UpW.to {w W W' : World} {q b : Nat} {s : Sg} {P P' : Pk} (h : UpW w q b s P W) (hb : PkS (w.alloc (.cells (SgV s) 23)) b P' W') : UpW w q b s P' W' := ⟨hb, by
  have h1 : (w.alloc (.cells (SgV s) 23)).heap[q]? = some (.cells (SgV s) 23 (0, 0)) := by rw [← h.q]; exact heap_alloc_new w _
  exact block_bel h1 hb.bel, h.q⟩
theorem UpW.cells {w W : World} {q b : Nat} {s : Sg} {P : Pk} (h : UpW w q b s P W) : W.cell? ⟨q, 0, none⟩ = some (.int .i64 s.e) ∧ W.cell? ⟨q, 1, none⟩ = some (.int .i64 s.wt) ∧ W.cell? ⟨q, 2, none⟩ = some (.int .i64 s.m) ∧ W.cell? ⟨q, 3, none⟩ = some (.int .i64 s.h) := by
  have hc := h.box
  refine ⟨?_, ?_, ?_, ?_⟩ <;> (rw [cell_of_row _ _ _ _ _ _ hc]; rfl)
theorem UpW.bel {w W : World} {q b : Nat} {s : Sg} {P : Pk} (h : UpW w q b s P W) : Below w.heap.size w W := by
  have h1 : Below w.heap.size w (w.alloc (.cells (SgV s) 23)) := (Below.refl _ _).alloc (Nat.le_refl _) _
  exact h1.trans (h.br.bel.mono h1.size)
theorem UpW.go {w W : World} {q b : Nat} {s : Sg} {P P' : Pk} (h : UpW w q b s P W) {f : Nat} {ar : Array Value} {v : Value} (hc : Calls Try.prog f ar W fun e w' => e = .returned v ∧ Hid (PkS (w.alloc (.cells (SgV s) 23)) b P' w')) : Calls Try.prog f ar W fun e w' => e = .returned v ∧ Hid (UpW w q b s P' w') := hc.mono fun e w' ⟨he, H⟩ => ⟨he, h.to H.out⟩
set_option maxHeartbeats 16000000 in
theorem up_any (s : Sg) (hs : SgIn s) (f : Int) (hf : isB f) (w : World) : Calls Try.prog 4 #[.agg (SgV s), .int .u8 f] w fun e w' => e = .returned (.bool true) ∧ Hid (Below w.heap.size w w') := by
  obtain ⟨W1, hW1⟩ : ∃ W1, W1 = w.alloc (.cells (SgV s) 23) := ⟨_, rfl⟩
  have b1 : Below w.heap.size w W1 := by rw [hW1]; exact (Below.refl _ _).alloc (Nat.le_refl _) _
  have HB1 := hid b1
  have hTh := theirs23_any s W1
  have v1 : W1.heap[w.heap.size]? = some (.cells (SgV s) 23 (0, 0)) := by rw [hW1]; exact heap_alloc_new w _
  have c0 : W1.cell? ⟨w.heap.size, 0, none⟩ = some (.int .i64 s.e) := by rw [cell_of_row _ _ _ _ _ _ v1]; rfl
  have c1 : W1.cell? ⟨w.heap.size, 1, none⟩ = some (.int .i64 s.wt) := by rw [cell_of_row _ _ _ _ _ _ v1]; rfl
  have c2 : W1.cell? ⟨w.heap.size, 2, none⟩ = some (.int .i64 s.m) := by rw [cell_of_row _ _ _ _ _ _ v1]; rfl
  have c3 : W1.cell? ⟨w.heap.size, 3, none⟩ = some (.int .i64 s.h) := by rw [cell_of_row _ _ _ _ _ _ v1]; rfl
  by_cases his : s.Is
  · have HN := hid fun W : World => pnew_yes his W
    have HI0 : Hid (∀ (b : Nat) (W W' : World), Below W1.heap.size W1 W → (PkAt W' b (Pk.new s) ∧ Below W.heap.size W W' ∧ W.heap.size ≤ b) → UpW w w.heap.size b s (Pk.new s) W') := fun b W W' hb H => by
      have hb2 : PkS W1 b (Pk.new s) W' := PkS.new his hb H
      exact ⟨hW1 ▸ hb2, block_bel v1 hb2.bel, rfl⟩
    unfold SgV at hTh hW1 HN ⊢
    obtain ⟨q, hq⟩ : ∃ q, w.heap.size = q := ⟨_, rfl⟩
    have HQ := hid hq
    rw [hq] at c0 c1 c2 c3 HI0
    clear b1 v1 hq
    go_enter Try.func4, Try.ntmps4
    go_wp2_with fail
    try rw [← hW1]
    try rw [HQ.out]
    refine hTh.mono ?_
    rintro e w1 ⟨rfl, hb⟩
    go_wp2_with fail
    refine (HN.out _).mono ?_
    rintro e w2 ⟨b, rfl, H2⟩
    have HJ := hid (HI0.out b _ _ hb.out H2.out)
    clear hb H2 HN hTh HI0 hW1 c0 c1 c2 c3 HB1 HQ
    obtain ⟨d0, d1, d2, d3⟩ := HJ.out.cells
    obtain ⟨N, hN, hN1, hN2⟩ : ∃ N : Nat, wrap64 (s.h + (wrap64 f).tmod 20) = (N : Int) ∧ s.h ≤ (N : Int) ∧ N ≤ 119 := by
      obtain ⟨f0, f1⟩ := hf
      have s0 := his.2.2.2
      have e1 : wrap64 f = f := by unfold wrap64; omega
      have e2 : f.tmod 20 = f % 20 := Int.tmod_eq_emod_of_nonneg f0
      rw [e1, e2]
      have e3 : wrap64 (s.h + f % 20) = s.h + f % 20 := by unfold wrap64; omega
      rw [e3]
      exact ⟨(s.h + f % 20).toNat, by omega, by omega, by omega⟩
    go_wp2_with fail
    rw [hN]
    clear hN hf
    go_loopw [7, 33] (fun nv z W' => ∃ (k : Nat) (now : Int) (P : Pk), k ≤ N ∧ nv = .int .i64 now ∧ z = .int .i64 k ∧ Hid (UpW w q b s P W' ∧ UpI s k now P)) (fun _ z _ => N - (intOf z).toNat)
    case atStart => exact ⟨0, 0, _, by omega, rfl, rfl, HJ.out, UpI.new his⟩
    case round =>
    obtain ⟨k, now, P, hk, rfl, rfl, HS⟩ := hrel
    rename World => wr
    clear HJ d0 d1 d2 d3
    by_cases hkl : k < N
    · have g1 : (k : Int) < (N : Int) := by omega
      have hT := HS.out.1.go (HS.out.1.br.cTick now)
      obtain ⟨z1, z2, z3, z4⟩ := UpI.tick his (by omega) HS.out.2
      rw [z1] at hT
      have HPo := hid fun (W : World) (h : UpW w q b s (P.go now).tk W) => h.go (h.br.cPong (now + s.wt - 1) (P.go now).tkn)
      rw [z2] at HPo
      have HZ := hid z3
      have hbd := HS.out.2.bd
      have hi1 := his.1
      have hi2 := his.2.1
      have e3 : wrap64 (now + s.wt) = now + s.wt := by unfold wrap64; omega
      have e4 : IntKind.i64.wrap (now + s.wt) = now + s.wt := by rw [IntKind.wrap_i64]; omega
      have e5 : wrap64 (now + s.wt - 1) = now + s.wt - 1 := by unfold wrap64; omega
      have e6 : IntKind.i64.wrap (now + s.wt - 1) = now + s.wt - 1 := by rw [IntKind.wrap_i64]; omega
      have e7 : wrap64 (now + s.e) = now + s.e := by unfold wrap64; omega
      have e8 : IntKind.i64.wrap (now + s.e) = now + s.e := by rw [IntKind.wrap_i64]; omega
      obtain ⟨bb, hbb⟩ : ∃ bb, decide (s.h ≤ (k : Int) + 1) = bb := ⟨_, rfl⟩
      rw [hbb] at z4
      have HU := hid z4
      have hb2 : decide (s.h ≤ IntKind.i64.wrap ((k : Int) + 1)) = bb := by rw [← hbb, show IntKind.i64.wrap ((k : Int) + 1) = (k : Int) + 1 by rw [IntKind.wrap_i64]; omega]
      clear HS z1 z2 z3 z4 hbd hi1 hi2
      generalize (((P.go now).tk).go (now + s.wt - 1)).pg (P.go now).tkn = P3 at *
      generalize (P.go now).tkn = tn at *
      generalize (P.go now).tk = P2 at *
      have HUp : Hid (∀ W : World, UpW w q b s P3 W → Calls Try.prog 16 #[.pointer (some ⟨b, 0, none⟩)] W fun e w' => e = .returned (.bool bb) ∧ w' = W) := fun W h => by rw [← HU.out]; exact h.br.cUp
      go_wp2_with fail
      refine hT.mono ?_
      rintro e w3 ⟨rfl, H3⟩
      have HV0 := hid H3.out.drew
      have HK : Hid (∀ (W : World) (P' : Pk), UpW w q b s P' W → W.cell? ⟨q, 1, none⟩ = some (.int .i64 s.wt) ∧ W.cell? ⟨q, 3, none⟩ = some (.int .i64 s.h)) := fun W P' h => ⟨h.cells.2.1, h.cells.2.2.2⟩
      clear hT H3 HU
      go_wp2_with fail
      go_region_held3 (fun W : World => W.cell? ⟨q, 1, none⟩ = some (.int .i64 s.wt) ∧ W.cell? ⟨q, 3, none⟩ = some (.int .i64 s.h))
        (first | (with_reducible exact HK.out _ _ HV0.out) | (with_reducible exact HK.out _ _ HV1.out))
        (first
          | (go_at_call 14; (with_reducible refine (HPo.out _ HV0.out).mono ?_); rintro e x1 ⟨rfl, HV1⟩)
          | (go_at_call 16; (with_reducible refine (HUp.out _ HV1.out).mono ?_); rintro e x2 ⟨rfl, rfl⟩)
          | fail)
      all_goals
        have HX := hid (And.intro HV1.out HZ.out)
        obtain ⟨d0, d1, d2, d3⟩ := HV1.out.cells
        clear HPo HUp HV0 HV1 HK HZ
        go_wp2_with fail
        clear hbb hb2
        go_round
        case rel => exact ⟨k + 1, _, P3, by omega, rfl, by go_num, HX⟩
        case measure => simp [intOf]; omega
    · obtain rfl : k = N := by omega
      have HJ := hid (And.intro HS.out.1 (HS.out.2.last hN1 (by omega)))
      obtain ⟨d0, d1, d2, d3⟩ := HJ.out.1.cells
      obtain ⟨M, hM⟩ : ∃ M : Nat, s.m = (M : Int) := ⟨s.m.toNat, by have := his.2.2.1; omega⟩
      have HM := hid hM
      have hM100 : M ≤ 100 := by have := his.2.2.1; omega
      rw [hM] at d2
      clear HS hM
      go_wp2_with fail
      go_loopw [7, 72] (fun nv z W' => ∃ (j : Nat) (now : Int) (P : Pk), j ≤ M ∧ nv = .int .i64 now ∧ z = .int .i64 j ∧ Hid (UpW w q b s P W' ∧ DnI s j now P)) (fun _ z _ => M - (intOf z).toNat)
      case atStart => exact ⟨0, _, _, by omega, rfl, rfl, HJ.out⟩
      case round =>
      obtain ⟨j, now2, P2, hj, rfl, rfl, HS⟩ := hrel
      rename World => wx
      clear HJ d0 d1 d2 d3
      by_cases hjl : j < M
      · have g2 : (j : Int) < (M : Int) := by omega
        have hT := HS.out.1.go (HS.out.1.br.cTick now2)
        obtain ⟨z1, z2, z3, z4⟩ := DnI.tick his (by rw [HM.out]; exact g2) HS.out.2
        rw [z1] at hT
        rw [HM.out] at z4
        have HZ := hid z3
        have HZ2 := hid z2
        have hbd := HS.out.2.bd
        have hi1 := his.1
        have hi2 := his.2.1
        have e3 : wrap64 (now2 + s.wt) = now2 + s.wt := by unfold wrap64; omega
        have e4 : IntKind.i64.wrap (now2 + s.wt) = now2 + s.wt := by rw [IntKind.wrap_i64]; omega
        have e7 : wrap64 (now2 + s.e) = now2 + s.e := by unfold wrap64; omega
        have e8 : IntKind.i64.wrap (now2 + s.e) = now2 + s.e := by rw [IntKind.wrap_i64]; omega
        have HPo := hid fun (W : World) (h : UpW w q b s (P2.go now2).tk W) => h.go (h.br.cPong (now2 + s.wt) (P2.go now2).tk.ask)
        obtain ⟨bb, hbb⟩ : ∃ bb, decide ((j : Int) + 1 < (M : Int)) = bb := ⟨_, rfl⟩
        rw [hbb] at z4
        have HU := hid z4
        clear HS z1 z2 z3 z4 hbd hi1 hi2
        generalize (((P2.go now2).tk).go (now2 + s.wt)).pg (P2.go now2).tk.ask = P3 at *
        generalize (((P2.go now2).tk).go (now2 + s.wt)).yes (P2.go now2).tk.ask = yy at *
        generalize (P2.go now2).tkn = tn at *
        generalize (P2.go now2).tk = P4 at *
        go_wp2_with fail
        refine hT.mono ?_
        rintro e w3 ⟨rfl, H3⟩
        have hUp := H3.out.br.cUp
        rw [HZ2.out] at hUp
        have HV0 := hid H3.out.drew
        have HAs := hid fun (W : World) (h : UpW w q b s P4 W) => h.br.cAsked
        have HK : Hid (∀ (W : World) (P' : Pk), UpW w q b s P' W → W.cell? ⟨q, 1, none⟩ = some (.int .i64 s.wt)) := fun W P' h => h.cells.2.1
        clear hT H3 HZ2
        go_wp2_with fail
        refine hUp.mono ?_
        rintro e w4 ⟨rfl, rfl⟩
        clear hUp
        go_wp2_with fail
        go_region_held3 (fun W : World => W.cell? ⟨q, 1, none⟩ = some (.int .i64 s.wt))
          (first | (with_reducible exact HK.out _ _ HV0.out) | (with_reducible exact HK.out _ _ HV1.out))
          (first
            | (go_at_call 20; (with_reducible refine (HAs.out _ HV0.out).mono ?_); rintro e x1 ⟨rfl, rfl⟩)
            | (go_at_call 14; (with_reducible refine (HPo.out _ HV0.out).mono ?_); rintro e x2 ⟨rfl, HV1⟩)
            | fail)
        all_goals
          have HUn := hid fun n : Nat => (HV1.out.drewN n).br.cUp
          rw [HU.out] at HUn
          have HX := hid fun n : Nat => And.intro (HV1.out.drewN n) HZ.out
          have d2 := fun n : Nat => (HV1.out.drewN n).cells.2.2.1
          rw [HM.out] at d2
          have d0 := fun n : Nat => (HV1.out.drewN n).cells.1
          clear HPo HAs HV0 HV1 HK HZ HU
          go_wp2_with fail
          go_quiet (first | (go_at_call 16; exact Calls.quiet_of_same (HUn.out _)))
          clear HUn hbb
          go_wp2_with fail
          go_round
          case rel => exact ⟨j + 1, _, P3, by omega, rfl, by go_num, HX.out _⟩
          case measure => simp [intOf]; omega
      · have g2 : ¬ (j : Int) < (M : Int) := by omega
        have HV := hid HS.out.1.bel
        clear HS
        go_wp2_with fail
        refine (alive23_any _).mono ?_
        rintro e w3 ⟨rfl, H3⟩
        have HE := hid (HV.out.trans (H3.out.mono HV.out.size))
        clear HV H3
        go_wp2_with fail
        go_ret
        exact ⟨rfl, HE⟩
  · have HN := hid fun W : World => pnew_no his W
    unfold SgV at hTh hW1 HN ⊢
    clear b1 v1
    go_enter Try.func4, Try.ntmps4
    go_wp2_with fail
    try rw [← hW1]
    refine hTh.mono ?_
    rintro e w1 ⟨rfl, hb⟩
    go_wp2_with fail
    refine (HN.out _).mono ?_
    rintro e w2 ⟨rfl, H2⟩
    have HJ : Hid (Below w.heap.size w w2) := (HB1.out.trans (hb.out.mono HB1.out.size)).trans (H2.out.mono (Nat.le_trans HB1.out.size hb.out.size))
    clear hb H2 HN hTh hW1 c0 c1 c2 c3 HB1
    go_wp2_with fail
    refine (alive23_any _).mono ?_
    rintro e w3 ⟨rfl, H3⟩
    have HE := hid (HJ.out.trans (H3.out.mono HJ.out.size))
    clear HJ H3
    go_wp2_with fail
    go_ret
    exact ⟨rfl, HE⟩
end Go.Proofs.Ytmpooeflbfggbaa
