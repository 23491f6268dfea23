/-
  ScaleRests, walked.
-/
import Derived.Test.YtkkkabgljppilaaScRe
import Derived.Deep.RegionHeld3
namespace Go.Proofs.Ytkkkabgljppilaa
open Go.RowKit
set_option linter.unusedVariables false
set_option maxRecDepth 1000000

set_option maxHeartbeats 16000000 in
theorem rests_any (s : Sg) (hs : SgIn s) (f : Int) (hf : isB f) (load : Int) (hl : isI load) (w : World) : Calls Try.prog 4 #[.agg (SgV s), .int .u8 f, .int .i64 load] w fun e w' => e = .returned (.bool true) ∧ Hid (Below w.heap.size w w') := by
  obtain ⟨W1, hW1⟩ : ∃ W1, W1 = w.alloc (.cells (SgV s) 23) := ⟨_, rfl⟩
  have b1 : Below w.heap.size w W1 := by rw [hW1]; exact (Below.refl _ _).alloc (Nat.le_refl _) _
  have HB1 := hid b1
  have hTh := theirs25_any s W1
  have v1 : W1.heap[w.heap.size]? = some (.cells (SgV s) 23 (0, 0)) := by rw [hW1]; exact heap_alloc_new w _
  obtain ⟨c0, c1, c2, c3, c4, c5⟩ := sg_cells v1
  by_cases his : s.Is
  · have HN := hid fun W : World => snew_yes his W
    have HI0 : Hid (∀ (b : Nat) (W W' : World), Below W1.heap.size W1 W → (PkAt W' b (Pk.new s) ∧ Below W.heap.size W W' ∧ W.heap.size ≤ b) → UpW w w.heap.size b s (Pk.new s) W') := fun b W W' hb H => by
      have hb2 : PkS W1 b (Pk.new s) W' := PkS.new his hb H
      exact ⟨hW1 ▸ hb2, block_bel v1 hb2.bel, rfl⟩
    unfold SgV at hTh hW1 HN ⊢
    obtain ⟨q, hq⟩ : ∃ q, w.heap.size = q := ⟨_, rfl⟩
    have HQ := hid hq
    rw [hq] at c0 c1 c2 c3 c4 c5 HI0
    clear b1 v1 hq
    go_enter Try.func4, Try.ntmps4
    go_wp2_with fail
    try rw [← hW1]
    try rw [HQ.out]
    refine hTh.mono ?_
    rintro e w1 ⟨rfl, hb⟩
    go_wp2_with fail
    refine (HN.out _).mono ?_
    rintro e w2 ⟨b, rfl, H2⟩
    have HJ := hid (HI0.out b _ _ hb.out H2.out)
    clear hb H2 HN hTh HI0 hW1 c0 c1 c2 c3 c4 c5 HB1 HQ
    have e0 : wrap64 f = f := by obtain ⟨f0, f1⟩ := hf; unfold wrap64; omega
    obtain ⟨n0, hn0, hnb⟩ : ∃ n0 : Int, f.tmod 20 = n0 ∧ 0 ≤ n0 ∧ n0 ≤ 19 := by
      obtain ⟨f0, f1⟩ := hf
      rw [Int.tmod_eq_emod_of_nonneg f0]
      exact ⟨f % 20, rfl, by omega, by omega⟩
    have e2 : wrap64 n0 = n0 := by unfold wrap64; omega
    have e3 : IntKind.i64.wrap n0 = n0 := by rw [IntKind.wrap_i64]; omega
    have HNN := hid (ReN.new his load hnb)
    go_wp2_with fail
    try rw [e0]
    try rw [hn0]
    try rw [e2]
    clear e0 hn0 hnb e2 e3 hf hl
    go_loopw [9, 10, 11, 31] (fun nv tv lv z W' => ∃ (k : Nat) (n T la : Int) (P : Pk), k ≤ 60 ∧ nv = .int .i64 n ∧ tv = .int .i64 T ∧ lv = .int .i64 la ∧ z = .int .i64 k ∧ Hid (UpW w q b s P W' ∧ ReI s k T P ∧ ReN s load k n la)) (fun _ _ _ z _ => 60 - (intOf z).toNat)
    case atStart => exact ⟨0, n0, 0, 0, _, by omega, rfl, rfl, rfl, rfl, HJ.out, ReI.new s, HNN.out⟩
    case round =>
    obtain ⟨k, n, T, la, P, hk, rfl, rfl, rfl, rfl, HS⟩ := hrel
    rename World => wr
    clear HJ HNN
    by_cases hkl : k < 60
    · have g1 : (k : Int) < 60 := by omega
      have hT := HS.out.1.go (HS.out.1.br.cStep T n load)
      obtain ⟨z1, z2⟩ := ReI.step his (by omega) HS.out.2.1 HS.out.2.2.nb.1 load
      obtain ⟨⟨x1, x2⟩, x3, x4, x5, x6⟩ := HS.out.2.2.step his
      have nb := HS.out.2.2.nb
      have tb := HS.out.2.1.bd
      rw [z1] at hT
      obtain ⟨x, hx⟩ : ∃ x, rst s n load = x := ⟨_, rfl⟩
      rw [hx] at hT x1 x2 x3 x4 x5 x6
      have hm := fun W : World => bmax_i64 s.uw s.dw W
      have hu := (show s.Is from his).2.2.2.2.2
      obtain ⟨m1, m2, m3⟩ := mx2_of s.uw s.dw
      obtain ⟨V, hV⟩ : ∃ V, mx2 s.uw s.dw = V := ⟨_, rfl⟩
      rw [hV] at hm z2 m1 m2 m3
      have e1 : IntKind.i64.wrap (T + V) = T + V := by rw [IntKind.wrap_i64]; omega
      have e2 : wrap64 (T + V) = T + V := by unfold wrap64; omega
      obtain ⟨n2, hn2⟩ : ∃ n2, n + x = n2 := ⟨_, rfl⟩
      have e3 : IntKind.i64.wrap (n + x) = n2 := by rw [IntKind.wrap_i64, ← hn2]; omega
      have e4 : wrap64 (n + x) = n2 := by rw [← hn2]; unfold wrap64; omega
      rw [hn2] at x3 x4 x5 x6
      have e5 : IntKind.i64.wrap n = n := by rw [IntKind.wrap_i64]; omega
      have e6 : wrap64 n = n := by unfold wrap64; omega
      have HN2 := hid hn2
      have HZ := hid (And.intro z2 x6)
      clear HS z1 z2 x6 hx hV hn2 m1 m2 m3 hu tb nb
      generalize P.stpd T n load = P2 at *
      go_wp2_with fail
      refine hT.mono ?_
      rintro e w3 ⟨rfl, H3⟩
      have HX := hid (And.intro H3.out HZ.out)
      obtain ⟨d0, d1, d2, d3, d4, d5⟩ := H3.out.cells
      clear hT H3 HZ
      by_cases hx0 : x = 0
      · rw [if_pos hx0] at HX
        subst hx0
        have e7 : n = n2 := by have := HN2.out; omega
        subst e7
        clear e3 e4 HN2
        by_cases k1 : n ≤ s.mx
        · have k2 := x4 k1
          by_cases k3 : s.mn ≤ n
          · have k4 := x5 k3
            clear x4 x5
            go_wp2_with fail
            go_round
            case rel => exact ⟨k + 1, n, T + V, la, P2, by omega, rfl, rfl, rfl, by go_num, HX.out⟩
            case measure => simp [intOf]; omega
          · have k4 : n < s.mn := by omega
            clear x4 x5 k3
            go_wp2_with fail
            go_round
            case rel => exact ⟨k + 1, n, T + V, la, P2, by omega, rfl, rfl, rfl, by go_num, HX.out⟩
            case measure => simp [intOf]; omega
        · have k2 : s.mx < n := by omega
          by_cases k3 : s.mn ≤ n
          · have k4 := x5 k3
            clear x4 x5 k1
            go_wp2_with fail
            go_round
            case rel => exact ⟨k + 1, n, T + V, la, P2, by omega, rfl, rfl, rfl, by go_num, HX.out⟩
            case measure => simp [intOf]; omega
          · have k4 : n < s.mn := by omega
            clear x4 x5 k1 k3
            go_wp2_with fail
            go_round
            case rel => exact ⟨k + 1, n, T + V, la, P2, by omega, rfl, rfl, rfl, by go_num, HX.out⟩
            case measure => simp [intOf]; omega
      · rw [if_neg hx0] at HX
        clear e5 e6 HN2
        by_cases k1 : n ≤ s.mx
        · have k2 := x4 k1
          by_cases k3 : s.mn ≤ n
          · have k4 := x5 k3
            clear x4 x5
            go_wp2_with fail
            go_round
            case rel => exact ⟨k + 1, n2, T + V, _, P2, by omega, rfl, rfl, rfl, by go_num, HX.out⟩
            case measure => simp [intOf]; omega
          · have k4 : n < s.mn := by omega
            clear x4 x5 k3
            go_wp2_with fail
            go_round
            case rel => exact ⟨k + 1, n2, T + V, _, P2, by omega, rfl, rfl, rfl, by go_num, HX.out⟩
            case measure => simp [intOf]; omega
        · have k2 : s.mx < n := by omega
          by_cases k3 : s.mn ≤ n
          · have k4 := x5 k3
            clear x4 x5 k1
            go_wp2_with fail
            go_round
            case rel => exact ⟨k + 1, n2, T + V, _, P2, by omega, rfl, rfl, rfl, by go_num, HX.out⟩
            case measure => simp [intOf]; omega
          · have k4 : n < s.mn := by omega
            clear x4 x5 k1 k3
            go_wp2_with fail
            go_round
            case rel => exact ⟨k + 1, n2, T + V, _, P2, by omega, rfl, rfl, rfl, by go_num, HX.out⟩
            case measure => simp [intOf]; omega
    · obtain rfl : k = 60 := by omega
      obtain ⟨y1, y2, y3, y4⟩ := HS.out.2.2.last his
      have hWa := HS.out.1.br.cWant load
      rw [HS.out.2.1.want load] at hWa
      obtain ⟨wa, hwa⟩ : ∃ wa, (Pk.new s).want load = wa := ⟨_, rfl⟩
      rw [hwa] at hWa y3
      obtain ⟨d0, d1, d2, d3, d4, d5⟩ := HS.out.1.cells
      have HV := hid HS.out.1.bel
      clear HS hwa
      go_wp2_with fail
      refine hWa.mono ?_
      rintro e w3 ⟨rfl, rfl⟩
      clear hWa
      go_wp2_with fail
      refine (alive25_any _).mono ?_
      rintro e w4 ⟨rfl, H4⟩
      have HE := hid (HV.out.trans (H4.out.mono HV.out.size))
      clear HV H4 d0 d1 d2 d3 d4 d5
      go_wp2_with fail
      go_ret
      exact ⟨rfl, HE⟩
  · have HN := hid fun W : World => snew_no his W
    unfold SgV at hTh hW1 HN ⊢
    clear b1 v1
    go_enter Try.func4, Try.ntmps4
    go_wp2_with fail
    try rw [← hW1]
    refine hTh.mono ?_
    rintro e w1 ⟨rfl, hb⟩
    go_wp2_with fail
    refine (HN.out _).mono ?_
    rintro e w2 ⟨rfl, H2⟩
    have HJ : Hid (Below w.heap.size w w2) := (HB1.out.trans (hb.out.mono HB1.out.size)).trans (H2.out.mono (Nat.le_trans HB1.out.size hb.out.size))
    clear hb H2 HN hTh hW1 c0 c1 c2 c3 c4 c5 HB1
    go_wp2_with fail
    refine (alive25_any _).mono ?_
    rintro e w3 ⟨rfl, H3⟩
    have HE := hid (HJ.out.trans (H3.out.mono HJ.out.size))
    clear HJ H3
    go_wp2_with fail
    go_ret
    exact ⟨rfl, HE⟩
end Go.Proofs.Ytkkkabgljppilaa
