/-
  RingStays: a node more, or one less, turns the order of the others not; the order in which nodes came plays no part.
-/
import Derived.Test.YtaiojhigomdocaaRows
import Derived.Test.YtaiojhigomdocaaRnStay
import Derived.WalkKit
import Derived.ProofKit
import Derived.OpenShut
import Derived.ShutString
import Derived.ChangeOld
import Derived.Below
namespace Go.Proofs.Ytaiojhigomdocaa.ringStays
open Go.ChangeShapes Go.WideShapes Go.ChangeAt Go.RowKit
open Go.ChangeMaps (open_string shut_string)
set_option linter.unusedVariables false

theorem own : ownKnob Try.prog.godebug = none := by kernel_rfl
theorem laidOut : laidOutB Try.prog = true := by kernel_rfl

/-! ### The walk -/
set_option maxRecDepth 1000000 in
set_option maxHeartbeats 8000000 in
theorem walk (s0 p0 f0 : Int) (a1 : Option Addr) (l1 c1 : Nat) (zs1 : List Int) (a2 : Int) (w : World) (gs0 : isU s0 ∧ isI p0 ∧ isI f0) (ga1 : Reads .u64 w a1 l1 c1 zs1 ∧ ∀ x ∈ zs1, isU x) (ga2 : isU a2) :
    Calls Try.prog 4 #[.agg #[.int .u64 s0, .int .i64 p0, .int .i64 f0], .slice a1 l1 c1, .int .u64 a2] w fun e w' => e = .returned (.bool true) ∧ Below w.heap.size w w' := by
  obtain ⟨hs, hp, hf⟩ := gs0
  obtain ⟨hrd, hU⟩ := ga1
  have HRd := hid fun (W' : World) (hb : Below w.heap.size w W') => hrd.below hb
  have HU := hid hU
  have HL1 : Hid (zs1.length = l1) := hrd.size
  have HRm : Hid (l1 ≤ c1 ∧ c1 ≤ 9223372036854775807) := ⟨hrd.room, hrd.most⟩
  obtain ⟨wA, hwA⟩ : ∃ wA, wA = w.alloc (.cells #[.int .u64 s0, .int .i64 p0, .int .i64 f0] 24) := ⟨_, rfl⟩
  have hA : wA.heap[w.heap.size]? = some (.cells #[.int .u64 s0, .int .i64 p0, .int .i64 f0] 24 (0, 0)) := by rw [hwA]; exact heap_alloc_new w _
  have hbA : Below w.heap.size w wA := by rw [hwA]; exact (Below.refl _ _).alloc (Nat.le_refl _) _
  have HC : Hid (∀ W' : World, Below wA.heap.size wA W' → W'.cell? ⟨w.heap.size, 0, none⟩ = some (.int .u64 s0) ∧ W'.cell? ⟨w.heap.size, 1, none⟩ = some (.int .i64 p0)) := fun W' hb => by
    have h1 := block_bel hA hb
    exact ⟨by rw [cell_of_row _ _ _ _ _ _ h1]; rfl, by rw [cell_of_row _ _ _ _ _ _ h1]; rfl⟩
  have HE : Hid (∀ W' : World, Below wA.heap.size wA W' → Below w.heap.size w W') := fun W' hb => hbA.trans (hb.mono hbA.size)
  have HV0 := hid (Below.refl wA.heap.size wA)
  obtain ⟨c0, c1'⟩ := HC.out _ HV0.out
  by_cases hpp : p0 < 1 ∨ 64 < p0
  · have hN := rnew_no s0 p0 wA hpp
    have HVE := hid (HE.out _ HV0.out)
    clear hpp hA hbA hrd hU
    go_enter Try.func4, Try.ntmps4
    go_wp2_with fail
    rw [← hwA]
    refine hN.mono ?_
    rintro r w1 ⟨rfl, rfl⟩
    clear hwA
    go_wp2_with fail
    refine hN.mono ?_
    rintro r w1 ⟨rfl, rfl⟩
    go_wp2_with fail
    refine (alive16_any _).mono ?_
    rintro e wz ⟨rfl, HZ0⟩
    have HZ := hid (HVE.out.trans (HZ0.out.mono HVE.out.size))
    clear HZ0
    go_wp2
    go_ret
    exact ⟨rfl, HZ.out⟩
  · obtain ⟨e, rfl⟩ : ∃ e : Nat, (e : Int) = p0 := ⟨p0.toNat, by omega⟩
    have hN := rnew_yes s0 e wA hs (by omega)
    have HN2 := hid fun (W' : World) => rnew_yes s0 e W' hs (by omega)
    clear hpp hA hbA hrd hU
    go_enter Try.func4, Try.ntmps4
    go_wp2_with fail
    rw [← hwA]
    refine hN.mono ?_
    rintro r w1 ⟨rfl, H1⟩
    clear hwA hN c0 c1'
    obtain ⟨gs, Hgs⟩ : ∃ gs, Hid (w.heap.size = gs) := ⟨_, rfl⟩
    rw [Hgs.out] at HC ⊢
    obtain ⟨lo, Hlo⟩ : ∃ lo, Hid (wA.heap.size = lo) := ⟨_, rfl⟩
    rw [Hlo.out] at H1 HC HE HV0 ⊢
    obtain ⟨B1, HB1⟩ : ∃ B, Hid (lo + 1 = B) := ⟨_, rfl⟩
    rw [HB1.out] at H1 ⊢
    obtain ⟨c0, c1'⟩ := HC.out _ H1.out.2
    have hN2 := HN2.out w1
    clear HN2
    go_wp2_with fail
    refine hN2.mono ?_
    rintro r w2 ⟨rfl, H2⟩
    clear hN2 c0 c1'
    obtain ⟨M2, HM2⟩ : ∃ M, Hid (w1.heap.size = M) := ⟨_, rfl⟩
    rw [HM2.out] at H2 ⊢
    obtain ⟨B2, HB2⟩ : ∃ B, Hid (M2 + 1 = B) := ⟨_, rfl⟩
    rw [HB2.out] at H2 ⊢
    have HT0 : Hid (TwoR lo wA s0 e B1 lo B2 M2 (.slice none 0 0) [] (.slice none 0 0) [] w2) := by
      have e1 := H1.out.1.obj.lt
      have e2 := HB1.out
      have e3 := HM2.out
      have e4 := HB2.out
      have hb2 : Below w1.heap.size w1 w2 := by rw [HM2.out]; exact H2.out.2
      refine ⟨⟨_, H1.out.1.below hb2⟩, ⟨_, H2.out.1⟩, ?_, ?_, ?_, H1.out.2.trans (hb2.mono (by omega)), by rw [Hlo.out]; exact Nat.le_refl _⟩
      · rintro k (rfl | rfl | h1) (h2 | h2 | h2)
        all_goals first | omega | (cases h2; done) | (cases h1; done)
      · rintro k (rfl | rfl | h1)
        · omega
        · omega
        · cases h1
      · rintro k (rfl | rfl | h1)
        · omega
        · omega
        · cases h1
    clear H1 H2
    by_cases h20 : 20 < l1
    · have g1 : (20 : Int) < (l1 : Int) := by omega
      have HVE := hid (HE.out _ HT0.out.bel)
      clear HT0
      go_wp2_with fail
      refine (alive16_any _).mono ?_
      rintro e wz ⟨rfl, HZ0⟩
      have HZ := hid (HVE.out.trans (HZ0.out.mono HVE.out.size))
      clear HZ0
      go_wp2
      go_ret
      exact ⟨rfl, HZ.out⟩
    · have g1 : ¬ (20 : Int) < (l1 : Int) := by omega
      go_wp2_with fail
      go_loopw [53] (fun z W' => ∃ (k : Nat) (v1 v2 : Value) (L1 L2 : List Int), k ≤ l1 ∧ z = .int .i64 k ∧ Hid (TwoR lo wA s0 e B1 lo B2 M2 v1 L1 v2 L2 W') ∧ Hid (L1.length ≤ k ∧ L2.length ≤ k ∧ (∀ y, y ∈ L1 ↔ y ∈ zs1.take k) ∧ ∀ y, y ∈ L2 ↔ y ∈ zs1.drop (l1 - k))) (fun z _ => l1 - (intOf z).toNat)
      case atStart => exact ⟨0, _, _, _, _, by omega, rfl, HT0, ⟨by simp, by simp, by simp, fun y => by rw [List.drop_of_length_le (by rw [HL1.out]; omega)]⟩⟩
      case round =>
      obtain ⟨k, v1, v2, L1, L2, hk, rfl, HT, HM⟩ := hrel
      rename World => w3
      clear HT0
      by_cases hkl : k < l1
      · have g2 : (k : Int) < (l1 : Int) := by omega
        obtain ⟨lp, hlp⟩ : ∃ lp : Nat, (l1 : Int) - 1 = (lp : Int) := ⟨l1 - 1, by omega⟩
        obtain ⟨q, hq⟩ : ∃ q : Nat, (lp : Int) - (k : Int) = (q : Int) := ⟨l1 - 1 - k, by omega⟩
        have hwl : IntKind.i64.wrap (lp : Int) = (lp : Int) := wrap64_in (by omega) (by omega)
        have hwq : IntKind.i64.wrap (q : Int) = (q : Int) := wrap64_in (by omega) (by omega)
        have hql : q < l1 := by omega
        have g3 : (q : Int) < (l1 : Int) := by omega
        obtain ⟨b, off, rfl, hc⟩ := (HRd.out _ (HE.out _ HT.out.bel)).cell k hkl
        obtain ⟨x, Hx⟩ : ∃ x, Hid (zs1[k]? = some x) := ⟨zs1[k]'(by rw [HL1.out]; exact hkl), List.getElem?_eq_getElem _⟩
        rw [Hx.out] at hc
        have hc' : w3.cell? ⟨b, off + k, none⟩ = some (.int .u64 x) := hc
        obtain ⟨x2, Hx2⟩ : ∃ x, Hid (zs1[q]? = some x) := ⟨zs1[q]'(by rw [HL1.out]; exact hql), List.getElem?_eq_getElem _⟩
        have HX2 : Hid (∀ W' : World, Below lo wA W' → W'.cell? ⟨b, off + q, none⟩ = some (.int .u64 x2)) := fun W' hb => by
          obtain ⟨b', off', hbb, hc2⟩ := (HRd.out _ (HE.out _ hb)).cell q hql
          obtain ⟨rfl, rfl⟩ : b = b' ∧ off = off' := by simpa using hbb
          rw [Hx2.out] at hc2
          exact hc2
        obtain ⟨P1, h1⟩ := HT.out.one
        have hA1 := add_any h1 (x := x) (HU.out x (List.mem_of_getElem? Hx.out))
        obtain ⟨Z, HZ⟩ : ∃ Z, Hid (radd L1 x = Z ∧ Z.2.length ≤ k + 1 ∧ ∀ y, y ∈ Z.2 ↔ y ∈ zs1.take (k + 1)) := ⟨_, rfl, radd_le HM.out.1, fun y => by
          rw [radd_mem (by have := HM.out.1; omega), HM.out.2.2.1 y, List.take_add_one, Hx.out]
          simp
          exact or_comm⟩
        rw [HZ.out.1] at hA1
        clear hc h1
        go_wp2_with fail
        refine hA1.mono ?_
        rintro r w4 ⟨rfl, H4⟩
        obtain ⟨v1', ht4⟩ := HT.out.left H4.out
        have c4 := HX2.out _ ht4.bel
        obtain ⟨P2, h2⟩ := ht4.two
        have HT4 := hid ht4
        have hA2 := add_any h2 (x := x2) (HU.out x2 (List.mem_of_getElem? Hx2.out))
        obtain ⟨Z2, HZ2⟩ : ∃ Z, Hid (radd L2 x2 = Z ∧ Z.2.length ≤ k + 1 ∧ ∀ y, y ∈ Z.2 ↔ y ∈ zs1.drop (l1 - (k + 1))) := ⟨_, rfl, radd_le HM.out.2.1, fun y => by
          have hd : zs1.drop (l1 - (k + 1)) = x2 :: zs1.drop (l1 - k) := by
            have : l1 - (k + 1) = q := by omega
            rw [this, show l1 - k = q + 1 by omega]
            obtain ⟨hlt, hge⟩ := List.getElem?_eq_some_iff.1 Hx2.out
            rw [List.drop_eq_getElem_cons hlt, hge]
          rw [radd_mem (by have := HM.out.2.1; omega), HM.out.2.2.2 y, hd]
          simp⟩
        rw [HZ2.out.1] at hA2
        clear hA1 H4 HT ht4 h2 hc'
        go_wp2_with fail
        refine hA2.mono ?_
        rintro r w5 ⟨rfl, H5⟩
        obtain ⟨v2', ht5⟩ := HT4.out.right H5.out
        have HT5 := hid ht5
        clear hA2 H5 HT4 ht5 c4 HX2
        go_wp2_with fail
        go_round
        case rel => exact ⟨k + 1, v1', v2', Z.2, Z2.2, by omega, by go_num, HT5, ⟨HZ.out.2.1, HZ2.out.2.1, HZ.out.2.2, HZ2.out.2.2⟩⟩
        case measure => simp [intOf]; omega
      · have g2 : ¬ (k : Int) < (l1 : Int) := by omega
        obtain rfl : k = l1 := by omega
        have HPm : Hid (L1.Perm L2) := by
          obtain ⟨P1, h1⟩ := HT.out.one
          obtain ⟨P2, h2⟩ := HT.out.two
          refine (List.perm_ext_iff_of_nodup h1.nd h2.nd).2 fun y => ?_
          rw [HM.out.2.2.1 y, HM.out.2.2.2 y, List.take_of_length_le (by rw [HL1.out]; exact Nat.le_refl _), Nat.sub_self, List.drop_zero]
        obtain ⟨P1, h1⟩ := HT.out.one
        have hO := order_any h1 a2
        obtain ⟨was, HW⟩ : ∃ was, Hid (ordL s0 P1 a2 = was) := ⟨_, rfl⟩
        obtain ⟨n, Hn⟩ : ∃ n, Hid (was.length = n ∧ L1.length = n) := ⟨L1.length, by rw [← HW.out]; exact (ordL_perm h1 a2).length_eq, rfl⟩
        have hn20 : n ≤ 20 := by have := Hn.out.2; have := HM.out.1; omega
        rw [HW.out, Hn.out.1] at hO
        have HH1 := hid h1
        clear h1
        go_wp2_with fail
        refine hO.mono ?_
        rintro r w4 ⟨u, rfl, H4⟩
        clear hO
        obtain ⟨ua, ucap, rfl, hr⟩ := Reads.own (k := .u64) H4.out.1
        have HT4 := hid (HT.out.below H4.out.2)
        have HFar : Hid (∀ p : Addr, ua = some p → ¬ rnF B2 M2 v2 p.block ∧ p.block < w4.heap.size) := fun p hp => by
          subst hp
          have := World.ownsRow.lt H4.out.1 p.block rfl
          obtain ⟨P2, h2⟩ := HT.out.two
          exact ⟨fun hk => by have := h2.flt _ hk; omega, this.2⟩
        obtain ⟨P2, h2⟩ := HT4.out.two
        have HP2 : Hid (P2 = P1) := (HH1.out.pts h2 HPm.out).symm
        have hO2 := order_any h2 a2
        rw [HP2.out, HW.out, Hn.out.1] at hO2
        have HR4 := hid hr
        have HN4 : Hid (∀ W' : World, Below w4.heap.size w4 W' → ∃ P, RnAt W' B1 s0 e lo v1 L1 P) := fun W' hb => (HT4.out.below hb).one
        have HS0 : Hid (∀ W' : World, Below w4.heap.size w4 W' → WasR lo wA s0 e B2 M2 v2 L2 P1 ua n ucap was W') := fun W' hb => by
          have hq : WasR lo wA s0 e B2 M2 v2 L2 P1 ua n ucap was w4 := ⟨HP2.out ▸ h2, HR4.out, HFar.out, HT4.out.lo2, HT4.out.bel, HT4.out.lows⟩
          exact hq.below hb
        clear H4 hr HT h2 HT4 HFar
        go_wp2_with fail
        refine hO2.mono ?_
        rintro r w5 ⟨u5, rfl, H5⟩
        clear hO2
        obtain ⟨ua5, ucap5, rfl, hr5⟩ := Reads.own (k := .u64) H5.out.1
        have hSa := usame_yes _ _ _ _ _ was w5 (HR4.out.below H5.out.2) hr5 (by omega)
        have HB5 := hid H5.out.2
        clear H5 hr5 HR4
        go_wp2_with fail
        refine hSa.mono ?_
        rintro r w6 ⟨rfl, H6⟩
        have HB6 : Hid (Below w4.heap.size w4 w6) := HB5.out.trans (H6.out.mono HB5.out.size)
        obtain ⟨P6, h6⟩ := HN4.out _ HB6.out
        have hNd := nodes_any h6
        rw [Hn.out.2] at hNd
        clear hSa H6 HB5 h6
        go_wp2_with fail
        refine hNd.mono ?_
        rintro r w7 ⟨u7, rfl, H7⟩
        obtain ⟨ua7, ucap7, rfl, _⟩ := Reads.own (k := .u64) H7.out.1
        have HB7 : Hid (Below w4.heap.size w4 w7) := HB6.out.trans (H7.out.2.mono HB6.out.size)
        have HS7 := hid (HS0.out _ HB7.out)
        clear hNd H7 HB6 HB7 HN4 HS0
        go_wp2_with fail
        go_loopw [92] (fun z W' => ∃ (j : Nat) (v : Value) (L : List Int) (P : List (Int × Int)), j ≤ k ∧ z = .int .i64 j ∧ Hid (WasR lo wA s0 e B2 M2 v L P ua n ucap was W') ∧ Hid (L.length ≤ 20 ∧ ordL s0 P a2 = was)) (fun z _ => k - (intOf z).toNat)
        case atStart => exact ⟨0, _, _, _, by omega, rfl, HS7, ⟨by have := HM.out.2.1; omega, HW.out⟩⟩
        case round =>
        obtain ⟨j, v, L, P, hj, rfl, HS, HO⟩ := hrel
        rename World => w8
        clear HS7 HM HPm HH1 HW HP2
        by_cases hjk : j < k
        · have g3 : (j : Int) < (k : Int) := by omega
          obtain ⟨b, off, rfl, hc⟩ := (HRd.out _ (HE.out _ HS.out.bel)).cell j hjk
          obtain ⟨x, Hx⟩ : ∃ x, Hid (zs1[j]? = some x) := ⟨zs1[j]'(by rw [HL1.out]; exact hjk), List.getElem?_eq_getElem _⟩
          rw [Hx.out] at hc
          have hc' : w8.cell? ⟨b, off + j, none⟩ = some (.int .u64 x) := hc
          have hux := HU.out x (List.mem_of_getElem? Hx.out)
          have hD := drop_any HS.out.ring hux
          have HUx := hid hux
          clear hc hux
          by_cases hin : x ∈ L
          · have er : rdrop L x = (0, L.erase x) := if_pos hin
            rw [er] at hD
            have HIn := hid hin
            clear er hin
            go_wp2_with fail
            refine hD.mono ?_
            rintro r w9 ⟨rfl, H9⟩
            obtain ⟨v', P', hs9⟩ := HS.out.step H9.out
            have HO9 : Hid (ordL s0 P' a2 = was.filter fun y => !(y == x)) := by
              have := HS.out.ring.ord_less hs9.ring a2
              rw [HO.out.2] at this
              exact this
            have HS9 := hid hs9
            have HB0 : Hid (∃ Pz Wz vz Bz Mz, RnAt Wz Bz s0 e Mz vz L Pz ∧ ordL s0 Pz a2 = was) := ⟨P, w8, v, B2, M2, HS.out.ring, HO.out.2⟩
            clear hD H9 hs9 HS
            go_wp2_with fail
            go_loopw [15, 102] (fun y z W' => ∃ (i : Nat) (u : Value), i ≤ n ∧ y = u ∧ z = .int .i64 i ∧ Hid (W'.ownsRow w9.heap.size 22 1 u ((was.take i).filter fun y => !(y == x)).length (((was.take i).filter fun y => !(y == x)).map (Value.int .u64)) ∧ Below w9.heap.size w9 W')) (fun _ z _ => n - (intOf z).toNat)
            case atStart => exact ⟨0, .slice none 0 0, by omega, rfl, rfl, ⟨World.ownsRow_nil _ _ _ _, Below.refl _ _⟩⟩
            case round =>
            obtain ⟨i, u, hi, hu, rfl, HI⟩ := hrel
            have hu' := hu.symm
            subst hu'
            rename World => w10
            by_cases hin2 : i < n
            · have g4 : (i : Int) < (n : Int) := by omega
              obtain ⟨bw, ow, rfl, hcw⟩ := (HS9.out.below HI.out.2).row.cell i hin2
              obtain ⟨y, Hy⟩ : ∃ y, Hid (was[i]? = some y) := ⟨was[i]'(by rw [Hn.out.1]; exact hin2), List.getElem?_eq_getElem _⟩
              rw [Hy.out] at hcw
              have hcw' : w10.cell? ⟨bw, ow + i, none⟩ = some (.int .u64 y) := hcw
              have HRm2 : Hid (n ≤ ucap ∧ ucap ≤ 9223372036854775807) := ⟨HS9.out.row.room, HS9.out.row.most⟩
              obtain ⟨acc, HAc⟩ : ∃ acc, Hid ((was.take i).filter (fun y => !(y == x)) = acc ∧ acc.length ≤ 20) := ⟨_, rfl, by
                have h1 := List.length_filter_le (fun y => !(y == x)) (was.take i)
                have h2 := List.length_take_le i was
                omega⟩
              have HNx : Hid ((was.take (i + 1)).filter (fun y => !(y == x)) = if y = x then acc else acc ++ [y]) := by
                unfold Hid
                rw [List.take_add_one, Hy.out, List.filter_append, HAc.out.1]
                by_cases e : y = x
                · rw [if_pos e]; simp [e]
                · rw [if_neg e]; simp [e]
              rw [HAc.out.1] at HI
              obtain ⟨n1, Hn1⟩ : ∃ n1, Hid (acc.length = n1) := ⟨_, rfl⟩
              have hn1 : n1 ≤ 20 := by rw [← Hn1.out]; exact HAc.out.2
              rw [Hn1.out] at HI
              obtain ⟨a1, cap1, rfl, _⟩ := Reads.own (k := .u64) HI.out.1
              clear hcw
              by_cases e : y = x
              · have HE2 : Hid ((was.take (i + 1)).filter (fun y => !(y == x)) = acc) := by
                  have := HNx.out
                  rw [if_pos e] at this
                  exact this
                subst e
                go_wp2_with fail
                go_round
                case rel => exact ⟨i + 1, _, by omega, rfl, by go_num, by rw [HE2.out, Hn1.out]; exact HI⟩
                case measure => simp [intOf]; omega
              · have HE2 : Hid ((was.take (i + 1)).filter (fun y => !(y == x)) = acc ++ [y]) := by
                  have := HNx.out
                  rw [if_neg e] at this
                  exact this
                have e' : (y == x) = false := by simp [e]
                obtain ⟨i0, hi0, hz0, hz1, hz2⟩ := Go.info_parts Try.infoU
                have HNw := hid (news_one .u64 y w10 22)
                have HOa := hid (HI.out.1.alloc (.cells #[.int .u64 y] 22))
                go_wp2_with (at_builtin; refine wpList_append_own _ rfl _ _ 31 rfl w9.heap.size 22 i0 (.int .u64 0) 1 8 Try.underlying31 hi0 hz0 hz1 hz2 rfl (by decide) _ n1 _ rfl HOa.out ⟨w10.heap.size, 0, none⟩ 1 1 [.int .u64 y] rfl rfl HNw.out (one_cell .u64 y) (by unfold maxLen; omega) (by omega) (by have := HI.out.2.size; simp; omega) ?_; intro v3 w11 q1 q2 q3)
                have HF : Hid (w11.ownsRow w9.heap.size 22 1 v3 (n1 + 1) ((acc ++ [y]).map (Value.int .u64)) ∧ Below w9.heap.size w9 w11) := by
                  have q1' : w11.ownsRow w9.heap.size 22 1 v3 (n1 + 1) ((acc ++ [y]).map (Value.int .u64)) := by simpa using q1
                  exact ⟨q1', (HI.out.2.alloc HI.out.2.size _).grown q2 (by have := HI.out.2.size; simp; omega) fun j hj => (HOa.out.lt j (by first | exact hj | exact hj.symm)).1⟩
                clear q1 q2 q3 HNw HOa
                go_wp2_with fail
                go_round
                case rel => exact ⟨i + 1, v3, by omega, rfl, by go_num, by rw [HE2.out, List.length_append, Hn1.out]; exact HF⟩
                case measure => simp [intOf]; omega
            · have g4 : ¬ (i : Int) < (n : Int) := by omega
              obtain rfl : i = n := by omega
              rw [List.take_of_length_le (by rw [Hn.out.1]; exact Nat.le_refl _)] at HI
              obtain ⟨wl, HWl⟩ : ∃ wl, Hid (was.filter (fun y => !(y == x)) = wl ∧ wl.length ≤ 20) := ⟨_, rfl, by
                have h1 := List.length_filter_le (fun y => !(y == x)) was
                have := Hn.out.1
                omega⟩
              rw [HWl.out.1] at HI
              obtain ⟨n1, Hn1⟩ : ∃ n1, Hid (wl.length = n1) := ⟨_, rfl⟩
              have hn1 : n1 ≤ 20 := by rw [← Hn1.out]; exact HWl.out.2
              rw [Hn1.out] at HI
              obtain ⟨a1, cap1, rfl, hr10⟩ := Reads.own (k := .u64) HI.out.1
              have HS10 := hid (HS9.out.below HI.out.2)
              have hO := order_any HS10.out.ring a2
              rw [HO9.out, HWl.out.1, Hn1.out] at hO
              have HR10 := hid hr10
              clear HI hr10 HS9
              go_wp2_with fail
              refine hO.mono ?_
              rintro r w11 ⟨u11, rfl, H11⟩
              obtain ⟨a11, cap11, rfl, hr11⟩ := Reads.own (k := .u64) H11.out.1
              have HS11 := hid (HS10.out.below H11.out.2)
              have hSa := usame_yes _ _ _ _ _ wl w11 hr11 (HR10.out.below H11.out.2) (by omega)
              clear hO H11 hr11 HR10 HS10
              go_wp2_with fail
              refine hSa.mono ?_
              rintro r w12 ⟨rfl, H12⟩
              have HS12 := hid (HS11.out.below H12.out)
              have hAd := add_any HS12.out.ring HUx.out
              have er : radd (L.erase x) x = (0, x :: L.erase x) := by
                obtain ⟨Pz, Wz, vz, Bz, Mz, hz, _⟩ := HB0.out
                unfold radd
                rw [if_neg hz.nd.not_mem_erase, if_neg]
                have := List.length_erase_of_mem HIn.out
                have := HO.out.1
                omega
              rw [er] at hAd
              clear hSa H12 HS11 er
              go_wp2_with fail
              refine hAd.mono ?_
              rintro r w13 ⟨rfl, H13⟩
              obtain ⟨v13, P13, hs13⟩ := HS12.out.step H13.out
              have HS13 := hid hs13
              have HO13 : Hid (ordL s0 P13 a2 = was) := by
                obtain ⟨Pz, Wz, vz, Bz, Mz, hz, ho⟩ := HB0.out
                rw [← ho]
                congr 1
                exact hs13.ring.pts hz (List.perm_cons_erase HIn.out).symm
              have hO := order_any hs13.ring a2
              rw [HO13.out, Hn.out.1] at hO
              clear hAd H13 hs13 HS12
              go_wp2_with fail
              refine hO.mono ?_
              rintro r w14 ⟨u14, rfl, H14⟩
              obtain ⟨a14, cap14, rfl, hr14⟩ := Reads.own (k := .u64) H14.out.1
              have HS14 := hid (HS13.out.below H14.out.2)
              have hSa := usame_yes _ _ _ _ _ was w14 hr14 HS14.out.row (by omega)
              clear hO H14 hr14 HS13
              go_wp2_with fail
              refine hSa.mono ?_
              rintro r w15 ⟨rfl, H15⟩
              have HS15 := hid (HS14.out.below H15.out)
              have HL15 : Hid ((x :: L.erase x).length ≤ 20 ∧ ordL s0 P13 a2 = was) := ⟨by
                have h1 := (List.perm_cons_erase HIn.out).length_eq
                have := HO.out.1
                omega, HO13.out⟩
              clear hSa H15 HS14
              go_wp2_with fail
              go_round
              case rel => exact ⟨j + 1, v13, _, P13, by omega, by go_num, HS15, HL15⟩
              case measure => simp [intOf]; omega
          · have er : rdrop L x = (6, L) := if_neg hin
            rw [er] at hD
            clear er
            go_wp2_with fail
            refine hD.mono ?_
            rintro r w9 ⟨rfl, H9⟩
            obtain ⟨v', P', hs9⟩ := HS.out.step H9.out
            have HO9 : Hid (L.length ≤ 20 ∧ ordL s0 P' a2 = was) := ⟨HO.out.1, by rw [hs9.ring.pts HS.out.ring (List.Perm.refl _)]; exact HO.out.2⟩
            have HS9 := hid hs9
            clear hD H9 hs9 HS
            go_wp2_with fail
            go_round
            case rel => exact ⟨j + 1, v', L, P', by omega, by go_num, HS9, HO9⟩
            case measure => simp [intOf]; omega
        · have g3 : ¬ (j : Int) < (k : Int) := by omega
          have HVE := hid (HE.out _ HS.out.bel)
          clear HS HO
          go_wp2_with fail
          refine (alive16_any _).mono ?_
          rintro e wz ⟨rfl, HZ0⟩
          have HZ := hid (HVE.out.trans (HZ0.out.mono HVE.out.size))
          clear HZ0
          go_wp2
          go_ret
          exact ⟨rfl, HZ.out⟩

/-! ### The row's step -/
set_option maxRecDepth 1000000 in
theorem lifted (os : Os) (started : os.Started) (H : Type) (enc : TypeId × Value → H) :
    ReturnsInHanded {} Try.checked os 4 .any (Rows.ringStaysSpec.pre6 enc Try.prog Try.f4 Rows.ringStaysRow.domain false) (Rows.ringStaysSpec.post enc Try.prog Try.f4 false true false false) := by
  refine returnsInHanded_of_change (C := Try.checked) own started (by kernel_rfl) Try.func4
    (ChangeSpec.witness6 (enc := enc) (C := Try.checked) false ⟨#[], #[.agg #[.int .u64 0, .int .i64 0, .int .i64 0], .slice none 0 0, .int .u64 0], []⟩ 8 (by kernel_rfl) (by kernel_rfl) (by kernel_rfl) (by kernel_rfl)) ?_
  intro W base args ds gs before hval0 hW hcnd _
  have hval : ∀ (j : Nat) t v, Try.f4.params[j]? = some t → args[j]? = some v → Value.okWide Try.prog W .any base t v := hval0
  have hW' := hW
  obtain ⟨p, q, hA0, hV, rfl, hfz, hnd⟩ := hW
  have hA : DataW.TrodAll enc Try.prog W 0 (fun _ => true) true Try.f4.params.toList args.toList ds p := hA0
  rw [Try.params4] at hA hval
  obtain ⟨v0, vs0, d0, ds0, p0, q0, hargs, rfl, rfl, h0, r0⟩ := trodAll_cons hA
  obtain ⟨v1, vs1, d1, ds1, p1, q1, rfl, rfl, rfl, h1, r1⟩ := trodAll_cons r0
  obtain ⟨v2, vs2, d2, ds2, p2, q2, rfl, rfl, rfl, h2, r2⟩ := trodAll_cons r1
  obtain ⟨rfl, rfl, rfl⟩ := trodAll_nil r2
  obtain rfl : args = #[v0, v1, v2] := by cases args; simp_all
  obtain ⟨rfl, rfl⟩ := trodVars_none hV
  have k0 := h0
  have lt0 : ∀ x ∈ p0, x.block < W.heap.size := by obtain ⟨m, hm⟩ := k0; exact DataW.trod_lt m _ _ _ hm
  obtain ⟨s0, p0, f0, rfl, gs0⟩ := set_open (hval 0 24 v0 rfl rfl) h0
  have k1 := h1
  have lt1 : ∀ x ∈ p1, x.block < W.heap.size := by obtain ⟨m, hm⟩ := k1; exact DataW.trod_lt m _ _ _ hm
  obtain ⟨a1, l1, c1, zs1, rfl, ga1⟩ := uints_open (hval 1 31 v1 rfl rfl) h1
  have k2 := h2
  have lt2 : ∀ x ∈ p2, x.block < W.heap.size := by obtain ⟨m, hm⟩ := k2; exact DataW.trod_lt m _ _ _ hm
  obtain ⟨a2, rfl, ga2⟩ := unum_open (hval 2 22 v2 rfl rfl) h2
  clear hA0 hval0
  refine (walk s0 p0 f0 a1 l1 c1 zs1 a2 W gs0 ga1 ga2).mono fun e W' ⟨he, bel⟩ => ?_
  subst he
  exact ⟨_, rfl, _, _, _, [], _, [], hW', trodAll_mk1 (shut_bool Try.underlying4 _), (trodAll_cons_mk (Below.trod laidOut (by kernel_rfl) (of_decide_eq_true (by kernel_rfl)) k0 bel lt0) (trodAll_cons_mk (Below.trod laidOut (by kernel_rfl) (of_decide_eq_true (by kernel_rfl)) k1 bel lt1) (trodAll_cons_mk (Below.trod laidOut (by kernel_rfl) (of_decide_eq_true (by kernel_rfl)) k2 bel lt2) trodAll_mk0))), rfl, bel.frame _, fun h => by cases h⟩

theorem over : Rows.ringStaysRow.holds Try.pinned (OpenSpec.ofChange Rows.ringStaysSpec) :=
  OpenClaim.holds_of_wide 4 Try.f4 rfl rfl rfl rfl rfl rfl rfl ⟨rfl, rfl, rfl, rfl, rfl⟩ rfl rfl rfl rfl rfl (by kernel_rfl) Try.func4 (by kernel_rfl)
    (of_decide_eq_true (by kernel_rfl)) (by unfold Func.isWrapper; first | (rw [if_pos (by decide +kernel)]; kernel_rfl) | (rw [if_neg (by decide +kernel)]; exact ⟨rfl, rfl⟩))
    (fun os started H enc _ => lifted os started H enc)

/-- The statement. -/
theorem proved : Rows.RingStaysSaid := over
#print axioms proved
end Go.Proofs.Ytaiojhigomdocaa.ringStays
