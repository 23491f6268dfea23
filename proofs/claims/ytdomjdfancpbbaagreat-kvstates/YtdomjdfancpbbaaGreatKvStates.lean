/-
  Proved: what is found is the state of that beginning, as if it had been gone through anew: fed with the rest the same token comes next: KvStates hands back true for whatever numbers, steps and seed.
-/
import Derived.Test.YtdomjdfancpbbaaGreatRows
import Derived.Test.YtdomjdfancpbbaaGreatPk21
import Derived.Deep.RegionHeld3
import Derived.WalkKit
import Derived.ProofKit
import Derived.OpenShut
import Derived.ShutString
import Derived.ChangeOld
import Derived.Below
namespace Go.Proofs.YtdomjdfancpbbaaGreat.kvStates
open Go.ChangeShapes Go.WideShapes Go.ChangeAt Go.RowKit
open Go.ChangeMaps (open_string shut_string)
set_option linter.unusedVariables false

theorem own : ownKnob Tryz.prog.godebug = none := by kernel_rfl
theorem laidOut : laidOutB Tryz.prog = true := by kernel_rfl

/-! ### The walk -/
set_option maxRecDepth 1000000 in
set_option maxHeartbeats 8000000 in
theorem walk (ra rb : Int) (a2 : Option Addr) (l2 c2 : Nat) (ks2 : List Int) (hs2 : List Hd) (xs2 : List (List Int)) (n3 : Int) (w : World) (gra : 0 ≤ ra ∧ ra ≤ 255 ∧ 0 ≤ rb ∧ rb ≤ 255) (ga2 : Qss w a2 l2 c2 ks2 hs2 xs2) :
    Calls Tryz.prog 4 #[.agg #[.int .u8 ra, .int .u8 rb], .slice a2 l2 c2, .int .u64 n3] w fun e w' => e = .returned (.bool true) ∧ Below w.heap.size w w' := by
  obtain ⟨g0, g1, g2, g3⟩ := gra
  obtain ⟨N, hN⟩ : ∃ N : Nat, ra % 20 + 1 = N := ⟨(ra % 20 + 1).toNat, by omega⟩
  obtain ⟨S, hS⟩ : ∃ S : Nat, rb % 5 + 1 = S := ⟨(rb % 5 + 1).toNat, by omega⟩
  have hN' : ra.tmod 20 + 1 = N := by rw [Int.tmod_eq_emod_of_nonneg g0]; exact hN
  have hS' : rb.tmod 5 + 1 = S := by rw [Int.tmod_eq_emod_of_nonneg g2]; exact hS
  have hNb : 1 ≤ N ∧ N ≤ 256 := by omega
  have hSb : 1 ≤ S ∧ S ≤ 16 := by omega
  have HNw := hid fun g W (h : MdAt W (some ⟨g, 0, none⟩) c14) => knew_yes (some ⟨g, 0, none⟩) c14 N S W h may14 hNb hSb
  obtain ⟨M, hM⟩ : ∃ M, min l2 40 = M := ⟨_, rfl⟩
  have HSh := hid fun W => short14_any a2 l2 c2 W ga2.room ga2.most
  rw [hM] at HSh
  obtain ⟨w0, hw0⟩ : ∃ w0, w0 = w.alloc (.cells #[.int .u8 ra, .int .u8 rb] 50) := ⟨_, rfl⟩
  have hA0 : Below w.heap.size w w0 := by rw [hw0]; exact (Below.refl _ _).alloc (Nat.le_refl _) _
  have HC0 : Hid (∀ W : World, Below w0.heap.size w0 W → W.cell? ⟨w.heap.size, 0, none⟩ = some (.int .u8 ra) ∧ W.cell? ⟨w.heap.size, 1, none⟩ = some (.int .u8 rb)) := fun W hb => cells_two (block_bel (by rw [hw0]; exact heap_alloc_new w _) hb)
  have HPs := hid fun W (hb : Below w.heap.size w W) => (ga2.cut (m := M) (by omega)).below hb
  have rw1 := HPs.out w (Below.refl _ _) |>.room
  have m1 := HPs.out w (Below.refl _ _) |>.most
  have hM4 : M ≤ 40 := by omega
  clear ga2 hM
  go_enter Tryz.func4, Tryz.ntmps4
  go_wp2_with fail
  rw [← hw0]
  clear hw0
  refine (small14_any w0).mono ?_
  rintro e w1 ⟨gm, rfl, hg, hgl, hMd, hb⟩
  have HM := hid fun (W : World) (hb : Below w1.heap.size w1 W) => hMd.below hb
  have HX : Hid (∀ W : World, Below w1.heap.size w1 W → Below w.heap.size w W) := fun W hW => (hA0.trans (hb.mono hA0.size)).trans (hW.mono (Nat.le_trans hA0.size hb.size))
  obtain ⟨d0, d1⟩ := HC0.out _ hb
  clear hg hgl hMd hb hA0 HC0
  go_wp2_with fail
  clear d0 d1
  refine (HNw.out _ _ (HM.out _ (Below.refl _ _))).mono ?_
  rintro e w2 ⟨gc, F0, rfl, hK, hF, hb⟩
  have HT0 : Hid (KO w1 w2 gc N S 0 [] F0) := ⟨hK, hF, hb⟩
  clear hK hF hb HNw hN hS hN' hS'
  go_wp2_with fail
  refine (HSh.out _).mono ?_
  rintro e w' ⟨rfl, rfl⟩
  clear HSh
  go_wp2_with fail
  go_loopw [48] (fun i W => ∃ (k : Nat) (tm : Int) (es : List En) (F : Nat → Prop), k ≤ M ∧ i = .int .i64 k ∧ 0 ≤ tm ∧ tm ≤ k ∧ Hid (KO w1 W gc N S tm es F)) (fun i _ => M - (intOf i).toNat)
  case atStart => exact ⟨0, 0, [], F0, Nat.zero_le _, rfl, by omega, by omega, HT0⟩
  case round =>
  obtain ⟨k, tm, es, F, hk, rfl, t0, t1, HT⟩ := hrel
  rename World => wr
  clear HT0
  have HUa := hid (HX.out _ HT.out.up)
  by_cases hlt : k < M
  · clear HX
    have q1 : (k : Int) < (M : Int) := by omega
    obtain ⟨b1, o1, rfl, ck, cs⟩ := (HPs.out _ HUa.out).cell k hlt
    obtain ⟨kd0, kd1⟩ := (HPs.out _ HUa.out).wk k hlt
    have HRw := hid ((HPs.out _ HUa.out).rows k hlt)
    generalize ks2[k]?.getD 0 = kd at *
    generalize xs2[k]?.getD [] = xs at *
    generalize hd hs2 k = qh at *
    obtain ⟨ta, tl, tc⟩ := qh
    simp only at cs HRw
    obtain ⟨bx, hbx⟩ : ∃ bx, wr.heap.size = bx := ⟨_, rfl⟩
    obtain ⟨wB, hwB⟩ : ∃ wB, wB = wr.alloc (.cells #[.int .u8 kd, .slice ta tl tc] 36) := ⟨_, rfl⟩
    have hA : Below wr.heap.size wr wB := by rw [hwB]; exact (Below.refl _ _).alloc (Nat.le_refl _) _
    have HBk : Hid (wB.heap[bx]? = some (.cells #[.int .u8 kd, .slice ta tl tc] 36 (0, 0))) := by unfold Hid; rw [hwB, ← hbx]; exact heap_alloc_new wr _
    have hTx := text14_any kd ta tl tc xs wB (HRw.out.below hA)
    have HTB := hid (HT.out.below hA)
    obtain ⟨ys, hys⟩ : ∃ ys, tyL xs = ys := ⟨_, rfl⟩
    have hyl : ys.length ≤ 11 := by rw [← hys, tyL_len]; omega
    have HYb := hid (tyL_bd xs)
    have hts0 : txL xs = 0 :: ys := by rw [← hys]; rfl
    rw [hts0] at hTx
    rw [hys] at HYb
    obtain ⟨ts, hts⟩ : ∃ ts, (0 : Int) :: ys = ts := ⟨_, rfl⟩
    have HTs := hid hts
    have HTk : Hid (Tk ts) := tk_txt HYb.out hts
    have HNt : Hid (ts.length = ys.length + 1) := by unfold Hid; rw [← hts]; rfl
    rw [hts] at hTx
    obtain ⟨nt, hnt⟩ : ∃ nt, ts.length = nt := ⟨_, rfl⟩
    have HNl := hid hnt
    rw [hnt] at hTx HNt
    have hnt1 : 1 ≤ nt := by rw [HNt.out]; omega
    have hnt2 : nt ≤ 12 := by rw [HNt.out]; omega
    clear hys hts0 hts hnt hA HT HRw HPs HUa
    by_cases hk1 : kd % 4 = 1
    · have hk1' : kd.tmod 4 = 1 := by rw [Int.tmod_eq_emod_of_nonneg kd0]; exact hk1
      go_wp2_with fail
      rw [← hwB]
      clear hwB ck cs
      refine hTx.mono ?_
      rintro e w2 ⟨g5, cap5, rfl, hO, hb⟩
      have HTx := hid (HTB.out.tx (W' := w2) hO)
      have HT2 := hid (HTB.out.below hb)
      have hk0 := (cells_two (block_bel HBk.out hb)).1
      have r5 := HTx.out.reads.room
      have m5 := HTx.out.reads.most
      clear hO hb HTB HBk hTx
      obtain ⟨bn, hbn⟩ : ∃ bn : Nat, bestK ts es es.length = bn := ⟨(bestK ts es es.length).toNat, by have := (best_in ts es).1; omega⟩
      have hbl : bn ≤ nt := by have h1 := (best_in ts es).2.1; have h2 := HNl.out; omega
      have hFi := kfind_any (some ⟨g5, 0, none⟩) nt cap5 ts w2 HT2.out.kv may14 HTx.out.reads HTk.out HTx.out.off (by omega) (by omega)
      rw [hbn] at hFi
      clear hbn
      generalize useK (tm + 1) ts es es.length = es5 at *
      go_wp2_with fail
      clear hk0
      refine hFi.mono ?_
      rintro e w4 ⟨q, rfl, hG, hS⟩
      obtain ⟨F5, hT4, hF, hb⟩ := HT2.out.turn hG
      have HT4 := hid hT4
      have HTx4 := hid (HTx.out.turn hF hb)
      clear hG hT4 hF hb HT2 HTx hFi
      have s1 : ¬ (bn : Int) < 0 := by omega
      have s2 : ¬ (nt : Int) < (bn : Int) := by omega
      have s3 : decide (nt < bn) = false := decide_eq_false (by omega)
      have s4 : decide ((bn : Int) < 0) = false := decide_eq_false (by omega)
      by_cases h0 : bn = 0
      · subst h0
        have hq : q = none := by
          rcases hS with ⟨_, h⟩ | ⟨h, _⟩
          · exact h
          · omega
        subst hq
        clear hS HM HYb HTs HTx4
        go_wp2_with fail
        go_round
        case rel => exact ⟨k + 1, tm + 1, es5, F5, by omega, by go_num, by omega, by omega, HT4⟩
        case measure => simp [intOf]; omega
      · have hSD : StD w4 q c14 (ts.take bn) := by
          rcases hS with ⟨h, _⟩ | ⟨_, h⟩
          · omega
          · rw [Int.toNat_natCast] at h; exact h
        obtain ⟨Fq, hSA⟩ := hSD.at
        have HSA := hid hSA
        obtain ⟨C, hC1, hC2⟩ := cutI_from ⟨g5, 0, none⟩ rfl nt cap5 bn hbl r5 m5
        have HRc := hid fun (W : World) (hb : Below w4.heap.size w4 W) => (HTx4.out.below hb).reads.from (m := bn) (A := C) hbl hC2
        have h0' : ((bn : Int) == 0) = false := by simp; omega
        have h0i : ¬ (bn : Int) = 0 := by omega
        have HTb : Hid (∀ i, i < nt → 0 ≤ ts[i]?.getD 0 ∧ ts[i]?.getD 0 < 4) := by
          intro i hi
          rw [← HTs.out]
          cases i with
          | zero => simp
          | succ i => simpa using HYb.out i (by have := HNt.out; omega)
        obtain ⟨K, hK⟩ : ∃ K, nt - bn = K := ⟨_, rfl⟩
        rw [hK] at hC1 HRc
        clear hS hSD hSA hC2
        have HV0 : Hid (Below w4.heap.size w4 w4) := Below.refl _ _
        obtain ⟨gq, rfl⟩ := HSA.out.ptr
        have HSA0 : Hid (StAt w4 (some ⟨gq, 0, none⟩) c14 (ts.take (bn + 0)) Fq) := HSA
        have HTk : Hid (∀ j, j < K → ts.take (bn + j) ++ [ts[bn + j]?.getD 0] = ts.take (bn + (j + 1))) := fun j hj => by rw [← Nat.add_assoc]; exact (take_snoc (by have := HNl.out; omega)).symm
        clear HSA
        go_wp2_with fail
        go_loopw [13, 86] (fun x i W => ∃ (j gx : Nat) (Fx : Nat → Prop), j ≤ K ∧ x = .pointer (some ⟨gx, 0, none⟩) ∧ i = .int .i64 j ∧ Hid (StAt W (some ⟨gx, 0, none⟩) c14 (ts.take (bn + j)) Fx) ∧ Hid (Below w4.heap.size w4 W)) (fun _ i _ => K - (intOf i).toNat)
        case atStart => exact ⟨0, gq, Fq, Nat.zero_le _, rfl, rfl, HSA0, HV0⟩
        case round =>
        obtain ⟨j, gx, Fx, hj, rfl, rfl, HSx, HVx⟩ := hrel
        rename World => wj
        clear HSA0 HV0
        by_cases hlj : j < K
        · have q2 : (j : Int) < (K : Int) := by omega
          obtain ⟨bc, oc, hce, cc⟩ := (HRc.out _ HVx.out).cell j hlj
          obtain rfl := Option.some.inj hce
          rw [List.getElem?_drop] at cc
          clear hce
          obtain ⟨tb0, tb1⟩ := HTb.out (bn + j) (by omega)
          have hFe := dfeed_yes (some ⟨gx, 0, none⟩) c14 (ts.take (bn + j)) (ts[bn + j]?.getD 0) wj HSx.out may14 tb0 tb1 (by rw [List.length_take]; have := HNl.out; omega)
          rw [HTk.out j hlj] at hFe
          clear HSx HTb HTk HRc HM HYb HTs
          generalize ts[bn + j]?.getD 0 = tt at *
          go_wp2_with fail
          refine hFe.mono ?_
          rintro e w5 ⟨g7, F7, rfl, hS7, _, hb⟩
          have HS7 := hid hS7
          have HV7 := hid (HVx.out.trans (hb.mono HVx.out.size))
          clear hFe hS7 hb cc HVx
          go_wp2_with fail
          go_round
          case rel => exact ⟨j + 1, g7, F7, by omega, rfl, by go_num, HS7, HV7⟩
          case measure => simp [intOf]; omega
        · have q2 : ¬ (j : Int) < (K : Int) := by omega
          obtain rfl : j = K := by omega
          have hts : ts.take (bn + j) = ts := List.take_of_length_le (by have := HNl.out; omega)
          rw [hts] at HSx
          have hNx := dnext_yes (some ⟨gx, 0, none⟩) c14 ts n3 wj HSx.out may14 (by have := HNl.out; omega)
          clear HTb HTk HRc hts
          go_wp2_with fail
          refine hNx.mono ?_
          rintro e w6 ⟨rfl, hb⟩
          replace HSx := hid (HSx.out.below hb)
          replace HVx := hid (HVx.out.trans (hb.mono HVx.out.size))
          clear hNx hb
          have HTx6 := hid (HTx4.out.below HVx.out)
          have HT6 := hid (HT4.out.below HVx.out)
          clear HTx4 HT4 HVx hC1
          obtain ⟨A, hA1, hA2⟩ := cutI_from ⟨g5, 0, none⟩ rfl nt cap5 1 (by omega) r5 m5
          rw [show ((1 : Nat) : Int) = 1 from rfl] at hA1
          have hRt : Reads .i64 w6 (some A) (nt - 1) (cap5 - 1) ys := by
            have := HTx6.out.reads.from (m := 1) (A := A) (by omega) hA2
            rw [← HTs.out] at this
            exact this
          have hSt := state14_any (some ⟨gm, 0, none⟩) (some A) (nt - 1) (cap5 - 1) ys w6 (HM.out _ HT6.out.up) hRt (by omega) (fun i hi => HYb.out i (by have := HNt.out; omega))
          rw [HTs.out] at hSt
          clear hA2 hRt
          clear HM HYb HTs
          go_wp2_with fail
          refine hSt.mono ?_
          rintro e w7 ⟨g8, F8, rfl, hS8, _, hb⟩
          have hNx := dnext_yes (some ⟨g8, 0, none⟩) c14 ts n3 w7 hS8 may14 (by have := HNl.out; omega)
          replace HSx := hid (HSx.out.below hb)
          replace HT6 := hid (HT6.out.below hb)
          replace HTx6 := hid (HTx6.out.below hb)
          clear hSt hb hS8 hA1
          generalize toldZ c14 ts n3 = td at *
          go_wp2_with fail
          refine hNx.mono ?_
          rintro e w8 ⟨rfl, hb⟩
          replace HSx := hid (HSx.out.below hb)
          replace HT6 := hid (HT6.out.below hb)
          replace HTx6 := hid (HTx6.out.below hb)
          have hTo := dtok_any _ _ _ _ HSx.out
          rw [HNl.out] at hTo
          clear hNx hb
          go_wp2_with fail
          refine hTo.mono ?_
          rintro e w9 ⟨a9, c9, rfl, hr9, hb⟩
          replace HT6 := hid (HT6.out.below hb)
          replace HTx6 := hid (HTx6.out.below hb)
          have hSm := same_yes a9 (some ⟨g5, 0, none⟩) nt c9 cap5 ts w9 hr9 HTx6.out.reads (by omega)
          clear hTo hr9 hb
          go_wp2_with fail
          refine hSm.mono ?_
          rintro e wA ⟨rfl, hb⟩
          replace HT6 := hid (HT6.out.below hb)
          clear hSm hb HTx6 HSx
          go_wp2_with fail
          go_round
          case rel => exact ⟨k + 1, tm + 1, es5, F5, by omega, by go_num, by omega, by omega, HT6⟩
          case measure => simp [intOf]; omega
    · obtain ⟨r, hr⟩ : ∃ r, kd % 4 = r := ⟨_, rfl⟩
      have hr' : kd.tmod 4 = r := by rw [Int.tmod_eq_emod_of_nonneg kd0]; exact hr
      have e1 : (r == 1) = false := by simp; omega
      have e1' : (r != 1) = true := by simp; omega
      have e3 : ¬ r = 1 := by omega
      have e5 : 0 ≤ r := by omega
      have e6 : r ≤ 3 := by omega
      clear hk1
      go_wp2_with fail
      rw [← hwB]
      clear hwB ck cs
      refine hTx.mono ?_
      rintro e w2 ⟨g5, cap5, rfl, hO, hb⟩
      have HTx := hid (HTB.out.tx (W' := w2) hO)
      have HT2 := hid (HTB.out.below hb)
      have hk0 := (cells_two (block_bel HBk.out hb)).1
      have r5 := HTx.out.reads.room
      have m5 := HTx.out.reads.most
      clear hO hb HTB HBk hTx
      obtain ⟨A, hA1, hA2⟩ := cutI_from ⟨g5, 0, none⟩ rfl nt cap5 1 (by omega) r5 m5
      rw [show ((1 : Nat) : Int) = 1 from rfl] at hA1
      have hRt : Reads .i64 w2 (some A) (nt - 1) (cap5 - 1) ys := by
        have := HTx.out.reads.from (m := 1) (A := A) (by omega) hA2
        rw [← HTs.out] at this
        exact this
      have hSt := state14_any (some ⟨gm, 0, none⟩) (some A) (nt - 1) (cap5 - 1) ys w2 (HM.out _ HT2.out.up) hRt (by omega) (fun i hi => HYb.out i (by have := HNt.out; omega))
      rw [HTs.out] at hSt
      clear hA2 hRt
      have hmn := (HM.out _ HT2.out.up).notInt
      clear HM HYb HTs
      go_wp2_with fail
      clear hk0
      refine hSt.mono ?_
      rintro e w3 ⟨g6, F6, rfl, hS6, hF6, hb⟩
      have hap := apart_st HT2.out.kv.old hmn hF6 hb
      have HT3 := hid (HT2.out.below hb)
      have hPu := kput_any (some ⟨g6, 0, none⟩) ts w3 HT3.out.kv may14 hS6 HTk.out hap (by omega)
      generalize hpk : putK (N : Int) (tm + 1) S ts es (ts.length / S) = pk at hPu
      obtain ⟨es5, pn, pb⟩ := pk
      simp only at hPu
      clear hS6 hF6 hb HT2 HTx hSt hap hpk hmn hA1
      go_wp2_with fail
      refine hPu.mono ?_
      rintro e w4 ⟨rfl, hG⟩
      obtain ⟨F5, hT4, hF, hb⟩ := HT3.out.turn hG
      have HT4 := hid hT4
      clear hG hT4 hF hb HT3 hPu hr hr' e1 e1' e3 e5 e6
      go_wp2_with fail
      go_round
      case rel => exact ⟨k + 1, tm + 1, es5, F5, by omega, by go_num, by omega, by omega, HT4⟩
      case measure => simp [intOf]; omega
  · obtain rfl : k = M := by omega
    have HW0 := HUa
    clear HPs HT HUa HM HX
    go_wp2_with fail
    refine (alive14_any _).mono ?_
    rintro e wz ⟨rfl, hb⟩
    have HZ := hid (HW0.out.trans (hb.mono HW0.out.size))
    clear hb
    go_wp2
    go_ret
    exact ⟨rfl, HZ.out⟩

/-! ### The row's step -/
set_option maxRecDepth 1000000 in
theorem lifted (os : Os) (started : os.Started) (H : Type) (enc : TypeId × Value → H) :
    ReturnsInHanded {} Tryz.checked os 4 .any (Rows.kvStatesSpec.pre6 enc Tryz.prog Tryz.f4 Rows.kvStatesRow.domain false) (Rows.kvStatesSpec.post enc Tryz.prog Tryz.f4 false true false false) := by
  refine returnsInHanded_of_change (C := Tryz.checked) own started (by kernel_rfl) Tryz.func4
    (ChangeSpec.witness6 (enc := enc) (C := Tryz.checked) false ⟨#[], #[.agg #[.int .u8 0, .int .u8 0], .slice none 0 0, .int .u64 0], []⟩ 8 (by kernel_rfl) (by kernel_rfl) (by kernel_rfl) (by kernel_rfl)) ?_
  intro W base args ds gs before hval0 hW hcnd _
  have hval : ∀ (j : Nat) t v, Tryz.f4.params[j]? = some t → args[j]? = some v → Value.okWide Tryz.prog W .any base t v := hval0
  have hW' := hW
  obtain ⟨p, q, hA0, hV, rfl, hfz, hnd⟩ := hW
  have hA : DataW.TrodAll enc Tryz.prog W 0 (fun _ => true) true Tryz.f4.params.toList args.toList ds p := hA0
  rw [Tryz.params4] at hA hval
  obtain ⟨v0, vs0, d0, ds0, p0, q0, hargs, rfl, rfl, h0, r0⟩ := trodAll_cons hA
  obtain ⟨v1, vs1, d1, ds1, p1, q1, rfl, rfl, rfl, h1, r1⟩ := trodAll_cons r0
  obtain ⟨v2, vs2, d2, ds2, p2, q2, rfl, rfl, rfl, h2, r2⟩ := trodAll_cons r1
  obtain ⟨rfl, rfl, rfl⟩ := trodAll_nil r2
  obtain rfl : args = #[v0, v1, v2] := by cases args; simp_all
  obtain ⟨rfl, rfl⟩ := trodVars_none hV
  have k0 := h0
  have lt0 : ∀ x ∈ p0, x.block < W.heap.size := by obtain ⟨m, hm⟩ := k0; exact DataW.trod_lt m _ _ _ hm
  obtain ⟨ra, rb, rfl, gra⟩ := u8two_open (hval 0 50 v0 rfl rfl) h0
  have k1 := h1
  have lt1 : ∀ x ∈ p1, x.block < W.heap.size := by obtain ⟨m, hm⟩ := k1; exact DataW.trod_lt m _ _ _ hm
  obtain ⟨a2, l2, c2, ks2, hs2, xs2, rfl, ga2⟩ := qsteps_open (hval 1 22 v1 rfl rfl) h1
  have k2 := h2
  have lt2 : ∀ x ∈ p2, x.block < W.heap.size := by obtain ⟨m, hm⟩ := k2; exact DataW.trod_lt m _ _ _ hm
  obtain ⟨n3, rfl⟩ := unum_open (hval 2 51 v2 rfl rfl) h2
  clear hA0 hval0
  refine (walk ra rb a2 l2 c2 ks2 hs2 xs2 n3 W gra ga2).mono fun e W' ⟨he, bel⟩ => ?_
  subst he
  exact ⟨_, rfl, _, _, _, [], _, [], hW', trodAll_mk1 (shut_bool Tryz.underlying4 _), (trodAll_cons_mk (Below.trod laidOut (by kernel_rfl) (of_decide_eq_true (by kernel_rfl)) k0 bel lt0) (trodAll_cons_mk (Below.trod laidOut (by kernel_rfl) (of_decide_eq_true (by kernel_rfl)) k1 bel lt1) (trodAll_cons_mk (Below.trod laidOut (by kernel_rfl) (of_decide_eq_true (by kernel_rfl)) k2 bel lt2) trodAll_mk0))), rfl, bel.frame _, fun h => by cases h⟩

theorem over : Rows.kvStatesRow.holds Tryz.pinned (OpenSpec.ofChange Rows.kvStatesSpec) :=
  OpenClaim.holds_of_wide 4 Tryz.f4 rfl rfl rfl rfl rfl rfl rfl ⟨rfl, rfl, rfl, rfl, rfl⟩ rfl rfl rfl rfl rfl (by kernel_rfl) Tryz.func4 (by kernel_rfl)
    (of_decide_eq_true (by kernel_rfl)) (by unfold Func.isWrapper; first | (rw [if_pos (by decide +kernel)]; kernel_rfl) | (rw [if_neg (by decide +kernel)]; exact ⟨rfl, rfl⟩))
    (fun os started H enc _ => lifted os started H enc)

/-- The statement. -/
theorem proved : Rows.KvStatesSaid := over
#print axioms proved
end Go.Proofs.YtdomjdfancpbbaaGreat.kvStates
