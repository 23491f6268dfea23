/-
  Proved: of each entry all beginnings are there; there are no more than pages; what was put is found at once, as far as it became entries: KvTrees hands back true for whatever numbers and steps.
-/
import Derived.Test.YtdomjdfancpbbaaGreatRows
import Derived.Test.YtdomjdfancpbbaaGreatPk21
import Derived.Deep.RegionHeld3
import Derived.Deep.DeepCutAuto
import Derived.WalkKit
import Derived.ProofKit
import Derived.OpenShut
import Derived.ShutString
import Derived.ChangeOld
import Derived.Below
namespace Go.Proofs.YtdomjdfancpbbaaGreat.kvTrees
open Go.ChangeShapes Go.WideShapes Go.ChangeAt Go.RowKit
open Go.ChangeMaps (open_string shut_string)
set_option linter.unusedVariables false

theorem own : ownKnob Tryz.prog.godebug = none := by kernel_rfl
theorem laidOut : laidOutB Tryz.prog = true := by kernel_rfl

/-! ### The walk -/
set_option maxRecDepth 1000000 in
set_option maxHeartbeats 8000000 in
theorem walk (ra : Int) (rb : Int) (a2 : Option Addr) (l2 c2 : Nat) (ks2 : List Int) (hs2 : List Hd) (xs2 : List (List Int)) (w : World) (gra : 0 ≤ ra ∧ ra ≤ 255) (grb : 0 ≤ rb ∧ rb ≤ 255) (ga2 : Qss w a2 l2 c2 ks2 hs2 xs2) :
    Calls Tryz.prog 5 #[.int .u8 ra, .int .u8 rb, .slice a2 l2 c2] w fun e w' => e = .returned (.bool true) ∧ Below w.heap.size w w' := by
  obtain ⟨g0, g1⟩ := gra
  obtain ⟨g2, g3⟩ := grb
  obtain ⟨N, hN⟩ : ∃ N : Nat, ra % 20 + 1 = N := ⟨(ra % 20 + 1).toNat, by omega⟩
  obtain ⟨S, hS⟩ : ∃ S : Nat, rb % 5 + 1 = S := ⟨(rb % 5 + 1).toNat, by omega⟩
  have hN' : ra.tmod 20 + 1 = N := by rw [Int.tmod_eq_emod_of_nonneg g0]; exact hN
  have hS' : rb.tmod 5 + 1 = S := by rw [Int.tmod_eq_emod_of_nonneg g2]; exact hS
  have hNb : 1 ≤ N ∧ N ≤ 256 := by omega
  have hSb : 1 ≤ S ∧ S ≤ 16 := by omega
  have HNw := hid fun g W (h : MdAt W (some ⟨g, 0, none⟩) c14) => knew_yes (some ⟨g, 0, none⟩) c14 N S W h may14 hNb hSb
  obtain ⟨M, hM⟩ : ∃ M, min l2 40 = M := ⟨_, rfl⟩
  have HSh := hid fun W => short14_any a2 l2 c2 W ga2.room ga2.most
  rw [hM] at HSh
  have HPs := hid fun W (hb : Below w.heap.size w W) => (ga2.cut (m := M) (by omega)).below hb
  have rw1 := HPs.out w (Below.refl _ _) |>.room
  have m1 := HPs.out w (Below.refl _ _) |>.most
  have hM4 : M ≤ 40 := by omega
  clear ga2 hM
  go_enter Tryz.func5, Tryz.ntmps5
  go_wp2_with fail
  refine (small14_any w).mono ?_
  rintro e w1 ⟨gm, rfl, hg, hgl, hMd, hb⟩
  have HM := hid fun (W : World) (hb : Below w1.heap.size w1 W) => hMd.below hb
  have HX : Hid (∀ W : World, Below w1.heap.size w1 W → Below w.heap.size w W) := fun W hW => hb.trans (hW.mono hb.size)
  clear hg hgl hMd hb
  go_wp2_with fail
  refine (HNw.out _ _ (HM.out _ (Below.refl _ _))).mono ?_
  rintro e w2 ⟨gc, F0, rfl, hK, hF, hb⟩
  have HT0 : Hid (KO w1 w2 gc N S 0 [] F0) := ⟨hK, hF, hb⟩
  clear hK hF hb HNw hN hS hN' hS'
  go_wp2_with fail
  refine (HSh.out _).mono ?_
  rintro e w' ⟨rfl, rfl⟩
  clear HSh
  go_wp2_with fail
  go_loopw [12, 49] (fun v i W => ∃ (k : Nat) (tm : Int) (es : List En) (F : Nat → Prop) (av : Option Addr) (cv : Nat) (hs : List Hd) (tss : List (List Int)), k ≤ M ∧ i = .int .i64 k ∧ 0 ≤ tm ∧ tm ≤ 2 * k ∧ v = .slice av k cv ∧ k ≤ cv ∧ cv ≤ 9223372036854775807 ∧ Hid (hs.length = k) ∧ Hid (AllO W F w1.heap.size (.slice av k cv) hs tss) ∧ Hid (KO w1 W gc N S tm es F)) (fun _ i _ => M - (intOf i).toNat)
  case atStart => exact ⟨0, 0, [], F0, none, 0, [], [], Nat.zero_le _, rfl, by omega, by omega, rfl, by omega, by omega, rfl, allo_nil _ _ _, HT0⟩
  case round =>
  obtain ⟨k, tm, es, F, av, cv, hs, tss, hk, rfl, t0, t1, rfl, v1, v2, HHl, HAl, HT⟩ := hrel
  rename World => wr
  clear HT0
  have HUa := hid (HX.out _ HT.out.up)
  by_cases hlt : k < M
  · clear HX
    have HOk := hid HT.out.kv.ok
    have q1 : (k : Int) < (M : Int) := by omega
    obtain ⟨b1, o1, rfl, ck, cs⟩ := (HPs.out _ HUa.out).cell k hlt
    obtain ⟨kd0, kd1⟩ := (HPs.out _ HUa.out).wk k hlt
    have HRw := hid ((HPs.out _ HUa.out).rows k hlt)
    generalize ks2[k]?.getD 0 = kd at *
    generalize xs2[k]?.getD [] = xs at *
    generalize hd hs2 k = qh at *
    obtain ⟨ta, tl, tc⟩ := qh
    simp only at cs HRw
    obtain ⟨bx, hbx⟩ : ∃ bx, wr.heap.size = bx := ⟨_, rfl⟩
    obtain ⟨wB, hwB⟩ : ∃ wB, wB = wr.alloc (.cells #[.int .u8 kd, .slice ta tl tc] 36) := ⟨_, rfl⟩
    have hA : Below wr.heap.size wr wB := by rw [hwB]; exact (Below.refl _ _).alloc (Nat.le_refl _) _
    have HBk : Hid (wB.heap[bx]? = some (.cells #[.int .u8 kd, .slice ta tl tc] 36 (0, 0))) := by unfold Hid; rw [hwB, ← hbx]; exact heap_alloc_new wr _
    have hTx := text14_any kd ta tl tc xs wB (HRw.out.below hA)
    have HTB := hid (HT.out.below hA)
    obtain ⟨ys, hys⟩ : ∃ ys, tyL xs = ys := ⟨_, rfl⟩
    have hyl : ys.length ≤ 11 := by rw [← hys, tyL_len]; omega
    have HYb := hid (tyL_bd xs)
    have hts0 : txL xs = 0 :: ys := by rw [← hys]; rfl
    rw [hts0] at hTx
    rw [hys] at HYb
    obtain ⟨ts, hts⟩ : ∃ ts, (0 : Int) :: ys = ts := ⟨_, rfl⟩
    have HTs := hid hts
    have HTk : Hid (Tk ts) := tk_txt HYb.out hts
    have HNt : Hid (ts.length = ys.length + 1) := by unfold Hid; rw [← hts]; rfl
    rw [hts] at hTx
    obtain ⟨nt, hnt⟩ : ∃ nt, ts.length = nt := ⟨_, rfl⟩
    have HNl := hid hnt
    rw [hnt] at hTx HNt
    have hnt1 : 1 ≤ nt := by rw [HNt.out]; omega
    have hnt2 : nt ≤ 12 := by rw [HNt.out]; omega
    clear hys hts0 hts hnt hA HT HRw HPs HUa
    have HAB := hid fun (W : World) (hb : Below wr.heap.size wr W) => HAl.out.below hb
    have HbB : Hid (Below wr.heap.size wr wB) := by unfold Hid; rw [hwB]; exact (Below.refl _ _).alloc (Nat.le_refl _) _
    clear HAl
    go_wp2_with fail
    rw [← hwB]
    clear hwB ck cs
    refine hTx.mono ?_
    rintro e w2 ⟨g5, cap5, rfl, hO, hb⟩
    have HTx := hid (HTB.out.tx (W' := w2) hO)
    have HT2 := hid (HTB.out.below hb)
    have hk0 := (cells_two (block_bel HBk.out hb)).1
    have r5 := HTx.out.reads.room
    have m5 := HTx.out.reads.most
    have HA2 := hid (HAB.out _ (HbB.out.trans (hb.mono HbB.out.size)))
    clear HAB HbB hO hb HTB HBk hTx
    clear hk0
    obtain ⟨Jw, hJ1, hJ2⟩ := HOk.out.e.was hSb.1 ts
    rw [HNl.out] at hJ1
    have HJ2 : Hid (∀ i, 1 ≤ i → i * S ≤ nt → (ts.take (i * S) ∈ txs es ↔ i ≤ Jw)) := by unfold Hid; rw [← HNl.out]; exact hJ2
    have HHs := hid fun W (hb : Below w2.heap.size w2 W) q (hq : q ≤ nt) => khas_any (some ⟨g5, 0, none⟩) q cap5 (ts.take q) W (HT2.out.below hb).kv ((HTx.out.below hb).reads.cut hq) (HTk.out.take q) (by omega)
    have HV0 : Hid (Below w2.heap.size w2 w2) := Below.refl _ _
    clear hJ2
    go_wp2_with fail
    go_loopw [16, 17] (fun x y W => ∃ j q p : Nat, Hid (q = j * S ∧ p = (j + 1) * S) ∧ j ≤ Jw ∧ x = .int .i64 q ∧ y = .int .i64 p ∧ Hid (Below w2.heap.size w2 W)) (fun _ y _ => nt + 1 - (intOf y).toNat)
    case atStart => exact ⟨0, 0, S, ⟨by omega, by omega⟩, Nat.zero_le _, rfl, rfl, HV0⟩
    case round =>
    obtain ⟨j, q, p, HQP, hj, rfl, rfl, HVj⟩ := hrel
    rename World => wj
    clear HV0
    have HpS : Hid (p = q + S) := by unfold Hid; rw [HQP.out.1, HQP.out.2, Nat.add_mul]; omega
    have hqb : q ≤ nt := by rw [HQP.out.1]; exact Nat.le_trans (Nat.mul_le_mul_right S hj) hJ1
    have hpb : p ≤ nt + 16 := by have := HpS.out; omega
    have HDe : Hid (p ≤ nt → decide (0 ≤ plcZ es (ts.take p)) = decide (j < Jw)) := by
      intro hp
      have := HJ2.out (j + 1) (by omega) (by rw [← HQP.out.2]; exact hp)
      rw [← HQP.out.2, ← plcZ_mem] at this
      exact decide_eq_decide.2 this
    have HDn : Hid (¬ p ≤ nt → decide (j < Jw) = false) := fun hp => decide_eq_false fun hl => hp (by
      rw [HQP.out.2]
      exact Nat.le_trans (Nat.mul_le_mul_right S hl) hJ1)
    go_upto_region 13 with fail
    go_cut [66] (fun x wx => x = .bool (decide (j < Jw)) ∧ Hid (Below w2.heap.size w2 wx))
    case first =>
      by_cases hp : p ≤ nt
      · have hC := HHs.out wj HVj.out p hp
        rw [HDe.out hp] at hC
        have s1 : (0 : Int) ≤ (p : Int) := by omega
        have s2 : (p : Int) ≤ (cap5 : Int) := by omega
        have s3 : (p : Int) ≤ (nt : Int) := by omega
        clear HHs HDe HDn
        generalize decide (j < Jw) = bj at *
        go_wp2_with fail
        refine hC.mono ?_
        rintro e wk ⟨rfl, hb⟩
        have HVk := hid (HVj.out.trans (hb.mono HVj.out.size))
        clear hC hb
        go_wp2_with fail
        go_meet
        exact ⟨rfl, HVk⟩
      · have HF := hid (HDn.out hp)
        have s3 : ¬ (p : Int) ≤ (nt : Int) := by omega
        clear HHs HDe HDn
        go_wp2_with fail
        go_meet
        exact ⟨by rw [HF.out], HVj⟩
    case rest =>
    obtain ⟨rfl, HVc⟩ := hcut
    clear HDe HDn HVj
    by_cases hjl : j < Jw
    · rw [decide_eq_true hjl]
      have hpn : p ≤ nt := by rw [HQP.out.2]; exact Nat.le_trans (Nat.mul_le_mul_right S hjl) hJ1
      have HQ2 : Hid (p = (j + 1) * S ∧ p + S = (j + 1 + 1) * S) := ⟨HQP.out.2, by rw [Nat.add_mul (j + 1) 1 S, ← HQP.out.2]; omega⟩
      clear HHs HJ2 HOk HT2 HTx HA2 HM HYb HTs
      go_wp2_with fail
      go_round
      case rel => exact ⟨j + 1, p, p + S, HQ2, by omega, rfl, by go_num, HVc⟩
      case measure => simp [intOf]; omega
    rw [decide_eq_false hjl]
    obtain rfl : j = Jw := by omega
    have HT3 := hid (HT2.out.below HVc.out)
    have HTx3 := hid (HTx.out.below HVc.out)
    have HA3 := hid (HA2.out.below HVc.out)
    obtain ⟨o1, o2, got, hg1, hg2, hg3, hg4⟩ := put_all (pg := (N : Int)) HOk.out.e hSb.1 HOk.out.u t0 (by rw [HNl.out]; exact hJ1) (by rw [HNl.out]; exact HJ2.out)
    rw [HNl.out] at hg2
    replace hg4 := fun (h1 : got = 0) (h2 : p ≤ nt) => hg4 h1 (by rw [HNl.out, ← HQP.out.2]; exact h2)
    have HPn : Hid (q + got * S ≤ nt) := by unfold Hid; rw [HQP.out.1, ← Nat.add_mul]; exact hg2
    have HBe : Hid (((j + got) * S : Nat) = q + got * S) := by unfold Hid; rw [Nat.add_mul, ← HQP.out.1]
    rw [HBe.out] at hg3
    clear HT2 HTx HA2 HVc HHs HJ2 hjl o1 o2 hg2 HBe
    obtain ⟨A, hA1, hA2⟩ := cutI_from ⟨g5, 0, none⟩ rfl nt cap5 1 (by omega) r5 m5
    rw [show ((1 : Nat) : Int) = 1 from rfl] at hA1
    have hRt : Reads .i64 wc (some A) (nt - 1) (cap5 - 1) ys := by
      have := HTx3.out.reads.from (m := 1) (A := A) (by omega) hA2
      rw [← HTs.out] at this
      exact this
    have hSt := state14_any (some ⟨gm, 0, none⟩) (some A) (nt - 1) (cap5 - 1) ys wc (HM.out _ HT3.out.up) hRt (by omega) (fun i hi => HYb.out i (by have := HNt.out; omega))
    rw [HTs.out] at hSt
    clear hA2 hRt
    have hmn := (HM.out _ HT3.out.up).notInt
    clear HM HYb HTs
    go_wp2_with fail
    refine hSt.mono ?_
    rintro e w3 ⟨g6, F6, rfl, hS6, hF6, hb⟩
    have hap := apart_st HT3.out.kv.old hmn hF6 hb
    replace HT3 := hid (HT3.out.below hb)
    replace HTx3 := hid (HTx3.out.below hb)
    replace HA3 := hid (HA3.out.below hb)
    have hPu := kput_any (some ⟨g6, 0, none⟩) ts w3 HT3.out.kv may14 hS6 HTk.out hap (by omega)
    rw [hg1] at hPu
    generalize (putK (N : Int) (tm + 1) S ts es (ts.length / S)).1 = es5 at *
    clear hS6 hF6 hb hSt hap hmn hA1 hg1
    go_wp2_with fail
    refine hPu.mono ?_
    rintro e w4 ⟨rfl, hG⟩
    obtain ⟨F5, hT4, hF, hb⟩ := HT3.out.turn hG
    have hA : Below w4.heap.size w4 (w4.alloc (.cells #[.slice (some ⟨g5, 0, none⟩) nt cap5] 34)) := (Below.refl _ _).alloc (Nat.le_refl _) _
    have HT4 := hid (hT4.below hA)
    have HTx4 := hid ((HTx3.out.turn hF hb).below hA)
    have HA4 := hid ((HA3.out.turn hF hb HT3.out.kv.nd).below hA)
    have HCl : Hid ((w4.alloc (.cells #[.slice (some ⟨g5, 0, none⟩) nt cap5] 34)).cell? ⟨w4.heap.size, 0, none⟩ = some (hdV (some ⟨g5, 0, none⟩, nt, cap5))) := by unfold Hid; rw [cell_of_row _ _ _ _ _ _ (heap_alloc_new w4 _)]; rfl
    clear hG hT4 hF hb HT3 HTx3 HA3 hPu hA
    go_wp2_with (at_builtin; refine append_all _ rfl (.tmp 77) (.tmp 79) rfl F5 w1.heap.size _ hs tss rfl HA4.out HT4.out.up.size (by have := HHl.out; omega) k HHl.out w4.heap.size (some ⟨g5, 0, none⟩, nt, cap5) rfl HCl.out ts HTx4.out.reads HTx4.out.bln HTx4.out.off (by have := HNl.out; omega) HTk.out ?_; intro a7 c7 w7 hA7 hc7 hD7)
    have HT7 := hid (HT4.out.doc hD7)
    have HTx7 := hid (HTx4.out.doc hD7)
    have HA7 := hid hA7
    obtain ⟨c71, c72⟩ := hc7
    have hFi := kfind_any (some ⟨g5, 0, none⟩) nt cap5 ts w7 HT7.out.kv may14 HTx7.out.reads HTk.out HTx7.out.off (by omega) (by omega)
    rw [hg3] at hFi
    have HE6 := hid (useK_len (tm + 1 + 1) ts es5 es5.length)
    generalize useK (tm + 1 + 1) ts es5 es5.length = es6 at *
    have HL7 : Hid ((hs ++ [((some ⟨g5, 0, none⟩, nt, cap5) : Hd)]).length = k + 1) := by unfold Hid; rw [List.length_append, HHl.out]; rfl
    generalize hs ++ [((some ⟨g5, 0, none⟩, nt, cap5) : Hd)] = hs7 at *
    generalize tss ++ [ts] = tss7 at *
    generalize hK1 : k + 1 = K1 at *
    obtain ⟨gs, hgs⟩ : ∃ gs, got * S = gs := ⟨_, rfl⟩
    rw [hgs] at hFi HPn
    obtain ⟨bn, hbn⟩ : ∃ bn, q + gs = bn := ⟨_, rfl⟩
    rw [hbn] at hFi HPn
    have hmul : (got : Int) * (S : Int) = (gs : Int) := by rw [← hgs]; exact (Int.natCast_mul got S).symm
    have hsum : (q : Int) + (gs : Int) = (bn : Int) := by rw [← hbn]; exact (Int.natCast_add q gs).symm
    have hbl : bn ≤ nt := HPn.out
    have HLl : Hid (bn ≤ ts.length) := by unfold Hid; rw [HNl.out]; exact hbl
    clear hA7 hD7 HT4 HTx4 HA4 HCl hg3 HPn HHl
    go_wp2_with fail
    refine hFi.mono ?_
    rintro e w8 ⟨q8, rfl, hG, hS8⟩
    obtain ⟨F8, hT8, hF, hb⟩ := HT7.out.turn hG
    have HT8 := hid hT8
    have HA8 := hid (HA7.out.turn hF hb HT7.out.kv.nd)
    have hLe := fnd_len hS8 HLl.out
    have HCl := hid fun W (hb : Below w8.heap.size w8 W) => klen_any W (hT8.below hb).kv
    have hfw := hT8.kv.ok.few
    have hg5 : got = 0 → p ≤ nt → N ≤ es6.length := fun h1 h2 => by have := hg4 h1 h2; rw [HE6.out]; omega
    have HS6 : Hid (∀ (zs : List Int) (i : Nat), 1 ≤ i → (i + 1) * S ≤ zs.length → 0 ≤ plcZ es6 (zs.take ((i + 1) * S)) → 0 ≤ plcZ es6 (zs.take (i * S))) := by
      intro zs i h1 h2 h3
      rw [plcZ_mem] at h3 ⊢
      have hle : i * S ≤ (i + 1) * S := Nat.mul_le_mul_right _ (by omega)
      have := hT8.kv.ok.e.shut _ h3 i h1 (by rw [List.length_take]; omega)
      rw [List.take_take, Nat.min_eq_left hle] at this
      exact this
    have HHb := hid fun W (hb : Below w8.heap.size w8 W) a l c zs (hr : Reads .i64 W a l c zs) x (hx : x ≤ l) (hl : l ≤ 12) (hzk : Tk zs) => khas_any a x c (zs.take x) W (hT8.below hb).kv (hr.cut hx) (hzk.take x) (by omega)
    generalize es6.length = ne at *
    clear hG hS8 hT8 hF hb HT7 HTx7 HA7 hFi hg4 HE6 HLl
    have a1 : ¬ (got : Int) < 0 := by omega
    have a2 : ¬ (N : Int) < (ne : Int) := by omega
    have d1 : decide (N < ne) = false := decide_eq_false (by omega)
    have d3 : decide ((got : Int) < 0) = false := decide_eq_false (by omega)
    have HpS2 := HpS
    have hpS := HpS.out
    go_upto_region 19 with fail
    go_cut [127] (fun x wx => x = .bool false ∧ Hid (Below w8.heap.size w8 wx))
    case first =>
      clear HHb HS6 HA8 HT8
      by_cases hg0 : got = 0
      · have hgs0 : gs = 0 := by rw [← hgs, hg0]; omega
        have hbq : bn = q := by omega
        by_cases hpl : p ≤ nt
        · have hn9 := hg5 hg0 hpl
          have a3 : (q : Int) + (S : Int) ≤ (nt : Int) := by omega
          have a4 : ¬ (ne : Int) < (N : Int) := by omega
          have d2 : decide (ne < N) = false := decide_eq_false (by omega)
          clear hg5 hmul hsum hgs hbn HQP HpS HpS2 hpS
          subst hg0 hgs0 hbq
          go_wp2_with fail
          refine hLe.mono ?_
          rintro e z1 ⟨rfl, hb⟩
          have HV := hid hb
          clear hb hLe
          go_wp2_with fail
          refine (HCl.out _ HV.out).mono ?_
          rintro e z2 ⟨rfl, hb⟩
          replace HV := hid (HV.out.trans (hb.mono HV.out.size))
          clear hb
          go_wp2_with fail
          refine (HCl.out _ HV.out).mono ?_
          rintro e z3 ⟨rfl, hb⟩
          replace HV := hid (HV.out.trans (hb.mono HV.out.size))
          clear hb HCl
          go_wp2_with fail
          go_meet
          exact ⟨rfl, HV⟩
        · have a3 : ¬ (q : Int) + (S : Int) ≤ (nt : Int) := by omega
          clear hg5 hmul hsum hgs hbn HQP HpS HpS2 hpS
          subst hg0 hgs0 hbq
          go_wp2_with fail
          refine hLe.mono ?_
          rintro e z1 ⟨rfl, hb⟩
          have HV := hid hb
          clear hb hLe
          go_wp2_with fail
          refine (HCl.out _ HV.out).mono ?_
          rintro e z2 ⟨rfl, hb⟩
          replace HV := hid (HV.out.trans (hb.mono HV.out.size))
          clear hb HCl
          go_wp2_with fail
          go_meet
          exact ⟨rfl, HV⟩
      · have a3 : ((got : Int) == 0) = false := by simp; omega
        have a4 : ¬ (got : Int) = 0 := by omega
        clear hg5 hgs hbn HQP HpS HpS2 hpS
        go_wp2_with fail
        refine hLe.mono ?_
        rintro e z1 ⟨rfl, hb⟩
        have HV := hid hb
        clear hb hLe
        go_wp2_with fail
        refine (HCl.out _ HV.out).mono ?_
        rintro e z2 ⟨rfl, hb⟩
        replace HV := hid (HV.out.trans (hb.mono HV.out.size))
        clear hb HCl
        go_wp2_with fail
        go_meet
        exact ⟨rfl, HV⟩
    case rest =>
    obtain ⟨rfl, HVc⟩ := hcut
    clear hmul hsum hgs hbn hg5 a1 a2 d1 d3 hLe HCl hbl HpS2 HpS hpS HQP
    go_wp2_with fail
    go_loopw [130] (fun i W => ∃ jb : Nat, jb ≤ K1 ∧ i = .int .i64 jb ∧ Hid (Below w8.heap.size w8 W)) (fun i _ => K1 - (intOf i).toNat)
    case atStart => exact ⟨0, Nat.zero_le _, rfl, HVc⟩
    case round =>
    obtain ⟨jb, hjb, rfl, HVb⟩ := hrel
    rename World => wb
    clear HVc
    by_cases hlb : jb < K1
    · have q2 : (jb : Int) < (K1 : Int) := by omega
      have hA9 := HA8.out.below HVb.out
      obtain ⟨ge, rfl, cc⟩ := hA9.at (j := jb) (by rw [HL7.out]; exact hlb)
      have HRj := hid fun W (hb : Below w8.heap.size w8 W) => (HA8.out.below hb).rows jb (by rw [HL7.out]; exact hlb)
      have hlj := hA9.short jb (by rw [HL7.out]; exact hlb)
      have hzj := (hA9.rows jb (by rw [HL7.out]; exact hlb)).size
      have hrj := (hA9.rows jb (by rw [HL7.out]; exact hlb)).room
      have hmj := (hA9.rows jb (by rw [HL7.out]; exact hlb)).most
      have HZk := hid (hA9.tk jb (by rw [HL7.out]; exact hlb))
      clear hA9
      generalize hd hs7 jb = qh at *
      obtain ⟨ha, hl, hc⟩ := qh
      simp only at cc HRj hzj hrj hmj
      generalize tss7[jb]?.getD [] = zs at *
      have HZl := hid hzj
      rw [hzj] at hlj
      clear hzj
      go_wp2_with fail
      go_loopw [23] (fun y W => ∃ i p : Nat, Hid (p = (i + 2) * S) ∧ p ≤ hl + 32 ∧ y = .int .i64 p ∧ Hid (Below w8.heap.size w8 W)) (fun y _ => hl + 1 - (intOf y).toNat)
      case atStart => exact ⟨0, 2 * S, by unfold Hid; omega, by omega, by go_num, HVb⟩
      case round =>
      obtain ⟨i, p2, HP2, hp2, rfl, HVi⟩ := hrel
      rename World => wi
      clear HVb
      by_cases hp : p2 ≤ hl
      · have s1 : (0 : Int) ≤ (p2 : Int) := by omega
        have s2 : (p2 : Int) ≤ (hc : Int) := by omega
        have s3 : (p2 : Int) ≤ (hl : Int) := by omega
        have hC := HHb.out wi HVi.out ha hl hc zs (HRj.out _ HVi.out) p2 hp hlj HZk.out
        have HP3 : Hid (p2 + S = (i + 1 + 2) * S) := by unfold Hid; rw [HP2.out, Nat.add_mul (i + 1) 2 S, Nat.add_mul i 2 S, Nat.add_mul i 1 S]; omega
        by_cases hb1 : 0 ≤ plcZ es6 (zs.take p2)
        · obtain ⟨p3, hp3⟩ : ∃ p3, (i + 1) * S = p3 := ⟨_, rfl⟩
          have hpp : p3 + S = p2 := by rw [← hp3, HP2.out, ← Nat.succ_mul]
          have hb2 : 0 ≤ plcZ es6 (zs.take p3) := by
            rw [← hp3]
            refine HS6.out zs (i + 1) (by omega) ?_ ?_
            · rw [show i + 1 + 1 = i + 2 by omega, ← HP2.out, HZl.out]; exact hp
            · rw [show i + 1 + 1 = i + 2 by omega, ← HP2.out]; exact hb1
          have hsb : (p2 : Int) - (S : Int) = (p3 : Int) := by omega
          have s4 : (0 : Int) ≤ (p3 : Int) := by omega
          have s5 : (p3 : Int) ≤ (hc : Int) := by omega
          have HC2 := hid fun W (hb : Below w8.heap.size w8 W) => HHb.out W hb ha hl hc zs (HRj.out _ hb) p3 (by omega) hlj HZk.out
          rw [decide_eq_true hb1] at hC
          rw [decide_eq_true hb2] at HC2
          clear HHb HS6 HRj HA8 HT8 HP2 HZl hb1 hb2 hp3 hpp
          go_wp2_with fail
          refine hC.mono ?_
          rintro e z1 ⟨rfl, hb⟩
          have HV1 := hid (HVi.out.trans (hb.mono HVi.out.size))
          clear hC hb
          go_wp2_with fail
          refine (HC2.out _ HV1.out).mono ?_
          rintro e z2 ⟨rfl, hb⟩
          replace HV1 := hid (HV1.out.trans (hb.mono HV1.out.size))
          clear HC2 hb hsb
          go_wp2_with fail
          go_round
          case rel => exact ⟨i + 1, p2 + S, HP3, by omega, by go_num, HV1⟩
          case measure => simp [intOf]; omega
        · rw [decide_eq_false hb1] at hC
          clear HHb HS6 HRj HA8 HT8 HP2 HZl hb1
          go_wp2_with fail
          refine hC.mono ?_
          rintro e z1 ⟨rfl, hb⟩
          have HV1 := hid (HVi.out.trans (hb.mono HVi.out.size))
          clear hC hb
          go_wp2_with fail
          go_round
          case rel => exact ⟨i + 1, p2 + S, HP3, by omega, by go_num, HV1⟩
          case measure => simp [intOf]; omega
      · have s3 : ¬ (p2 : Int) ≤ (hl : Int) := by omega
        clear HHb HS6 HRj HA8 HT8 HP2 HZl
        go_wp2_with fail
        go_round
        case rel => exact ⟨jb + 1, by omega, by go_num, HVi⟩
        case measure => simp [intOf]; omega
    · have q2 : ¬ (jb : Int) < (K1 : Int) := by omega
      have HT9 := hid (HT8.out.below HVb.out)
      have HA9 := hid (HA8.out.below HVb.out)
      clear HHb HS6 HT8 HA8 HVb
      go_wp2_with fail
      go_round
      case rel => exact ⟨K1, tm + 1 + 1, es6, F8, a7, c7, hs7, tss7, by omega, by rw [← hK1]; go_num, by omega, by omega, rfl, c71, c72, HL7, HA9, HT9⟩
      case measure => simp [intOf]; omega
  · obtain rfl : k = M := by omega
    have HW0 := HUa
    clear HPs HT HUa HM HX HAl HHl
    go_wp2_with fail
    refine (alive14_any _).mono ?_
    rintro e wz ⟨rfl, hb⟩
    have HZ := hid (HW0.out.trans (hb.mono HW0.out.size))
    clear hb
    go_wp2
    go_ret
    exact ⟨rfl, HZ.out⟩

/-! ### The row's step -/
set_option maxRecDepth 1000000 in
theorem lifted (os : Os) (started : os.Started) (H : Type) (enc : TypeId × Value → H) :
    ReturnsInHanded {} Tryz.checked os 5 .any (Rows.kvTreesSpec.pre6 enc Tryz.prog Tryz.f5 Rows.kvTreesRow.domain false) (Rows.kvTreesSpec.post enc Tryz.prog Tryz.f5 false true false false) := by
  refine returnsInHanded_of_change (C := Tryz.checked) own started (by kernel_rfl) Tryz.func5
    (ChangeSpec.witness6 (enc := enc) (C := Tryz.checked) false ⟨#[], #[.int .u8 0, .int .u8 0, .slice none 0 0], []⟩ 8 (by kernel_rfl) (by kernel_rfl) (by kernel_rfl) (by kernel_rfl)) ?_
  intro W base args ds gs before hval0 hW hcnd _
  have hval : ∀ (j : Nat) t v, Tryz.f5.params[j]? = some t → args[j]? = some v → Value.okWide Tryz.prog W .any base t v := hval0
  have hW' := hW
  obtain ⟨p, q, hA0, hV, rfl, hfz, hnd⟩ := hW
  have hA : DataW.TrodAll enc Tryz.prog W 0 (fun _ => true) true Tryz.f5.params.toList args.toList ds p := hA0
  rw [Tryz.params5] at hA hval
  obtain ⟨v0, vs0, d0, ds0, p0, q0, hargs, rfl, rfl, h0, r0⟩ := trodAll_cons hA
  obtain ⟨v1, vs1, d1, ds1, p1, q1, rfl, rfl, rfl, h1, r1⟩ := trodAll_cons r0
  obtain ⟨v2, vs2, d2, ds2, p2, q2, rfl, rfl, rfl, h2, r2⟩ := trodAll_cons r1
  obtain ⟨rfl, rfl, rfl⟩ := trodAll_nil r2
  obtain rfl : args = #[v0, v1, v2] := by cases args; simp_all
  obtain ⟨rfl, rfl⟩ := trodVars_none hV
  have k0 := h0
  have lt0 : ∀ x ∈ p0, x.block < W.heap.size := by obtain ⟨m, hm⟩ := k0; exact DataW.trod_lt m _ _ _ hm
  obtain ⟨ra, rfl, gra⟩ := u8_open (hval 0 5 v0 rfl rfl) h0
  have k1 := h1
  have lt1 : ∀ x ∈ p1, x.block < W.heap.size := by obtain ⟨m, hm⟩ := k1; exact DataW.trod_lt m _ _ _ hm
  obtain ⟨rb, rfl, grb⟩ := u8_open (hval 1 5 v1 rfl rfl) h1
  have k2 := h2
  have lt2 : ∀ x ∈ p2, x.block < W.heap.size := by obtain ⟨m, hm⟩ := k2; exact DataW.trod_lt m _ _ _ hm
  obtain ⟨a2, l2, c2, ks2, hs2, xs2, rfl, ga2⟩ := qsteps_open (hval 2 22 v2 rfl rfl) h2
  clear hA0 hval0
  refine (walk ra rb a2 l2 c2 ks2 hs2 xs2 W gra grb ga2).mono fun e W' ⟨he, bel⟩ => ?_
  subst he
  exact ⟨_, rfl, _, _, _, [], _, [], hW', trodAll_mk1 (shut_bool Tryz.underlying4 _), (trodAll_cons_mk (Below.trod laidOut (by kernel_rfl) (of_decide_eq_true (by kernel_rfl)) k0 bel lt0) (trodAll_cons_mk (Below.trod laidOut (by kernel_rfl) (of_decide_eq_true (by kernel_rfl)) k1 bel lt1) (trodAll_cons_mk (Below.trod laidOut (by kernel_rfl) (of_decide_eq_true (by kernel_rfl)) k2 bel lt2) trodAll_mk0))), rfl, bel.frame _, fun h => by cases h⟩

theorem over : Rows.kvTreesRow.holds Tryz.pinned (OpenSpec.ofChange Rows.kvTreesSpec) :=
  OpenClaim.holds_of_wide 5 Tryz.f5 rfl rfl rfl rfl rfl rfl rfl ⟨rfl, rfl, rfl, rfl, rfl⟩ rfl rfl rfl rfl rfl (by kernel_rfl) Tryz.func5 (by kernel_rfl)
    (of_decide_eq_true (by kernel_rfl)) (by unfold Func.isWrapper; first | (rw [if_pos (by decide +kernel)]; kernel_rfl) | (rw [if_neg (by decide +kernel)]; exact ⟨rfl, rfl⟩))
    (fun os started H enc _ => lifted os started H enc)

/-- The statement. -/
theorem proved : Rows.KvTreesSaid := over
#print axioms proved
end Go.Proofs.YtdomjdfancpbbaaGreat.kvTrees
