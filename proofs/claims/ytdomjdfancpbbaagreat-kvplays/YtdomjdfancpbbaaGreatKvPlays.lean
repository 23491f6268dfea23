/-
  Proved: a cache answers every call, in every order, as the document says, and has behind each the entries that the document's has: KvPlays hands back true for whatever numbers and steps.
-/
import Derived.Test.YtdomjdfancpbbaaGreatRows
import Derived.Test.YtdomjdfancpbbaaGreatPk21
import Derived.Deep.RegionHeld3
import Derived.WalkKit
import Derived.ProofKit
import Derived.OpenShut
import Derived.ShutString
import Derived.ChangeOld
import Derived.Below
namespace Go.Proofs.YtdomjdfancpbbaaGreat.kvPlays
open Go.ChangeShapes Go.WideShapes Go.ChangeAt Go.RowKit
open Go.ChangeMaps (open_string shut_string)
set_option linter.unusedVariables false

theorem own : ownKnob Tryz.prog.godebug = none := by kernel_rfl
theorem laidOut : laidOutB Tryz.prog = true := by kernel_rfl

/-! ### The walk -/
set_option maxRecDepth 1000000 in
set_option maxHeartbeats 8000000 in
theorem walk (n0 : Int) (n1 : Int) (a2 : Option Addr) (l2 c2 : Nat) (ks2 : List Int) (hs2 : List Hd) (xs2 : List (List Int)) (w : World) (gn0 : -9223372036854775808 ≤ n0 ∧ n0 ≤ 9223372036854775807) (gn1 : -9223372036854775808 ≤ n1 ∧ n1 ≤ 9223372036854775807) (ga2 : Qss w a2 l2 c2 ks2 hs2 xs2) :
    Calls Tryz.prog 3 #[.int .i64 n0, .int .i64 n1, .slice a2 l2 c2] w fun e w' => e = .returned (.bool true) ∧ Below w.heap.size w w' := by
  by_cases hpg : n0 < 1 ∨ 256 < n0 ∨ n1 < 1 ∨ 16 < n1
  · have HNo := hid fun g W (h : MdAt W (some ⟨g, 0, none⟩) c14) => knew_no (some ⟨g, 0, none⟩) c14 n0 n1 W h may14 hpg
    rcases (by omega : n0 < 1 ∨ (1 ≤ n0 ∧ 256 < n0) ∨ (1 ≤ n0 ∧ n0 ≤ 256 ∧ n1 < 1) ∨ (1 ≤ n0 ∧ n0 ≤ 256 ∧ 1 ≤ n1 ∧ 16 < n1)) with h1 | ⟨h1, h2⟩ | ⟨h1, h2, h3⟩ | ⟨h1, h2, h3, h4⟩
    all_goals
      clear hpg ga2
      go_enter Tryz.func3, Tryz.ntmps3
      go_wp2_with fail
      refine (small14_any w).mono ?_
      rintro e w1 ⟨gm, rfl, hg, hgl, hM, hb⟩
      have HM := hid hM
      have HU := hid hb
      clear hg hgl hM hb
      go_wp2_with fail
      refine (HNo.out _ _ HM.out).mono ?_
      rintro e w2 ⟨rfl, hb⟩
      have HW0 := hid (HU.out.trans (hb.mono HU.out.size))
      clear HNo HM HU hb
      go_wp2_with fail
      refine (alive14_any _).mono ?_
      rintro e wz ⟨rfl, hb⟩
      have HZ := hid (HW0.out.trans (hb.mono HW0.out.size))
      clear hb
      go_wp2
      go_ret
      exact ⟨rfl, HZ.out⟩
  obtain ⟨N, rfl⟩ : ∃ N : Nat, n0 = N := ⟨n0.toNat, by omega⟩
  obtain ⟨S, rfl⟩ : ∃ S : Nat, n1 = S := ⟨n1.toNat, by omega⟩
  have hN : 1 ≤ N ∧ N ≤ 256 := by omega
  have hS : 1 ≤ S ∧ S ≤ 16 := by omega
  have p1 : (1 : Int) ≤ (N : Int) := by omega
  have p2 : (N : Int) ≤ 256 := by omega
  have p3 : (1 : Int) ≤ (S : Int) := by omega
  have p4 : (S : Int) ≤ 16 := by omega
  have HNw := hid fun g W (h : MdAt W (some ⟨g, 0, none⟩) c14) => knew_yes (some ⟨g, 0, none⟩) c14 N S W h may14 hN hS
  obtain ⟨M, hM⟩ : ∃ M, min l2 40 = M := ⟨_, rfl⟩
  have HSh := hid fun W => short14_any a2 l2 c2 W ga2.room ga2.most
  rw [hM] at HSh
  have HPs := hid fun W (hb : Below w.heap.size w W) => (ga2.cut (m := M) (by omega)).below hb
  have r1 := HPs.out w (Below.refl _ _) |>.room
  have m1 := HPs.out w (Below.refl _ _) |>.most
  have hM4 : M ≤ 40 := by omega
  clear ga2 hM hpg gn0 gn1
  go_enter Tryz.func3, Tryz.ntmps3
  go_wp2_with fail
  refine (small14_any w).mono ?_
  rintro e w1 ⟨gm, rfl, hg, hgl, hMd, hb⟩
  have HM := hid fun (W : World) (hb : Below w1.heap.size w1 W) => hMd.below hb
  have HX : Hid (∀ W : World, Below w1.heap.size w1 W → Below w.heap.size w W) := fun W hW => hb.trans (hW.mono hb.size)
  clear hg hgl hMd hb
  go_wp2_with fail
  refine (HNw.out _ _ (HM.out _ (Below.refl _ _))).mono ?_
  rintro e w2 ⟨gc, F0, rfl, hK, hF, hb⟩
  obtain ⟨B, hB⟩ : ∃ B, w2.heap.size = B := ⟨_, rfl⟩
  obtain ⟨w3, hw3⟩ : ∃ w3, w3 = w2.alloc (.cells #[.int .i64 (N : Int), .int .i64 (S : Int), .int .i64 0, .slice none 0 0] 32) := ⟨_, rfl⟩
  have hA : Below w2.heap.size w2 w3 := by rw [hw3]; exact (Below.refl _ _).alloc (Nat.le_refl _) _
  have hO0 : KO w1 w2 gc N S 0 [] F0 := ⟨hK, hF, hb⟩
  have HT0 : Hid (KT w1 w3 gc B N S 0 [] 0 [] F0) := ⟨hO0.below hA, by rw [hw3]; exact rcl_new hB hK.old hb.size⟩
  clear hK hF hb hA hO0 HNw
  go_wp2_with fail
  rw [← hw3]
  clear hw3 hB
  refine (HSh.out _).mono ?_
  rintro e w' ⟨rfl, rfl⟩
  clear HSh
  go_wp2_with fail
  go_loopw [66] (fun i W => ∃ (k : Nat) (tm : Int) (es : List En) (F : Nat → Prop), k ≤ M ∧ i = .int .i64 k ∧ 0 ≤ tm ∧ tm ≤ k ∧ Hid (KT w1 W gc B N S tm es tm es F)) (fun i _ => M - (intOf i).toNat)
  case atStart => exact ⟨0, 0, [], F0, Nat.zero_le _, rfl, by omega, by omega, HT0⟩
  case round =>
  obtain ⟨k, tm, es, F, hk, rfl, t0, t1, HT⟩ := hrel
  rename World => wr
  clear HT0
  have HUa := hid (HX.out _ HT.out.o.up)
  by_cases hlt : k < M
  · clear HX
    have q1 : (k : Int) < (M : Int) := by omega
    obtain ⟨b1, o1, rfl, ck, cs⟩ := (HPs.out _ HUa.out).cell k hlt
    obtain ⟨kd0, kd1⟩ := (HPs.out _ HUa.out).wk k hlt
    have HRw := hid ((HPs.out _ HUa.out).rows k hlt)
    generalize ks2[k]?.getD 0 = kd at *
    generalize xs2[k]?.getD [] = xs at *
    generalize hd hs2 k = qh at *
    obtain ⟨ta, tl, tc⟩ := qh
    simp only at cs HRw
    obtain ⟨bx, hbx⟩ : ∃ bx, wr.heap.size = bx := ⟨_, rfl⟩
    obtain ⟨wB, hwB⟩ : ∃ wB, wB = wr.alloc (.cells #[.int .u8 kd, .slice ta tl tc] 36) := ⟨_, rfl⟩
    have hA : Below wr.heap.size wr wB := by rw [hwB]; exact (Below.refl _ _).alloc (Nat.le_refl _) _
    have HBk : Hid (wB.heap[bx]? = some (.cells #[.int .u8 kd, .slice ta tl tc] 36 (0, 0))) := by unfold Hid; rw [hwB, ← hbx]; exact heap_alloc_new wr _
    have hTx := text14_any kd ta tl tc xs wB (HRw.out.below hA)
    have HTB := hid (HT.out.below hA)
    obtain ⟨ys, hys⟩ : ∃ ys, tyL xs = ys := ⟨_, rfl⟩
    have hyl : ys.length ≤ 11 := by rw [← hys, tyL_len]; omega
    have HYb := hid (tyL_bd xs)
    have hts0 : txL xs = 0 :: ys := by rw [← hys]; rfl
    rw [hts0] at hTx
    rw [hys] at HYb
    obtain ⟨ts, hts⟩ : ∃ ts, (0 : Int) :: ys = ts := ⟨_, rfl⟩
    have HTs := hid hts
    have HTk : Hid (Tk ts) := tk_txt HYb.out hts
    have HNt : Hid (ts.length = ys.length + 1) := by unfold Hid; rw [← hts]; rfl
    rw [hts] at hTx
    obtain ⟨nt, hnt⟩ : ∃ nt, ts.length = nt := ⟨_, rfl⟩
    have HNl := hid hnt
    rw [hnt] at hTx HNt
    have hnt1 : 1 ≤ nt := by rw [HNt.out]; omega
    have hnt2 : nt ≤ 12 := by rw [HNt.out]; omega
    clear hys hts0 hts hnt hA HT HRw HPs HUa
    by_cases hk1 : kd % 4 = 1
    · have hk1' : kd.tmod 4 = 1 := by rw [Int.tmod_eq_emod_of_nonneg kd0]; exact hk1
      clear HM HYb HTs
      go_wp2_with fail
      rw [← hwB]
      clear hwB ck cs
      refine hTx.mono ?_
      rintro e w2 ⟨g5, cap5, rfl, hO, hb⟩
      have HTx := hid (HTB.out.o.tx (W' := w2) hO)
      have HT2 := hid (HTB.out.below hb)
      have hk0 := (cells_two (block_bel HBk.out hb)).1
      have r5 := HTx.out.reads.room
      have m5 := HTx.out.reads.most
      clear hO hb HTB HBk hTx
      obtain ⟨bn, hbn⟩ : ∃ bn : Nat, bestK ts es es.length = bn := ⟨(bestK ts es es.length).toNat, by have := (best_in ts es).1; omega⟩
      have hbl : bn ≤ nt := by have h1 := (best_in ts es).2.1; have h2 := HNl.out; omega
      have hFi := kfind_any (some ⟨g5, 0, none⟩) nt cap5 ts w2 HT2.out.o.kv may14 HTx.out.reads HTk.out HTx.out.off (by omega) (by omega)
      have HFr := hid fun F' W (h : RcL W B N S tm es F' w1.heap.size) (hr : Reads .i64 W (some ⟨g5, 0, none⟩) nt cap5 ts) (hB : BlN W (some ⟨g5, 0, none⟩)) => rfindL (some ⟨g5, 0, none⟩) nt cap5 ts W h hr hB (by omega) t0 (by omega)
      have HSm := hid fun a7 c7 W (h1 : Reads .i64 W a7 bn c7 (ts.take bn)) (h2 : Reads .i64 W (some ⟨g5, 0, none⟩) bn cap5 (ts.take bn)) => same_yes a7 (some ⟨g5, 0, none⟩) bn c7 cap5 (ts.take bn) W h1 h2 (by omega)
      have HLl : Hid (bn ≤ ts.length) := by unfold Hid; rw [HNl.out]; exact hbl
      have s1 : (0 : Int) ≤ (bn : Int) := by omega
      have s2 : (bn : Int) ≤ (cap5 : Int) := by omega
      rw [hbn] at hFi HFr
      clear hbn
      generalize useK (tm + 1) ts es es.length = es5 at *
      go_wp2_with fail
      clear hk0
      refine hFi.mono ?_
      rintro e w4 ⟨q, rfl, hG, hS⟩
      obtain ⟨F5, hT4, hF, hb⟩ := HT2.out.turn hG
      have hD : Below w4.heap.size w4 w4.drew := (Below.refl _ _).drew
      have HT4 := hid (hT4.below hD)
      have HTx4 := hid ((HTx.out.turn hF hb).below hD)
      have HS := hid (hS.below hD)
      clear hG hS hT4 hF hb HT2 HTx hFi hD
      go_wp2_with fail
      go_region_held3 (fun W : World => True) (trivial)
        (first
          | (go_at_call 13; (with_reducible refine (HFr.out _ _ HT4.out.rc HTx4.out.reads HTx4.out.bln).mono ?_); rintro e w5 ⟨rfl, hR, hDg⟩; have HT5 := hid (HT4.out.doc hR hDg); have HTx5 := hid (HTx4.out.doc hDg); have HS5 := hid (HS.out.keep hDg.kpl hDg.kpi); clear hR hDg HT4 HTx4 HS HFr)
          | (go_at_call 14; (with_reducible refine (fnd_len HS5.out HLl.out).mono ?_); rintro e w6 ⟨rfl, hb⟩; replace HT5 := hid (HT5.out.below hb); replace HTx5 := hid (HTx5.out.below hb); replace HS5 := hid (HS5.out.below hb); clear hb)
          | (go_at_call 16; (with_reducible refine (fnd_tok HS5.out HLl.out).mono ?_); rintro e w7 ⟨a7, c7, rfl, hr7, hb⟩; replace HT5 := hid (HT5.out.below hb); replace HTx5 := hid (HTx5.out.below hb); have HR7 := hid hr7; clear hb hr7 HS5)
          | (go_at_call 15; (with_reducible refine (HSm.out _ _ _ HR7.out (HTx5.out.reads.cut hbl)).mono ?_); rintro e wT ⟨rfl, hb⟩; replace HT5 := hid (HT5.out.below hb); replace HTx5 := hid (HTx5.out.below hb); clear hb HR7 HSm)
          | fail)
      all_goals
        clear s1 s2 hbl r5 m5 HLl
        obtain ⟨av, cv, cl, l1, l2, hl3, hl4⟩ := HT5.out.rc.list
        have HL3 := hid hl3
        have HL4 := hid hl4
        have HLn := hid fun W (hb : Below wT.heap.size wT W) => klen_any W (HT5.out.o.below hb).kv
        have HHs := hid fun W (hb : Below wT.heap.size wT W) => khas_any (some ⟨g5, 0, none⟩) nt cap5 ts W (HT5.out.o.below hb).kv (HTx5.out.below hb).reads HTk.out (by omega)
        have HHr := hid fun W (hb : Below wT.heap.size wT W) => rhasL (some ⟨g5, 0, none⟩) nt cap5 ts W (HT5.out.rc.below hb) (HTx5.out.below hb).reads (by omega)
        have HPa := hid fun W (hb : Below wT.heap.size wT W) => kpages_any W (HT5.out.o.below hb).kv
        have HHe : Hid (∀ (W : World), Below wT.heap.size wT W → ∀ i, i < es5.length → ∀ (a : Option Addr) (l c : Nat), Reads .i64 W a l c (en es5 i).1 → Calls Tryz.prog 22 #[.pointer (some ⟨gc, 0, none⟩), .slice a l c] W fun e w' => e = .returned (.bool true) ∧ Below W.heap.size W w') := by
          intro W hb i hi a l c hr
          have hm : (en es5 i).1 ∈ txs es5 := mem_txs.2 ⟨i, hi, rfl⟩
          have := khas_any a l c (en es5 i).1 W (HT5.out.o.below hb).kv hr (HT5.out.o.kv.tk _ hm) (by rw [← hr.size]; exact HT5.out.o.kv.ok.short _ hm)
          rw [decide_eq_true (plcZ_mem.2 hm)] at this
          exact this
        have hfw := HT5.out.rc.few
        clear hl3 hl4
        generalize decide (0 ≤ plcZ es5 ts) = bb at *
        obtain ⟨ne, hne⟩ : ∃ ne, es5.length = ne := ⟨_, rfl⟩
        rw [hne] at cl l1 HL3 HL4 HLn HPa HHe hfw
        clear hne
        have HV : Hid (Below wT.heap.size wT wT.drew) := (Below.refl _ _).drew
        go_wp2_with fail
        clear cl
        go_region_held3 (fun W : World => W.cell? ⟨B, 3, none⟩ = some (.slice av ne cv)) (first | (with_reducible exact HL3.out _ (Below.refl _ _)) | (with_reducible exact HL3.out _ HV.out))
          (first
            | (go_at_call 21; (with_reducible refine (HLn.out _ HV.out).mono ?_); rintro e z1 ⟨rfl, hb⟩; replace HV := hid (HV.out.trans (hb.mono HV.out.size)); clear hb)
            | (go_at_call 22; (with_reducible refine (HHs.out _ HV.out).mono ?_); rintro e z2 ⟨rfl, hb⟩; replace HV := hid (HV.out.trans (hb.mono HV.out.size)); clear hb)
            | (go_at_call 23; (with_reducible refine (HHr.out _ HV.out).mono ?_); rintro e z3 ⟨rfl, hb⟩; replace HV := hid (HV.out.trans (hb.mono HV.out.size)); clear hb)
            | (go_at_call 24; (with_reducible refine (HPa.out _ HV.out).mono ?_); rintro e z4 ⟨a4, c4, rfl, r4, m4, hb⟩; replace HV := hid (HV.out.trans (hb.mono HV.out.size)); clear hb)
            | fail)
        all_goals
          have cl := HL3.out _ HV.out
          clear HL3 HLn HHs HHr HPa HTx5
          go_wp2_with fail
          go_loopw [142] (fun i W => ∃ j : Nat, j ≤ ne ∧ i = .int .i64 j ∧ Hid (Below wT.heap.size wT W)) (fun i _ => ne - (intOf i).toNat)
          case atStart => exact ⟨0, Nat.zero_le _, rfl, HV⟩
          case round =>
            obtain ⟨j, hj, rfl, HVj⟩ := hrel
            rename World => wj
            clear HV cl
            by_cases hlj : j < ne
            · have q2 : (j : Int) < (ne : Int) := by omega
              obtain ⟨ge, qe1, ue, rfl, x1, x2, hr⟩ := HL4.out wj HVj.out j hlj
              obtain ⟨ea, el, ec⟩ := qe1
              simp only at x1 hr
              have hA : Below wj.heap.size wj (wj.alloc (.cells #[.slice ea el ec, .int .i64 ue] 48)) := (Below.refl _ _).alloc (Nat.le_refl _) _
              have HV2 := hid (HVj.out.trans (hA.mono HVj.out.size))
              have hC := HHe.out _ HV2.out j hlj ea el ec (hr.below hA)
              clear hr hA HL4 HHe HVj
              go_wp2_with fail
              refine hC.mono ?_
              rintro e z5 ⟨rfl, hb⟩
              replace HV2 := hid (HV2.out.trans (hb.mono HV2.out.size))
              clear hC hb x1 x2
              go_wp2_with fail
              go_round
              case rel => exact ⟨j + 1, by omega, by go_num, HV2⟩
              case measure => simp [intOf]; omega
            · have q2 : ¬ (j : Int) < (ne : Int) := by omega
              have HTn := hid (HT5.out.below HVj.out)
              clear HL4 HHe HVj HT5
              go_wp2_with fail
              go_round
              case rel => exact ⟨k + 1, tm + 1, es5, F5, by omega, by go_num, by omega, by omega, HTn⟩
              case measure => simp [intOf]; omega
    by_cases hk2 : kd % 4 = 2
    · have hk2' : kd.tmod 4 = 2 := by rw [Int.tmod_eq_emod_of_nonneg kd0]; exact hk2
      clear HM HYb HTs
      go_wp2_with fail
      rw [← hwB]
      clear hwB ck cs
      refine hTx.mono ?_
      rintro e w2 ⟨g5, cap5, rfl, hO, hb⟩
      have HTx := hid (HTB.out.o.tx (W' := w2) hO)
      have HT2 := hid (HTB.out.below hb)
      have hk0 := (cells_two (block_bel HBk.out hb)).1
      have r5 := HTx.out.reads.room
      have m5 := HTx.out.reads.most
      clear hO hb HTB HBk hTx
      have hCl := kclear_any w2 HT2.out.o.kv
      go_wp2_with fail
      clear hk0
      refine hCl.mono ?_
      rintro e w4 ⟨rfl, hG⟩
      obtain ⟨F5, hT4, hF, hb⟩ := HT2.out.turn hG
      have HT4 := hid hT4
      have HTx4 := hid (HTx.out.turn hF hb)
      clear hG hT4 hF hb HT2 HTx hCl
      obtain ⟨hR, hDg, _, f3⟩ := HT4.out.rc.clear
      obtain ⟨av0, cv0, cl0, _⟩ := HT4.out.rc.list
      obtain ⟨wT, hwT⟩ : ∃ wT, wT = w4.setCell ⟨B, 3, none⟩ (.slice none 0 0) := ⟨_, rfl⟩
      rw [← hwT] at hR hDg
      obtain ⟨es5, hes5⟩ : ∃ es5 : List En, es5 = [] := ⟨_, rfl⟩
      have HT5 : Hid (KT w1 wT gc B N S tm es5 tm es5 F5) := by unfold Hid; rw [hes5]; exact HT4.out.doc hR hDg
      have HTx5 := hid (HTx4.out.doc hDg)
      clear hR hDg HT4 HTx4 hes5 r5 m5
      obtain ⟨av, cv, cl, l1, l2, hl3, hl4⟩ := HT5.out.rc.list
      have HL3 := hid hl3
      have HL4 := hid hl4
      have HLn := hid fun W (hb : Below wT.heap.size wT W) => klen_any W (HT5.out.o.below hb).kv
      have HHs := hid fun W (hb : Below wT.heap.size wT W) => khas_any (some ⟨g5, 0, none⟩) nt cap5 ts W (HT5.out.o.below hb).kv (HTx5.out.below hb).reads HTk.out (by omega)
      have HHr := hid fun W (hb : Below wT.heap.size wT W) => rhasL (some ⟨g5, 0, none⟩) nt cap5 ts W (HT5.out.rc.below hb) (HTx5.out.below hb).reads (by omega)
      have HPa := hid fun W (hb : Below wT.heap.size wT W) => kpages_any W (HT5.out.o.below hb).kv
      have HHe : Hid (∀ (W : World), Below wT.heap.size wT W → ∀ i, i < es5.length → ∀ (a : Option Addr) (l c : Nat), Reads .i64 W a l c (en es5 i).1 → Calls Tryz.prog 22 #[.pointer (some ⟨gc, 0, none⟩), .slice a l c] W fun e w' => e = .returned (.bool true) ∧ Below W.heap.size W w') := by
        intro W hb i hi a l c hr
        have hm : (en es5 i).1 ∈ txs es5 := mem_txs.2 ⟨i, hi, rfl⟩
        have := khas_any a l c (en es5 i).1 W (HT5.out.o.below hb).kv hr (HT5.out.o.kv.tk _ hm) (by rw [← hr.size]; exact HT5.out.o.kv.ok.short _ hm)
        rw [decide_eq_true (plcZ_mem.2 hm)] at this
        exact this
      have hfw := HT5.out.rc.few
      clear hl3 hl4
      generalize decide (0 ≤ plcZ es5 ts) = bb at *
      obtain ⟨ne, hne⟩ : ∃ ne, es5.length = ne := ⟨_, rfl⟩
      rw [hne] at cl l1 HL3 HL4 HLn HPa HHe hfw
      clear hne
      have HV : Hid (Below wT.heap.size wT wT.drew) := (Below.refl _ _).drew
      rw [hwT] at cl
      go_wp2_with fail
      rw [← hwT]
      clear hwT cl0 f3
      clear cl
      go_region_held3 (fun W : World => W.cell? ⟨B, 3, none⟩ = some (.slice av ne cv)) (first | (with_reducible exact HL3.out _ (Below.refl _ _)) | (with_reducible exact HL3.out _ HV.out))
        (first
          | (go_at_call 21; (with_reducible refine (HLn.out _ HV.out).mono ?_); rintro e z1 ⟨rfl, hb⟩; replace HV := hid (HV.out.trans (hb.mono HV.out.size)); clear hb)
          | (go_at_call 22; (with_reducible refine (HHs.out _ HV.out).mono ?_); rintro e z2 ⟨rfl, hb⟩; replace HV := hid (HV.out.trans (hb.mono HV.out.size)); clear hb)
          | (go_at_call 23; (with_reducible refine (HHr.out _ HV.out).mono ?_); rintro e z3 ⟨rfl, hb⟩; replace HV := hid (HV.out.trans (hb.mono HV.out.size)); clear hb)
          | (go_at_call 24; (with_reducible refine (HPa.out _ HV.out).mono ?_); rintro e z4 ⟨a4, c4, rfl, r4, m4, hb⟩; replace HV := hid (HV.out.trans (hb.mono HV.out.size)); clear hb)
          | fail)
      all_goals
        have cl := HL3.out _ HV.out
        clear HL3 HLn HHs HHr HPa HTx5
        go_wp2_with fail
        go_loopw [142] (fun i W => ∃ j : Nat, j ≤ ne ∧ i = .int .i64 j ∧ Hid (Below wT.heap.size wT W)) (fun i _ => ne - (intOf i).toNat)
        case atStart => exact ⟨0, Nat.zero_le _, rfl, HV⟩
        case round =>
          obtain ⟨j, hj, rfl, HVj⟩ := hrel
          rename World => wj
          clear HV cl
          by_cases hlj : j < ne
          · have q2 : (j : Int) < (ne : Int) := by omega
            obtain ⟨ge, qe1, ue, rfl, x1, x2, hr⟩ := HL4.out wj HVj.out j hlj
            obtain ⟨ea, el, ec⟩ := qe1
            simp only at x1 hr
            have hA : Below wj.heap.size wj (wj.alloc (.cells #[.slice ea el ec, .int .i64 ue] 48)) := (Below.refl _ _).alloc (Nat.le_refl _) _
            have HV2 := hid (HVj.out.trans (hA.mono HVj.out.size))
            have hC := HHe.out _ HV2.out j hlj ea el ec (hr.below hA)
            clear hr hA HL4 HHe HVj
            go_wp2_with fail
            refine hC.mono ?_
            rintro e z5 ⟨rfl, hb⟩
            replace HV2 := hid (HV2.out.trans (hb.mono HV2.out.size))
            clear hC hb x1 x2
            go_wp2_with fail
            go_round
            case rel => exact ⟨j + 1, by omega, by go_num, HV2⟩
            case measure => simp [intOf]; omega
          · have q2 : ¬ (j : Int) < (ne : Int) := by omega
            have HTn := hid (HT5.out.below HVj.out)
            clear HL4 HHe HVj HT5
            go_wp2_with fail
            go_round
            case rel => exact ⟨k + 1, tm, es5, F5, by omega, by go_num, by omega, by omega, HTn⟩
            case measure => simp [intOf]; omega
    obtain ⟨r, hr⟩ : ∃ r, kd % 4 = r := ⟨_, rfl⟩
    have hr' : kd.tmod 4 = r := by rw [Int.tmod_eq_emod_of_nonneg kd0]; exact hr
    have e1 : (r == 1) = false := by simp; omega
    have e2 : (r == 2) = false := by simp; omega
    have e3 : ¬ r = 1 := by omega
    have e4 : ¬ r = 2 := by omega
    have e5 : 0 ≤ r := by omega
    have e6 : r ≤ 3 := by omega
    clear hk1 hk2
    go_wp2_with fail
    rw [← hwB]
    clear hwB ck cs
    refine hTx.mono ?_
    rintro e w2 ⟨g5, cap5, rfl, hO, hb⟩
    have HTx := hid (HTB.out.o.tx (W' := w2) hO)
    have HT2 := hid (HTB.out.below hb)
    have hk0 := (cells_two (block_bel HBk.out hb)).1
    have r5 := HTx.out.reads.room
    have m5 := HTx.out.reads.most
    clear hO hb HTB HBk hTx
    obtain ⟨A, hA1, hA2⟩ := cutI_from ⟨g5, 0, none⟩ rfl nt cap5 1 (by omega) r5 m5
    rw [show ((1 : Nat) : Int) = 1 from rfl] at hA1
    have hRt : Reads .i64 w2 (some A) (nt - 1) (cap5 - 1) ys := by
      have := HTx.out.reads.from (m := 1) (A := A) (by omega) hA2
      rw [← HTs.out] at this
      exact this
    have hSt := state14_any (some ⟨gm, 0, none⟩) (some A) (nt - 1) (cap5 - 1) ys w2 (HM.out _ HT2.out.o.up) hRt (by omega) (fun i hi => HYb.out i (by have := HNt.out; omega))
    have hmn := (HM.out _ HT2.out.o.up).notInt
    rw [HTs.out] at hSt
    clear hA2 hRt HM HYb HTs
    go_wp2_with fail
    clear hk0
    refine hSt.mono ?_
    rintro e w3' ⟨g6, F6, rfl, hS6, hF6, hb⟩
    have hap := apart_st HT2.out.o.kv.old hmn hF6 hb
    have HT3 := hid (HT2.out.below hb)
    have HTx3 := hid (HTx.out.below hb)
    have hPu := kput_any (some ⟨g6, 0, none⟩) ts w3' HT3.out.o.kv may14 hS6 HTk.out hap (by omega)
    have HPr := hid fun F' W (h : RcL W B N S tm es F' w1.heap.size) (hF : ∀ x, F' x → x < W.heap.size) (hlo : w1.heap.size ≤ W.heap.size) (hr : Reads .i64 W (some ⟨g5, 0, none⟩) nt cap5 ts) (hB : BlN W (some ⟨g5, 0, none⟩)) => rputL (some ⟨g5, 0, none⟩) nt cap5 ts W h hF hlo hr hB (by omega) t0 (by omega) hS.1 (by omega) (by omega) HT3.out.o.kv.ok.few
    rw [HNl.out] at hPu
    generalize hpk : putK (N : Int) (tm + 1) S ts es (nt / S) = pk at hPu HPr
    obtain ⟨es5, pn, pb⟩ := pk
    simp only at hPu HPr
    clear hS6 hF6 hb HT2 HTx hSt hap hpk hmn
    go_wp2_with fail
    clear hA1
    refine hPu.mono ?_
    rintro e w4 ⟨rfl, hG⟩
    obtain ⟨F5, hT4, hF, hb⟩ := HT3.out.turn hG
    have HT4 := hid hT4
    have HTx4 := hid (HTx3.out.turn hF hb)
    clear hG hT4 hF hb HT3 HTx3 hPu
    go_wp2_with fail
    refine (HPr.out _ _ HT4.out.rc HT4.out.o.kv.old HT4.out.o.up.size HTx4.out.reads HTx4.out.bln).mono ?_
    rintro e wT ⟨rfl, hR, hDg⟩
    have HT5 := hid (HT4.out.doc hR hDg)
    have HTx5 := hid (HTx4.out.doc hDg)
    clear hR hDg HT4 HTx4 HPr hr hr' e1 e2 e3 e4 e5 e6 r5 m5
    obtain ⟨av, cv, cl, l1, l2, hl3, hl4⟩ := HT5.out.rc.list
    have HL3 := hid hl3
    have HL4 := hid hl4
    have HLn := hid fun W (hb : Below wT.heap.size wT W) => klen_any W (HT5.out.o.below hb).kv
    have HHs := hid fun W (hb : Below wT.heap.size wT W) => khas_any (some ⟨g5, 0, none⟩) nt cap5 ts W (HT5.out.o.below hb).kv (HTx5.out.below hb).reads HTk.out (by omega)
    have HHr := hid fun W (hb : Below wT.heap.size wT W) => rhasL (some ⟨g5, 0, none⟩) nt cap5 ts W (HT5.out.rc.below hb) (HTx5.out.below hb).reads (by omega)
    have HPa := hid fun W (hb : Below wT.heap.size wT W) => kpages_any W (HT5.out.o.below hb).kv
    have HHe : Hid (∀ (W : World), Below wT.heap.size wT W → ∀ i, i < es5.length → ∀ (a : Option Addr) (l c : Nat), Reads .i64 W a l c (en es5 i).1 → Calls Tryz.prog 22 #[.pointer (some ⟨gc, 0, none⟩), .slice a l c] W fun e w' => e = .returned (.bool true) ∧ Below W.heap.size W w') := by
      intro W hb i hi a l c hr
      have hm : (en es5 i).1 ∈ txs es5 := mem_txs.2 ⟨i, hi, rfl⟩
      have := khas_any a l c (en es5 i).1 W (HT5.out.o.below hb).kv hr (HT5.out.o.kv.tk _ hm) (by rw [← hr.size]; exact HT5.out.o.kv.ok.short _ hm)
      rw [decide_eq_true (plcZ_mem.2 hm)] at this
      exact this
    have hfw := HT5.out.rc.few
    clear hl3 hl4
    generalize decide (0 ≤ plcZ es5 ts) = bb at *
    obtain ⟨ne, hne⟩ : ∃ ne, es5.length = ne := ⟨_, rfl⟩
    rw [hne] at cl l1 HL3 HL4 HLn HPa HHe hfw
    clear hne
    have HV : Hid (Below wT.heap.size wT wT.drew) := (Below.refl _ _).drew
    go_wp2_with fail
    clear cl
    go_region_held3 (fun W : World => W.cell? ⟨B, 3, none⟩ = some (.slice av ne cv)) (first | (with_reducible exact HL3.out _ (Below.refl _ _)) | (with_reducible exact HL3.out _ HV.out))
      (first
        | (go_at_call 21; (with_reducible refine (HLn.out _ HV.out).mono ?_); rintro e z1 ⟨rfl, hb⟩; replace HV := hid (HV.out.trans (hb.mono HV.out.size)); clear hb)
        | (go_at_call 22; (with_reducible refine (HHs.out _ HV.out).mono ?_); rintro e z2 ⟨rfl, hb⟩; replace HV := hid (HV.out.trans (hb.mono HV.out.size)); clear hb)
        | (go_at_call 23; (with_reducible refine (HHr.out _ HV.out).mono ?_); rintro e z3 ⟨rfl, hb⟩; replace HV := hid (HV.out.trans (hb.mono HV.out.size)); clear hb)
        | (go_at_call 24; (with_reducible refine (HPa.out _ HV.out).mono ?_); rintro e z4 ⟨a4, c4, rfl, r4, m4, hb⟩; replace HV := hid (HV.out.trans (hb.mono HV.out.size)); clear hb)
        | fail)
    all_goals
      have cl := HL3.out _ HV.out
      clear HL3 HLn HHs HHr HPa HTx5
      go_wp2_with fail
      go_loopw [142] (fun i W => ∃ j : Nat, j ≤ ne ∧ i = .int .i64 j ∧ Hid (Below wT.heap.size wT W)) (fun i _ => ne - (intOf i).toNat)
      case atStart => exact ⟨0, Nat.zero_le _, rfl, HV⟩
      case round =>
        obtain ⟨j, hj, rfl, HVj⟩ := hrel
        rename World => wj
        clear HV cl
        by_cases hlj : j < ne
        · have q2 : (j : Int) < (ne : Int) := by omega
          obtain ⟨ge, qe1, ue, rfl, x1, x2, hr⟩ := HL4.out wj HVj.out j hlj
          obtain ⟨ea, el, ec⟩ := qe1
          simp only at x1 hr
          have hA : Below wj.heap.size wj (wj.alloc (.cells #[.slice ea el ec, .int .i64 ue] 48)) := (Below.refl _ _).alloc (Nat.le_refl _) _
          have HV2 := hid (HVj.out.trans (hA.mono HVj.out.size))
          have hC := HHe.out _ HV2.out j hlj ea el ec (hr.below hA)
          clear hr hA HL4 HHe HVj
          go_wp2_with fail
          refine hC.mono ?_
          rintro e z5 ⟨rfl, hb⟩
          replace HV2 := hid (HV2.out.trans (hb.mono HV2.out.size))
          clear hC hb x1 x2
          go_wp2_with fail
          go_round
          case rel => exact ⟨j + 1, by omega, by go_num, HV2⟩
          case measure => simp [intOf]; omega
        · have q2 : ¬ (j : Int) < (ne : Int) := by omega
          have HTn := hid (HT5.out.below HVj.out)
          clear HL4 HHe HVj HT5
          go_wp2_with fail
          go_round
          case rel => exact ⟨k + 1, tm + 1, es5, F5, by omega, by go_num, by omega, by omega, HTn⟩
          case measure => simp [intOf]; omega
  · obtain rfl : k = M := by omega
    have HW0 := HUa
    clear HPs HT HUa HM HX
    go_wp2_with fail
    refine (alive14_any _).mono ?_
    rintro e wz ⟨rfl, hb⟩
    have HZ := hid (HW0.out.trans (hb.mono HW0.out.size))
    clear hb
    go_wp2
    go_ret
    exact ⟨rfl, HZ.out⟩

/-! ### The row's step -/
set_option maxRecDepth 1000000 in
theorem lifted (os : Os) (started : os.Started) (H : Type) (enc : TypeId × Value → H) :
    ReturnsInHanded {} Tryz.checked os 3 .any (Rows.kvPlaysSpec.pre6 enc Tryz.prog Tryz.f3 Rows.kvPlaysRow.domain false) (Rows.kvPlaysSpec.post enc Tryz.prog Tryz.f3 false true false false) := by
  refine returnsInHanded_of_change (C := Tryz.checked) own started (by kernel_rfl) Tryz.func3
    (ChangeSpec.witness6 (enc := enc) (C := Tryz.checked) false ⟨#[], #[.int .i64 0, .int .i64 0, .slice none 0 0], []⟩ 8 (by kernel_rfl) (by kernel_rfl) (by kernel_rfl) (by kernel_rfl)) ?_
  intro W base args ds gs before hval0 hW hcnd _
  have hval : ∀ (j : Nat) t v, Tryz.f3.params[j]? = some t → args[j]? = some v → Value.okWide Tryz.prog W .any base t v := hval0
  have hW' := hW
  obtain ⟨p, q, hA0, hV, rfl, hfz, hnd⟩ := hW
  have hA : DataW.TrodAll enc Tryz.prog W 0 (fun _ => true) true Tryz.f3.params.toList args.toList ds p := hA0
  rw [Tryz.params3] at hA hval
  obtain ⟨v0, vs0, d0, ds0, p0, q0, hargs, rfl, rfl, h0, r0⟩ := trodAll_cons hA
  obtain ⟨v1, vs1, d1, ds1, p1, q1, rfl, rfl, rfl, h1, r1⟩ := trodAll_cons r0
  obtain ⟨v2, vs2, d2, ds2, p2, q2, rfl, rfl, rfl, h2, r2⟩ := trodAll_cons r1
  obtain ⟨rfl, rfl, rfl⟩ := trodAll_nil r2
  obtain rfl : args = #[v0, v1, v2] := by cases args; simp_all
  obtain ⟨rfl, rfl⟩ := trodVars_none hV
  have k0 := h0
  have lt0 : ∀ x ∈ p0, x.block < W.heap.size := by obtain ⟨m, hm⟩ := k0; exact DataW.trod_lt m _ _ _ hm
  obtain ⟨n0, rfl, gn0⟩ := pint_open (hval 0 3 v0 rfl rfl) h0
  have k1 := h1
  have lt1 : ∀ x ∈ p1, x.block < W.heap.size := by obtain ⟨m, hm⟩ := k1; exact DataW.trod_lt m _ _ _ hm
  obtain ⟨n1, rfl, gn1⟩ := pint_open (hval 1 3 v1 rfl rfl) h1
  have k2 := h2
  have lt2 : ∀ x ∈ p2, x.block < W.heap.size := by obtain ⟨m, hm⟩ := k2; exact DataW.trod_lt m _ _ _ hm
  obtain ⟨a2, l2, c2, ks2, hs2, xs2, rfl, ga2⟩ := qsteps_open (hval 2 22 v2 rfl rfl) h2
  clear hA0 hval0
  refine (walk n0 n1 a2 l2 c2 ks2 hs2 xs2 W gn0 gn1 ga2).mono fun e W' ⟨he, bel⟩ => ?_
  subst he
  exact ⟨_, rfl, _, _, _, [], _, [], hW', trodAll_mk1 (shut_bool Tryz.underlying4 _), (trodAll_cons_mk (Below.trod laidOut (by kernel_rfl) (of_decide_eq_true (by kernel_rfl)) k0 bel lt0) (trodAll_cons_mk (Below.trod laidOut (by kernel_rfl) (of_decide_eq_true (by kernel_rfl)) k1 bel lt1) (trodAll_cons_mk (Below.trod laidOut (by kernel_rfl) (of_decide_eq_true (by kernel_rfl)) k2 bel lt2) trodAll_mk0))), rfl, bel.frame _, fun h => by cases h⟩

theorem over : Rows.kvPlaysRow.holds Tryz.pinned (OpenSpec.ofChange Rows.kvPlaysSpec) :=
  OpenClaim.holds_of_wide 3 Tryz.f3 rfl rfl rfl rfl rfl rfl rfl ⟨rfl, rfl, rfl, rfl, rfl⟩ rfl rfl rfl rfl rfl (by kernel_rfl) Tryz.func3 (by kernel_rfl)
    (of_decide_eq_true (by kernel_rfl)) (by unfold Func.isWrapper; first | (rw [if_pos (by decide +kernel)]; kernel_rfl) | (rw [if_neg (by decide +kernel)]; exact ⟨rfl, rfl⟩))
    (fun os started H enc _ => lifted os started H enc)

/-- The statement. -/
theorem proved : Rows.KvPlaysSaid := over
#print axioms proved
end Go.Proofs.YtdomjdfancpbbaaGreat.kvPlays
