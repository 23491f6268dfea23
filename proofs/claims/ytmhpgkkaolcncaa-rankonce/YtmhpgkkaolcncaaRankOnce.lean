/-
  Proved: each that may be asked stands in the order once, one that may not is never told, and the order of the list plays no part, if numbers are unlike: RankOnce hands back true for whatever candidates and weights.
-/
import Derived.Test.YtmhpgkkaolcncaaRows
import Derived.Test.YtmhpgkkaolcncaaRkOnce
import Derived.Deep.RegionHeld3
import Derived.WalkKit
import Derived.ProofKit
import Derived.OpenShut
import Derived.ShutString
import Derived.ChangeOld
import Derived.Below
namespace Go.Proofs.Ytmhpgkkaolcncaa.rankOnce
open Go.ChangeShapes Go.WideShapes Go.ChangeAt Go.RowKit
open Go.ChangeMaps (open_string shut_string)
set_option linter.unusedVariables false

theorem own : ownKnob Try.prog.godebug = none := by kernel_rfl
theorem laidOut : laidOutB Try.prog = true := by kernel_rfl

/-! ### The walk -/
set_option maxRecDepth 1000000 in
set_option maxHeartbeats 8000000 in
theorem walk (a : Option Addr) (len cap : Nat) (l : List Cd) (q : Wt) (w : World) (ga : CsAt w a len cap l ∧ ∀ c ∈ l, CdIn c) (gq : WtIn q) :
    Calls Try.prog 6 #[.slice a len cap, .agg (WtV q)] w fun e w' => e = .returned (.bool true) ∧ Below w.heap.size w w' := by
  obtain ⟨hcs, hin⟩ := ga
  have hq := gq
  have hsz := hcs.size
  have hrm := hcs.room
  have hms := hcs.most
  obtain ⟨kn, ld, bd, pl⟩ := q
  obtain ⟨w1, hw1⟩ : ∃ w1, w1 = w.alloc (.cells #[.int .i64 kn, .int .i64 ld, .int .i64 bd, .int .i64 pl] 24) := ⟨_, rfl⟩
  have hb1 : Below w.heap.size w w1 := by rw [hw1]; exact (Below.refl _ _).alloc (Nat.le_refl _) _
  have hbx : w1.heap[w.heap.size]? = some (.cells #[.int .i64 kn, .int .i64 ld, .int .i64 bd, .int .i64 pl] 24 (0, 0)) := by rw [hw1]; exact heap_alloc_new w _
  have h1 := hcs.below hb1
  obtain ⟨gw, hgw⟩ : ∃ gw, w.heap.size = gw := ⟨_, rfl⟩
  rw [hgw] at hbx
  have HW : Hid (∀ W' : World, Below w1.heap.size w1 W' → W'.cell? ⟨gw, 0, none⟩ = some (.int .i64 kn) ∧ W'.cell? ⟨gw, 1, none⟩ = some (.int .i64 ld) ∧ W'.cell? ⟨gw, 2, none⟩ = some (.int .i64 bd) ∧ W'.cell? ⟨gw, 3, none⟩ = some (.int .i64 pl)) := fun W' hb => by
    have e := block_bel hbx hb
    refine ⟨?_, ?_, ?_, ?_⟩ <;> (rw [cell_of_row _ _ _ _ _ _ e]; rfl)
  have HC : Hid (∀ W' : World, Below w1.heap.size w1 W' → CsAt W' a len cap l) := fun W' hb => h1.below hb
  have HX : Hid (∀ W' : World, Below w1.heap.size w1 W' → Below w.heap.size w W') := fun W' hb => hb1.trans (hb.mono hb1.size)
  have HX0 : Hid (Below w.heap.size w w1) := hb1
  have HQ := hid hq
  have HI := hid hin
  have HL := hid hsz
  have HTW := hid fun W : World => theirW_any ⟨kn, ld, bd, pl⟩ W
  unfold WtV at HTW
  simp only at HTW
  have HTh := hid fun (W : World) (hb : Below w1.heap.size w1 W) (hl : len ≤ 60) => theirs_any a len cap l W (HC.out W hb) hl
  change Calls Try.prog 6 #[.slice a len cap, .agg #[.int .i64 kn, .int .i64 ld, .int .i64 bd, .int .i64 pl]] w _
  clear h1 hb1 hbx hcs hin hq gq hsz
  by_cases hl : len ≤ 60
  · have hFar := far19_no a len cap w1 hl hrm hms
    have HOr := hid fun (a' : Option Addr) (cap' : Nat) (W : World) (h : CsAt W a' len cap' l) => order_any a' len cap' l ⟨kn, ld, bd, pl⟩ W h hl HI.out HQ.out
    have HOr2 := hid fun (a' : Option Addr) (cap' : Nat) (W : World) (h : CsAt W a' len cap' l.reverse) => order_any a' len cap' l.reverse ⟨kn, ld, bd, pl⟩ W h hl (fun c hc => HI.out c (List.mem_reverse.1 hc)) HQ.out
    unfold WtV at HOr HOr2
    simp only at HOr HOr2
    obtain ⟨q, hqq⟩ : ∃ q : Wt, q = ⟨kn, ld, bd, pl⟩ := ⟨_, rfl⟩
    rw [← hqq] at HOr HOr2 HQ
    clear hqq
    have HBL : Hid (twF l = false → ordC q l.reverse = ordC q l) := fun h => ordC_back (by simpa [twF] using h)
    have hbl := ordC_back_len q l
    obtain ⟨S, HS⟩ : ∃ S, Hid (ordC q l = S) := ⟨_, rfl⟩
    obtain ⟨S2, HS2⟩ : ∃ S2, Hid (ordC q l.reverse = S2) := ⟨_, rfl⟩
    obtain ⟨n, HN⟩ : ∃ n, Hid (S.length = n) := ⟨_, rfl⟩
    rw [HS.out, HS2.out] at hbl HBL
    rw [HS.out] at HOr
    rw [HS2.out] at HOr2
    rw [HN.out] at hbl HOr
    rw [hbl] at HOr2
    have hn60 : n ≤ 60 := by
      have h1 := ordC_len q l
      rw [HS.out, HN.out, HL.out] at h1
      omega
    obtain ⟨os, Hos⟩ : ∃ os, Hid (S.map Cd.rep = os) := ⟨_, rfl⟩
    have HU : Hid (∀ x ∈ os, isU x) := fun x hx => ord_isU (q := q) HI.out (by rw [HS.out, Hos.out]; exact hx)
    have HOp : Hid (∀ x, x ∈ os ↔ x ∈ opnL l) := fun x => by rw [← ord_open (q := q), HS.out, Hos.out]
    have HNd : Hid os.Nodup := by have := ordC_nodup q l; rw [HS.out, Hos.out] at this; exact this
    have Hol : Hid (os.length = n) := by rw [← Hos.out, Hid, List.length_map, HN.out]
    obtain ⟨os2, Hos2⟩ : ∃ os, Hid (S2.map Cd.rep = os) := ⟨_, rfl⟩
    have HB2 : Hid (twF l = false → os2 = os) := fun h => by rw [← Hos2.out, ← Hos.out, HBL.out h]
    rw [Hos.out] at HOr
    rw [Hos2.out] at HOr2
    clear hbl HS HS2 HN Hos Hos2 HBL
    obtain ⟨j0, ji, jz0, jz1, jz2⟩ := Go.info_parts Try.infoCd
    have HS0 := hid (OnS.new w1 l)
    obtain ⟨Mo, hMo⟩ : ∃ Mo, w1.heap.size = Mo := ⟨_, rfl⟩
    rw [hMo] at HS0
    obtain ⟨wM1, hwM1⟩ : ∃ wM, wM = w1.alloc (.map #[] 0) := ⟨_, rfl⟩
    rw [← hwM1] at HS0
    obtain ⟨wM, hwM⟩ : ∃ wM, wM = wM1.alloc (.map #[] 0) := ⟨_, rfl⟩
    rw [← hwM] at HS0
    have hmk1 : (Instr.makeMap 47 none).run Try.prog w1 = .ok (.map (some Mo)) wM1 := by rw [hwM1, ← hMo]; rfl
    have hmk2 : (Instr.makeMap 47 none).run Try.prog wM1 = .ok (.map (some (Mo + 1))) wM := by
      have h1 : wM1.heap.size = Mo + 1 := by rw [hwM1, World.size_alloc, hMo]
      rw [hwM, ← h1]; rfl
    clear hwM hwM1 hMo
    go_enter Try.func6, Try.ntmps6
    go_wp2_with fail
    rw [← hw1]
    clear hw1 hgw
    refine hFar.mono ?_
    rintro e wf ⟨rfl, rfl⟩
    clear hFar
    go_wp2_with fail
    clear hmk1 hmk2
    go_loopw [6, 8, 26] (fun t o i W' => ∃ (k : Nat) (v : Value), k ≤ len ∧ i = .int .i64 k ∧ t = .bool (twF (l.take k)) ∧ o = v ∧ Hid (OnS wf l Mo (Mo + 1) k v W')) (fun _ _ i _ => len - (intOf i).toNat)
    case atStart => exact ⟨0, _, Nat.zero_le _, rfl, by first | rfl | (simp [twF]), rfl, HS0.out⟩
    case round =>
    clear HS0
    obtain ⟨k, v, hk, rfl, rfl, hv, HR⟩ := hrel
    have hv' := hv.symm
    subst hv'
    rename World => wr
    by_cases hkn : k < len
    · have g1 : (k : Int) < (len : Int) := by omega
      have hkl : k < l.length := by rw [HL.out]; exact hkn
      obtain ⟨b0, off, rfl, hc⟩ := (HC.out wr HR.out.bel).cell k hkn
      obtain ⟨n1, hn1⟩ : ∃ n1 : Nat, (len : Int) - 1 = (n1 : Int) := ⟨len - 1, by omega⟩
      obtain ⟨kr, hkr⟩ : ∃ kr : Nat, (n1 : Int) - (k : Int) = (kr : Int) := ⟨len - 1 - k, by omega⟩
      have hkr2 : l.length - 1 - k = kr := by rw [HL.out]; omega
      have hkrl : kr < len := by omega
      have g3 : (kr : Int) < (len : Int) := by omega
      have hci := HI.out (ck l k) (ck_mem hkl)
      have HTw := hid (twF_snoc (l.take k) (ck l k))
      have hsn : l.take (k + 1) = l.take k ++ [ck l k] := by rw [List.take_add_one, ck_get hkl]; rfl
      rw [← hsn] at HTw
      obtain ⟨w7, hw7⟩ : ∃ w7, w7 = wr.alloc (.cells #[.int .u64 (ck l k).rep, .int .i64 (ck l k).load, .int .i64 (ck l k).known, .bool (ck l k).bnd, .int .i64 (ck l k).place, .bool (ck l k).opn] 36) := ⟨_, rfl⟩
      have hb7 : Below wr.heap.size wr w7 := by rw [hw7]; exact (Below.refl _ _).alloc (Nat.le_refl _) _
      have hx7 : w7.heap[wr.heap.size]? = some (.cells #[.int .u64 (ck l k).rep, .int .i64 (ck l k).load, .int .i64 (ck l k).known, .bool (ck l k).bnd, .int .i64 (ck l k).place, .bool (ck l k).opn] 36 (0, 0)) := by rw [hw7]; exact heap_alloc_new wr _
      have hR7 := HR.out.below hb7
      obtain ⟨W8, W9, e8, e8o, e9, o9, m9, r9, b9, hkp⟩ := hR7.turn hkl (by omega) hci.rep
      have lm := hR7.mt.look (x := (ck l k).rep) hci.rep
      obtain ⟨hx8, hx9⟩ := hkp _ _ hx7 (by have := HR.out.op.lt; omega) (by have := HR.out.mt.lt; omega)
      have k0 : W8.cell? ⟨wr.heap.size, 0, none⟩ = some (.int .u64 (ck l k).rep) := by rw [cell_of_row _ _ _ _ _ _ hx8]; rfl
      have k5 : W8.cell? ⟨wr.heap.size, 5, none⟩ = some (.bool (ck l k).opn) := by rw [cell_of_row _ _ _ _ _ _ hx8]; rfl
      obtain ⟨b0', off', ha', hc9⟩ := (HC.out W9 b9).cell kr hkrl
      obtain ⟨rfl, rfl⟩ : b0 = b0' ∧ off = off' := by cases ha'; exact ⟨rfl, rfl⟩
      obtain ⟨ao, co, hv2⟩ := own_sl19 r9
      have hlt : (l.reverse.take k).length = k := by simp; omega
      rw [hlt] at hv2
      subst hv2
      have HOw : Hid ((W9.alloc (.cells #[.int .u64 (ck l kr).rep, .int .i64 (ck l kr).load, .int .i64 (ck l kr).known, .bool (ck l kr).bnd, .int .i64 (ck l kr).place, .bool (ck l kr).opn] 36)).ownsRow wf.heap.size 36 6 (.slice ao k co) k (flatC (l.reverse.take k)) ∧ wf.heap.size ≤ (W9.alloc (.cells #[.int .u64 (ck l kr).rep, .int .i64 (ck l kr).load, .int .i64 (ck l kr).known, .bool (ck l kr).bnd, .int .i64 (ck l kr).place, .bool (ck l kr).opn] 36)).heap.size) := by
        have h1 := own_below r9 ((Below.refl W9.heap.size W9).alloc (Nat.le_refl _) (.cells #[.int .u64 (ck l kr).rep, .int .i64 (ck l kr).load, .int .i64 (ck l kr).known, .bool (ck l kr).bnd, .int .i64 (ck l kr).place, .bool (ck l kr).opn] 36))
        rw [hlt] at h1
        exact ⟨h1, (b9.alloc b9.size _).size⟩
      have HFin : Hid (∀ (v5 : Value) (W5 : World), W5.ownsRow wf.heap.size 36 6 v5 (k + 1) (flatC (l.reverse.take k) ++ flatC [ck l kr]) → (W9.alloc (.cells #[.int .u64 (ck l kr).rep, .int .i64 (ck l kr).load, .int .i64 (ck l kr).known, .bool (ck l kr).bnd, .int .i64 (ck l kr).place, .bool (ck l kr).opn] 36)).grownBy W5 (Value.slice ao k co).ownBlock → OnS wf l Mo (Mo + 1) (k + 1) v5 W5) := fun v5 W5 h1 h2 => hR7.fin hkl o9 m9 r9 b9 _ (by rw [hkr2]; exact h1) h2
      rw [hw7] at e8 lm
      obtain ⟨q0, q1, q2, q3, q4, q5⟩ := hc
      obtain ⟨j0', j1', j2', j3', j4', j5'⟩ := hc9
      clear hR7 o9 m9 r9 b9 hkp hx8 hx9 hx7 hb7 hlt hci HR hw7 hsn ha' hkr2
      generalize ck l k = c at *
      generalize ck l kr = cz at *
      obtain ⟨x0, x1, x2, x3, x4, x5⟩ := c
      obtain ⟨z0, z1, z2, z3, z4, z5⟩ := cz
      simp only at q0 q1 q2 q3 q4 q5 j0' j1' j2' j3' j4' j5' k0 k5 lm e8 e8o e9 HTw HOw HFin
      generalize memF ((l.take k).map Cd.rep) x0 = mb at *
      generalize hobv : memF (opnL (l.take k)) x0 = ob at *
      cases htw : twF (l.take k) with
      | true =>
        cases ob with
        | true =>
          have HTn : Hid (twF (l.take (k + 1)) = (true || mb)) := by unfold Hid; rw [HTw.out, htw]
          have hb1 : (true || x5) = true := rfl
          rw [hb1] at e9
          have HTv : Hid (twF (l.take (k + 1)) = true) := by rw [HTn.out]; rfl
          clear HTn hb1 HTw htw hobv
          go_wp2_with (at_builtin; refine wpList_append_own _ rfl (.tmp 52) (.tmp 61) 22 rfl wf.heap.size 36 j0 (.agg #[.int .u64 0, .int .i64 0, .int .i64 0, .bool false, .int .i64 0, .bool false]) 6 48 Try.underlying22 ji jz0 jz1 jz2 rfl (by decide) (.slice ao k co) k _ rfl HOw.out.1 ⟨W9.heap.size, 0, none⟩ 1 1 [.int .u64 z0, .int .i64 z1, .int .i64 z2, .bool z3, .int .i64 z4, .bool z5] rfl rfl (World.news_of_block (heap_alloc_new W9 _)) (by simp [Value.oneCell']) (by unfold maxLen; omega) (by omega) HOw.out.2 ?_; intro v5 w10 how5 hgr5 _)
          have HF2 := hid (HFin.out _ _ how5 hgr5)
          clear how5 hgr5 HFin HOw e8 e8o e9 lm k0 k5 j0' j1' j2' j3' j4' j5'
          go_wp2_with fail
          go_round
          case rel => exact ⟨k + 1, v5, by omega, by go_num, by rw [HTv.out], rfl, HF2.out⟩
          case measure => simp [intOf]; omega
        | false =>
          have HTn : Hid (twF (l.take (k + 1)) = (true || mb)) := by unfold Hid; rw [HTw.out, htw]
          have hb1 : (false || x5) = x5 := rfl
          rw [hb1] at e9
          have HTv : Hid (twF (l.take (k + 1)) = true) := by rw [HTn.out]; rfl
          clear HTn hb1 HTw htw hobv
          go_wp2_with (at_builtin; refine wpList_append_own _ rfl (.tmp 52) (.tmp 61) 22 rfl wf.heap.size 36 j0 (.agg #[.int .u64 0, .int .i64 0, .int .i64 0, .bool false, .int .i64 0, .bool false]) 6 48 Try.underlying22 ji jz0 jz1 jz2 rfl (by decide) (.slice ao k co) k _ rfl HOw.out.1 ⟨W9.heap.size, 0, none⟩ 1 1 [.int .u64 z0, .int .i64 z1, .int .i64 z2, .bool z3, .int .i64 z4, .bool z5] rfl rfl (World.news_of_block (heap_alloc_new W9 _)) (by simp [Value.oneCell']) (by unfold maxLen; omega) (by omega) HOw.out.2 ?_; intro v5 w10 how5 hgr5 _)
          have HF2 := hid (HFin.out _ _ how5 hgr5)
          clear how5 hgr5 HFin HOw e8 e8o e9 lm k0 k5 j0' j1' j2' j3' j4' j5'
          go_wp2_with fail
          go_round
          case rel => exact ⟨k + 1, v5, by omega, by go_num, by rw [HTv.out], rfl, HF2.out⟩
          case measure => simp [intOf]; omega
      | false =>
        cases ob with
        | true =>
          have HTn : Hid (twF (l.take (k + 1)) = (false || mb)) := by unfold Hid; rw [HTw.out, htw]
          have hb1 : (true || x5) = true := rfl
          rw [hb1] at e9
          have HTv : Hid (twF (l.take (k + 1)) = mb) := by rw [HTn.out]; rfl
          clear HTn hb1 HTw htw hobv
          go_wp2_with (at_builtin; refine wpList_append_own _ rfl (.tmp 52) (.tmp 61) 22 rfl wf.heap.size 36 j0 (.agg #[.int .u64 0, .int .i64 0, .int .i64 0, .bool false, .int .i64 0, .bool false]) 6 48 Try.underlying22 ji jz0 jz1 jz2 rfl (by decide) (.slice ao k co) k _ rfl HOw.out.1 ⟨W9.heap.size, 0, none⟩ 1 1 [.int .u64 z0, .int .i64 z1, .int .i64 z2, .bool z3, .int .i64 z4, .bool z5] rfl rfl (World.news_of_block (heap_alloc_new W9 _)) (by simp [Value.oneCell']) (by unfold maxLen; omega) (by omega) HOw.out.2 ?_; intro v5 w10 how5 hgr5 _)
          have HF2 := hid (HFin.out _ _ how5 hgr5)
          clear how5 hgr5 HFin HOw e8 e8o e9 lm k0 k5 j0' j1' j2' j3' j4' j5'
          go_wp2_with fail
          go_round
          case rel => exact ⟨k + 1, v5, by omega, by go_num, by rw [HTv.out], rfl, HF2.out⟩
          case measure => simp [intOf]; omega
        | false =>
          have HTn : Hid (twF (l.take (k + 1)) = (false || mb)) := by unfold Hid; rw [HTw.out, htw]
          have hb1 : (false || x5) = x5 := rfl
          rw [hb1] at e9
          have HTv : Hid (twF (l.take (k + 1)) = mb) := by rw [HTn.out]; rfl
          clear HTn hb1 HTw htw hobv
          go_wp2_with (at_builtin; refine wpList_append_own _ rfl (.tmp 52) (.tmp 61) 22 rfl wf.heap.size 36 j0 (.agg #[.int .u64 0, .int .i64 0, .int .i64 0, .bool false, .int .i64 0, .bool false]) 6 48 Try.underlying22 ji jz0 jz1 jz2 rfl (by decide) (.slice ao k co) k _ rfl HOw.out.1 ⟨W9.heap.size, 0, none⟩ 1 1 [.int .u64 z0, .int .i64 z1, .int .i64 z2, .bool z3, .int .i64 z4, .bool z5] rfl rfl (World.news_of_block (heap_alloc_new W9 _)) (by simp [Value.oneCell']) (by unfold maxLen; omega) (by omega) HOw.out.2 ?_; intro v5 w10 how5 hgr5 _)
          have HF2 := hid (HFin.out _ _ how5 hgr5)
          clear how5 hgr5 HFin HOw e8 e8o e9 lm k0 k5 j0' j1' j2' j3' j4' j5'
          go_wp2_with fail
          go_round
          case rel => exact ⟨k + 1, v5, by omega, by go_num, by rw [HTv.out], rfl, HF2.out⟩
          case measure => simp [intOf]; omega
    · have g1 : ¬ (k : Int) < (len : Int) := by omega
      obtain rfl : k = len := by omega
      have htk : l.take k = l := List.take_of_length_le (by rw [HL.out]; exact Nat.le_refl _)
      have htr : l.reverse.take k = l.reverse := List.take_of_length_le (by rw [List.length_reverse, HL.out]; exact Nat.le_refl _)
      rw [htk]
      obtain ⟨ao, co, hv2⟩ := own_sl19 HR.out.bk
      have hlr : (l.reverse.take k).length = k := by rw [htr, List.length_reverse, HL.out]
      rw [hlr] at hv2
      subst hv2
      have HMo : Hid (∀ W', Below wr.heap.size wr W' → BbAt W' Mo k (memF (opnL l)) ∧ CsAt W' ao k co l.reverse ∧ Below wf.heap.size wf W') := fun W' hb => by
        have h1 := HR.out.below hb
        have h2 := h1.op
        have h3 := h1.bk
        rw [htk] at h2
        unfold OwC at h3
        rw [hlr, htr] at h3
        exact ⟨h2, CsAt.own h3, h1.bel⟩
      have HWr : Hid (∀ W', Below wr.heap.size wr W' → W'.cell? ⟨gw, 0, none⟩ = some (.int .i64 kn) ∧ W'.cell? ⟨gw, 1, none⟩ = some (.int .i64 ld) ∧ W'.cell? ⟨gw, 2, none⟩ = some (.int .i64 bd) ∧ W'.cell? ⟨gw, 3, none⟩ = some (.int .i64 pl)) := fun W' hb => HW.out W' (HMo.out W' hb).2.2
      clear HR htk htr hlr
      have HV : Hid (Below wr.heap.size wr wr.drew) := (Below.refl _ _).drew
      go_wp2_with fail
      go_region_held3 (fun W' : World => W'.cell? ⟨gw, 0, none⟩ = some (.int .i64 kn) ∧ W'.cell? ⟨gw, 1, none⟩ = some (.int .i64 ld) ∧ W'.cell? ⟨gw, 2, none⟩ = some (.int .i64 bd) ∧ W'.cell? ⟨gw, 3, none⟩ = some (.int .i64 pl)) (first | (with_reducible exact HWr.out _ (Below.refl _ _)) | (with_reducible exact HWr.out _ HV.out))
        (first
          | (go_at_call 10; (with_reducible refine (HTh.out _ (HMo.out _ HV.out).2.2 hl).mono ?_); rintro e y1 ⟨a1, c1, rfl, h1⟩; have HA := hid h1.out.1; replace HV := hid (HV.out.trans (h1.out.2.mono HV.out.size)); clear h1)
          | (go_at_call 11; (with_reducible refine (HTW.out _).mono ?_); rintro e y2 ⟨rfl, h2⟩; replace HA := hid (HA.out.below h2.out); replace HV := hid (HV.out.trans (h2.out.mono HV.out.size)); clear h2)
          | (go_at_call 9; (with_reducible refine (HOr.out _ _ _ HA.out).mono ?_); rintro e y3 ⟨a3, c3, rfl, h3⟩; have HO := hid h3.out.1; replace HV := hid (HV.out.trans (h3.out.2.mono HV.out.size)); clear h3 HA))
      all_goals
        have HV3 := HV
        clear HV HOr
        obtain ⟨wT, hwT⟩ : ∃ wT, wT = y3.alloc (.map #[] 0) := ⟨_, rfl⟩
        have hT0 := BbAt.new y3
        rw [← hwT] at hT0
        have hbT : Below y3.heap.size y3 wT := by rw [hwT]; exact (Below.refl _ _).alloc (Nat.le_refl _) _
        obtain ⟨Mt, hMt⟩ : ∃ Mt, y3.heap.size = Mt := ⟨_, rfl⟩
        rw [hMt] at hT0
        have HbT := hid hbT
        have HT0 : Hid (BbAt wT Mt 0 (memF (os.take 0))) := by rw [Hid, List.take_zero, memF_nil]; exact hT0
        have hmk3 : (Instr.makeMap 47 none).run Try.prog y3 = .ok (.map (some Mt)) wT := by rw [hwT, ← hMt]; rfl
        have HMt := hid hMt
        clear hT0 hbT hwT hMt
        go_wp2_with fail
        clear hmk3
        go_loopw [72] (fun i W' => ∃ (j : Nat), j ≤ n ∧ i = .int .i64 j ∧ Hid (BbAt W' Mt j (memF (os.take j)) ∧ Below y3.heap.size y3 W')) (fun i _ => n - (intOf i).toNat)
        case atStart => exact ⟨0, Nat.zero_le _, rfl, HT0.out, HbT.out⟩
        case round =>
        clear HT0 HbT wT
        obtain ⟨j, hj, rfl, HT⟩ := hrel
        rename World => wT
        have hVT : Below wr.heap.size wr wT := HV3.out.trans (HT.out.2.mono HV3.out.size)
        by_cases hjn : j < n
        · have g2 : (j : Int) < (n : Int) := by omega
          obtain ⟨b3, o3, rfl, hc3⟩ := (HO.out.below HT.out.2).cell j hjn
          have hjo : j < os.length := by rw [Hol.out]; exact hjn
          obtain ⟨x, hx⟩ : ∃ x, os[j]? = some x := ⟨_, List.getElem?_eq_getElem hjo⟩
          have hxm : x ∈ os := List.mem_of_getElem? hx
          have hxn : x ∉ os.take j := fun h => by
            obtain ⟨i, hi⟩ := List.mem_iff_getElem?.1 h
            have hij : i < j := by
              rcases Nat.lt_or_ge i j with h' | h'
              · exact h'
              · rw [List.getElem?_take_eq_none (by omega)] at hi; cases hi
            rw [List.getElem?_take_of_lt hij] at hi
            have := (List.getElem?_inj (by omega : i < os.length) HNd.out).1 (hi.trans hx.symm)
            omega
          have hsn : os.take (j + 1) = os.take j ++ [x] := by rw [List.take_add_one, hx]; rfl
          have hxu := HU.out x hxm
          have l1 := HT.out.1.look hxu
          have l2 := (HMo.out _ hVT).1.look hxu
          rw [show memF (os.take j) x = false from decide_eq_false hxn] at l1
          rw [show memF (opnL l) x = true from decide_eq_true ((HOp.out x).1 hxm)] at l2
          obtain ⟨W5, e5, t5, f5⟩ := HT.out.1.store (by omega) hxu true
          rw [← memF_snoc, ← hsn] at t5
          have HF : Hid (BbAt W5 Mt (j + 1) (memF (os.take (j + 1))) ∧ Below y3.heap.size y3 W5) := ⟨t5, HT.out.2.trans (f5.to (fun z e => by rw [show z = Mt from e, HMt.out]; exact Nat.le_refl _) HT.out.2.size)⟩
          rw [hx] at hc3
          have hc4 : wT.cell? ⟨b3, o3 + j, none⟩ = some (.int .u64 x) := hc3
          clear hc3 hx hxm hxn hsn hxu t5 f5 HT hVT hjo
          go_wp2_with fail
          go_round
          case rel => exact ⟨j + 1, by omega, by go_num, HF.out⟩
          case measure => simp [intOf]; omega
        · have g2 : ¬ (j : Int) < (n : Int) := by omega
          obtain rfl : j = n := by omega
          have hto : os.take j = os := List.take_of_length_le (by rw [Hol.out]; exact Nat.le_refl _)
          have HTt : Hid (∀ W', Below wT.heap.size wT W' → BbAt W' Mt j (memF os) ∧ BbAt W' Mo k (memF (opnL l)) ∧ Below wr.heap.size wr W' ∧ Reads .u64 W' a3 j c3 os) := fun W' hb => by
            have h1 := HT.out.1
            rw [hto] at h1
            have h2 := hVT.trans (hb.mono hVT.size)
            exact ⟨h1.below hb, (HMo.out W' h2).1, h2, HO.out.below (HT.out.2.trans (hb.mono HT.out.2.size))⟩
          have HTn : Hid (∀ W', Below wT.heap.size wT W' → CsAt W' a k cap l) := fun W' hb => HC.out W' (HMo.out W' (HTt.out W' hb).2.2.1).2.2
          clear HT hVT hto HO HV3 HMt
          go_wp2_with fail
          go_loopw [90] (fun i W' => ∃ (t : Nat), t ≤ k ∧ i = .int .i64 t ∧ Hid (Below wT.heap.size wT W')) (fun i _ => k - (intOf i).toNat)
          case atStart => exact ⟨0, Nat.zero_le _, rfl, Below.refl _ _⟩
          case round =>
          obtain ⟨t, ht, rfl, HB⟩ := hrel
          rename World => w4
          by_cases htk : t < k
          · have g3 : (t : Int) < (k : Int) := by omega
            obtain ⟨b4, o4, rfl, hc4⟩ := (HTn.out w4 HB.out).cell t htk
            have htl : t < l.length := by rw [HL.out]; exact htk
            have hci := HI.out (ck l t) (ck_mem htl)
            obtain ⟨w7, hw7⟩ : ∃ w7, w7 = w4.alloc (.cells #[.int .u64 (ck l t).rep, .int .i64 (ck l t).load, .int .i64 (ck l t).known, .bool (ck l t).bnd, .int .i64 (ck l t).place, .bool (ck l t).opn] 36) := ⟨_, rfl⟩
            have hb7 : Below wT.heap.size wT w7 := by rw [hw7]; exact HB.out.alloc HB.out.size _
            obtain ⟨m1, m2, _⟩ := HTt.out w7 hb7
            have l1 := m1.look hci.rep
            have l2 := m2.look hci.rep
            have hlk : memF (opnL l) (ck l t).rep = memF os (ck l t).rep := by unfold memF; rw [decide_eq_decide]; exact (HOp.out _).symm
            rw [hlk] at l2
            have HF := hid hb7
            rw [hw7] at l1 l2 HF
            obtain ⟨q0, q1, q2, q3, q4, q5⟩ := hc4
            clear hb7 m1 m2 hlk hw7 hci htl HB
            generalize ck l t = c at *
            obtain ⟨x0, x1, x2, x3, x4, x5⟩ := c
            simp only at q0 q1 q2 q3 q4 q5 l1 l2 HF
            generalize memF os x0 = mb at *
            cases mb with
            | true =>
              go_wp2_with fail
              go_round
              case rel => exact ⟨t + 1, by omega, by go_num, HF.out⟩
              case measure => simp [intOf]; omega
            | false =>
              go_wp2_with fail
              go_round
              case rel => exact ⟨t + 1, by omega, by go_num, HF.out⟩
              case measure => simp [intOf]; omega
          · have g3 : ¬ (t : Int) < (k : Int) := by omega
            obtain rfl : t = k := by omega
            have HTu : Hid (∀ W', Below w4.heap.size w4 W' → Reads .u64 W' a3 j c3 os ∧ CsAt W' ao t co l.reverse ∧ Below wf.heap.size wf W') := fun W' hb => by
              have h1 := HTt.out W' (HB.out.trans (hb.mono HB.out.size))
              have h2 := HMo.out W' h1.2.2.1
              exact ⟨h1.2.2.2, h2.2.1, h2.2.2⟩
            have HWu : Hid (∀ W', Below w4.heap.size w4 W' → W'.cell? ⟨gw, 0, none⟩ = some (.int .i64 kn) ∧ W'.cell? ⟨gw, 1, none⟩ = some (.int .i64 ld) ∧ W'.cell? ⟨gw, 2, none⟩ = some (.int .i64 bd) ∧ W'.cell? ⟨gw, 3, none⟩ = some (.int .i64 pl)) := fun W' hb => HW.out W' (HTu.out W' hb).2.2
            have HTh2 := hid fun (W : World) (hb : Below w4.heap.size w4 W) => theirs_any ao t co l.reverse W (HTu.out W hb).2.1 hl
            clear HTt HTn HB HMo HWr
            have HV : Hid (Below w4.heap.size w4 w4.drew) := (Below.refl _ _).drew
            go_wp2_with fail
            go_region_held3 (fun W' : World => W'.cell? ⟨gw, 0, none⟩ = some (.int .i64 kn) ∧ W'.cell? ⟨gw, 1, none⟩ = some (.int .i64 ld) ∧ W'.cell? ⟨gw, 2, none⟩ = some (.int .i64 bd) ∧ W'.cell? ⟨gw, 3, none⟩ = some (.int .i64 pl)) (first | (with_reducible exact HWu.out _ (Below.refl _ _)) | (with_reducible exact HWu.out _ HV.out))
              (first
                | (go_at_call 10; (with_reducible refine (HTh2.out _ HV.out).mono ?_); rintro e y5 ⟨a1, c1, rfl, h1⟩; have HA := hid h1.out.1; replace HV := hid (HV.out.trans (h1.out.2.mono HV.out.size)); clear h1)
                | (go_at_call 11; (with_reducible refine (HTW.out _).mono ?_); rintro e y6 ⟨rfl, h2⟩; replace HA := hid (HA.out.below h2.out); replace HV := hid (HV.out.trans (h2.out.mono HV.out.size)); clear h2)
                | (go_at_call 9; (with_reducible refine (HOr2.out _ _ _ HA.out).mono ?_); rintro e y7 ⟨a7, c7, rfl, h3⟩; have HP := hid h3.out.1; replace HV := hid (HV.out.trans (h3.out.2.mono HV.out.size)); clear h3 HA))
            all_goals
              have HO := hid (HTu.out _ HV.out).1
              have HXe : Hid (∀ nd : Nat, Below w.heap.size w (y7.drewN nd)) := fun nd => by
                have := HX.out _ (HTu.out _ HV.out).2.2
                exact ⟨this.os, this.tape, this.output, this.size, this.block⟩
              clear HTu HWu HTh2 HV HOr2
              go_wp2_with fail
              go_loopw [113] (fun i W' => ∃ (s nd : Nat), s ≤ j ∧ i = .int .i64 s ∧ W' = y7.drewN nd) (fun i _ => j - (intOf i).toNat)
              case atStart => exact ⟨0, 0, Nat.zero_le _, rfl, rfl⟩
              case round =>
              obtain ⟨s, nd, hs, rfl, rfl⟩ := hrel
              obtain ⟨w5, hw5⟩ : ∃ w5, w5 = y7.drewN nd := ⟨_, rfl⟩
              have hd5 : Below y7.heap.size y7 w5 := by rw [hw5]; exact ⟨rfl, rfl, rfl, Nat.le_refl _, fun _ _ => rfl⟩
              have HD5 : Hid (∀ m, ∃ nd', w5.drewN m = y7.drewN nd') := fun m => ⟨nd + m, by rw [hw5, World.drewN_drewN]⟩
              have HXf := hid (HXe.out nd)
              rw [← hw5] at HXf ⊢
              clear hw5
              have hO := HO.out.below hd5
              have hP := HP.out.below hd5
              by_cases hsj : s < j
              · have g4 : (s : Int) < (j : Int) := by omega
                obtain ⟨b8, o8, rfl, hc8⟩ := hO.cell s hsj
                obtain ⟨b9, o9, rfl, hc9⟩ := hP.cell s hsj
                cases htw : twF l with
                | true =>
                  clear hO hP hc8 hc9
                  go_wp2_with fail
                  go_quiet (fail)
                  go_wp2_with fail
                  go_round
                  case rel =>
                    obtain ⟨nd', h⟩ := HD5.out nq
                    exact ⟨s + 1, nd', by omega, by go_num, h⟩
                  case measure => simp [intOf]; omega
                | false =>
                  rw [HB2.out htw] at hc9
                  have g5 : decide ((j : Int) ≤ (s : Int)) = false := decide_eq_false (by omega)
                  have g6 : decide ((s : Int) ≥ (j : Int)) = false := decide_eq_false (by omega)
                  generalize os[s]?.getD 0 = x at *
                  have hx : (x != x) = false := by simp
                  clear hO hP
                  go_wp2_with fail
                  go_quiet (fail)
                  go_wp2_with fail
                  go_round
                  case rel =>
                    obtain ⟨nd', h⟩ := HD5.out nq
                    exact ⟨s + 1, nd', by omega, by go_num, h⟩
                  case measure => simp [intOf]; omega
              · have g4 : ¬ (s : Int) < (j : Int) := by omega
                clear hO hP HD5 hd5
                go_wp2_with fail
                with_reducible refine (alive19_any _).mono ?_
                rintro e wz ⟨rfl, HZ0⟩
                have HZ := hid (HXf.out.trans (HZ0.out.mono HXf.out.size))
                clear HZ0
                go_wp2_with fail
                go_ret
                exact ⟨rfl, HZ.out⟩
  · have hFar := far19_yes a len cap w1 (by omega) hrm hms
    go_enter Try.func6, Try.ntmps6
    go_wp2_with fail
    rw [← hw1]
    clear hw1 hgw
    refine hFar.mono ?_
    rintro e wf ⟨rfl, rfl⟩
    clear hFar
    go_wp2_with fail
    with_reducible refine (alive19_any _).mono ?_
    rintro e wz ⟨rfl, HZ0⟩
    have HZ := hid (HX0.out.trans (HZ0.out.mono HX0.out.size))
    clear HZ0
    go_wp2_with fail
    go_ret
    exact ⟨rfl, HZ.out⟩

/-! ### The row's step -/
set_option maxRecDepth 1000000 in
theorem lifted (os : Os) (started : os.Started) (H : Type) (enc : TypeId × Value → H) :
    ReturnsInHanded {} Try.checked os 6 .any (Rows.rankOnceSpec.pre6 enc Try.prog Try.f6 Rows.rankOnceRow.domain false) (Rows.rankOnceSpec.post enc Try.prog Try.f6 false true false false) := by
  refine returnsInHanded_of_change (C := Try.checked) own started (by kernel_rfl) Try.func6
    (ChangeSpec.witness6 (enc := enc) (C := Try.checked) false ⟨#[], #[.slice none 0 0, .agg #[.int .i64 0, .int .i64 0, .int .i64 0, .int .i64 0]], []⟩ 8 (by kernel_rfl) (by kernel_rfl) (by kernel_rfl) (by kernel_rfl)) ?_
  intro W base args ds gs before hval0 hW hcnd _
  have hval : ∀ (j : Nat) t v, Try.f6.params[j]? = some t → args[j]? = some v → Value.okWide Try.prog W .any base t v := hval0
  have hW' := hW
  obtain ⟨p, q, hA0, hV, rfl, hfz, hnd⟩ := hW
  have hA : DataW.TrodAll enc Try.prog W 0 (fun _ => true) true Try.f6.params.toList args.toList ds p := hA0
  rw [Try.params6] at hA hval
  obtain ⟨v0, vs0, d0, ds0, p0, q0, hargs, rfl, rfl, h0, r0⟩ := trodAll_cons hA
  obtain ⟨v1, vs1, d1, ds1, p1, q1, rfl, rfl, rfl, h1, r1⟩ := trodAll_cons r0
  obtain ⟨rfl, rfl, rfl⟩ := trodAll_nil r1
  obtain rfl : args = #[v0, v1] := by cases args; simp_all
  obtain ⟨rfl, rfl⟩ := trodVars_none hV
  have k0 := h0
  have lt0 : ∀ x ∈ p0, x.block < W.heap.size := by obtain ⟨m, hm⟩ := k0; exact DataW.trod_lt m _ _ _ hm
  obtain ⟨a, len, cap, l, rfl, ga⟩ := cands_open (hval 0 22 v0 rfl rfl) h0
  have k1 := h1
  have lt1 : ∀ x ∈ p1, x.block < W.heap.size := by obtain ⟨m, hm⟩ := k1; exact DataW.trod_lt m _ _ _ hm
  obtain ⟨q, rfl, gq⟩ := wt_open (hval 1 24 v1 rfl rfl) h1
  clear hA0 hval0
  refine (walk a len cap l q W ga gq).mono fun e W' ⟨he, bel⟩ => ?_
  subst he
  exact ⟨_, rfl, _, _, _, [], _, [], hW', trodAll_mk1 (shut_bool Try.underlying4 _), (trodAll_cons_mk (Below.trod laidOut (by kernel_rfl) (of_decide_eq_true (by kernel_rfl)) k0 bel lt0) (trodAll_cons_mk (Below.trod laidOut (by kernel_rfl) (of_decide_eq_true (by kernel_rfl)) k1 bel lt1) trodAll_mk0)), rfl, bel.frame _, fun h => by cases h⟩

theorem over : Rows.rankOnceRow.holds Try.pinned (OpenSpec.ofChange Rows.rankOnceSpec) :=
  OpenClaim.holds_of_wide 6 Try.f6 rfl rfl rfl rfl rfl rfl rfl ⟨rfl, rfl, rfl, rfl, rfl⟩ rfl rfl rfl rfl rfl (by kernel_rfl) Try.func6 (by kernel_rfl)
    (of_decide_eq_true (by kernel_rfl)) (by unfold Func.isWrapper; first | (rw [if_pos (by decide +kernel)]; kernel_rfl) | (rw [if_neg (by decide +kernel)]; exact ⟨rfl, rfl⟩))
    (fun os started H enc _ => lifted os started H enc)

/-- The statement. -/
theorem proved : Rows.RankOnceSaid := over
#print axioms proved
end Go.Proofs.Ytmhpgkkaolcncaa.rankOnce
