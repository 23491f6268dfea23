/-
  Proved: as often as it was taken and held a page is dropped, until it is free; no page is taken that is held: PageCounts hands back true for whatever number of pages and steps.
-/
import Derived.Test.YtdmakboapchhnaaRows
import Derived.Test.YtdmakboapchhnaaPgLaw
import Derived.Test.YtdmakboapchhnaaPgMaps
import Derived.Deep.RegionHeld3
import Derived.WalkKit
import Derived.ProofKit
import Derived.OpenShut
import Derived.ShutString
import Derived.ChangeOld
import Derived.Below
namespace Go.Proofs.Ytdmakboapchhnaa.pageCounts
open Go.ChangeShapes Go.WideShapes Go.ChangeAt Go.RowKit
open Go.ChangeMaps (open_string shut_string)
set_option linter.unusedVariables false

theorem own : ownKnob Try.prog.godebug = none := by kernel_rfl
theorem laidOut : laidOutB Try.prog = true := by kernel_rfl

/-! ### The walk -/
set_option maxRecDepth 1000000 in
set_option maxHeartbeats 8000000 in
theorem walk (n0 : Int) (a1 : Option Addr) (l1 c1 : Nat) (ks1 ns1 : List Int) (w : World) (gn0 : -9223372036854775808 ≤ n0 ∧ n0 ≤ 9223372036854775807) (ga1 : Pss w a1 l1 c1 ks1 ns1) :
    Calls Try.prog 4 #[.int .i64 n0, .slice a1 l1 c1] w fun e w' => e = .returned (.bool true) ∧ Below w.heap.size w w' := by
  have hmm := @run_makeMap Try.prog
  by_cases hpg : n0 < 1 ∨ 256 < n0
  · have hN := pnew_no n0 w hpg
    clear hpg
    go_enter Try.func4, Try.ntmps4
    go_wp2_with fail
    refine hN.mono ?_
    rintro e w1 ⟨rfl, hb⟩
    have HW0 := hid hb
    clear hN hb
    go_wp2_with fail
    refine (alive13_any _).mono ?_
    rintro e wz ⟨rfl, hb⟩
    have HZ := hid (HW0.out.trans (hb.mono HW0.out.size))
    clear hb
    go_wp2
    go_ret
    exact ⟨rfl, HZ.out⟩
  obtain ⟨N, rfl⟩ : ∃ N : Nat, n0 = N := ⟨n0.toNat, by omega⟩
  have hN1 : 1 ≤ N := by omega
  have hN2 : N ≤ 256 := by omega
  have hN := pnew_yes N w hN1 hN2
  obtain ⟨M, hM⟩ : ∃ M, min l1 400 = M := ⟨_, rfl⟩
  have HSh := hid fun W (hb : Below w.heap.size w W) => short13_any a1 l1 c1 ks1 ns1 W (ga1.below hb)
  rw [hM] at HSh
  have HPs := hid fun W (hb : Below w.heap.size w W) => (ga1.cut (m := M) (by omega)).below hb
  have r1 := HPs.out w (Below.refl _ _) |>.room
  have m1 := HPs.out w (Below.refl _ _) |>.most
  have hM4 : M ≤ 400 := by omega
  have HZ0 : Hid (∀ y, heldZ (List.replicate N 0) y = 0) := fun y => by
    unfold heldZ
    split
    · rw [List.getElem?_replicate]; split <;> rfl
    · rfl
  have HL0 : Hid ((List.replicate N (0 : Int)).length = N) := by unfold Hid; simp
  generalize ks1.take M = ks at *
  generalize ns1.take M = ns at *
  clear ga1 hM hpg gn0
  go_enter Try.func4, Try.ntmps4
  go_wp2_with fail
  refine hN.mono ?_
  rintro e w1 ⟨g, F1, rfl, hP, hF, hb⟩
  obtain ⟨Bm, hB⟩ : ∃ Bm, w1.heap.size = Bm := ⟨_, rfl⟩
  obtain ⟨w3, hw3⟩ : ∃ w3, w3 = w1.alloc (.map #[] 0) := ⟨_, rfl⟩
  have hA : Below w1.heap.size w1 w3 := by rw [hw3]; exact (Below.refl _ _).alloc (Nat.le_refl _) _
  have HM0 : Hid (MpAt w3 Bm 0 (heldZ (List.replicate N 0))) := by
    unfold Hid
    rw [hw3, ← hB]
    exact (MpAt.new w1).ext fun x => (HZ0.out x).symm
  have HBm : Hid (w.heap.size ≤ Bm) := by unfold Hid; rw [← hB]; exact hb.size
  have HP0 := hid (hP.below hA)
  have HLo0 := hid hF
  have HAp0 : Hid (¬ F1 Bm) := fun h => by have := hP.old _ h; omega
  have HU0 := hid (hb.trans (hA.mono hb.size))
  have HQ0 : Hid (∀ y, heldZ (List.replicate N 0) y ≤ ((0 : Nat) : Int)) := fun y => by rw [HZ0.out y]; exact Int.le_refl _
  generalize List.replicate N (0 : Int) = hs0 at *
  clear hb hA hP hF HZ0 hN
  go_wp2_with fail
  rw [← hw3]
  clear hw3 hB
  refine (HSh.out _ HU0.out).mono ?_
  rintro e w' ⟨rfl, rfl⟩
  clear HSh
  go_wp2_with fail
  go_loopw [37] (fun i W => ∃ (k : Nat) (hs : List Int) (F : Nat → Prop), k ≤ M ∧ i = .int .i64 k ∧ Hid (PgAt W (some ⟨g, 0, none⟩) hs F) ∧ Hid (hs.length = N) ∧ Hid (MpAt W Bm k (heldZ hs)) ∧ Hid (∀ y, heldZ hs y ≤ (k : Int)) ∧ Hid (¬ F Bm) ∧ Hid (∀ x, F x → w.heap.size ≤ x) ∧ Hid (Below w.heap.size w W)) (fun i _ => M - (intOf i).toNat)
  case atStart => exact ⟨0, hs0, F1, Nat.zero_le _, rfl, HP0, HL0, HM0, HQ0, HAp0, HLo0, HU0⟩
  case round =>
  obtain ⟨k, hs, F, hk, rfl, HP, HLn, HM, HQ, HAp, HLo, HU⟩ := hrel
  rename World => wr
  clear HP0 HM0 HQ0 HAp0 HLo0 HU0 HL0
  by_cases hlt : k < M
  · obtain ⟨b1, o1, rfl, ck, cn⟩ := (HPs.out _ HU.out).cell k hlt
    have q1 : (k : Int) < (M : Int) := by omega
    obtain ⟨kd0, kd1⟩ := (HPs.out _ HU.out).wk k hlt
    have HNn : Hid (In64 (ns[k]?.getD 0)) := (HPs.out _ HU.out).wn k hlt
    clear HPs
    generalize ks[k]?.getD 0 = kd at *
    generalize ns[k]?.getD 0 = nn at *
    obtain ⟨bx, hbx⟩ : ∃ bx, wr.heap.size = bx := ⟨_, rfl⟩
    obtain ⟨wB, hwB⟩ : ∃ wB, wB = wr.alloc (.cells #[.int .u8 kd, .int .i64 nn] 35) := ⟨_, rfl⟩
    have hA : Below wr.heap.size wr wB := by rw [hwB]; exact (Below.refl _ _).alloc (Nat.le_refl _) _
    have HBk : Hid (wB.heap[bx]? = some (.cells #[.int .u8 kd, .int .i64 nn] 35 (0, 0))) := by unfold Hid; rw [hwB, ← hbx]; exact heap_alloc_new wr _
    have HNx : Hid (¬ F bx) := fun h => by have := HP.out.old _ h; omega
    have HOk := hid HP.out.ok
    have HPB := hid (HP.out.below hA)
    have HMB := hid (HM.out.below hA)
    have HUB := hid (HU.out.trans (hA.mono HU.out.size))
    have HLt : Hid (Bm < wB.heap.size) := HMB.out.lt
    have HNb : Hid (bx ≠ Bm) := fun e => by have := HM.out.lt; omega
    have hq0 := (HOk.out.held nn).1
    have hqk := HQ.out nn
    clear hA HP HM HU
    by_cases hk1 : kd % 4 = 1
    · have hk1' : kd.tmod 4 = 1 := by rw [Int.tmod_eq_emod_of_nonneg kd0]; exact hk1
      go_wp2_with fail
      rw [← hwB]
      clear hwB hbx ck cn
      have HHo := hid fun W (h : PgAt W (some ⟨g, 0, none⟩) hs F) => phold_any (some ⟨g, 0, none⟩) hs nn W h
      have hD : Below wB.heap.size wB wB.drew := (Below.refl _ _).drew
      replace HPB := hid (HPB.out.below hD)
      replace HMB := hid (HMB.out.below hD)
      replace HUB := hid (HUB.out.trans (hD.mono HUB.out.size))
      replace HBk := hid (block_bel HBk.out hD)
      replace HLt : Hid (Bm < wB.drew.heap.size) := HLt
      have lk0 := HMB.out.look HNn.out
      clear hD
      by_cases h0 : heldZ hs nn = 0
      · have e1 : holdE hs nn = 1 := by unfold holdE; rw [if_pos h0]
        have e2 : holdH hs nn = hs := by unfold holdH; rw [if_pos (.inl h0)]
        rw [e1, e2] at HHo
        rw [h0] at lk0
        clear e1 e2
        go_region_held3 (fun W : World => W.cell? ⟨bx, 0, none⟩ = some (.int .u8 kd) ∧ W.cell? ⟨bx, 1, none⟩ = some (.int .i64 nn)) (first | (with_reducible exact cells_two HBk.out) | (with_reducible exact cells_two HB4.out))
          (first
            | (go_at_call 10; (with_reducible refine (HHo.out _ HPB.out).mono ?_); rintro e w4 ⟨rfl, F4, hP, hF, hb⟩; have HP4 := hid hP; have HU4 : Hid (Below w.heap.size w w4) := HUB.out.trans (hb.to HLo.out HUB.out.size); have HB4 : Hid (w4.heap[bx]? = some (.cells #[.int .u8 kd, .int .i64 nn] 35 (0, 0))) := hb.one HBk.out HNx.out; have HAp4 : Hid (¬ F4 Bm) := fun h => (hF Bm h).elim HAp.out (fun h => by have := HLt.out; omega); have HLo4 : Hid (∀ x, F4 x → w.heap.size ≤ x) := fun x hx => (hF x hx).elim (HLo.out x) fun h => Nat.le_trans HUB.out.size h; have HM4 := hid (HMB.out.fb hb HAp.out); clear hP hF hb HPB HMB HUB HBk HNx HAp HLo HLt; have lk4 := HM4.out.look HNn.out; rw [h0] at lk4)
            | fail)
        all_goals
          obtain ⟨x0, x1⟩ := cells_two HB4.out
          have HM5 := hid (HM4.out.mono (Nat.le_succ k))
          have HQ5 : Hid (∀ y, heldZ hs y ≤ ((k + 1 : Nat) : Int)) := fun y => by have := HQ.out y; omega
          clear HM4 HB4 HHo HQ HOk h0
          go_wp2_with fail
          go_round
          case rel => exact ⟨k + 1, hs, F4, by omega, by go_num, HP4, HLn, HM5, HQ5, HAp4, HLo4, HU4⟩
          case measure => simp [intOf]; omega
      · have e1 : holdE hs nn = 0 := by unfold holdE; rw [if_neg h0, if_neg (by omega)]
        have HF5 := hid (hold_f h0 (by omega) (hs := hs) (n := nn))
        have HL5 : Hid ((holdH hs nn).length = N) := by unfold Hid; rw [holdH_len]; exact HLn.out
        rw [e1] at HHo
        have hpos : 0 < heldZ hs nn := by omega
        have HQ5 : Hid (∀ y, heldZ (holdH hs nn) y ≤ ((k + 1 : Nat) : Int)) := fun y => by
          rw [HF5.out y]
          split
          · omega
          · have := HQ.out y; omega
        clear e1 HQ HLn
        generalize holdH hs nn = hs5 at *
        go_region_held3 (fun W : World => W.cell? ⟨bx, 0, none⟩ = some (.int .u8 kd) ∧ W.cell? ⟨bx, 1, none⟩ = some (.int .i64 nn)) (first | (with_reducible exact cells_two HBk.out) | (with_reducible exact cells_two HB4.out))
          (first
            | (go_at_call 10; (with_reducible refine (HHo.out _ HPB.out).mono ?_); rintro e w4 ⟨rfl, F4, hP, hF, hb⟩; have HP4 := hid hP; have HU4 : Hid (Below w.heap.size w w4) := HUB.out.trans (hb.to HLo.out HUB.out.size); have HB4 : Hid (w4.heap[bx]? = some (.cells #[.int .u8 kd, .int .i64 nn] 35 (0, 0))) := hb.one HBk.out HNx.out; have HAp4 : Hid (¬ F4 Bm) := fun h => (hF Bm h).elim HAp.out (fun h => by have := HLt.out; omega); have HLo4 : Hid (∀ x, F4 x → w.heap.size ≤ x) := fun x hx => (hF x hx).elim (HLo.out x) fun h => Nat.le_trans HUB.out.size h; have HM4 := hid (HMB.out.fb hb HAp.out); clear hP hF hb HPB HMB HUB HBk HNx HAp HLo HLt; have lk4 := HM4.out.look HNn.out)
            | fail)
        all_goals
          obtain ⟨x0, x1⟩ := cells_two HB4.out
          obtain ⟨w5, hu5, hM5, hg5⟩ := HM4.out.store (v := heldZ hs nn + 1) (by omega) HNn.out ⟨by omega, by omega⟩
          have HM5 : Hid (MpAt w5 Bm (k + 1) (heldZ hs5)) := hM5.ext fun y => (HF5.out y).symm
          have HP5 := hid (HP4.out.fb (fb_grown hg5) (fun x hx e => by have e1 : x = Bm := e; subst e1; exact HAp4.out hx))
          have HU5 : Hid (Below w.heap.size w w5) := HU4.out.trans ((fb_grown hg5).to (B := w.heap.size) (fun x hx => by have e1 : x = Bm := hx; subst e1; exact HBm.out) HU4.out.size)
          clear HM4 HB4 HHo HOk hM5 HF5 HP4 HU4
          generalize heldZ hs nn = x at *
          go_wp2_with fail
          go_round
          case rel => exact ⟨k + 1, hs5, F4, by omega, by go_num, HP5, HL5, HM5, HQ5, HAp4, HLo4, HU5⟩
          case measure => simp [intOf]; omega
    by_cases hk2 : kd % 4 = 2
    · have hk2' : kd.tmod 4 = 2 := by rw [Int.tmod_eq_emod_of_nonneg kd0]; exact hk2
      have HDo := hid fun W (h : PgAt W (some ⟨g, 0, none⟩) hs F) => pdrop_any (some ⟨g, 0, none⟩) hs nn W h
      have HL5 : Hid ((dropH hs nn).length = N) := by unfold Hid; rw [dropH_len]; exact HLn.out
      have hD : ∃ v, v = max (heldZ hs nn - 1) 0 := ⟨_, rfl⟩
      obtain ⟨v, hv⟩ := hD
      have HF5 : Hid (∀ y, (if y = nn then v else heldZ hs y) = heldZ (dropH hs nn) y) := fun y => by
        by_cases h0 : heldZ hs nn = 0
        · have e2 : dropH hs nn = hs := by unfold dropH; rw [if_pos h0]
          rw [e2]
          by_cases e : y = nn
          · subst e; rw [if_pos rfl, h0]; omega
          · rw [if_neg e]
        · rw [drop_f h0 y]
          by_cases e : y = nn
          · rw [if_pos e, if_pos e]; omega
          · rw [if_neg e, if_neg e]
      have HQ5 : Hid (∀ y, heldZ (dropH hs nn) y ≤ ((k + 1 : Nat) : Int)) := fun y => by
        rw [← HF5.out y]
        split
        · omega
        · have := HQ.out y; omega
      have HbE : Hid (dropE hs nn = if heldZ hs nn = 0 then 1 else 0) := rfl
      have HbB : Hid (dropB hs nn = decide (heldZ hs nn = 1)) := rfl
      generalize dropH hs nn = hs5 at *
      generalize dropE hs nn = er at *
      generalize dropB hs nn = eb at *
      have lkx := fun W (h : MpAt W Bm k (heldZ hs)) => h.look HNn.out
      have HSt := hid fun W (h : MpAt W Bm k (heldZ hs)) => h.store (v := v) (by omega) HNn.out ⟨by omega, by omega⟩
      have HLk := hid lkx
      clear lkx HLn HQ HOk
      generalize heldZ hs nn = x at *
      go_wp2_with fail
      rw [← hwB]
      clear hwB hbx ck cn
      refine (HDo.out _ HPB.out).mono ?_
      rintro e w4 ⟨rfl, F4, hP, hF, hb⟩
      have HP4 := hid hP
      have HU4 : Hid (Below w.heap.size w w4) := HUB.out.trans (hb.to HLo.out HUB.out.size)
      have HB4 : Hid (w4.heap[bx]? = some (.cells #[.int .u8 kd, .int .i64 nn] 35 (0, 0))) := hb.one HBk.out HNx.out
      have HAp4 : Hid (¬ F4 Bm) := fun h => (hF Bm h).elim HAp.out (fun h => by have := HLt.out; omega)
      have HLo4 : Hid (∀ x, F4 x → w.heap.size ≤ x) := fun x hx => (hF x hx).elim (HLo.out x) fun h => Nat.le_trans HUB.out.size h
      have HM4 := hid (HMB.out.fb hb HAp.out)
      clear hP hF hb HPB HMB HUB HBk HNx HAp HLo HLt
      obtain ⟨x0, x1⟩ := cells_two HB4.out
      have lk4 := HLk.out _ HM4.out
      obtain ⟨w5, hu5, hM5, hg5⟩ := HSt.out _ HM4.out
      have HM5 : Hid (MpAt w5 Bm (k + 1) (heldZ hs5)) := hM5.ext HF5.out
      have HP5 := hid (HP4.out.fb (fb_grown hg5) (fun x hx e => by have e1 : x = Bm := e; subst e1; exact HAp4.out hx))
      have HU5 : Hid (Below w.heap.size w w5) := HU4.out.trans ((fb_grown hg5).to (B := w.heap.size) (fun x hx => by have e1 : x = Bm := hx; subst e1; exact HBm.out) HU4.out.size)
      clear HDo HLk HSt hM5 HF5 HP4 HU4 HM4 HB4 hg5
      rcases (by omega : x = 0 ∨ x = 1 ∨ 2 ≤ x) with hx | hx | hx
      · obtain rfl : er = 1 := by rw [HbE.out, if_pos hx]
        obtain rfl : eb = false := by rw [HbB.out, hx]; rfl
        obtain rfl : v = 0 := by omega
        clear HbE HbB hv
        subst hx
        go_wp2_with fail
        go_round
        case rel => exact ⟨k + 1, hs5, F4, by omega, by go_num, HP5, HL5, HM5, HQ5, HAp4, HLo4, HU5⟩
        case measure => simp [intOf]; omega
      · obtain rfl : er = 0 := by rw [HbE.out, if_neg (by omega)]
        obtain rfl : eb = true := by rw [HbB.out, hx]; rfl
        obtain rfl : v = 0 := by omega
        clear HbE HbB hv
        subst hx
        go_wp2_with fail
        go_round
        case rel => exact ⟨k + 1, hs5, F4, by omega, by go_num, HP5, HL5, HM5, HQ5, HAp4, HLo4, HU5⟩
        case measure => simp [intOf]; omega
      · obtain rfl : er = 0 := by rw [HbE.out, if_neg (by omega)]
        obtain rfl : eb = false := by rw [HbB.out, decide_eq_false (by omega)]
        have hx1 : (x == 1) = false := by simp; omega
        have hx0 : (0 : Int) < x := by omega
        have hxn : ¬ x = 1 := by omega
        obtain rfl : v = x - 1 := by omega
        clear HbE HbB hv
        go_wp2_with fail
        go_round
        case rel => exact ⟨k + 1, hs5, F4, by omega, by go_num, HP5, HL5, HM5, HQ5, HAp4, HLo4, HU5⟩
        case measure => simp [intOf]; omega
    obtain ⟨r, hr⟩ : ∃ r, kd % 4 = r := ⟨_, rfl⟩
    have hr' : kd.tmod 4 = r := by rw [Int.tmod_eq_emod_of_nonneg kd0]; exact hr
    have e1 : (r == 1) = false := by simp; omega
    have e2 : (r == 2) = false := by simp; omega
    have e3 : ¬ r = 1 := by omega
    have e4 : ¬ r = 2 := by omega
    have e5 : 0 ≤ r := by omega
    have e6 : r ≤ 3 := by omega
    clear hk1 hk2
    have HTo := hid fun W (h : PgAt W (some ⟨g, 0, none⟩) hs F) => ptake_any (some ⟨g, 0, none⟩) hs W h
    have HL5 : Hid ((takeH hs).length = N) := by unfold Hid; rw [takeH_len]; exact HLn.out
    by_cases ht : takeI hs < hs.length
    · have u1 : takeN hs = (takeI hs : Int) := by unfold takeN; rw [if_pos ht]
      have u2 : takeE hs = 0 := by unfold takeE; rw [if_pos ht]
      have HF5 := hid (take_f ht)
      have u3 := take_0 ht
      have u4 : takeI hs < N := by rw [← HLn.out]; exact ht
      have HQ5 : Hid (∀ y, heldZ (takeH hs) y ≤ ((k + 1 : Nat) : Int)) := fun y => by
        rw [HF5.out y]
        split
        · omega
        · have := HQ.out y; omega
      rw [u1, u2] at HTo
      have HLk := hid fun W (h : MpAt W Bm k (heldZ hs)) => h.look (x := (takeI hs : Int)) ⟨by omega, by omega⟩
      rw [u3] at HLk
      have HSt := hid fun W (h : MpAt W Bm k (heldZ hs)) => h.store (x := (takeI hs : Int)) (v := 1) (by omega) ⟨by omega, by omega⟩ ⟨by omega, by omega⟩
      clear u1 u2 u3 ht HLn HQ HOk
      generalize takeH hs = hs5 at *
      generalize takeI hs = ti at *
      have p1 : ¬ (ti : Int) < 0 := by omega
      have p2 : ¬ (N : Int) ≤ (ti : Int) := by omega
      go_wp2_with fail
      rw [← hwB]
      clear hwB hbx ck cn
      refine (HTo.out _ HPB.out).mono ?_
      rintro e w4 ⟨rfl, F4, hP, hF, hb⟩
      have HP4 := hid hP
      have HU4 : Hid (Below w.heap.size w w4) := HUB.out.trans (hb.to HLo.out HUB.out.size)
      have HB4 : Hid (w4.heap[bx]? = some (.cells #[.int .u8 kd, .int .i64 nn] 35 (0, 0))) := hb.one HBk.out HNx.out
      have HAp4 : Hid (¬ F4 Bm) := fun h => (hF Bm h).elim HAp.out (fun h => by have := HLt.out; omega)
      have HLo4 : Hid (∀ x, F4 x → w.heap.size ≤ x) := fun x hx => (hF x hx).elim (HLo.out x) fun h => Nat.le_trans HUB.out.size h
      have HM4 := hid (HMB.out.fb hb HAp.out)
      clear hP hF hb HPB HMB HUB HBk HNx HAp HLo HLt
      have lk4 := HLk.out _ HM4.out
      obtain ⟨w5, hu5, hM5, hg5⟩ := HSt.out _ HM4.out
      have HM5 : Hid (MpAt w5 Bm (k + 1) (heldZ hs5)) := hM5.ext fun y => (HF5.out y).symm
      have HP5 := hid (HP4.out.fb (fb_grown hg5) (fun x hx e => by have e1 : x = Bm := e; subst e1; exact HAp4.out hx))
      have HU5 : Hid (Below w.heap.size w w5) := HU4.out.trans ((fb_grown hg5).to (B := w.heap.size) (fun x hx => by have e1 : x = Bm := hx; subst e1; exact HBm.out) HU4.out.size)
      clear HTo HLk HSt hM5 HF5 HP4 HU4 HM4 HB4 hg5
      go_wp2_with fail
      go_round
      case rel => exact ⟨k + 1, hs5, F4, by omega, by go_num, HP5, HL5, HM5, HQ5, HAp4, HLo4, HU5⟩
      case measure => simp [intOf]; omega
    · have u1 : takeN hs = 0 := by unfold takeN; rw [if_neg ht]
      have u2 : takeE hs = 9 := by unfold takeE; rw [if_neg ht]
      have u3 : takeH hs = hs := by unfold takeH; rw [if_neg ht]
      have u4 := used_all HOk.out ht
      have HFr := hid fun F' W (h : PgAt W (some ⟨g, 0, none⟩) hs F') => pfree_any (some ⟨g, 0, none⟩) hs W h
      have HUs := hid fun F' W (h : PgAt W (some ⟨g, 0, none⟩) hs F') => pused_any (some ⟨g, 0, none⟩) hs W h
      rw [u4, HLn.out, Int.sub_self] at HFr
      rw [u4, HLn.out] at HUs
      rw [u1, u2, u3] at HTo
      have HQ5 : Hid (∀ y, heldZ hs y ≤ ((k + 1 : Nat) : Int)) := fun y => by have := HQ.out y; omega
      clear u1 u2 u3 u4 ht HQ HOk HL5
      generalize usedL hs = us at *
      go_wp2_with fail
      rw [← hwB]
      clear hwB hbx ck cn
      refine (HTo.out _ HPB.out).mono ?_
      rintro e w4 ⟨rfl, F4, hP, hF, hb⟩
      have HP4 := hid hP
      have HU4 : Hid (Below w.heap.size w w4) := HUB.out.trans (hb.to HLo.out HUB.out.size)
      have HB4 : Hid (w4.heap[bx]? = some (.cells #[.int .u8 kd, .int .i64 nn] 35 (0, 0))) := hb.one HBk.out HNx.out
      have HAp4 : Hid (¬ F4 Bm) := fun h => (hF Bm h).elim HAp.out (fun h => by have := HLt.out; omega)
      have HLo4 : Hid (∀ x, F4 x → w.heap.size ≤ x) := fun x hx => (hF x hx).elim (HLo.out x) fun h => Nat.le_trans HUB.out.size h
      have HM4 := hid (HMB.out.fb hb HAp.out)
      clear hP hF hb HPB HMB HUB HBk HNx HAp HLo HLt
      clear HTo
      go_wp2_with fail
      refine (HFr.out _ _ HP4.out).mono ?_
      rintro e w5 ⟨rfl, hb⟩
      have HP5 := hid (HP4.out.below hb)
      have HM5 := hid (HM4.out.below hb)
      have HU5 := hid (HU4.out.trans (hb.mono HU4.out.size))
      clear hb HP4 HM4 HU4 HFr HB4
      go_wp2_with fail
      refine (HUs.out _ _ HP5.out).mono ?_
      rintro e w6 ⟨a6, c6, rfl, hr6, hb⟩
      have r6 := hr6.room
      have m6 := hr6.most
      have HP6 := hid (HP5.out.below hb)
      have HM6 := hid ((HM5.out.below hb).mono (Nat.le_succ k))
      have HU6 := hid (HU5.out.trans (hb.mono HU5.out.size))
      clear hb hr6 HP5 HM5 HU5 HUs
      go_wp2_with fail
      go_round
      case rel => exact ⟨k + 1, hs, F4, by omega, by go_num, HP6, HLn, HM6, HQ5, HAp4, HLo4, HU6⟩
      case measure => simp [intOf]; omega
  · obtain rfl : k = M := by omega
    have HW0 := HU
    clear HPs HP HLn HM HQ HAp HLo HU hmm
    go_wp2_with fail
    refine (alive13_any _).mono ?_
    rintro e wz ⟨rfl, hb⟩
    have HZ := hid (HW0.out.trans (hb.mono HW0.out.size))
    clear hb
    go_wp2
    go_ret
    exact ⟨rfl, HZ.out⟩

/-! ### The row's step -/
set_option maxRecDepth 1000000 in
theorem lifted (os : Os) (started : os.Started) (H : Type) (enc : TypeId × Value → H) :
    ReturnsInHanded {} Try.checked os 4 .any (Rows.pageCountsSpec.pre6 enc Try.prog Try.f4 Rows.pageCountsRow.domain false) (Rows.pageCountsSpec.post enc Try.prog Try.f4 false true false false) := by
  refine returnsInHanded_of_change (C := Try.checked) own started (by kernel_rfl) Try.func4
    (ChangeSpec.witness6 (enc := enc) (C := Try.checked) false ⟨#[], #[.int .i64 0, .slice none 0 0], []⟩ 8 (by kernel_rfl) (by kernel_rfl) (by kernel_rfl) (by kernel_rfl)) ?_
  intro W base args ds gs before hval0 hW hcnd _
  have hval : ∀ (j : Nat) t v, Try.f4.params[j]? = some t → args[j]? = some v → Value.okWide Try.prog W .any base t v := hval0
  have hW' := hW
  obtain ⟨p, q, hA0, hV, rfl, hfz, hnd⟩ := hW
  have hA : DataW.TrodAll enc Try.prog W 0 (fun _ => true) true Try.f4.params.toList args.toList ds p := hA0
  rw [Try.params4] at hA hval
  obtain ⟨v0, vs0, d0, ds0, p0, q0, hargs, rfl, rfl, h0, r0⟩ := trodAll_cons hA
  obtain ⟨v1, vs1, d1, ds1, p1, q1, rfl, rfl, rfl, h1, r1⟩ := trodAll_cons r0
  obtain ⟨rfl, rfl, rfl⟩ := trodAll_nil r1
  obtain rfl : args = #[v0, v1] := by cases args; simp_all
  obtain ⟨rfl, rfl⟩ := trodVars_none hV
  have k0 := h0
  have lt0 : ∀ x ∈ p0, x.block < W.heap.size := by obtain ⟨m, hm⟩ := k0; exact DataW.trod_lt m _ _ _ hm
  obtain ⟨n0, rfl, gn0⟩ := pint_open (hval 0 3 v0 rfl rfl) h0
  have k1 := h1
  have lt1 : ∀ x ∈ p1, x.block < W.heap.size := by obtain ⟨m, hm⟩ := k1; exact DataW.trod_lt m _ _ _ hm
  obtain ⟨a1, l1, c1, ks1, ns1, rfl, ga1⟩ := steps_open (hval 1 22 v1 rfl rfl) h1
  clear hA0 hval0
  refine (walk n0 a1 l1 c1 ks1 ns1 W gn0 ga1).mono fun e W' ⟨he, bel⟩ => ?_
  subst he
  exact ⟨_, rfl, _, _, _, [], _, [], hW', trodAll_mk1 (shut_bool Try.underlying4 _), (trodAll_cons_mk (Below.trod laidOut (by kernel_rfl) (of_decide_eq_true (by kernel_rfl)) k0 bel lt0) (trodAll_cons_mk (Below.trod laidOut (by kernel_rfl) (of_decide_eq_true (by kernel_rfl)) k1 bel lt1) trodAll_mk0)), rfl, bel.frame _, fun h => by cases h⟩

theorem over : Rows.pageCountsRow.holds Try.pinned (OpenSpec.ofChange Rows.pageCountsSpec) :=
  OpenClaim.holds_of_wide 4 Try.f4 rfl rfl rfl rfl rfl rfl rfl ⟨rfl, rfl, rfl, rfl, rfl⟩ rfl rfl rfl rfl rfl (by kernel_rfl) Try.func4 (by kernel_rfl)
    (of_decide_eq_true (by kernel_rfl)) (by unfold Func.isWrapper; first | (rw [if_pos (by decide +kernel)]; kernel_rfl) | (rw [if_neg (by decide +kernel)]; exact ⟨rfl, rfl⟩))
    (fun os started H enc _ => lifted os started H enc)

/-- The statement. -/
theorem proved : Rows.PageCountsSaid := over
#print axioms proved
end Go.Proofs.Ytdmakboapchhnaa.pageCounts
