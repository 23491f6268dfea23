/-
  slices.Sort at uint64, to the element: pdqsort, slices.Sort.
-/
import Derived.Test.YtlhhkgjolilpiaaSoI
namespace Go.Proofs.Ytlhhkgjolilpiaa
open Go.RowKit
set_option linter.unusedVariables false
set_option maxRecDepth 1000000

theorem pdq_small {d : Array Int} {a c lim : Nat} {wb wp : Bool} (h : c - a ≤ 12) : Sort.pdq Sort.ltInt d a c lim wb wp = Sort.insertionSort Sort.ltInt d a c := by
  rw [Sort.pdq, if_pos h]
theorem pdq_heap {d : Array Int} {a c lim : Nat} {wb wp : Bool} (h : ¬ c - a ≤ 12) (h0 : lim = 0) : Sort.pdq Sort.ltInt d a c lim wb wp = Sort.heapSort Sort.ltInt d a c := by
  rw [Sort.pdq, if_neg h, if_pos h0]
set_option maxHeartbeats 4000000 in
theorem pdq_big {d d1 d2 : Array Int} {a c lim lim1 p2 : Nat} {wb wp : Bool} {cp : Nat × Sort.Hint} {h2 : Sort.Hint} {pi : Array Int × Bool} (h : ¬ c - a ≤ 12) (h0 : ¬ lim = 0)
    (e1 : (if !wb then Sort.breakPatterns d a c else d) = d1) (el : (if !wb then lim - 1 else lim) = lim1) (ec : Sort.choosePivot Sort.ltInt d1 a c = cp)
    (e2 : (if cp.2 = .decreasing then Sort.reverseRange d1 a c else d1) = d2) (ep : (if cp.2 = .decreasing then (c - 1) - (cp.1 - a) else cp.1) = p2) (eh : (if cp.2 = .decreasing then Sort.Hint.increasing else cp.2) = h2)
    (epi : (if wb && wp && h2 = .increasing then Sort.partialInsertionSort Sort.ltInt d2 a c else (d2, false)) = pi) :
    (pi.2 = true → Sort.pdq Sort.ltInt d a c lim wb wp = pi.1) ∧
    (pi.2 = false → (0 < a ∧ ¬ pi.1[a - 1]! < pi.1[p2]!) → ∀ mid d4, Sort.partitionEqual Sort.ltInt pi.1 a c p2 = (mid, d4) → a < mid → mid ≤ c → Sort.pdq Sort.ltInt d a c lim wb wp = Sort.pdq Sort.ltInt d4 mid c lim1 wb wp) ∧
    (pi.2 = false → ¬ (0 < a ∧ ¬ pi.1[a - 1]! < pi.1[p2]!) → ∀ mid ap d4, Sort.partition Sort.ltInt pi.1 a c p2 = (mid, ap, d4) → a ≤ mid → mid < c → Sort.pdq Sort.ltInt d a c lim wb wp =
      (if mid - a < c - mid then Sort.pdq Sort.ltInt (Sort.pdq Sort.ltInt d4 a mid lim1 true true) (mid + 1) c lim1 (decide (mid - a ≥ (c - a) / 8)) ap
       else Sort.pdq Sort.ltInt (Sort.pdq Sort.ltInt d4 (mid + 1) c lim1 true true) a mid lim1 (decide (c - mid ≥ (c - a) / 8)) ap)) := by
  have hE : Sort.pdq Sort.ltInt d a c lim wb wp = if pi.2 then pi.1 else
      if a > 0 && !Sort.ltInt pi.1[a - 1]! pi.1[p2]! then
        match Sort.partitionEqual Sort.ltInt pi.1 a c p2 with
        | (mid, d4) => if _h : a < mid ∧ mid ≤ c then Sort.pdq Sort.ltInt d4 mid c lim1 wb wp else d4
      else
        match Sort.partition Sort.ltInt pi.1 a c p2 with
        | (mid, ap, d4) =>
          if _h : a ≤ mid ∧ mid < c then
            if mid - a < c - mid then
              Sort.pdq Sort.ltInt (Sort.pdq Sort.ltInt d4 a mid lim1 true true) (mid + 1) c lim1 (decide (mid - a ≥ (c - a) / 8)) ap
            else
              Sort.pdq Sort.ltInt (Sort.pdq Sort.ltInt d4 (mid + 1) c lim1 true true) a mid lim1 (decide (c - mid ≥ (c - a) / 8)) ap
          else d4 := by
    conv => lhs; rw [Sort.pdq, if_neg h, if_neg h0]
    simp only [e1, el, ec, e2, ep, eh, epi]
  rw [hE]
  clear hE e1 el ec e2 ep eh epi
  refine ⟨fun hp => ?_, fun hp hq mid d4 hm h1 h2 => ?_, fun hp hq mid ap d4 hm h1 h2 => ?_⟩
  · rw [if_pos hp]
  · have hq' : (decide (a > 0) && !Sort.ltInt pi.1[a - 1]! pi.1[p2]!) = true := by
      simp only [Sort.ltInt, gt_iff_lt, Bool.and_eq_true, Bool.not_eq_true', decide_eq_true_eq, decide_eq_false_iff_not]
      exact hq
    rw [hp, hq', hm]
    simp only [Bool.false_eq_true, if_false, if_true]
    rw [dif_pos ⟨h1, h2⟩]
  · have hq' : (decide (a > 0) && !Sort.ltInt pi.1[a - 1]! pi.1[p2]!) = false := by
      rw [Bool.eq_false_iff]
      simp only [Sort.ltInt, gt_iff_lt, ne_eq, Bool.and_eq_true, Bool.not_eq_true', decide_eq_true_eq, decide_eq_false_iff_not]
      exact hq
    rw [hp, hq', hm]
    simp only [Bool.false_eq_true, if_false]
    rw [dif_pos ⟨h1, h2⟩]
set_option maxHeartbeats 16000000 in
theorem updq {b N cap : Nat} {w : World} (hc : N ≤ cap) (hm : N ≤ 100000) (g : Nat) : ∀ (lo hi lim : Nat) (d : Array Int) (W : World), hi - lo ≤ g → lo ≤ hi → hi ≤ N → lim ≤ 1000 → So w b N d W →
    Calls Try.prog 44 #[.slice (some ⟨b, 0, none⟩) N cap, .int .i64 lo, .int .i64 hi, .int .i64 lim] W fun e w' => e = .returned (.tuple #[]) ∧ Hid (So w b N (Sort.pdq Sort.ltInt d lo hi lim true true) w') := by
  induction g using Nat.strongRecOn with
  | ind g ih =>
  intro lo hi lim d W hg hlh hhi hlim h
  have HIH0 : Hid (∀ (lo hi lim : Nat) (d : Array Int) (W : World), hi - lo < g → lo ≤ hi → hi ≤ N → lim ≤ 1000 → So w b N d W →
    Calls Try.prog 44 #[.slice (some ⟨b, 0, none⟩) N cap, .int .i64 lo, .int .i64 hi, .int .i64 lim] W fun e w' => e = .returned (.tuple #[]) ∧ Hid (So w b N (Sort.pdq Sort.ltInt d lo hi lim true true) w')) :=
    fun lo hi lim d W h1 h2 h3 h4 h5 => ih _ h1 lo hi lim d W (Nat.le_refl _) h2 h3 h4 h5
  clear ih
  obtain ⟨R, HRe⟩ : ∃ R, Hid (Sort.pdq Sort.ltInt d lo hi lim true true = R) := ⟨_, rfl⟩
  rw [HRe.out]
  have HR0 : Hid (So w b N d W ∧ Sort.pdq Sort.ltInt d lo hi lim true true = R) := ⟨h, HRe.out⟩
  clear h HRe
  go_enter Try.func44, Try.ntmps44
  go_wp2_with fail
  go_loopw [1, 2, 3, 8, 9] (fun s1 s2 s3 s8 s9 W => ∃ (a c l : Nat) (wb wp : Bool) (d1 : Array Int), c - a ≤ g ∧ a ≤ c ∧ c ≤ N ∧ l ≤ 1000 ∧ s1 = .int .i64 a ∧ s2 = .int .i64 c ∧ s3 = .int .i64 l ∧ s8 = .bool wb ∧ s9 = .bool wp ∧ Hid (So w b N d1 W ∧ Sort.pdq Sort.ltInt d1 a c l wb wp = R)) (fun s1 s2 _ _ _ _ => (intOf s2).toNat - (intOf s1).toNat)
  case atStart => exact ⟨lo, hi, lim, true, true, d, by omega, by omega, by omega, by omega, rfl, rfl, rfl, rfl, rfl, HR0⟩
  case round =>
  obtain ⟨a, c, l, wb, wp, d0, hag, hac, hcN, hl, rfl, rfl, rfl, rfl, rfl, H0⟩ := hrel
  rename World => w0
  clear HR0
  obtain ⟨n, hn⟩ : ∃ n : Nat, (c : Int) - (a : Int) = (n : Int) := ⟨c - a, by omega⟩
  have hwn := wrapN (n := n) (by omega)
  by_cases h12 : n ≤ 12
  · have g12 : (n : Int) ≤ 12 := by omega
    have hI := uins a c H0.out.1 hc hm hcN (by omega)
    have HE := hid ((pdq_small (by omega)).symm.trans H0.out.2)
    rw [HE.out] at hI
    clear H0 HIH0
    go_wp2_with fail
    refine hI.mono ?_
    rintro e w1 ⟨rfl, h1⟩
    have H1 := hid h1
    clear hI h1
    go_wp2_with fail
    (try simp only [Exit.inBlock, Exit.then])
    refine bodyPost_ret (results_none rfl _ _ _) rfl ?_
    exact ⟨rfl, H1⟩
  · have g12 : ¬ (n : Int) ≤ 12 := by omega
    by_cases hl0 : l = 0
    · subst hl0
      have hI := uheap a c H0.out.1 hc hm hcN (by omega)
      have HE := hid ((pdq_heap (by omega) rfl).symm.trans H0.out.2)
      rw [HE.out] at hI
      clear H0 HIH0
      go_wp2_with fail
      refine hI.mono ?_
      rintro e w1 ⟨rfl, h1⟩
      have H1 := hid h1
      clear hI h1
      go_wp2_with fail
      (try simp only [Exit.inBlock, Exit.then])
      refine bodyPost_ret (results_none rfl _ _ _) rfl ?_
      exact ⟨rfl, H1⟩
    · have gl0 : ¬ (l : Int) = 0 := by omega
      have HIH : Hid (∀ (lo hi lim : Nat) (d : Array Int) (W : World), hi - lo < n → lo ≤ hi → hi ≤ N → lim ≤ 1000 → So w b N d W → _) := fun lo hi lim d W h1 h2 h3 h4 h5 => HIH0.out lo hi lim d W (by omega) h2 h3 h4 h5
      obtain ⟨d1, Hd1⟩ : ∃ d1, Hid ((if !wb then Sort.breakPatterns d0 a c else d0) = d1) := ⟨_, rfl⟩
      obtain ⟨lim1, Hl1⟩ : ∃ l1, Hid ((if !wb then l - 1 else l) = l1) := ⟨_, rfl⟩
      have hlim1 : lim1 ≤ 1000 := by
        have := Hl1.out
        cases wb <;> simp at this <;> omega
      clear HIH0
      go_upto_if 35 with fail
      go_cut [3] (fun v wx => v = .int .i64 (lim1 : Int) ∧ Hid (So w b N d1 wx))
      case first =>
        cases wb with
        | true =>
          have HA := hid H0.out.1
          have HB : Hid (d0 = d1 ∧ l = lim1) := ⟨by simpa using Hd1.out, by simpa using Hl1.out⟩
          clear Hd1 Hl1 H0 HIH
          go_wp2_with fail
          go_meet
          exact ⟨by rw [HB.out.2], by unfold Hid; rw [← HB.out.1]; exact HA.out⟩
        | false =>
          have hI := ubreak a c H0.out.1 hc hm hcN (by omega)
          have HB : Hid (Sort.breakPatterns d0 a c = d1) := by
            have := Hd1.out
            simp at this
            exact this
          have hL : (l : Int) - 1 = (lim1 : Int) := by
            have := Hl1.out
            simp at this
            omega
          have hwl := wrapN (n := lim1) (by omega)
          rw [HB.out] at hI
          clear Hd1 Hl1 H0 HIH
          go_wp2_with fail
          refine hI.mono ?_
          rintro e w1 ⟨rfl, H1⟩
          clear hI
          go_wp2_with fail
          go_meet
          exact ⟨rfl, H1⟩
      case rest =>
      obtain ⟨rfl, HA⟩ := hcut
      rename_i wc
      have hI := upiv a c HA.out hc hm hcN (by omega)
      have HE0 := hid H0.out.2
      clear HA H0
      go_wp2_with fail
      refine hI.mono ?_
      rintro e w1 ⟨p, t, hp1, hp2, Ht, HCp, rfl, HA⟩
      clear hI
      obtain ⟨d2, Hd2⟩ : ∃ d2, Hid ((if t = 2 then Sort.reverseRange d1 a c else d1) = d2) := ⟨_, rfl⟩
      obtain ⟨p2, Hp2⟩ : ∃ p2, Hid ((if t = 2 then (c - 1) - (p - a) else p) = p2) := ⟨_, rfl⟩
      obtain ⟨t2, Ht2⟩ : ∃ t2 : Int, Hid ((if t = 2 then 1 else t) = t2) := ⟨_, rfl⟩
      have hp21 : a ≤ p2 ∧ p2 < c := by
        have := Hp2.out
        split at this <;> omega
      go_upto_if 50 with fail
      go_cut [11, 12] (fun v u wx => v = .int .i64 (p2 : Int) ∧ u = .int .i64 t2 ∧ Hid (So w b N d2 wx))
      case first =>
        by_cases ht : t = 2
        · have hI := urev a c HA.out hc hm hcN (by omega)
          have HB : Hid (Sort.reverseRange d1 a c = d2) := by
            have := Hd2.out
            rw [if_pos ht] at this
            exact this
          rw [HB.out] at hI
          obtain ⟨c1, hc1⟩ : ∃ c1 : Nat, (c : Int) - 1 = (c1 : Int) := ⟨c - 1, by omega⟩
          obtain ⟨pa, hpa⟩ : ∃ pa : Nat, (p : Int) - (a : Int) = (pa : Int) := ⟨p - a, by omega⟩
          have hpp : (c1 : Int) - (pa : Int) = (p2 : Int) := by
            have := Hp2.out
            rw [if_pos ht] at this
            omega
          have hw1 := wrapN (n := c1) (by omega)
          have hw2 := wrapN (n := pa) (by omega)
          have hw3 := wrapN (n := p2) (by omega)
          have HT : Hid (t2 = 1) := by
            have := Ht2.out
            rw [if_pos ht] at this
            exact this.symm
          subst ht
          clear HA Hd2 Hp2 Ht2 HCp Ht HE0 HIH Hd1 Hl1
          go_wp2_with fail
          refine hI.mono ?_
          rintro e w2 ⟨rfl, h2⟩
          have H2 := hid h2
          clear hI h2
          go_wp2_with fail
          go_meet
          exact ⟨rfl, by rw [HT.out], H2⟩
        · have gt : ¬ t = 2 := ht
          have HB : Hid (d1 = d2 ∧ p = p2 ∧ t = t2) := ⟨by have := Hd2.out; rw [if_neg ht] at this; exact this, by have := Hp2.out; rw [if_neg ht] at this; exact this, by have := Ht2.out; rw [if_neg ht] at this; exact this⟩
          clear Hd2 Hp2 Ht2 HCp Ht HE0 HIH Hd1 Hl1
          go_wp2_with fail
          go_meet
          exact ⟨by rw [HB.out.2.1], by rw [HB.out.2.2], by unfold Hid; rw [← HB.out.1]; exact HA.out⟩
      case rest =>
      obtain ⟨rfl, rfl, HA2⟩ := hcut
      rename World => wc2
      obtain ⟨pi, Hpi⟩ : ∃ pi, Hid ((if wb && wp && hintOf t2 = .increasing then Sort.partialInsertionSort Sort.ltInt d2 a c else (d2, false)) = pi) := ⟨_, rfl⟩
      have HEN : Hid _ := pdq_big (d := d0) (a := a) (c := c) (lim := l) (wb := wb) (wp := wp) (d1 := d1) (lim1 := lim1) (d2 := d2) (p2 := p2) (h2 := hintOf t2) (cp := (p, hintOf t)) (by omega) hl0 Hd1.out Hl1.out HCp.out
        (by rw [← Hd2.out]; rcases Ht.out with rfl | rfl | rfl <;> rfl) (by rw [← Hp2.out]; rcases Ht.out with rfl | rfl | rfl <;> rfl) (by rw [← Ht2.out]; rcases Ht.out with rfl | rfl | rfl <;> rfl) Hpi.out
      rw [HE0.out] at HEN
      have Ht3 : Hid (hintOf t2 = .increasing ↔ t2 = 1) := by
        unfold Hid
        rw [← Ht2.out]
        rcases Ht.out with rfl | rfl | rfl <;> decide
      clear HE0 Hd1 Hl1 HCp Hd2 Hp2 Ht2 Ht HA
      go_upto_region 15 with fail
      go_cut [68] (fun v wx => ∃ cc : Bool, Hid (cc = true ↔ wb = true ∧ wp = true ∧ t2 = 1) ∧ v = .bool cc ∧ Hid (So w b N d2 wx))
      case first =>
        clear HEN Hpi HIH Ht3
        cases wb with
        | false =>
          go_wp2_with fail
          go_meet
          exact ⟨false, by unfold Hid; simp, rfl, HA2⟩
        | true =>
          cases wp with
          | false =>
            go_wp2_with fail
            go_meet
            exact ⟨false, by unfold Hid; simp, rfl, HA2⟩
          | true =>
            by_cases ht1 : t2 = 1
            · subst ht1
              go_wp2_with fail
              go_meet
              exact ⟨true, by unfold Hid; simp, rfl, HA2⟩
            · have ht1' : (t2 == 1) = false := by simp [ht1]
              go_wp2_with fail
              go_meet
              exact ⟨false, by unfold Hid; simp [ht1], rfl, HA2⟩
      case rest =>
      obtain ⟨cc, HCC, rfl, HA25⟩ := hcut
      rename World => wc25
      clear HA2
      go_upto_if 68 with fail
      go_cut [] (fun wx => Hid (pi.2 = false ∧ So w b N pi.1 wx))
      case first =>
        cases cc with
        | true =>
          have hI := upartial a c HA25.out hc hm hcN (by omega)
          have HB : Hid (Sort.partialInsertionSort Sort.ltInt d2 a c = pi) := by
            have := Hpi.out
            have hh := HCC.out.1 rfl
            have h3 := Ht3.out.2 hh.2.2
            rw [if_pos (by simp [hh.1, hh.2.1, h3])] at this
            exact this
          rw [HB.out] at hI
          have HX := hid HEN.out.1
          clear HEN Hpi HIH HA25 HCC
          obtain ⟨pb, Hpb⟩ : ∃ pb, Hid (pi.2 = pb) := ⟨_, rfl⟩
          rw [Hpb.out] at hI
          go_wp2_with fail
          refine hI.mono ?_
          rintro e w3 ⟨rfl, H3⟩
          clear hI
          cases pb with
          | true =>
            have HF := hid (HX.out Hpb.out)
            go_wp2_with fail
            (try simp only [Exit.inBlock, Exit.then])
            refine bodyPost_ret (results_none rfl _ _ _) rfl ?_
            exact ⟨rfl, by unfold Hid; rw [HF.out]; exact H3.out⟩
          | false =>
            go_wp2_with fail
            go_meet
            exact ⟨Hpb.out, H3.out⟩
        | false =>
          have HB : Hid ((d2, false) = pi) := by
            have := Hpi.out
            rw [if_neg (by simp only [Bool.and_eq_true, decide_eq_true_eq, Ht3.out]; intro h; have := HCC.out.2 ⟨h.1.1, h.1.2, h.2⟩; cases this)] at this
            exact this
          have HY : Hid (pi.2 = false ∧ So w b N pi.1 wc25) := by
            unfold Hid
            rw [← HB.out]
            exact ⟨rfl, HA25.out⟩
          clear HEN Hpi HIH HA25 HB HCC
          go_wp2_with fail
          go_meet
          exact HY
      case rest =>
      have HA3 := hcut
      clear hcut HA25 HCC
      rename World => wc3
      obtain ⟨⟨d3, pb⟩, hpi⟩ : ∃ q, pi = q := ⟨_, rfl⟩
      subst hpi
      obtain ⟨rfl, HA4⟩ : pb = false ∧ Hid (So w b N d3 wc3) := HA3.out
      have HX := hid HEN.out.2
      clear HEN HA3 Hpi Ht3
      have HH2 : Hid (So w b N d3 wc3 ∧ True) := ⟨HA4.out, trivial⟩
      clear HA4
      obtain ⟨am, ham⟩ : ∃ am : Nat, am = a - 1 := ⟨_, rfl⟩
      go_upto_region 17 with fail
      go_cut [87] (fun v wx => ∃ c : Bool, Hid (c = true ↔ 0 < a ∧ ¬ d3[am]! < d3[p2]!) ∧ v = .bool c ∧ Hid (So w b N d3 wx))
      case first =>
        clear HX HIH
        by_cases hle : 0 < a
        · have g5 : decide (0 < (a : Int)) = true := decide_eq_true (by omega)
          have g5' : 0 < (a : Int) := by omega
          have hq1 : (a : Int) - 1 = (am : Int) := by omega
          have hwq := wrapN (n := am) (by omega)
          have bx : (am : Int) < (N : Int) := by omega
          have bY : (p2 : Int) < (N : Int) := by omega
          clear ham
          obtain ⟨x, Hx⟩ : ∃ x, Hid (d3[am]! = x) := ⟨_, rfl⟩
          obtain ⟨y, Hy⟩ : ∃ y, Hid (d3[p2]! = y) := ⟨_, rfl⟩
          have cx := HH2.out.1.cell (i := am) (by omega)
          rw [Hx.out] at cx
          have cy := HH2.out.1.cell (i := p2) (by omega)
          rw [Hy.out] at cy
          go_quiet ((go_at_call 52; exact Calls.quiet_of_same ((uless_any x y _).mono fun e w' h => ⟨h.1, h.2.symm⟩)))
          have HR9 := hid (HH2.out.1.drewN nq)
          clear HH2 cx cy
          generalize wc3.drewN nq = w9 at *
          by_cases hxy : x < y
          · rw [decide_eq_true hxy]
            go_wp2_with fail
            go_meet
            exact ⟨false, by unfold Hid; rw [Hx.out, Hy.out]; simp [hle, hxy], rfl, HR9⟩
          · rw [decide_eq_false hxy]
            go_wp2_with fail
            go_meet
            exact ⟨true, by unfold Hid; rw [Hx.out, Hy.out]; simp [hle]; omega, rfl, HR9⟩
        · have g5 : decide (0 < (a : Int)) = false := decide_eq_false (by omega)
          have g5' : ¬ 0 < (a : Int) := by omega
          clear ham
          go_quiet (fail)
          have HR9 := hid (HH2.out.1.drewN nq)
          clear HH2
          generalize wc3.drewN nq = w9 at *
          go_wp2_with fail
          go_meet
          exact ⟨false, by unfold Hid; simp [hle], rfl, HR9⟩
      case rest =>
      obtain ⟨cb, HC, rfl, HA5⟩ := hcut
      rename World => wc4
      clear HH2
      rw [ham] at HC
      clear ham am
      cases cb with
      | true =>
        have hI := uparte a c p2 HA5.out hc hm hcN hp21.1 hp21.2
        have HX2 := hid (HX.out.1 rfl (HC.out.1 rfl))
        clear HX HC HA5 HIH
        go_wp2_with fail
        refine hI.mono ?_
        rintro e w5 ⟨mid, hm1, hm2, rfl, HP⟩
        clear hI
        obtain ⟨Q, HQ⟩ : ∃ Q, Hid (Sort.partitionEqual Sort.ltInt d3 a c p2 = Q) := ⟨_, rfl⟩
        rw [HQ.out] at HP
        have HF := hid (HX2.out mid Q.2 (by rw [HQ.out, ← HP.out.1]) (by omega) hm2)
        have HI := hid HP.out.2
        clear HX2 HP HQ
        go_wp2_with fail
        go_round
        case rel => exact ⟨mid, c, lim1, wb, wp, _, by omega, by omega, by omega, by omega, rfl, rfl, rfl, rfl, rfl, ⟨HI.out, HF.out.symm⟩⟩
        case measure => simp [intOf]; omega
      | false =>
        have hI := upart a c p2 HA5.out hc hm hcN hp21.1 hp21.2
        have HX2 := hid (HX.out.2 rfl (fun hh => by have := HC.out.2 hh; cases this))
        clear HX HC HA5
        go_wp2_with fail
        refine hI.mono ?_
        rintro e wd ⟨mid, bp, D, hm1, hm2, rfl, HP0⟩
        clear hI
        have HP := hid (HX2.out mid bp D HP0.out.1 hm1 hm2).symm
        have HD := hid HP0.out.2
        clear HX2 HP0
        obtain ⟨lf, hlf⟩ : ∃ x : Nat, (mid : Int) - (a : Int) = (x : Int) := ⟨mid - a, by omega⟩
        obtain ⟨rt, hrt⟩ : ∃ x : Nat, (c : Int) - (mid : Int) = (x : Int) := ⟨c - mid, by omega⟩
        obtain ⟨q8, hq8⟩ : ∃ x : Nat, (n : Int) / 8 = (x : Int) := ⟨n / 8, by omega⟩
        have hq8' : (n : Int).tdiv 8 = (q8 : Int) := by rw [Int.tdiv_eq_ediv_of_nonneg (by omega)]; exact hq8
        obtain ⟨mid1, hmid1⟩ : ∃ x : Nat, (mid : Int) + 1 = (x : Int) := ⟨mid + 1, by omega⟩
        have hv1 := wrapN (n := lf) (by omega)
        have hv2 := wrapN (n := rt) (by omega)
        have hv3 := wrapN (n := q8) (by omega)
        have hv4 := wrapN (n := mid1) (by omega)
        by_cases hlr : lf < rt
        · have glr : (lf : Int) < (rt : Int) := by omega
          by_cases hbl : q8 ≤ lf
          · have gbl : (q8 : Int) ≤ (lf : Int) := by omega
            have HF : Hid (Sort.pdq Sort.ltInt (Sort.pdq Sort.ltInt D a mid lim1 true true) mid1 c lim1 true bp = R) := by
              have h := HP.out
              rw [if_pos (by omega), decide_eq_true (by omega), show mid + 1 = mid1 by omega] at h
              exact h
            have hI := HIH.out a mid lim1 D wd (by omega) (by omega) (by omega) (by omega) HD.out
            clear HP HD HIH
            go_wp2_with fail
            refine hI.mono ?_
            rintro e we ⟨rfl, HI⟩
            clear hI
            go_wp2_with fail
            go_round
            case rel => exact ⟨mid1, c, lim1, true, bp, _, by omega, by omega, by omega, by omega, by rfl, by rfl, rfl, rfl, rfl, ⟨HI.out, HF.out⟩⟩
            case measure => simp [intOf]; omega
          · have gbl : ¬ (q8 : Int) ≤ (lf : Int) := by omega
            have HF : Hid (Sort.pdq Sort.ltInt (Sort.pdq Sort.ltInt D a mid lim1 true true) mid1 c lim1 false bp = R) := by
              have h := HP.out
              rw [if_pos (by omega), decide_eq_false (by omega), show mid + 1 = mid1 by omega] at h
              exact h
            have hI := HIH.out a mid lim1 D wd (by omega) (by omega) (by omega) (by omega) HD.out
            clear HP HD HIH
            go_wp2_with fail
            refine hI.mono ?_
            rintro e we ⟨rfl, HI⟩
            clear hI
            go_wp2_with fail
            go_round
            case rel => exact ⟨mid1, c, lim1, false, bp, _, by omega, by omega, by omega, by omega, by rfl, by rfl, rfl, rfl, rfl, ⟨HI.out, HF.out⟩⟩
            case measure => simp [intOf]; omega
        · have glr : ¬ (lf : Int) < (rt : Int) := by omega
          by_cases hbl : q8 ≤ rt
          · have gbl : (q8 : Int) ≤ (rt : Int) := by omega
            have HF : Hid (Sort.pdq Sort.ltInt (Sort.pdq Sort.ltInt D mid1 c lim1 true true) a mid lim1 true bp = R) := by
              have h := HP.out
              rw [if_neg (by omega), decide_eq_true (by omega), show mid + 1 = mid1 by omega] at h
              exact h
            have hI := HIH.out mid1 c lim1 D wd (by omega) (by omega) (by omega) (by omega) HD.out
            clear HP HD HIH
            go_wp2_with fail
            refine hI.mono ?_
            rintro e we ⟨rfl, HI⟩
            clear hI
            go_wp2_with fail
            go_round
            case rel => exact ⟨a, mid, lim1, true, bp, _, by omega, by omega, by omega, by omega, by rfl, by rfl, rfl, rfl, rfl, ⟨HI.out, HF.out⟩⟩
            case measure => simp [intOf]; omega
          · have gbl : ¬ (q8 : Int) ≤ (rt : Int) := by omega
            have HF : Hid (Sort.pdq Sort.ltInt (Sort.pdq Sort.ltInt D mid1 c lim1 true true) a mid lim1 false bp = R) := by
              have h := HP.out
              rw [if_neg (by omega), decide_eq_false (by omega), show mid + 1 = mid1 by omega] at h
              exact h
            have hI := HIH.out mid1 c lim1 D wd (by omega) (by omega) (by omega) (by omega) HD.out
            clear HP HD HIH
            go_wp2_with fail
            refine hI.mono ?_
            rintro e we ⟨rfl, HI⟩
            clear hI
            go_wp2_with fail
            go_round
            case rel => exact ⟨a, mid, lim1, false, bp, _, by omega, by omega, by omega, by omega, by rfl, by rfl, rfl, rfl, rfl, ⟨HI.out, HF.out⟩⟩
            case measure => simp [intOf]; omega
end Go.Proofs.Ytlhhkgjolilpiaa
