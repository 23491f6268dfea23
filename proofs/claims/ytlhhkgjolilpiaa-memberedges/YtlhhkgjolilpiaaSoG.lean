/-
  slices.Sort at uint64, to the element: partition.
-/
import Derived.Test.YtlhhkgjolilpiaaSoF
namespace Go.Proofs.Ytlhhkgjolilpiaa
open Go.RowKit
set_option linter.unusedVariables false
set_option maxRecDepth 1000000

theorem pl_end {a i m I J : Nat} {d : Array Int} {R : Nat × Array Int} (hI : Sort.scanUp (fun x => Sort.ltInt x d[a]!) d m i = I) (hJ : Sort.scanDown (fun x => !Sort.ltInt x d[a]!) d I m = J) (hR : Sort.partLoop Sort.ltInt a i m d = R) :
    (I > J → R = (J, d)) ∧ (¬ I > J → Sort.partLoop Sort.ltInt a (I + 1) (J - 1) (Sort.swp d I J) = R) := by
  rw [Sort.partLoop_eq, hI, hJ] at hR
  refine ⟨fun h => ?_, fun h => ?_⟩
  · rw [if_pos h] at hR; exact hR.symm
  · rw [if_neg h] at hR; exact hR
/-- The first two scans. -/
theorem pt_end {a bb p I J m : Nat} {d d0 : Array Int} (hm : bb - 1 = m) (h0 : Sort.swp d a p = d0) (hI : Sort.scanUp (fun x => Sort.ltInt x d0[a]!) d0 m (a + 1) = I) (hJ : Sort.scanDown (fun x => !Sort.ltInt x d0[a]!) d0 I m = J) :
    (I > J → Sort.partition Sort.ltInt d a bb p = (J, true, Sort.swp d0 J a)) ∧ (¬ I > J → Sort.partition Sort.ltInt d a bb p = ((Sort.partLoop Sort.ltInt a (I + 1) (J - 1) (Sort.swp d0 I J)).1, false, Sort.swp (Sort.partLoop Sort.ltInt a (I + 1) (J - 1) (Sort.swp d0 I J)).2 (Sort.partLoop Sort.ltInt a (I + 1) (J - 1) (Sort.swp d0 I J)).1 a)) := by
  subst hm h0 hI hJ
  refine ⟨fun h => ?_, fun h => ?_⟩
  · rw [Sort.partition]
    simp only [if_pos h]
  · rw [Sort.partition]
    simp only [if_neg h]
set_option maxHeartbeats 16000000 in
theorem upart {b N cap : Nat} {d : Array Int} {w W : World} (lo hi p : Nat) (h : So w b N d W) (hc : N ≤ cap) (hm : N ≤ 100000) (hhi : hi ≤ N) (hp1 : lo ≤ p) (hp2 : p < hi) :
    Calls Try.prog 54 #[.slice (some ⟨b, 0, none⟩) N cap, .int .i64 lo, .int .i64 hi, .int .i64 p] W fun e w' => ∃ (x : Nat) (bb : Bool) (D : Array Int), lo ≤ x ∧ x < hi ∧ e = .returned (.tuple #[.int .i64 x, .bool bb]) ∧ Hid (Sort.partition Sort.ltInt d lo hi p = (x, bb, D) ∧ So w b N D w') := by
  have HR0 : Hid (So w b N d W ∧ True) := ⟨h, trivial⟩
  obtain ⟨d0, Hd0⟩ : ∃ d0, Hid (Sort.swp d lo p = d0) := ⟨_, rfl⟩
  obtain ⟨mh, hmh0⟩ : ∃ m : Nat, (hi : Int) - 1 = (m : Int) := ⟨hi - 1, by omega⟩
  have hwm := wrapN (n := mh) (by omega)
  clear h
  go_enter Try.func54, Try.ntmps54
  go_wp2_with fail
  go_cut [] (fun wx => Hid (So w b N (Sort.swp d lo p) wx))
  case first =>
    obtain ⟨x6, Hx6⟩ : ∃ x6, Hid (d[lo]! = x6) := ⟨_, rfl⟩
    obtain ⟨y6, Hy6⟩ : ∃ y6, Hid (d[p]! = y6) := ⟨_, rfl⟩
    have cx6 := HR0.out.1.cell (i := lo) (by omega)
    rw [Hx6.out] at cx6
    have cy6 := HR0.out.1.cell (i := p) (by omega)
    rw [Hy6.out] at cy6
    have f1 := HR0.out.1.frozen lo
    have f2 := HR0.out.1.frozen p
    have bp : (lo : Int) < (N : Int) := by omega
    have bq : (p : Int) < (N : Int) := by omega
    have HR4 := hid (HR0.out.1.swp lo p Hx6.out Hy6.out).drew
    have HR5 := hid (HR0.out.1.swp' lo p Hx6.out Hy6.out).drew
    by_cases he : lo = p
    · subst he
      obtain rfl : x6 = y6 := Hx6.out.symm.trans Hy6.out
      clear HR0 Hx6 Hy6 cy6 f2 bq
      go_region
      all_goals
        go_wp2_with fail
        go_meet
        first | exact HR4 | (unfold Hid; simpa using HR4.out)
    · have hne : ¬ lo = p := he
      have hne' : ¬ p = lo := fun e => he e.symm
      clear HR0 Hx6 Hy6
      go_region
      all_goals
        go_wp2_with fail
        go_meet
        first | exact HR4 | exact HR5
  case rest =>
  have HW := hcut
  clear hcut
  rename_i wc
  rw [Hd0.out] at HW
  clear HR0
  obtain ⟨Ia, HIa⟩ : ∃ I, Hid (Sort.scanUp (fun x => Sort.ltInt x d0[lo]!) d0 mh (lo + 1) = I) := ⟨_, rfl⟩
  obtain ⟨Ja, HJa⟩ : ∃ J, Hid (Sort.scanDown (fun x => !Sort.ltInt x d0[lo]!) d0 Ia mh = J) := ⟨_, rfl⟩
  have HPT := hid (pt_end (a := lo) (bb := hi) (p := p) (m := mh) (d := d) (by omega) Hd0.out HIa.out HJa.out)
  clear Hd0
  go_wp2_with fail
  go_loopw [10] (fun z W => ∃ i : Nat, lo + 1 ≤ i ∧ i ≤ hi ∧ z = .int .i64 i ∧ Hid (So w b N d0 W ∧ Sort.scanUp (fun x => Sort.ltInt x d0[lo]!) d0 mh i = Ia)) (fun z _ => hi + 1 - (intOf z).toNat)
  case atStart => exact ⟨lo + 1, by omega, by omega, by go_num, ⟨HW.out, HIa.out⟩⟩
  case round =>
  obtain ⟨ia, hia1, hia2, rfl, H2⟩ := hrel
  rename World => w2
  clear HW HIa
  go_wp2_with fail
  go_cut [43] (fun v wx => ∃ c : Bool, Hid (c = true ↔ ia ≤ mh ∧ d0[ia]! < d0[lo]!) ∧ v = .bool c ∧ Hid (So w b N d0 wx))
  case first =>
    by_cases hle : ia ≤ mh
    · have g5 : decide ((ia : Int) ≤ (mh : Int)) = true := decide_eq_true (by omega)
      have g5' : (ia : Int) ≤ (mh : Int) := by omega
      have bx : (ia : Int) < (N : Int) := by omega
      have bY : (lo : Int) < (N : Int) := by omega
      obtain ⟨x, Hx⟩ : ∃ x, Hid (d0[ia]! = x) := ⟨_, rfl⟩
      obtain ⟨y, Hy⟩ : ∃ y, Hid (d0[lo]! = y) := ⟨_, rfl⟩
      have cx := H2.out.1.cell (i := ia) (by omega)
      rw [Hx.out] at cx
      have cy := H2.out.1.cell (i := lo) (by omega)
      rw [Hy.out] at cy
      go_quiet ((go_at_call 52; exact Calls.quiet_of_same ((uless_any x y _).mono fun e w' h => ⟨h.1, h.2.symm⟩)))
      have HR9 := hid (H2.out.1.drewN nq)
      clear H2 cx cy
      generalize w2.drewN nq = w9 at *
      by_cases hxy : x < y
      · rw [decide_eq_true hxy]
        go_wp2_with fail
        go_meet
        exact ⟨true, by unfold Hid; rw [Hx.out, Hy.out]; simp [hle, hxy], rfl, HR9⟩
      · rw [decide_eq_false hxy]
        go_wp2_with fail
        go_meet
        exact ⟨false, by unfold Hid; rw [Hx.out, Hy.out]; simp [hle]; omega, rfl, HR9⟩
    · have g5 : decide ((ia : Int) ≤ (mh : Int)) = false := decide_eq_false (by omega)
      have g5' : ¬ (ia : Int) ≤ (mh : Int) := by omega
      go_quiet (fail)
      have HR9 := hid (H2.out.1.drewN nq)
      clear H2
      generalize w2.drewN nq = w9 at *
      go_wp2_with fail
      go_meet
      exact ⟨false, by unfold Hid; simp [hle], rfl, HR9⟩
  case rest =>
  obtain ⟨c, HC, rfl, HW⟩ := hcut
  rename_i wc
  cases c with
  | true =>
    have HE : Hid (ia ≤ mh ∧ Sort.scanUp (fun x => Sort.ltInt x d0[lo]!) d0 mh (ia + 1) = Ia) := by
      have h := HC.out.1 rfl
      exact ⟨h.1, (up_go h.1 (by simp only [Sort.ltInt, decide_eq_true_eq]; exact h.2)).symm.trans H2.out.2⟩
    have hle := HE.out.1
    clear HC H2
    go_wp2_with fail
    go_round
    case rel => exact ⟨ia + 1, by omega, by omega, by go_num, ⟨HW.out, HE.out.2⟩⟩
    case measure => simp [intOf]; omega
  | false =>
    have HEa : Hid (ia = Ia) := (up_no (fun hh => by
      have := HC.out.2 ⟨hh.1, by simpa [Sort.ltInt] using hh.2⟩
      cases this)).symm.trans H2.out.2
    clear HC H2
    go_wp2_with fail
    go_loopw [11] (fun z W => ∃ m : Nat, lo ≤ m ∧ m ≤ mh ∧ z = .int .i64 m ∧ Hid (So w b N d0 W ∧ Sort.scanDown (fun x => !Sort.ltInt x d0[lo]!) d0 Ia m = Ja)) (fun z _ => (intOf z).toNat)
    case atStart => exact ⟨mh, by omega, by omega, by rfl, ⟨HW.out, HJa.out⟩⟩
    case round =>
    obtain ⟨ma, hma1, hma2, rfl, H3⟩ := hrel
    rename World => w3
    clear HW HJa
    go_wp2_with fail
    go_cut [60] (fun v wx => ∃ c : Bool, Hid (c = true ↔ ia ≤ ma ∧ ¬ d0[ma]! < d0[lo]!) ∧ v = .bool c ∧ Hid (So w b N d0 wx))
    case first =>
      by_cases hle : ia ≤ ma
      · have g5 : decide ((ia : Int) ≤ (ma : Int)) = true := decide_eq_true (by omega)
        have g5' : (ia : Int) ≤ (ma : Int) := by omega
        have bx : (ma : Int) < (N : Int) := by omega
        have bY : (lo : Int) < (N : Int) := by omega
        obtain ⟨x, Hx⟩ : ∃ x, Hid (d0[ma]! = x) := ⟨_, rfl⟩
        obtain ⟨y, Hy⟩ : ∃ y, Hid (d0[lo]! = y) := ⟨_, rfl⟩
        have cx := H3.out.1.cell (i := ma) (by omega)
        rw [Hx.out] at cx
        have cy := H3.out.1.cell (i := lo) (by omega)
        rw [Hy.out] at cy
        go_quiet ((go_at_call 52; exact Calls.quiet_of_same ((uless_any x y _).mono fun e w' h => ⟨h.1, h.2.symm⟩)))
        have HR9 := hid (H3.out.1.drewN nq)
        clear H3 cx cy
        generalize w3.drewN nq = w9 at *
        by_cases hxy : x < y
        · rw [decide_eq_true hxy]
          go_wp2_with fail
          go_meet
          exact ⟨false, by unfold Hid; rw [Hx.out, Hy.out]; simp [hle, hxy], rfl, HR9⟩
        · rw [decide_eq_false hxy]
          go_wp2_with fail
          go_meet
          exact ⟨true, by unfold Hid; rw [Hx.out, Hy.out]; simp [hle]; omega, rfl, HR9⟩
      · have g5 : decide ((ia : Int) ≤ (ma : Int)) = false := decide_eq_false (by omega)
        have g5' : ¬ (ia : Int) ≤ (ma : Int) := by omega
        go_quiet (fail)
        have HR9 := hid (H3.out.1.drewN nq)
        clear H3
        generalize w3.drewN nq = w9 at *
        go_wp2_with fail
        go_meet
        exact ⟨false, by unfold Hid; simp [hle], rfl, HR9⟩
    case rest =>
    obtain ⟨c, HC, rfl, HW⟩ := hcut
    rename_i wc
    cases c with
    | true =>
      have HE3 : Hid (ia ≤ ma ∧ Sort.scanDown (fun x => !Sort.ltInt x d0[lo]!) d0 Ia (ma - 1) = Ja) := by
        have h := HC.out.1 rfl
        refine ⟨h.1, (down_go (by rw [← HEa.out]; exact h.1) (by omega) ?_).symm.trans H3.out.2⟩
        simp only [Sort.ltInt, Bool.not_eq_true', decide_eq_false_iff_not]; exact h.2
      have hle := HE3.out.1
      clear HC H3
      go_wp2_with fail
      go_round
      case rel => exact ⟨ma - 1, by omega, by omega, by rw [show ((ma - 1 : Nat) : Int) = (ma : Int) - 1 by omega], ⟨HW.out, HE3.out.2⟩⟩
      case measure => simp [intOf]; omega
    | false =>
      have HFa : Hid (ma = Ja) := (down_no (fun hh => by
        have := HC.out.2 ⟨by rw [HEa.out]; exact hh.1, by simpa [Sort.ltInt] using hh.2⟩
        cases this)).symm.trans H3.out.2
      clear HC H3
      by_cases hgt : ma < ia
      · have g7 : (ma : Int) < (ia : Int) := by omega
        have HF := hid (HPT.out.1 (by rw [← HEa.out, ← HFa.out]; exact hgt))
        rw [← HFa.out] at HF
        have HV : Hid (So w b N d0 wc ∧ True) := ⟨HW.out, trivial⟩
        clear HW HPT HEa HFa
        go_wp2_with fail
        go_cut [] (fun wx => Hid (So w b N (Sort.swp d0 ma lo) wx))
        case first =>
          obtain ⟨x6, Hx6⟩ : ∃ x6, Hid (d0[ma]! = x6) := ⟨_, rfl⟩
          obtain ⟨y6, Hy6⟩ : ∃ y6, Hid (d0[lo]! = y6) := ⟨_, rfl⟩
          have cx6 := HV.out.1.cell (i := ma) (by omega)
          rw [Hx6.out] at cx6
          have cy6 := HV.out.1.cell (i := lo) (by omega)
          rw [Hy6.out] at cy6
          have f1 := HV.out.1.frozen ma
          have f2 := HV.out.1.frozen lo
          have bp : (ma : Int) < (N : Int) := by omega
          have bq : (lo : Int) < (N : Int) := by omega
          have HR4 := hid (HV.out.1.swp ma lo Hx6.out Hy6.out).drew
          have HR5 := hid (HV.out.1.swp' ma lo Hx6.out Hy6.out).drew
          by_cases he : ma = lo
          · subst he
            obtain rfl : x6 = y6 := Hx6.out.symm.trans Hy6.out
            clear HV Hx6 Hy6 cy6 f2 bq
            go_region
            all_goals
              go_wp2_with fail
              go_meet
              first | exact HR4 | (unfold Hid; simpa using HR4.out)
          · have hne : ¬ ma = lo := he
            have hne' : ¬ lo = ma := fun e => he e.symm
            clear HV Hx6 Hy6
            go_region
            all_goals
              go_wp2_with fail
              go_meet
              first | exact HR4 | exact HR5
        case rest =>
        have HW := hcut
        clear hcut
        rename_i wc
        go_wp2_with fail
        go_ret2
        exact ⟨ma, true, _, by omega, by omega, rfl, ⟨HF.out, HW.out⟩⟩
      · have g7 : ¬ (ma : Int) < (ia : Int) := by omega
        obtain ⟨Q, HQ⟩ : ∃ Q, Hid (Sort.partLoop Sort.ltInt lo (ia + 1) (ma - 1) (Sort.swp d0 ia ma) = Q) := ⟨_, rfl⟩
        have HQR : Hid (∀ q : Nat × Array Int, Q = q → Sort.partition Sort.ltInt d lo hi p = (q.1, false, Sort.swp q.2 q.1 lo)) := by
          intro q hq
          have := HPT.out.2 (by rw [← HEa.out, ← HFa.out]; omega)
          rw [← HEa.out, ← HFa.out, HQ.out, hq] at this
          exact this
        have HV : Hid (So w b N d0 wc ∧ True) := ⟨HW.out, trivial⟩
        clear HW HPT HEa HFa
        go_wp2_with fail
        go_cut [] (fun wx => Hid (So w b N (Sort.swp d0 ia ma) wx))
        case first =>
          obtain ⟨x6, Hx6⟩ : ∃ x6, Hid (d0[ia]! = x6) := ⟨_, rfl⟩
          obtain ⟨y6, Hy6⟩ : ∃ y6, Hid (d0[ma]! = y6) := ⟨_, rfl⟩
          have cx6 := HV.out.1.cell (i := ia) (by omega)
          rw [Hx6.out] at cx6
          have cy6 := HV.out.1.cell (i := ma) (by omega)
          rw [Hy6.out] at cy6
          have f1 := HV.out.1.frozen ia
          have f2 := HV.out.1.frozen ma
          have bp : (ia : Int) < (N : Int) := by omega
          have bq : (ma : Int) < (N : Int) := by omega
          have HR4 := hid (HV.out.1.swp ia ma Hx6.out Hy6.out).drew
          have HR5 := hid (HV.out.1.swp' ia ma Hx6.out Hy6.out).drew
          by_cases he : ia = ma
          · subst he
            obtain rfl : x6 = y6 := Hx6.out.symm.trans Hy6.out
            clear HV Hx6 Hy6 cy6 f2 bq
            go_region
            all_goals
              go_wp2_with fail
              go_meet
              first | exact HR4 | (unfold Hid; simpa using HR4.out)
          · have hne : ¬ ia = ma := he
            have hne' : ¬ ma = ia := fun e => he e.symm
            clear HV Hx6 Hy6
            go_region
            all_goals
              go_wp2_with fail
              go_meet
              first | exact HR4 | exact HR5
        case rest =>
        have HW := hcut
        clear hcut
        rename_i wc
        clear HV
        go_wp2_with fail
        go_loopw [10, 11] (fun z y W => ∃ (i m : Nat) (d1 : Array Int), lo + 1 ≤ i ∧ (i ≤ hi ∧ lo ≤ m) ∧ m < hi ∧ z = .int .i64 i ∧ y = .int .i64 m ∧ Hid (So w b N d1 W ∧ Sort.partLoop Sort.ltInt lo i m d1 = Q)) (fun z _ _ => hi + 1 - (intOf z).toNat)
        case atStart => exact ⟨ia + 1, ma - 1, _, by omega, by omega, by omega, by go_num, by rw [show ((ma - 1 : Nat) : Int) = (ma : Int) - 1 by omega], ⟨HW.out, HQ.out⟩⟩
        case round =>
        obtain ⟨i0, m0, d1, hi0, him, hmh, rfl, rfl, H1⟩ := hrel
        rename World => w1
        clear HW HQ
        obtain ⟨Ib, HIb⟩ : ∃ I, Hid (Sort.scanUp (fun x => Sort.ltInt x d1[lo]!) d1 m0 i0 = I) := ⟨_, rfl⟩
        obtain ⟨Jb, HJb⟩ : ∃ J, Hid (Sort.scanDown (fun x => !Sort.ltInt x d1[lo]!) d1 Ib m0 = J) := ⟨_, rfl⟩
        have HEN := hid (pl_end HIb.out HJb.out H1.out.2)
        have H1' := hid H1.out.1
        clear H1
        go_wp2_with fail
        go_loopw [10] (fun z W => ∃ i : Nat, i0 ≤ i ∧ i ≤ hi ∧ z = .int .i64 i ∧ Hid (So w b N d1 W ∧ Sort.scanUp (fun x => Sort.ltInt x d1[lo]!) d1 m0 i = Ib)) (fun z _ => hi + 1 - (intOf z).toNat)
        case atStart => exact ⟨i0, by omega, by omega, by go_num, ⟨H1'.out, HIb.out⟩⟩
        case round =>
        obtain ⟨ib, hib1, hib2, rfl, H2⟩ := hrel
        rename World => w2
        clear H1' HIb
        go_wp2_with fail
        go_cut [112] (fun v wx => ∃ c : Bool, Hid (c = true ↔ ib ≤ m0 ∧ d1[ib]! < d1[lo]!) ∧ v = .bool c ∧ Hid (So w b N d1 wx))
        case first =>
          by_cases hle : ib ≤ m0
          · have g5 : decide ((ib : Int) ≤ (m0 : Int)) = true := decide_eq_true (by omega)
            have g5' : (ib : Int) ≤ (m0 : Int) := by omega
            have bx : (ib : Int) < (N : Int) := by omega
            have bY : (lo : Int) < (N : Int) := by omega
            obtain ⟨x, Hx⟩ : ∃ x, Hid (d1[ib]! = x) := ⟨_, rfl⟩
            obtain ⟨y, Hy⟩ : ∃ y, Hid (d1[lo]! = y) := ⟨_, rfl⟩
            have cx := H2.out.1.cell (i := ib) (by omega)
            rw [Hx.out] at cx
            have cy := H2.out.1.cell (i := lo) (by omega)
            rw [Hy.out] at cy
            go_quiet ((go_at_call 52; exact Calls.quiet_of_same ((uless_any x y _).mono fun e w' h => ⟨h.1, h.2.symm⟩)))
            have HR9 := hid (H2.out.1.drewN nq)
            clear H2 cx cy
            generalize w2.drewN nq = w9 at *
            by_cases hxy : x < y
            · rw [decide_eq_true hxy]
              go_wp2_with fail
              go_meet
              exact ⟨true, by unfold Hid; rw [Hx.out, Hy.out]; simp [hle, hxy], rfl, HR9⟩
            · rw [decide_eq_false hxy]
              go_wp2_with fail
              go_meet
              exact ⟨false, by unfold Hid; rw [Hx.out, Hy.out]; simp [hle]; omega, rfl, HR9⟩
          · have g5 : decide ((ib : Int) ≤ (m0 : Int)) = false := decide_eq_false (by omega)
            have g5' : ¬ (ib : Int) ≤ (m0 : Int) := by omega
            go_quiet (fail)
            have HR9 := hid (H2.out.1.drewN nq)
            clear H2
            generalize w2.drewN nq = w9 at *
            go_wp2_with fail
            go_meet
            exact ⟨false, by unfold Hid; simp [hle], rfl, HR9⟩
        case rest =>
        obtain ⟨c, HC, rfl, HW⟩ := hcut
        rename_i wc
        cases c with
        | true =>
          have HE : Hid (ib ≤ m0 ∧ Sort.scanUp (fun x => Sort.ltInt x d1[lo]!) d1 m0 (ib + 1) = Ib) := by
            have h := HC.out.1 rfl
            exact ⟨h.1, (up_go h.1 (by simp only [Sort.ltInt, decide_eq_true_eq]; exact h.2)).symm.trans H2.out.2⟩
          have hle := HE.out.1
          clear HC H2
          go_wp2_with fail
          go_round
          case rel => exact ⟨ib + 1, by omega, by omega, by go_num, ⟨HW.out, HE.out.2⟩⟩
          case measure => simp [intOf]; omega
        | false =>
          have HEb : Hid (ib = Ib) := (up_no (fun hh => by
            have := HC.out.2 ⟨hh.1, by simpa [Sort.ltInt] using hh.2⟩
            cases this)).symm.trans H2.out.2
          clear HC H2
          go_wp2_with fail
          go_loopw [11] (fun z W => ∃ m : Nat, lo ≤ m ∧ m ≤ m0 ∧ z = .int .i64 m ∧ Hid (So w b N d1 W ∧ Sort.scanDown (fun x => !Sort.ltInt x d1[lo]!) d1 Ib m = Jb)) (fun z _ => (intOf z).toNat)
          case atStart => exact ⟨m0, by omega, by omega, by rfl, ⟨HW.out, HJb.out⟩⟩
          case round =>
          obtain ⟨mb, hmb1, hmb2, rfl, H3⟩ := hrel
          rename World => w3
          clear HW HJb
          go_wp2_with fail
          go_cut [129] (fun v wx => ∃ c : Bool, Hid (c = true ↔ ib ≤ mb ∧ ¬ d1[mb]! < d1[lo]!) ∧ v = .bool c ∧ Hid (So w b N d1 wx))
          case first =>
            by_cases hle : ib ≤ mb
            · have g5 : decide ((ib : Int) ≤ (mb : Int)) = true := decide_eq_true (by omega)
              have g5' : (ib : Int) ≤ (mb : Int) := by omega
              have bx : (mb : Int) < (N : Int) := by omega
              have bY : (lo : Int) < (N : Int) := by omega
              obtain ⟨x, Hx⟩ : ∃ x, Hid (d1[mb]! = x) := ⟨_, rfl⟩
              obtain ⟨y, Hy⟩ : ∃ y, Hid (d1[lo]! = y) := ⟨_, rfl⟩
              have cx := H3.out.1.cell (i := mb) (by omega)
              rw [Hx.out] at cx
              have cy := H3.out.1.cell (i := lo) (by omega)
              rw [Hy.out] at cy
              go_quiet ((go_at_call 52; exact Calls.quiet_of_same ((uless_any x y _).mono fun e w' h => ⟨h.1, h.2.symm⟩)))
              have HR9 := hid (H3.out.1.drewN nq)
              clear H3 cx cy
              generalize w3.drewN nq = w9 at *
              by_cases hxy : x < y
              · rw [decide_eq_true hxy]
                go_wp2_with fail
                go_meet
                exact ⟨false, by unfold Hid; rw [Hx.out, Hy.out]; simp [hle, hxy], rfl, HR9⟩
              · rw [decide_eq_false hxy]
                go_wp2_with fail
                go_meet
                exact ⟨true, by unfold Hid; rw [Hx.out, Hy.out]; simp [hle]; omega, rfl, HR9⟩
            · have g5 : decide ((ib : Int) ≤ (mb : Int)) = false := decide_eq_false (by omega)
              have g5' : ¬ (ib : Int) ≤ (mb : Int) := by omega
              go_quiet (fail)
              have HR9 := hid (H3.out.1.drewN nq)
              clear H3
              generalize w3.drewN nq = w9 at *
              go_wp2_with fail
              go_meet
              exact ⟨false, by unfold Hid; simp [hle], rfl, HR9⟩
          case rest =>
          obtain ⟨c, HC, rfl, HW⟩ := hcut
          rename_i wc
          cases c with
          | true =>
            have HE3 : Hid (ib ≤ mb ∧ Sort.scanDown (fun x => !Sort.ltInt x d1[lo]!) d1 Ib (mb - 1) = Jb) := by
              have h := HC.out.1 rfl
              refine ⟨h.1, (down_go (by rw [← HEb.out]; exact h.1) (by omega) ?_).symm.trans H3.out.2⟩
              simp only [Sort.ltInt, Bool.not_eq_true', decide_eq_false_iff_not]; exact h.2
            have hle := HE3.out.1
            clear HC H3
            go_wp2_with fail
            go_round
            case rel => exact ⟨mb - 1, by omega, by omega, by rw [show ((mb - 1 : Nat) : Int) = (mb : Int) - 1 by omega], ⟨HW.out, HE3.out.2⟩⟩
            case measure => simp [intOf]; omega
          | false =>
            have HFb : Hid (mb = Jb) := (down_no (fun hh => by
              have := HC.out.2 ⟨by rw [HEb.out]; exact hh.1, by simpa [Sort.ltInt] using hh.2⟩
              cases this)).symm.trans H3.out.2
            clear HC H3
            by_cases hgt : mb < ib
            · have g7 : (mb : Int) < (ib : Int) := by omega
              have HF : Hid (Q = (mb, d1)) := by
                unfold Hid
                rw [HEN.out.1 (by rw [← HEb.out, ← HFb.out]; exact hgt), HFb.out]
              have HV : Hid (So w b N d1 wc ∧ True) := ⟨HW.out, trivial⟩
              have HD := hid (HQR.out (mb, d1) HF.out)
              clear HW HEN HEb HFb HF HQR
              go_wp2_with fail
              go_cut [] (fun wx => Hid (So w b N (Sort.swp d1 mb lo) wx))
              case first =>
                obtain ⟨x6, Hx6⟩ : ∃ x6, Hid (d1[mb]! = x6) := ⟨_, rfl⟩
                obtain ⟨y6, Hy6⟩ : ∃ y6, Hid (d1[lo]! = y6) := ⟨_, rfl⟩
                have cx6 := HV.out.1.cell (i := mb) (by omega)
                rw [Hx6.out] at cx6
                have cy6 := HV.out.1.cell (i := lo) (by omega)
                rw [Hy6.out] at cy6
                have f1 := HV.out.1.frozen mb
                have f2 := HV.out.1.frozen lo
                have bp : (mb : Int) < (N : Int) := by omega
                have bq : (lo : Int) < (N : Int) := by omega
                have HR4 := hid (HV.out.1.swp mb lo Hx6.out Hy6.out).drew
                have HR5 := hid (HV.out.1.swp' mb lo Hx6.out Hy6.out).drew
                by_cases he : mb = lo
                · subst he
                  obtain rfl : x6 = y6 := Hx6.out.symm.trans Hy6.out
                  clear HV Hx6 Hy6 cy6 f2 bq
                  go_region
                  all_goals
                    go_wp2_with fail
                    go_meet
                    first | exact HR4 | (unfold Hid; simpa using HR4.out)
                · have hne : ¬ mb = lo := he
                  have hne' : ¬ lo = mb := fun e => he e.symm
                  clear HV Hx6 Hy6
                  go_region
                  all_goals
                    go_wp2_with fail
                    go_meet
                    first | exact HR4 | exact HR5
              case rest =>
              have HW := hcut
              clear hcut
              rename_i wc
              go_wp2_with fail
              go_ret2
              exact ⟨mb, false, _, by omega, by omega, rfl, ⟨HD.out, HW.out⟩⟩
            · have g7 : ¬ (mb : Int) < (ib : Int) := by omega
              have HF : Hid (Sort.partLoop Sort.ltInt lo (ib + 1) (mb - 1) (Sort.swp d1 ib mb) = Q) := by
                have := HEN.out.2 (by rw [← HEb.out, ← HFb.out]; omega)
                rw [← HEb.out, ← HFb.out] at this
                exact this
              have HV : Hid (So w b N d1 wc ∧ True) := ⟨HW.out, trivial⟩
              clear HW HEN HEb HFb
              go_wp2_with fail
              go_cut [] (fun wx => Hid (So w b N (Sort.swp d1 ib mb) wx))
              case first =>
                obtain ⟨x6, Hx6⟩ : ∃ x6, Hid (d1[ib]! = x6) := ⟨_, rfl⟩
                obtain ⟨y6, Hy6⟩ : ∃ y6, Hid (d1[mb]! = y6) := ⟨_, rfl⟩
                have cx6 := HV.out.1.cell (i := ib) (by omega)
                rw [Hx6.out] at cx6
                have cy6 := HV.out.1.cell (i := mb) (by omega)
                rw [Hy6.out] at cy6
                have f1 := HV.out.1.frozen ib
                have f2 := HV.out.1.frozen mb
                have bp : (ib : Int) < (N : Int) := by omega
                have bq : (mb : Int) < (N : Int) := by omega
                have HR4 := hid (HV.out.1.swp ib mb Hx6.out Hy6.out).drew
                have HR5 := hid (HV.out.1.swp' ib mb Hx6.out Hy6.out).drew
                by_cases he : ib = mb
                · subst he
                  obtain rfl : x6 = y6 := Hx6.out.symm.trans Hy6.out
                  clear HV Hx6 Hy6 cy6 f2 bq
                  go_region
                  all_goals
                    go_wp2_with fail
                    go_meet
                    first | exact HR4 | (unfold Hid; simpa using HR4.out)
                · have hne : ¬ ib = mb := he
                  have hne' : ¬ mb = ib := fun e => he e.symm
                  clear HV Hx6 Hy6
                  go_region
                  all_goals
                    go_wp2_with fail
                    go_meet
                    first | exact HR4 | exact HR5
              case rest =>
              have HW := hcut
              clear hcut
              rename_i wc
              go_wp2_with fail
              go_round
              case rel => exact ⟨ib + 1, mb - 1, _, by omega, by omega, by omega, by go_num, by rw [show ((mb - 1 : Nat) : Int) = (mb : Int) - 1 by omega], ⟨HW.out, HF.out⟩⟩
              case measure => simp [intOf]; omega
end Go.Proofs.Ytlhhkgjolilpiaa
