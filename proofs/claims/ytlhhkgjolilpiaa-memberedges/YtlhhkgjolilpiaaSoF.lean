/-
  slices.Sort at uint64, to the element: partitionEqual.
-/
import Derived.Test.YtlhhkgjolilpiaaSoE
import Derived.Deep.DeepCutAuto
namespace Go.Proofs.Ytlhhkgjolilpiaa
open Go.RowKit
set_option linter.unusedVariables false
set_option maxRecDepth 1000000

theorem up_go {p : Int → Bool} {d : Array Int} {j i : Nat} (h : i ≤ j) (hp : p d[i]! = true) : Sort.scanUp p d j i = Sort.scanUp p d j (i + 1) := by
  conv => lhs; rw [Sort.scanUp]
  rw [if_pos (by simp [h, hp])]
theorem up_no {p : Int → Bool} {d : Array Int} {j i : Nat} (h : ¬ (i ≤ j ∧ p d[i]! = true)) : Sort.scanUp p d j i = i := by
  rw [Sort.scanUp, if_neg (by simpa using h)]
theorem down_go {p : Int → Bool} {d : Array Int} {i j : Nat} (h : i ≤ j) (h0 : 0 < j) (hp : p d[j]! = true) : Sort.scanDown p d i j = Sort.scanDown p d i (j - 1) := by
  obtain ⟨k, rfl⟩ : ∃ k, j = k + 1 := ⟨j - 1, by omega⟩
  rw [Sort.scanDown, if_pos (by simp [h, hp])]
  rfl
theorem down_no {p : Int → Bool} {d : Array Int} {i j : Nat} (h : ¬ (i ≤ j ∧ p d[j]! = true)) : Sort.scanDown p d i j = j := by
  cases j with
  | zero => rfl
  | succ k => rw [Sort.scanDown, if_neg (by simpa using h)]
/-- What the two scans of a round have found. -/
theorem pe_end {a i m I J : Nat} {d : Array Int} {R : Nat × Array Int} (hI : Sort.scanUp (fun x => !Sort.ltInt d[a]! x) d m i = I) (hJ : Sort.scanDown (fun x => Sort.ltInt d[a]! x) d I m = J) (hR : Sort.partEqLoop Sort.ltInt a i m d = R) :
    (I > J → R = (I, d)) ∧ (¬ I > J → Sort.partEqLoop Sort.ltInt a (I + 1) (J - 1) (Sort.swp d I J) = R) := by
  rw [Sort.partEqLoop_eq, hI, hJ] at hR
  refine ⟨fun h => ?_, fun h => ?_⟩
  · rw [if_pos h] at hR; exact hR.symm
  · rw [if_neg h] at hR; exact hR
set_option maxHeartbeats 8000000 in
theorem uparte {b N cap : Nat} {d : Array Int} {w W : World} (lo hi p : Nat) (h : So w b N d W) (hc : N ≤ cap) (hm : N ≤ 100000) (hhi : hi ≤ N) (hp1 : lo ≤ p) (hp2 : p < hi) :
    Calls Try.prog 53 #[.slice (some ⟨b, 0, none⟩) N cap, .int .i64 lo, .int .i64 hi, .int .i64 p] W fun e w' => ∃ x : Nat, lo + 1 ≤ x ∧ x ≤ hi ∧ e = .returned (.int .i64 x) ∧ Hid ((Sort.partitionEqual Sort.ltInt d lo hi p).1 = x ∧ So w b N (Sort.partitionEqual Sort.ltInt d lo hi p).2 w') := by
  obtain ⟨R, HRe⟩ : ∃ R, Hid (Sort.partitionEqual Sort.ltInt d lo hi p = R) := ⟨_, rfl⟩
  rw [HRe.out]
  have HR0 : Hid (So w b N d W ∧ True) := ⟨h, trivial⟩
  clear h
  go_enter Try.func53, Try.ntmps53
  go_wp2_with fail
  go_cut [] (fun wx => Hid (So w b N (Sort.swp d lo p) wx))
  case first =>
    obtain ⟨x6, Hx6⟩ : ∃ x6, Hid (d[lo]! = x6) := ⟨_, rfl⟩
    obtain ⟨y6, Hy6⟩ : ∃ y6, Hid (d[p]! = y6) := ⟨_, rfl⟩
    have cx6 := HR0.out.1.cell (i := lo) (by omega)
    rw [Hx6.out] at cx6
    have cy6 := HR0.out.1.cell (i := p) (by omega)
    rw [Hy6.out] at cy6
    have f1 := HR0.out.1.frozen lo
    have f2 := HR0.out.1.frozen p
    have bp : (lo : Int) < (N : Int) := by omega
    have bq : (p : Int) < (N : Int) := by omega
    have HR4 := hid (HR0.out.1.swp lo p Hx6.out Hy6.out).drew
    have HR5 := hid (HR0.out.1.swp' lo p Hx6.out Hy6.out).drew
    by_cases he : lo = p
    · subst he
      obtain rfl : x6 = y6 := Hx6.out.symm.trans Hy6.out
      clear HR0 Hx6 Hy6 cy6 f2 bq
      go_region
      all_goals
        go_wp2_with fail
        go_meet
        first | exact HR4 | (unfold Hid; simpa using HR4.out)
    · have hne : ¬ lo = p := he
      have hne' : ¬ p = lo := fun e => he e.symm
      clear HR0 Hx6 Hy6
      go_region
      all_goals
        go_wp2_with fail
        go_meet
        first | exact HR4 | exact HR5
  case rest =>
  have HW := hcut
  clear hcut
  rename_i wc
  have HL : Hid (Sort.partEqLoop Sort.ltInt lo (lo + 1) (hi - 1) (Sort.swp d lo p) = R) := HRe.out
  clear HRe HR0
  generalize Sort.swp d lo p = d0 at *
  go_wp2_with fail
  go_loopw [9, 10] (fun z y W => ∃ (i m : Nat) (d1 : Array Int), lo + 1 ≤ i ∧ (i ≤ hi ∧ lo ≤ m) ∧ m < hi ∧ z = .int .i64 i ∧ y = .int .i64 m ∧ Hid (So w b N d1 W ∧ Sort.partEqLoop Sort.ltInt lo i m d1 = R)) (fun z _ _ => hi + 1 - (intOf z).toNat)
  case atStart => exact ⟨lo + 1, hi - 1, d0, by omega, by omega, by omega, by go_num, by rw [show ((hi - 1 : Nat) : Int) = (hi : Int) - 1 by omega], ⟨HW.out, HL.out⟩⟩
  case round =>
  obtain ⟨i0, m0, d1, hi0, him, hmh, rfl, rfl, H1⟩ := hrel
  rename World => w1
  clear HW HL
  obtain ⟨I, HI⟩ : ∃ I, Hid (Sort.scanUp (fun x => !Sort.ltInt d1[lo]! x) d1 m0 i0 = I) := ⟨_, rfl⟩
  obtain ⟨J, HJ⟩ : ∃ J, Hid (Sort.scanDown (fun x => Sort.ltInt d1[lo]! x) d1 I m0 = J) := ⟨_, rfl⟩
  have HEN := hid (pe_end HI.out HJ.out H1.out.2)
  have H1' := hid H1.out.1
  clear H1
  go_wp2_with fail
  go_loopw [9] (fun z W => ∃ i : Nat, i0 ≤ i ∧ i ≤ hi ∧ z = .int .i64 i ∧ Hid (So w b N d1 W ∧ Sort.scanUp (fun x => !Sort.ltInt d1[lo]! x) d1 m0 i = I)) (fun z _ => hi + 1 - (intOf z).toNat)
  case atStart => exact ⟨i0, by omega, by omega, rfl, ⟨H1'.out, HI.out⟩⟩
  case round =>
  obtain ⟨i, hi1, hi2, rfl, H2⟩ := hrel
  rename World => w2
  clear H1' HI
  go_wp2_with fail
  go_cut [43] (fun v wx => ∃ c : Bool, Hid (c = true ↔ i ≤ m0 ∧ ¬ d1[lo]! < d1[i]!) ∧ v = .bool c ∧ Hid (So w b N d1 wx))
  case first =>
    by_cases hle : i ≤ m0
    · have g5 : decide ((i : Int) ≤ (m0 : Int)) = true := decide_eq_true (by omega)
      have g5' : (i : Int) ≤ (m0 : Int) := by omega
      have bx : (lo : Int) < (N : Int) := by omega
      have bY : (i : Int) < (N : Int) := by omega
      obtain ⟨x, Hx⟩ : ∃ x, Hid (d1[lo]! = x) := ⟨_, rfl⟩
      obtain ⟨y, Hy⟩ : ∃ y, Hid (d1[i]! = y) := ⟨_, rfl⟩
      have cx := H2.out.1.cell (i := lo) (by omega)
      rw [Hx.out] at cx
      have cy := H2.out.1.cell (i := i) (by omega)
      rw [Hy.out] at cy
      go_quiet ((go_at_call 52; exact Calls.quiet_of_same ((uless_any x y _).mono fun e w' h => ⟨h.1, h.2.symm⟩)))
      have HR9 := hid (H2.out.1.drewN nq)
      clear H2 cx cy
      generalize w2.drewN nq = w9 at *
      by_cases hxy : x < y
      · rw [decide_eq_true hxy]
        go_wp2_with fail
        go_meet
        exact ⟨false, by unfold Hid; rw [Hx.out, Hy.out]; simp [hle, hxy], rfl, HR9⟩
      · rw [decide_eq_false hxy]
        go_wp2_with fail
        go_meet
        exact ⟨true, by unfold Hid; rw [Hx.out, Hy.out]; simp [hle]; omega, rfl, HR9⟩
    · have g5 : decide ((i : Int) ≤ (m0 : Int)) = false := decide_eq_false (by omega)
      have g5' : ¬ (i : Int) ≤ (m0 : Int) := by omega
      go_quiet (fail)
      have HR9 := hid (H2.out.1.drewN nq)
      clear H2
      generalize w2.drewN nq = w9 at *
      go_wp2_with fail
      go_meet
      exact ⟨false, by unfold Hid; simp [hle], rfl, HR9⟩
  case rest =>
  obtain ⟨c, HC, rfl, HW⟩ := hcut
  rename_i wc
  cases c with
  | true =>
    have HE : Hid (i ≤ m0 ∧ Sort.scanUp (fun x => !Sort.ltInt d1[lo]! x) d1 m0 (i + 1) = I) := by
      have h := HC.out.1 rfl
      exact ⟨h.1, (up_go h.1 (by simp only [Sort.ltInt, Bool.not_eq_true', decide_eq_false_iff_not]; exact h.2)).symm.trans H2.out.2⟩
    have hle := HE.out.1
    clear HC H2
    go_wp2_with fail
    go_round
    case rel => exact ⟨i + 1, by omega, by omega, by go_num, ⟨HW.out, HE.out.2⟩⟩
    case measure => simp [intOf]; omega
  | false =>
    have HE : Hid (i = I) := (up_no (fun hh => by
      have := HC.out.2 ⟨hh.1, by simpa [Sort.ltInt] using hh.2⟩
      cases this)).symm.trans H2.out.2
    clear HC H2
    go_wp2_with fail
    go_loopw [10] (fun z W => ∃ m : Nat, lo ≤ m ∧ m ≤ m0 ∧ z = .int .i64 m ∧ Hid (So w b N d1 W ∧ Sort.scanDown (fun x => Sort.ltInt d1[lo]! x) d1 I m = J)) (fun z _ => (intOf z).toNat)
    case atStart => exact ⟨m0, by omega, by omega, rfl, ⟨HW.out, HJ.out⟩⟩
    case round =>
    obtain ⟨m, hm1, hm2, rfl, H3⟩ := hrel
    rename World => w3
    clear HW HJ
    go_wp2_with fail
    go_cut [59] (fun v wx => ∃ c : Bool, Hid (c = true ↔ i ≤ m ∧ d1[lo]! < d1[m]!) ∧ v = .bool c ∧ Hid (So w b N d1 wx))
    case first =>
      by_cases hle : i ≤ m
      · have g5 : decide ((i : Int) ≤ (m : Int)) = true := decide_eq_true (by omega)
        have g5' : (i : Int) ≤ (m : Int) := by omega
        have bx : (lo : Int) < (N : Int) := by omega
        have bY : (m : Int) < (N : Int) := by omega
        obtain ⟨x, Hx⟩ : ∃ x, Hid (d1[lo]! = x) := ⟨_, rfl⟩
        obtain ⟨y, Hy⟩ : ∃ y, Hid (d1[m]! = y) := ⟨_, rfl⟩
        have cx := H3.out.1.cell (i := lo) (by omega)
        rw [Hx.out] at cx
        have cy := H3.out.1.cell (i := m) (by omega)
        rw [Hy.out] at cy
        go_quiet ((go_at_call 52; exact Calls.quiet_of_same ((uless_any x y _).mono fun e w' h => ⟨h.1, h.2.symm⟩)))
        have HR9 := hid (H3.out.1.drewN nq)
        clear H3 cx cy
        generalize w3.drewN nq = w9 at *
        by_cases hxy : x < y
        · rw [decide_eq_true hxy]
          go_wp2_with fail
          go_meet
          exact ⟨true, by unfold Hid; rw [Hx.out, Hy.out]; simp [hle, hxy], rfl, HR9⟩
        · rw [decide_eq_false hxy]
          go_wp2_with fail
          go_meet
          exact ⟨false, by unfold Hid; rw [Hx.out, Hy.out]; simp [hle]; omega, rfl, HR9⟩
      · have g5 : decide ((i : Int) ≤ (m : Int)) = false := decide_eq_false (by omega)
        have g5' : ¬ (i : Int) ≤ (m : Int) := by omega
        go_quiet (fail)
        have HR9 := hid (H3.out.1.drewN nq)
        clear H3
        generalize w3.drewN nq = w9 at *
        go_wp2_with fail
        go_meet
        exact ⟨false, by unfold Hid; simp [hle], rfl, HR9⟩
    case rest =>
    obtain ⟨c, HC, rfl, HW⟩ := hcut
    rename_i wc
    cases c with
    | true =>
      have HE3 : Hid (i ≤ m ∧ Sort.scanDown (fun x => Sort.ltInt d1[lo]! x) d1 I (m - 1) = J) := by
        have h := HC.out.1 rfl
        refine ⟨h.1, (down_go (by rw [← HE.out]; exact h.1) (by omega) ?_).symm.trans H3.out.2⟩
        simp only [Sort.ltInt, decide_eq_true_eq]; exact h.2
      have hle := HE3.out.1
      clear HC H3
      go_wp2_with fail
      go_round
      case rel => exact ⟨m - 1, by omega, by omega, by rw [show ((m - 1 : Nat) : Int) = (m : Int) - 1 by omega], ⟨HW.out, HE3.out.2⟩⟩
      case measure => simp [intOf]; omega
    | false =>
      have HE3 : Hid (m = J) := (down_no (fun hh => by
        have := HC.out.2 ⟨by rw [HE.out]; exact hh.1, by simpa [Sort.ltInt] using hh.2⟩
        cases this)).symm.trans H3.out.2
      clear HC H3
      by_cases hgt : m < i
      · have g7 : (m : Int) < (i : Int) := by omega
        have HF : Hid (R = (i, d1)) := by
          unfold Hid
          rw [HEN.out.1 (by rw [← HE.out, ← HE3.out]; exact hgt), HE.out]
        go_wp2_with fail
        go_ret
        exact ⟨i, by omega, by omega, rfl, by rw [HF.out]; exact ⟨rfl, HW.out⟩⟩
      · have g7 : ¬ (m : Int) < (i : Int) := by omega
        have HF : Hid (Sort.partEqLoop Sort.ltInt lo (i + 1) (m - 1) (Sort.swp d1 i m) = R) := by
          have := HEN.out.2 (by rw [← HE.out, ← HE3.out]; omega)
          rw [← HE.out, ← HE3.out] at this
          exact this
        have HV : Hid (So w b N d1 wc ∧ True) := ⟨HW.out, trivial⟩
        clear HW HEN HE HE3
        go_wp2_with fail
        go_cut [] (fun wx => Hid (So w b N (Sort.swp d1 i m) wx))
        case first =>
          obtain ⟨x6, Hx6⟩ : ∃ x6, Hid (d1[i]! = x6) := ⟨_, rfl⟩
          obtain ⟨y6, Hy6⟩ : ∃ y6, Hid (d1[m]! = y6) := ⟨_, rfl⟩
          have cx6 := HV.out.1.cell (i := i) (by omega)
          rw [Hx6.out] at cx6
          have cy6 := HV.out.1.cell (i := m) (by omega)
          rw [Hy6.out] at cy6
          have f1 := HV.out.1.frozen i
          have f2 := HV.out.1.frozen m
          have bp : (i : Int) < (N : Int) := by omega
          have bq : (m : Int) < (N : Int) := by omega
          have HR4 := hid (HV.out.1.swp i m Hx6.out Hy6.out).drew
          have HR5 := hid (HV.out.1.swp' i m Hx6.out Hy6.out).drew
          by_cases he : i = m
          · subst he
            obtain rfl : x6 = y6 := Hx6.out.symm.trans Hy6.out
            clear HV Hx6 Hy6 cy6 f2 bq
            go_region
            all_goals
              go_wp2_with fail
              go_meet
              first | exact HR4 | (unfold Hid; simpa using HR4.out)
          · have hne : ¬ i = m := he
            have hne' : ¬ m = i := fun e => he e.symm
            clear HV Hx6 Hy6
            go_region
            all_goals
              go_wp2_with fail
              go_meet
              first | exact HR4 | exact HR5
        case rest =>
        have HW := hcut
        clear hcut
        rename_i wc
        go_wp2_with fail
        go_round
        case rel => exact ⟨i + 1, m - 1, _, by omega, by omega, by omega, by go_num, by rw [show ((m - 1 : Nat) : Int) = (m : Int) - 1 by omega], ⟨HW.out, HF.out⟩⟩
        case measure => simp [intOf]; omega
end Go.Proofs.Ytlhhkgjolilpiaa
