/-
  slices.Sort at uint64, to the element: partialInsertionSort.
-/
import Derived.Test.YtlhhkgjolilpiaaSoG
namespace Go.Proofs.Ytlhhkgjolilpiaa
open Go.RowKit
set_option linter.unusedVariables false
set_option maxRecDepth 1000000

theorem ss_go {d : Array Int} {b i ip : Nat} (hp : i = ip + 1) (h : i < b) (hx : ¬ d[i]! < d[ip]!) : Sort.scanSorted Sort.ltInt d b i = Sort.scanSorted Sort.ltInt d b (i + 1) := by
  subst hp
  conv => lhs; rw [Sort.scanSorted]
  rw [if_pos]
  simp only [Sort.ltInt, Nat.add_sub_cancel, Bool.and_eq_true, Bool.not_eq_true', decide_eq_true_eq, decide_eq_false_iff_not]
  exact ⟨h, hx⟩
theorem ss_no {d : Array Int} {b i ip : Nat} (hp : i = ip + 1) (h : ¬ (i < b ∧ ¬ d[i]! < d[ip]!)) : Sort.scanSorted Sort.ltInt d b i = i := by
  subst hp
  rw [Sort.scanSorted, if_neg]
  simp only [Sort.ltInt, Nat.add_sub_cancel, Bool.and_eq_true, Bool.not_eq_true', decide_eq_true_eq, decide_eq_false_iff_not]
  exact h
theorem sd_go {d : Array Int} {j jp : Nat} {x y : Int} (h : j = jp + 1) (hx : d[j]! = x) (hy : d[jp]! = y) (hxy : x < y) : Sort.shiftDown Sort.ltInt j d = Sort.shiftDown Sort.ltInt jp (Sort.swp d j jp) := by
  subst h hx hy
  rw [Sort.shiftDown, if_neg]
  simp only [Sort.ltInt, Bool.not_eq_true', decide_eq_false_iff_not, Classical.not_not]; exact hxy
theorem sd_no {d : Array Int} {j jp : Nat} {x y : Int} (h : j = jp + 1) (hx : d[j]! = x) (hy : d[jp]! = y) (hxy : ¬ x < y) : Sort.shiftDown Sort.ltInt j d = d := by
  subst h hx hy
  rw [Sort.shiftDown, if_pos]
  simp only [Sort.ltInt, Bool.not_eq_true', decide_eq_false_iff_not]; exact hxy
theorem su_go {d : Array Int} {b j jp : Nat} {x y : Int} (h : j = jp + 1) (hb : j < b) (hx : d[j]! = x) (hy : d[jp]! = y) (hxy : x < y) : Sort.shiftUp Sort.ltInt b j d = Sort.shiftUp Sort.ltInt b (j + 1) (Sort.swp d j jp) := by
  subst h hx hy
  conv => lhs; rw [Sort.shiftUp]
  rw [if_pos hb, if_neg]
  · rfl
  · simp only [Sort.ltInt, Nat.add_sub_cancel, Bool.not_eq_true', decide_eq_false_iff_not, Classical.not_not]; exact hxy
theorem su_no {d : Array Int} {b j jp : Nat} {x y : Int} (h : j = jp + 1) (hx : d[j]! = x) (hy : d[jp]! = y) (hxy : ¬ x < y) : Sort.shiftUp Sort.ltInt b j d = d := by
  subst h hx hy
  rw [Sort.shiftUp]
  split
  · rw [if_pos]
    simp only [Sort.ltInt, Nat.add_sub_cancel, Bool.not_eq_true', decide_eq_false_iff_not]; exact hxy
  · rfl
theorem su_end {d : Array Int} {b j : Nat} (h : ¬ j < b) : Sort.shiftUp Sort.ltInt b j d = d := by
  rw [Sort.shiftUp, if_neg h]
theorem pi_end {a b s i I Ip : Nat} {d : Array Int} {R : Array Int × Bool} (hI : Sort.scanSorted Sort.ltInt d b i = I) (hp : I = Ip + 1) (hR : Sort.partialIns Sort.ltInt a b (s + 1) i d = R) :
    (I = b → R = (d, true)) ∧ (I ≠ b → b - a < 50 → R = (d, false)) ∧ (I ≠ b → ¬ b - a < 50 → ∀ d2 d3, (if 2 ≤ I - a then Sort.shiftDown Sort.ltInt Ip (Sort.swp d I Ip) else Sort.swp d I Ip) = d2 → (if 2 ≤ b - I then Sort.shiftUp Sort.ltInt b (I + 1) d2 else d2) = d3 → Sort.partialIns Sort.ltInt a b s I d3 = R) := by
  subst hp
  rw [Sort.partialIns] at hR
  simp only [hI, Nat.add_sub_cancel, ge_iff_le] at hR
  refine ⟨fun h => ?_, fun h h2 => ?_, fun h h2 d2 d3 e2 e3 => ?_⟩
  · rw [if_pos h] at hR; exact hR.symm
  · rw [if_neg h, if_pos h2] at hR; exact hR.symm
  · rw [if_neg h, if_neg h2, e2, e3] at hR; exact hR
set_option maxHeartbeats 16000000 in
theorem upartial {b N cap : Nat} {d : Array Int} {w W : World} (lo hi : Nat) (h : So w b N d W) (hc : N ≤ cap) (hm : N ≤ 100000) (hhi : hi ≤ N) (hlt : lo < hi) :
    Calls Try.prog 51 #[.slice (some ⟨b, 0, none⟩) N cap, .int .i64 lo, .int .i64 hi] W fun e w' => e = .returned (.bool (Sort.partialInsertionSort Sort.ltInt d lo hi).2) ∧ Hid (So w b N (Sort.partialInsertionSort Sort.ltInt d lo hi).1 w') := by
  obtain ⟨R, HRe⟩ : ∃ R, Hid (Sort.partialInsertionSort Sort.ltInt d lo hi = R) := ⟨_, rfl⟩
  rw [HRe.out]
  have HR0 : Hid (So w b N d W ∧ Sort.partialIns Sort.ltInt lo hi 5 (lo + 1) d = R) := ⟨h, HRe.out⟩
  obtain ⟨n, hn⟩ : ∃ n : Nat, (hi : Int) - (lo : Int) = (n : Int) := ⟨hi - lo, by omega⟩
  have hwn := wrapN (n := n) (by omega)
  clear h HRe
  go_enter Try.func51, Try.ntmps51
  go_wp2_with fail
  go_loopw [7, 8] (fun z y W => ∃ (k i : Nat) (d1 : Array Int), k ≤ 5 ∧ lo + 1 ≤ i ∧ i ≤ hi ∧ z = .int .i64 i ∧ y = .int .i64 k ∧ Hid (So w b N d1 W ∧ Sort.partialIns Sort.ltInt lo hi (5 - k) i d1 = R)) (fun _ y _ => 5 - (intOf y).toNat)
  case atStart => exact ⟨0, lo + 1, d, by omega, by omega, by omega, by go_num, rfl, HR0⟩
  case round =>
  obtain ⟨k, i0, d1, hk, hi0, hi00, rfl, rfl, H1⟩ := hrel
  rename World => w1
  clear HR0
  by_cases hk5 : k < 5
  · have gk : (k : Int) < 5 := by omega
    obtain ⟨I, HI⟩ : ∃ I, Hid (Sort.scanSorted Sort.ltInt d1 hi i0 = I) := ⟨_, rfl⟩
    have HEN := hid fun (Ip : Nat) (hp : I = Ip + 1) => pi_end (R := R) (s := 5 - (k + 1)) (a := lo) (b := hi) (Ip := Ip) HI.out hp (by rw [show 5 - (k + 1) + 1 = 5 - k by omega]; exact H1.out.2)
    have H1' := hid H1.out.1
    clear H1
    go_wp2_with fail
    go_loopw [7] (fun z W => ∃ i : Nat, i0 ≤ i ∧ i ≤ hi ∧ z = .int .i64 i ∧ Hid (So w b N d1 W ∧ Sort.scanSorted Sort.ltInt d1 hi i = I)) (fun z _ => hi + 1 - (intOf z).toNat)
    case atStart => exact ⟨i0, by omega, by omega, rfl, ⟨H1'.out, HI.out⟩⟩
    case round =>
    obtain ⟨i, hi1, hi2, rfl, H2⟩ := hrel
    rename World => w2
    clear H1' HI
    obtain ⟨ip, hip⟩ : ∃ ip : Nat, (i : Int) - 1 = (ip : Int) := ⟨i - 1, by omega⟩
    have hwi := wrapN (n := ip) (by omega)
    go_wp2_with fail
    go_cut [32] (fun v wx => ∃ c : Bool, Hid (c = true ↔ i < hi ∧ ¬ d1[i]! < d1[ip]!) ∧ v = .bool c ∧ Hid (So w b N d1 wx))
    case first =>
      by_cases hle : i < hi
      · have g5 : decide ((i : Int) < (hi : Int)) = true := decide_eq_true (by omega)
        have g5' : (i : Int) < (hi : Int) := by omega
        have bx : (i : Int) < (N : Int) := by omega
        have bY : (ip : Int) < (N : Int) := by omega
        obtain ⟨x, Hx⟩ : ∃ x, Hid (d1[i]! = x) := ⟨_, rfl⟩
        obtain ⟨y, Hy⟩ : ∃ y, Hid (d1[ip]! = y) := ⟨_, rfl⟩
        have cx := H2.out.1.cell (i := i) (by omega)
        rw [Hx.out] at cx
        have cy := H2.out.1.cell (i := ip) (by omega)
        rw [Hy.out] at cy
        go_quiet ((go_at_call 52; exact Calls.quiet_of_same ((uless_any x y _).mono fun e w' h => ⟨h.1, h.2.symm⟩)))
        have HR9 := hid (H2.out.1.drewN nq)
        clear H2 cx cy
        generalize w2.drewN nq = w9 at *
        by_cases hxy : x < y
        · rw [decide_eq_true hxy]
          go_wp2_with fail
          go_meet
          exact ⟨false, by unfold Hid; rw [Hx.out, Hy.out]; simp [hle, hxy], rfl, HR9⟩
        · rw [decide_eq_false hxy]
          go_wp2_with fail
          go_meet
          exact ⟨true, by unfold Hid; rw [Hx.out, Hy.out]; simp [hle]; omega, rfl, HR9⟩
      · have g5 : decide ((i : Int) < (hi : Int)) = false := decide_eq_false (by omega)
        have g5' : ¬ (i : Int) < (hi : Int) := by omega
        go_quiet (fail)
        have HR9 := hid (H2.out.1.drewN nq)
        clear H2
        generalize w2.drewN nq = w9 at *
        go_wp2_with fail
        go_meet
        exact ⟨false, by unfold Hid; simp [hle], rfl, HR9⟩
    case rest =>
    obtain ⟨c, HC, rfl, HW⟩ := hcut
    rename_i wc
    cases c with
    | true =>
      have HE : Hid (i < hi ∧ Sort.scanSorted Sort.ltInt d1 hi (i + 1) = I) := by
        have h := HC.out.1 rfl
        exact ⟨h.1, (ss_go (ip := ip) (by omega) h.1 h.2).symm.trans H2.out.2⟩
      have hle := HE.out.1
      clear HC H2
      go_wp2_with fail
      go_round
      case rel => exact ⟨i + 1, by omega, by omega, by go_num, ⟨HW.out, HE.out.2⟩⟩
      case measure => simp [intOf]; omega
    | false =>
      have HE : Hid (i = I) := (ss_no (ip := ip) (by omega) (fun hh => by
        have := HC.out.2 hh
        cases this)).symm.trans H2.out.2
      clear HC H2
      have HX := hid (HEN.out ip (by rw [← HE.out]; omega))
      rw [← HE.out] at HX
      clear HEN HE
      by_cases hib : i = hi
      · have g8 : (i : Int) = (hi : Int) := by omega
        have HF : Hid (R = (d1, true)) := HX.out.1 hib
        subst hib
        clear HX
        go_wp2_with fail
        go_ret
        rw [HF.out]; exact ⟨rfl, HW⟩
      · have g8 : ¬ (i : Int) = (hi : Int) := by omega
        by_cases h50 : n < 50
        · have g50 : (n : Int) < 50 := by omega
          have HF : Hid (R = (d1, false)) := HX.out.2.1 hib (by omega)
          clear HX
          go_wp2_with fail
          go_ret
          rw [HF.out]; exact ⟨rfl, HW⟩
        · have g50 : ¬ (n : Int) < 50 := by omega
          obtain ⟨d2, Hd2⟩ : ∃ d2, Hid ((if 2 ≤ i - lo then Sort.shiftDown Sort.ltInt ip (Sort.swp d1 i ip) else Sort.swp d1 i ip) = d2) := ⟨_, rfl⟩
          obtain ⟨d3, Hd3⟩ : ∃ d3, Hid ((if 2 ≤ hi - i then Sort.shiftUp Sort.ltInt hi (i + 1) d2 else d2) = d3) := ⟨_, rfl⟩
          have HF := hid (HX.out.2.2 hib (by omega) d2 d3 Hd2.out Hd3.out)
          have HV : Hid (So w b N d1 wc ∧ True) := ⟨HW.out, trivial⟩
          obtain ⟨u, hu⟩ : ∃ u : Nat, (i : Int) - (lo : Int) = (u : Int) := ⟨i - lo, by omega⟩
          obtain ⟨v, hv⟩ : ∃ v : Nat, (hi : Int) - (i : Int) = (v : Int) := ⟨hi - i, by omega⟩
          have hwu := wrapN (n := u) (by omega)
          have hwv := wrapN (n := v) (by omega)
          clear HX HW
          go_wp2_with fail
          go_cut [] (fun wx => Hid (So w b N (Sort.swp d1 i ip) wx))
          case first =>
            obtain ⟨x6, Hx6⟩ : ∃ x6, Hid (d1[i]! = x6) := ⟨_, rfl⟩
            obtain ⟨y6, Hy6⟩ : ∃ y6, Hid (d1[ip]! = y6) := ⟨_, rfl⟩
            have cx6 := HV.out.1.cell (i := i) (by omega)
            rw [Hx6.out] at cx6
            have cy6 := HV.out.1.cell (i := ip) (by omega)
            rw [Hy6.out] at cy6
            have f1 := HV.out.1.frozen i
            have f2 := HV.out.1.frozen ip
            have bp : (i : Int) < (N : Int) := by omega
            have bq : (ip : Int) < (N : Int) := by omega
            have HR4 := hid (HV.out.1.swp i ip Hx6.out Hy6.out).drew
            have HR5 := hid (HV.out.1.swp' i ip Hx6.out Hy6.out).drew
            by_cases he : i = ip
            · subst he
              obtain rfl : x6 = y6 := Hx6.out.symm.trans Hy6.out
              clear HV Hx6 Hy6 cy6 f2 bq
              go_region
              all_goals
                go_wp2_with fail
                go_meet
                first | exact HR4 | (unfold Hid; simpa using HR4.out)
            · have hne : ¬ i = ip := he
              have hne' : ¬ ip = i := fun e => he e.symm
              clear HV Hx6 Hy6
              go_region
              all_goals
                go_wp2_with fail
                go_meet
                first | exact HR4 | exact HR5
          case rest =>
          have HW := hcut
          clear hcut
          rename_i wc
          clear HV
          obtain ⟨d4, Hd4⟩ : ∃ d4, Hid (Sort.swp d1 i ip = d4) := ⟨_, rfl⟩
          rw [Hd4.out] at HW Hd2
          clear Hd4
          go_upto_if 61 with fail
          go_cut [9] (fun x wx => Hid (So w b N d2 wx))
          case first =>
            by_cases h2 : 2 ≤ u
            · have g2 : (2 : Int) ≤ (u : Int) := by omega
              have HL : Hid (Sort.shiftDown Sort.ltInt ip d4 = d2) := by
                have := Hd2.out
                rw [if_pos (by omega)] at this
                exact this
              clear Hd2 Hd3 HF
              go_wp2_with fail
              go_loopw [9] (fun z W => ∃ (j : Nat) (d5 : Array Int), j ≤ i ∧ z = .int .i64 j ∧ Hid (So w b N d5 W ∧ Sort.shiftDown Sort.ltInt j d5 = d2)) (fun z _ => (intOf z).toNat)
              case atStart => exact ⟨ip, d4, by omega, by rfl, ⟨HW.out, HL.out⟩⟩
              case round =>
              obtain ⟨j, d5, hj, rfl, H5⟩ := hrel
              rename World => w5
              clear HW HL
              by_cases hj1 : 1 ≤ j
              · have gj : (1 : Int) ≤ (j : Int) := by omega
                obtain ⟨jp, hjp⟩ : ∃ jp : Nat, (j : Int) - 1 = (jp : Int) := ⟨j - 1, by omega⟩
                have hwj := wrapN (n := jp) (by omega)
                obtain ⟨x, Hx⟩ : ∃ x, Hid (d5[j]! = x) := ⟨_, rfl⟩
                obtain ⟨y, Hy⟩ : ∃ y, Hid (d5[jp]! = y) := ⟨_, rfl⟩
                have cx := H5.out.1.cell (i := j) (by omega)
                rw [Hx.out] at cx
                have cy := H5.out.1.cell (i := jp) (by omega)
                rw [Hy.out] at cy
                have bx : (j : Int) < (N : Int) := by omega
                have bY : (jp : Int) < (N : Int) := by omega
                go_wp2_with fail
                go_quiet ((go_at_call 52; exact Calls.quiet_of_same ((uless_any x y _).mono fun e w' h => ⟨h.1, h.2.symm⟩)))
                have H6 := hid (So.dr H5.out nq)
                clear H5 cx cy
                generalize w5.drewN nq = w6 at *
                by_cases hxy : x < y
                · rw [decide_eq_true hxy]
                  have HE := hid ((sd_go (j := j) (jp := jp) (by omega) Hx.out Hy.out hxy).symm.trans H6.out.2)
                  have cx := H6.out.1.cell (i := j) (by omega)
                  rw [Hx.out] at cx
                  have cy := H6.out.1.cell (i := jp) (by omega)
                  rw [Hy.out] at cy
                  have f1 := H6.out.1.frozen j
                  have f2 := H6.out.1.frozen jp
                  have hne : ¬ j = jp := by omega
                  have hne' : ¬ jp = j := by omega
                  have HR4 := hid (H6.out.1.swp j jp Hx.out Hy.out).drew
                  have HR5 := hid (H6.out.1.swp' j jp Hx.out Hy.out).drew
                  clear H6 Hx Hy
                  go_wp2_with fail
                  go_region
                  all_goals
                    go_wp2_with fail
                    go_round
                    case rel => first | exact ⟨jp, _, by omega, by rfl, ⟨HR4.out, HE.out⟩⟩ | exact ⟨jp, _, by omega, by rfl, ⟨HR5.out, HE.out⟩⟩
                    case measure => simp [intOf]; omega
                · rw [decide_eq_false hxy]
                  have HE := hid ((sd_no (j := j) (jp := jp) (by omega) Hx.out Hy.out hxy).symm.trans H6.out.2)
                  go_wp2_with fail
                  go_meet
                  unfold Hid
                  rw [← HE.out]; exact H6.out.1
              · have gj : ¬ (1 : Int) ≤ (j : Int) := by omega
                obtain rfl : j = 0 := by omega
                have HE : Hid (d5 = d2) := H5.out.2
                go_wp2_with fail
                go_meet
                unfold Hid
                rw [← HE.out]; exact H5.out.1
            · have g2 : ¬ (2 : Int) ≤ (u : Int) := by omega
              have HL : Hid (d4 = d2) := by
                have := Hd2.out
                rw [if_neg (by omega)] at this
                exact this
              clear Hd2 Hd3 HF
              go_wp2_with fail
              go_meet
              unfold Hid
              rw [← HL.out]; exact HW.out
          case rest =>
          have HW2 := hcut
          clear hcut HW Hd2
          rename_i wc2
          by_cases h2 : 2 ≤ v
          · have g2 : (2 : Int) ≤ (v : Int) := by omega
            have HL : Hid (Sort.shiftUp Sort.ltInt hi (i + 1) d2 = d3) := by
              have := Hd3.out
              rw [if_pos (by omega)] at this
              exact this
            clear Hd3
            go_wp2_with fail
            go_loopw [10] (fun z W => ∃ (j : Nat) (d5 : Array Int), i + 1 ≤ j ∧ j ≤ hi ∧ z = .int .i64 j ∧ Hid (So w b N d5 W ∧ Sort.shiftUp Sort.ltInt hi j d5 = d3)) (fun z _ => hi - (intOf z).toNat)
            case atStart => exact ⟨i + 1, d2, by omega, by omega, by go_num, ⟨HW2.out, HL.out⟩⟩
            case round =>
            obtain ⟨j, d5, hj, hjh, rfl, H5⟩ := hrel
            rename World => w5
            clear HW2 HL
            by_cases hj1 : j < hi
            · have gj : (j : Int) < (hi : Int) := by omega
              obtain ⟨jp, hjp⟩ : ∃ jp : Nat, (j : Int) - 1 = (jp : Int) := ⟨j - 1, by omega⟩
              have hwj := wrapN (n := jp) (by omega)
              obtain ⟨x, Hx⟩ : ∃ x, Hid (d5[j]! = x) := ⟨_, rfl⟩
              obtain ⟨y, Hy⟩ : ∃ y, Hid (d5[jp]! = y) := ⟨_, rfl⟩
              have cx := H5.out.1.cell (i := j) (by omega)
              rw [Hx.out] at cx
              have cy := H5.out.1.cell (i := jp) (by omega)
              rw [Hy.out] at cy
              have bx : (j : Int) < (N : Int) := by omega
              have bY : (jp : Int) < (N : Int) := by omega
              go_wp2_with fail
              go_quiet ((go_at_call 52; exact Calls.quiet_of_same ((uless_any x y _).mono fun e w' h => ⟨h.1, h.2.symm⟩)))
              have H6 := hid (So.dr H5.out nq)
              clear H5 cx cy
              generalize w5.drewN nq = w6 at *
              by_cases hxy : x < y
              · rw [decide_eq_true hxy]
                have HE := hid ((su_go (b := hi) (j := j) (jp := jp) (by omega) hj1 Hx.out Hy.out hxy).symm.trans H6.out.2)
                have cx := H6.out.1.cell (i := j) (by omega)
                rw [Hx.out] at cx
                have cy := H6.out.1.cell (i := jp) (by omega)
                rw [Hy.out] at cy
                have f1 := H6.out.1.frozen j
                have f2 := H6.out.1.frozen jp
                have hne : ¬ j = jp := by omega
                have hne' : ¬ jp = j := by omega
                have HR4 := hid (H6.out.1.swp j jp Hx.out Hy.out).drew
                have HR5 := hid (H6.out.1.swp' j jp Hx.out Hy.out).drew
                clear H6 Hx Hy
                go_wp2_with fail
                go_region
                all_goals
                  go_wp2_with fail
                  go_round
                  case rel => first | exact ⟨j + 1, _, by omega, by omega, by go_num, ⟨HR4.out, HE.out⟩⟩ | exact ⟨j + 1, _, by omega, by omega, by go_num, ⟨HR5.out, HE.out⟩⟩
                  case measure => simp [intOf]; omega
              · rw [decide_eq_false hxy]
                have HE := hid ((su_no (b := hi) (j := j) (jp := jp) (by omega) Hx.out Hy.out hxy).symm.trans H6.out.2)
                go_wp2_with fail
                go_round
                case rel => exact ⟨k + 1, i, _, by omega, by omega, by omega, by rfl, by go_num, ⟨by rw [← HE.out]; exact H6.out.1, HF.out⟩⟩
                case measure => simp [intOf]; omega
            · have gj : ¬ (j : Int) < (hi : Int) := by omega
              have HE := hid ((su_end hj1).symm.trans H5.out.2)
              go_wp2_with fail
              go_round
              case rel => exact ⟨k + 1, i, _, by omega, by omega, by omega, by rfl, by go_num, ⟨by rw [← HE.out]; exact H5.out.1, HF.out⟩⟩
              case measure => simp [intOf]; omega
          · have g2 : ¬ (2 : Int) ≤ (v : Int) := by omega
            have HL : Hid (d2 = d3) := by
              have := Hd3.out
              rw [if_neg (by omega)] at this
              exact this
            clear Hd3
            go_wp2_with fail
            go_round
            case rel => exact ⟨k + 1, i, _, by omega, by omega, by omega, by rfl, by go_num, ⟨by rw [← HL.out]; exact HW2.out, HF.out⟩⟩
            case measure => simp [intOf]; omega
  · have gk : ¬ (k : Int) < 5 := by omega
    have HF : Hid ((d1, false) = R) := by
      have := H1.out.2
      rw [show 5 - k = 0 by omega, Sort.partialIns] at this
      exact this
    have H1' := hid H1.out.1
    clear H1
    go_wp2_with fail
    go_ret
    rw [← HF.out]; exact ⟨rfl, H1'⟩
end Go.Proofs.Ytlhhkgjolilpiaa
