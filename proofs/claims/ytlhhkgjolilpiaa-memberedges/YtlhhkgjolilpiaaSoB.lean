/-
  slices.Sort at uint64, to the element: siftDown.
-/
import Derived.Test.YtlhhkgjolilpiaaSoA
namespace Go.Proofs.Ytlhhkgjolilpiaa
open Go.RowKit
set_option linter.unusedVariables false
set_option maxRecDepth 1000000

theorem So.dr {E : Prop} {w W : World} {b N : Nat} {d : Array Int} (h : So w b N d W ∧ E) (q : Nat) : So w b N d (W.drewN q) ∧ E := ⟨h.1.drewN q, h.2⟩
theorem sift_end {hi f r : Nat} (d : Array Int) (h : hi ≤ 2 * r + 1) : Sort.siftDown Sort.ltInt hi f r d = d := by
  rw [Sort.siftDown, dif_pos h]
theorem sift_hi {hi f r c2 pr p1 p2 : Nat} {d : Array Int} {x y u : Int} (h : c2 = 2 * r + 2) (h2 : c2 < hi) (e1 : p1 = f + (2 * r + 1)) (e2 : p2 = p1 + 1) (e3 : pr = f + r) (hx : d[p1]! = x) (hy : d[p2]! = y) (hu : d[pr]! = u) (hxy : x < y) :
    (¬ u < y → Sort.siftDown Sort.ltInt hi f r d = d) ∧ (u < y → Sort.siftDown Sort.ltInt hi f r d = Sort.siftDown Sort.ltInt hi f c2 (Sort.swp d pr p2)) := by
  subst h e2 e3 e1 hx hy hu
  rw [Sort.siftDown, dif_neg (by omega), if_pos (by simp [Sort.ltInt]; exact ⟨h2, hxy⟩)]
  refine ⟨fun hn => ?_, fun hp => ?_⟩
  · rw [if_pos]
    simp only [Sort.ltInt, Bool.not_eq_true', decide_eq_false_iff_not]
    exact hn
  · rw [if_neg, dif_pos h2]
    · rfl
    · simp only [Sort.ltInt, Bool.not_eq_true', decide_eq_false_iff_not, Classical.not_not]
      exact hp
theorem sift_lo {hi f r c c2 pr p1 p2 : Nat} {d : Array Int} {x u : Int} (h : c = 2 * r + 1) (h0 : c < hi) (h2 : c2 = c + 1) (e1 : p1 = f + c) (e2 : p2 = p1 + 1) (e3 : pr = f + r) (hx : d[p1]! = x) (hu : d[pr]! = u) (hn : c2 < hi → ¬ x < d[p2]!) :
    (¬ u < x → Sort.siftDown Sort.ltInt hi f r d = d) ∧ (u < x → Sort.siftDown Sort.ltInt hi f r d = Sort.siftDown Sort.ltInt hi f c (Sort.swp d pr p1)) := by
  subst h h2 e2 e3 e1 hx hu
  rw [Sort.siftDown, dif_neg (by omega), if_neg]
  · refine ⟨fun hn => ?_, fun hp => ?_⟩
    · rw [if_pos]
      simp only [Sort.ltInt, Bool.not_eq_true', decide_eq_false_iff_not]
      exact hn
    · rw [if_neg]
      simp only [Sort.ltInt, Bool.not_eq_true', decide_eq_false_iff_not, Classical.not_not]
      exact hp
  · simp only [Sort.ltInt, Bool.and_eq_true, decide_eq_true_eq, not_and]
    exact hn
set_option maxHeartbeats 4000000 in
theorem usift {b N cap : Nat} {d : Array Int} {w W : World} (lo hi fi : Nat) (h : So w b N d W) (hc : N ≤ cap) (hm : N ≤ 100000) (hhi : fi + hi ≤ N) (hlo : lo ≤ N) :
    Calls Try.prog 57 #[.slice (some ⟨b, 0, none⟩) N cap, .int .i64 lo, .int .i64 hi, .int .i64 fi] W fun e w' => e = .returned (.tuple #[]) ∧ So w b N (Sort.siftDown Sort.ltInt hi fi lo d) w' := by
  obtain ⟨R, HRe⟩ : ∃ R, Hid (Sort.siftDown Sort.ltInt hi fi lo d = R) := ⟨_, rfl⟩
  rw [HRe.out]
  have HR0 : Hid (So w b N d W ∧ Sort.siftDown Sort.ltInt hi fi lo d = R) := ⟨h, HRe.out⟩
  clear h HRe
  go_enter Try.func57, Try.ntmps57
  go_wp2_with fail
  go_loopw [8] (fun i W => ∃ (k : Nat) (d1 : Array Int), k ≤ lo + hi ∧ i = .int .i64 k ∧ Hid (So w b N d1 W ∧ Sort.siftDown Sort.ltInt hi fi k d1 = R)) (fun i _ => lo + hi + 1 - (intOf i).toNat)
  case atStart => exact ⟨lo, d, by omega, rfl, HR0⟩
  case round =>
  obtain ⟨r, d1, hr, rfl, HR⟩ := hrel
  rename World => wr
  clear HR0
  obtain ⟨dd, hd⟩ : ∃ d : Nat, 2 * (r : Int) = (d : Int) := ⟨2 * r, by omega⟩
  obtain ⟨c, hcd⟩ : ∃ c : Nat, (dd : Int) + 1 = (c : Int) := ⟨dd + 1, by omega⟩
  have hw0 := wrapN (n := dd) (by omega)
  have hw1 := wrapN (n := c) (by omega)
  by_cases hge : hi ≤ c
  · have q1 : (hi : Int) ≤ (c : Int) := by omega
    have q2 : (c : Int) ≥ (hi : Int) := by omega
    have HE : Hid (d1 = R) := (sift_end d1 (by omega)).symm.trans HR.out.2
    go_wp2_with fail
    go_end0
    exact ⟨rfl, by rw [← HE.out]; exact HR.out.1⟩
  · have q1 : ¬ (hi : Int) ≤ (c : Int) := by omega
    have q2 : ¬ (c : Int) ≥ (hi : Int) := by omega
    obtain ⟨p1, hp1⟩ : ∃ p : Nat, (fi : Int) + (c : Int) = (p : Int) := ⟨fi + c, by omega⟩
    obtain ⟨p2, hp2⟩ : ∃ p : Nat, (p1 : Int) + 1 = (p : Int) := ⟨p1 + 1, by omega⟩
    obtain ⟨c2, hc2⟩ : ∃ p : Nat, (c : Int) + 1 = (p : Int) := ⟨c + 1, by omega⟩
    obtain ⟨pr, hpr⟩ : ∃ p : Nat, (fi : Int) + (r : Int) = (p : Int) := ⟨fi + r, by omega⟩
    have hfc : (fi : Int) + (c2 : Int) = (p2 : Int) := by omega
    have hv1 := wrapN (n := p1) (by omega)
    have hv2 := wrapN (n := p2) (by omega)
    have hv3 := wrapN (n := c2) (by omega)
    have hv4 := wrapN (n := pr) (by omega)
    have b1 : (p1 : Int) < (N : Int) := by omega
    have b4 : (pr : Int) < (N : Int) := by omega
    obtain ⟨x, Hx⟩ : ∃ x, Hid (d1[p1]! = x) := ⟨_, rfl⟩
    obtain ⟨u, Hu⟩ : ∃ u, Hid (d1[pr]! = u) := ⟨_, rfl⟩
    by_cases hg : c2 < hi
    · have g1 : decide ((c2 : Int) < (hi : Int)) = true := decide_eq_true (by omega)
      have g2 : (c2 : Int) < (hi : Int) := by omega
      have b2 : (p2 : Int) < (N : Int) := by omega
      obtain ⟨y, Hy⟩ : ∃ y, Hid (d1[p2]! = y) := ⟨_, rfl⟩
      have cx := HR.out.1.cell (i := p1) (by omega)
      rw [Hx.out] at cx
      have cy := HR.out.1.cell (i := p2) (by omega)
      rw [Hy.out] at cy
      go_wp2_with fail
      go_quiet ((go_at_call 52; exact Calls.quiet_of_same ((uless_any x y _).mono fun e w' h => ⟨h.1, h.2.symm⟩)))
      have HR3 := hid (So.dr HR.out nq)
      clear HR cx cy
      generalize wr.drewN nq = w3 at *
      by_cases hxy : x < y
      · rw [decide_eq_true hxy]
        have HS := hid (sift_hi (hi := hi) (f := fi) (r := r) (c2 := c2) (pr := pr) (p1 := p1) (p2 := p2) (by omega) hg (by omega) (by omega) (by omega) Hx.out Hy.out Hu.out hxy)
        have cu := HR3.out.1.cell (i := pr) (by omega)
        rw [Hu.out] at cu
        have cy := HR3.out.1.cell (i := p2) (by omega)
        rw [Hy.out] at cy
        go_wp2_with fail
        go_quiet ((go_at_call 52; exact Calls.quiet_of_same ((uless_any u y _).mono fun e w' h => ⟨h.1, h.2.symm⟩)))
        have HR5 := hid (So.dr HR3.out nq)
        clear HR3 cu cy
        generalize w3.drewN nq = w5 at *
        by_cases huy : u < y
        · rw [decide_eq_true huy]
          have cu := HR5.out.1.cell (i := pr) (by omega)
          rw [Hu.out] at cu
          have cy := HR5.out.1.cell (i := p2) (by omega)
          rw [Hy.out] at cy
          have f1 := HR5.out.1.frozen pr
          have f2 := HR5.out.1.frozen p2
          have hne : ¬ pr = p2 := by omega
          have hne' : ¬ p2 = pr := by omega
          have HR4 := hid (HR5.out.1.swp pr p2 Hu.out Hy.out).drew
          have HR6 := hid (HR5.out.1.swp' pr p2 Hu.out Hy.out).drew
          have HE := hid ((HS.out.2 (by omega)).symm.trans HR5.out.2)
          clear HR5 HS Hu Hx
          go_wp2_with fail
          go_region
          all_goals
            go_wp2_with fail
            go_round
            case rel => first | exact ⟨c2, _, by omega, rfl, ⟨HR4.out, HE.out⟩⟩ | exact ⟨c2, _, by omega, rfl, ⟨HR6.out, HE.out⟩⟩
            case measure => simp [intOf]; omega
        · rw [decide_eq_false huy]
          have HE := hid ((HS.out.1 (by omega)).symm.trans HR5.out.2)
          go_wp2_with fail
          (try simp only [Exit.inBlock, Exit.then])
          refine bodyPost_ret (results_none rfl _ _ _) rfl ?_
          exact ⟨rfl, by rw [← HE.out]; exact HR5.out.1⟩
      · rw [decide_eq_false hxy]
        have HS := hid (sift_lo (hi := hi) (f := fi) (r := r) (c := c) (c2 := c2) (pr := pr) (p1 := p1) (p2 := p2) (by omega) (by omega) (by omega) (by omega) (by omega) (by omega) Hx.out Hu.out fun _ => by rw [Hy.out]; exact hxy)
        have cu := HR3.out.1.cell (i := pr) (by omega)
        rw [Hu.out] at cu
        have cx := HR3.out.1.cell (i := p1) (by omega)
        rw [Hx.out] at cx
        go_wp2_with fail
        go_quiet ((go_at_call 52; exact Calls.quiet_of_same ((uless_any u x _).mono fun e w' h => ⟨h.1, h.2.symm⟩)))
        have HR5 := hid (So.dr HR3.out nq)
        clear HR3 cu cx
        generalize w3.drewN nq = w5 at *
        by_cases huy : u < x
        · rw [decide_eq_true huy]
          have cu := HR5.out.1.cell (i := pr) (by omega)
          rw [Hu.out] at cu
          have cx := HR5.out.1.cell (i := p1) (by omega)
          rw [Hx.out] at cx
          have f1 := HR5.out.1.frozen pr
          have f2 := HR5.out.1.frozen p1
          have hne : ¬ pr = p1 := by omega
          have hne' : ¬ p1 = pr := by omega
          have HR4 := hid (HR5.out.1.swp pr p1 Hu.out Hx.out).drew
          have HR6 := hid (HR5.out.1.swp' pr p1 Hu.out Hx.out).drew
          have HE := hid ((HS.out.2 (by omega)).symm.trans HR5.out.2)
          clear HR5 HS Hu Hx
          go_wp2_with fail
          go_region
          all_goals
            go_wp2_with fail
            go_round
            case rel => first | exact ⟨c, _, by omega, rfl, ⟨HR4.out, HE.out⟩⟩ | exact ⟨c, _, by omega, rfl, ⟨HR6.out, HE.out⟩⟩
            case measure => simp [intOf]; omega
        · rw [decide_eq_false huy]
          have HE := hid ((HS.out.1 (by omega)).symm.trans HR5.out.2)
          go_wp2_with fail
          (try simp only [Exit.inBlock, Exit.then])
          refine bodyPost_ret (results_none rfl _ _ _) rfl ?_
          exact ⟨rfl, by rw [← HE.out]; exact HR5.out.1⟩
    · have g1 : decide ((c2 : Int) < (hi : Int)) = false := decide_eq_false (by omega)
      have g2 : ¬ (c2 : Int) < (hi : Int) := by omega
      go_wp2_with fail
      go_quiet (fail)
      have HR3 := hid (So.dr HR.out nq)
      clear HR 
      generalize wr.drewN nq = w3 at *
      have HS := hid (sift_lo (hi := hi) (f := fi) (r := r) (c := c) (c2 := c2) (pr := pr) (p1 := p1) (p2 := p2) (by omega) (by omega) (by omega) (by omega) (by omega) (by omega) Hx.out Hu.out fun hh => absurd hh hg)
      have cu := HR3.out.1.cell (i := pr) (by omega)
      rw [Hu.out] at cu
      have cx := HR3.out.1.cell (i := p1) (by omega)
      rw [Hx.out] at cx
      go_wp2_with fail
      go_quiet ((go_at_call 52; exact Calls.quiet_of_same ((uless_any u x _).mono fun e w' h => ⟨h.1, h.2.symm⟩)))
      have HR5 := hid (So.dr HR3.out nq)
      clear HR3 cu cx
      generalize w3.drewN nq = w5 at *
      by_cases huy : u < x
      · rw [decide_eq_true huy]
        have cu := HR5.out.1.cell (i := pr) (by omega)
        rw [Hu.out] at cu
        have cx := HR5.out.1.cell (i := p1) (by omega)
        rw [Hx.out] at cx
        have f1 := HR5.out.1.frozen pr
        have f2 := HR5.out.1.frozen p1
        have hne : ¬ pr = p1 := by omega
        have hne' : ¬ p1 = pr := by omega
        have HR4 := hid (HR5.out.1.swp pr p1 Hu.out Hx.out).drew
        have HR6 := hid (HR5.out.1.swp' pr p1 Hu.out Hx.out).drew
        have HE := hid ((HS.out.2 (by omega)).symm.trans HR5.out.2)
        clear HR5 HS Hu Hx
        go_wp2_with fail
        go_region
        all_goals
          go_wp2_with fail
          go_round
          case rel => first | exact ⟨c, _, by omega, rfl, ⟨HR4.out, HE.out⟩⟩ | exact ⟨c, _, by omega, rfl, ⟨HR6.out, HE.out⟩⟩
          case measure => simp [intOf]; omega
      · rw [decide_eq_false huy]
        have HE := hid ((HS.out.1 (by omega)).symm.trans HR5.out.2)
        go_wp2_with fail
        (try simp only [Exit.inBlock, Exit.then])
        refine bodyPost_ret (results_none rfl _ _ _) rfl ?_
        exact ⟨rfl, by rw [← HE.out]; exact HR5.out.1⟩
end Go.Proofs.Ytlhhkgjolilpiaa
