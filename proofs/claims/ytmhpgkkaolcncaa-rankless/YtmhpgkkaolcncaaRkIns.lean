/-
  The stable sort's parts over elements of k cells: the insertion sort.
-/
import Derived.Test.YtmhpgkkaolcncaaRkSwp
namespace Go.Proofs.Ytmhpgkkaolcncaa
open Go.RowKit Go.Shelf Go.Sort Go.Lib
set_option linter.unusedVariables false
set_option maxRecDepth 1000000

theorem swp_rot {d : Array Cd} {i : Nat} (h : i + 1 < d.size) : RotR d i (i + 1) (i + 2) (swp d (i + 1) i) := by
  refine ⟨by rw [size_swp], fun x h1 h2 => ?_, fun x h1 h2 => ?_, fun x h1 => ?_⟩
  all_goals
    rw [swp_get d (by omega) (by omega)]
    repeat' split
    all_goals first | (exfalso; omega) | rfl | (congr 1; omega) | (congr 1)
/-- In order as far as i but for the place j. -/
structure InS (q : Wt) (d : Array Cd) (a b i j : Nat) (dj : Array Cd) : Prop where
  kp : Kp q d dj a b
  rest : ∀ p r, a ≤ p → p < r → r ≤ i → p ≠ j → r ≠ j → bet q dj[r]! dj[p]! = false
  right : ∀ r, j < r → r ≤ i → bet q dj[j]! dj[r]! = true
theorem InS.start {q : Wt} {d dk : Array Cd} {a b i : Nat} (h : Kp q d dk a b) (hs : SrI q dk a i) : InS q d a b i i dk :=
  ⟨h, fun p r h1 h2 h3 h4 h5 => hs p r h1 h2 (by omega), fun r h1 h2 => by omega⟩
theorem InS.step {q : Wt} {d dj : Array Cd} {a b i j : Nat} (h : InS q d a b i (j + 1) dj) (ha : a ≤ j) (hj : j + 1 ≤ i) (hi : i < b) (hb : b ≤ d.size) (hl : bet q dj[j + 1]! dj[j]! = true) : InS q d a b i j (swp dj (j + 1) j) := by
  have hz : dj.size = d.size := h.kp.size
  have g := swp_get dj (i := j + 1) (j := j) (by omega) (by omega)
  refine ⟨h.kp.trans (((swp_rot (d := dj) (i := j) (by omega)).kp (w := q) (by omega) (by omega) (by omega) fun x y h1 h2 h3 h4 => ?_).wide ha (by omega)), fun p r h1 h2 h3 h4 h5 => ?_, fun r h1 h2 => ?_⟩
  · obtain rfl : x = j := by omega
    obtain rfl : y = x + 1 := by omega
    exact hl
  · rw [g, g, if_neg h5, if_neg h4]
    by_cases h6 : r = j + 1
    · rw [if_pos h6, if_neg (by omega)]
      exact h.rest p j h1 (by omega) (by omega) (by omega) (by omega)
    · rw [if_neg h6]
      by_cases h7 : p = j + 1
      · rw [if_pos h7]
        exact h.rest j r ha (by omega) h3 (by omega) h6
      · rw [if_neg h7]
        exact h.rest p r h1 h2 h3 h7 h6
  · rw [g, g, if_pos rfl, if_neg (by omega)]
    by_cases h6 : r = j + 1
    · rw [if_pos h6]
      exact hl
    · rw [if_neg h6]
      exact h.right r (by omega) h2
theorem InS.stop {q : Wt} {d dj : Array Cd} {a b i j : Nat} (h : InS q d a b i j dj) (hj : j ≤ i) (hs : j ≤ a ∨ bet q dj[j]! dj[j - 1]! = false) : SrI q dj a (i + 1) := fun p r h1 h2 h3 => by
  by_cases h4 : r = j
  · subst h4
    rcases hs with hs | hs
    · omega
    · by_cases h5 : p = r - 1
      · subst h5; exact hs
      · exact bet_nn (h.rest p (r - 1) h1 (by omega) (by omega) (by omega) (by omega)) hs
  · by_cases h5 : p = j
    · subst h5
      exact bet_anti (h.right r h2 (by omega))
    · exact h.rest p r h1 h2 (by omega) h5 h4
set_option maxHeartbeats 8000000 in
theorem insert_any {P : Program} {k : Nat} (L : StP P k) {enc : Cd → List Value} {q : Wt} {cf : Cd → Cd → Int} {g : Nat} {cb : Array Value} {blk off cap a b N : Nat} {d0 d : Array Cd} {w0 w : World} (R : RowK enc k w0 blk off d0) (hN : d.size = N) (hs : d0.size = N) (S : SWK enc k w0 blk off d w)
    (eg : ∀ args w, (callFunc g args).run P w = .ok (.enter g args) w) (hcmp : CmpLays P g cb enc k cf blk off N w0) (hcf : ∀ x y, decide (cf x y < 0) = bet q x y) (hab : a ≤ b) (hb : b ≤ N) (hsz : N ≤ 100000) :
    Calls P 39 #[.slice (some ⟨blk, off, none⟩) N cap, .int .i64 a, .int .i64 b, .func (.func g) #[] cb] w fun e w' => e = .returned (.tuple #[]) ∧ Hid (∃ d' : Array Cd, (Kp q d d' a b ∧ SrI q d' a b) ∧ SWK enc k w0 blk off d' w') := by
  have mixed := L.mixed; have t0 := L.t0; have a0 := L.a0; have z0 := L.z0; have v0 := L.v0; have t3 := L.t3; have a3 := L.a3; have z3 := L.z3; have v3 := L.v3; have t4 := L.t4; have a4 := L.a4; have z4 := L.z4; have v4 := L.v4; have tS := L.tS; have aS := L.aS; have zS := L.zS; have vS := L.vS; have tF := L.tF; have aF := L.aF; have zF := L.zF; have vF := L.vF; have aE := L.aE; have zE := L.zE
  have FG := L.fIn
  have HC : Aside _ := hcmp
  have HF : Aside (∀ x y, decide (cf x y < 0) = bet q x y) := hcf
  have S0 : Aside (SWK enc k w0 blk off d w ∧ d.size = N) := ⟨S, hN⟩
  clear S hN hcmp hcf
  go_enter FG, Try.ntmps39
  go_wp2
  go_loopg [8] (b - a) (fun g1 vi wr => ∃ (i : Nat) (dk : Array Cd), vi = .int .i64 i ∧ a < i ∧ i ≤ b + 1 ∧ b + 1 - i ≤ g1 + 1 ∧ Aside (Kp q d dk a b ∧ SrI q dk a i) ∧ Aside (SWK enc k w0 blk off dk wr))
  case atStart => exact ⟨a + 1, d, by go_num, by omega, by omega, by omega, ⟨Kp.refl q d a b, fun i j h1 h2 h3 => by omega⟩, S0.out.1⟩
  case round =>
    obtain ⟨i, dk, rfl, hai, hib, hg1, HO, S1⟩ := hrel
    have HD : Aside (d.size = N) := S0.out.2
    clear S0
    by_cases hlt : i < b
    · have hltz : (i : Int) < (b : Int) := by omega
      go_wp2
      go_loopg [9] i (fun g2 vj wr2 => ∃ (j : Nat) (dj : Array Cd), vj = .int .i64 j ∧ a ≤ j ∧ j ≤ i ∧ j ≤ g2 ∧ Aside (InS q d a b i j dj) ∧ Aside (SWK enc k w0 blk off dj wr2))
      case atStart => exact ⟨i, dk, rfl, by omega, Nat.le_refl _, Nat.le_refl _, InS.start HO.out.1 HO.out.2, S1⟩
      case round =>
        clear HO S1
        obtain ⟨j, dj, rfl, haj, hji, hg2, HI, S1⟩ := hrel
        have hsj : dj.size = N := HI.out.kp.size.trans HD.out
        by_cases hja : a < j
        · have hjaz : (a : Int) < (j : Int) := by omega
          obtain ⟨jp, rfl⟩ : ∃ jp, j = jp + 1 := ⟨j - 1, by omega⟩
          obtain ⟨xj, hxj⟩ : ∃ x, x = dj[jp + 1]! := ⟨_, rfl⟩
          obtain ⟨xp, hxp⟩ : ∃ x, x = dj[jp]! := ⟨_, rfl⟩
          have hwp : IntKind.i64.wrap (jp : Int) = (jp : Int) := by rw [IntKind.wrap_i64]; omega
          have jz : (jp : Int) + 1 < (N : Int) := by omega
          have jz1 : (jp : Int) < (N : Int) := by omega
          have hjaz' : (a : Int) < (jp : Int) + 1 := by omega
          have p0 : (0 : Int) ≤ (jp : Int) + 1 := by omega
          have e0 : ((jp : Int) + 1).toNat = jp + 1 := by omega
          have lj := S1.out.ld R (by omega) P (jp + 1) (by omega)
          have lp := S1.out.ld R (by omega) P jp (by omega)
          rw [← hxj] at lj
          rw [← hxp] at lp
          have hc := S1.out.cmp HC.out (by omega) xj xp
          have HX : Aside (bet q xj xp = bet q dj[jp + 1]! dj[jp]!) := by show _ = _; rw [hxj, hxp]
          by_cases hlv : cf xj xp < 0
          · have HL : Aside (bet q dj[jp + 1]! dj[jp]! = true) := by rw [← HX.out, ← HF.out]; exact decide_eq_true hlv
            clear hxj hxp HX
            go_wp2_with fail
            go_quiet_grown (first | (go_at_fn g; refine Calls.grown_of (hc _ _)))
            have S2 : Aside (SWK enc k w0 blk off dj (grow (wr.drewN nq) osq)) := S1.out.grown nq osq
            clear lj lp hc S1
            generalize grow (wr.drewN nq) osq = w2 at S2 ⊢
            clear nq osq
            go_wp2_with fail
            have S3 : Aside (SWK enc k w0 blk off (swp dj (jp + 1) jp) ((w2.drew.setCells blk (off + (jp + 1) * k) (enc dj[jp]!)).setCells blk (off + jp * k) (enc dj[jp + 1]!))) := S2.out.swapped R (jp + 1) jp (by omega) (by omega)
            have la := S2.out.ld1 R (by omega) P (jp + 1) (by omega)
            have lb := S2.out.ld1 R (by omega) P jp (by omega)
            have sa := S2.out.st1 R (by omega) P (jp + 1) (by omega) dj[jp]!
            have sb := S2.out.st2 R (by omega) P (jp + 1) jp (by omega) (by omega) dj[jp]! dj[jp + 1]!
            have na : (enc dj[jp + 1]!).length = k := R.hk _
            have nb : (enc dj[jp]!).length = k := R.hk _
            generalize enc dj[jp + 1]! = cI at S3 la sb na
            generalize enc dj[jp]! = cJ at S3 lb sa sb nb
            clear S2
            go_big_region_o
            all_goals
              clear la lb sa sb
              generalize (w2.drew.setCells blk (off + (jp + 1) * k) cJ).setCells blk (off + jp * k) cI = w3 at S3 ⊢
              go_wp2
              go_roundg jp
              case measure => omega
              case rel => exact ⟨jp, _, by first | rfl | go_num | (congr 1; omega), by omega, by omega, Nat.le_refl _, HI.out.step (by omega) (by omega) (by omega) (by rw [HD.out]; exact hb) HL.out, S3⟩
          · have HL : Aside (bet q dj[jp + 1]! dj[jp]! = false) := by rw [← HX.out, ← HF.out]; exact decide_eq_false hlv
            clear hxj hxp HX
            go_wp2_with fail
            go_quiet_grown (first | (go_at_fn g; refine Calls.grown_of (hc _ _)))
            have S2 : Aside (SWK enc k w0 blk off dj (grow (wr.drewN nq) osq)) := S1.out.grown nq osq
            clear lj lp hc S1
            generalize grow (wr.drewN nq) osq = w2 at S2 ⊢
            clear nq osq
            go_wp2
            go_roundg (b - (i + 1))
            case measure => omega
            case rel => exact ⟨i + 1, dj, by go_num, by omega, by omega, by omega, ⟨HI.out.kp, HI.out.stop hji (.inr (by simpa using HL.out))⟩, S2⟩
        · have hjaz : decide ((j : Int) > (a : Int)) = false := decide_eq_false (by omega)
          have hjaz' : ¬ (a : Int) < (j : Int) := by omega
          have S2 : Aside (SWK enc k w0 blk off dj wr.drew) := S1.out.drew
          clear S1
          go_wp2_with fail
          go_big_region_o
          all_goals
            go_wp2
            go_roundg (b - (i + 1))
            case measure => omega
            case rel => exact ⟨i + 1, dj, by go_num, by omega, by omega, by omega, ⟨HI.out.kp, HI.out.stop hji (.inl (by omega))⟩, S2⟩
    · have hltz : ¬ (i : Int) < (b : Int) := by omega
      go_wp2
      go_end0
      exact ⟨rfl, ⟨dk, ⟨HO.out.1, fun x y h1 h2 h3 => HO.out.2 x y h1 h2 (by omega)⟩, S1.out⟩⟩
end Go.Proofs.Ytmhpgkkaolcncaa
