/-
  Package probe: goOn, New, Tick, Pong, Up, Due, Now, Asked.
-/
import Derived.Test.YtmpooeflbfggbaaPbOp
namespace Go.Proofs.Ytmpooeflbfggbaa
open Go.RowKit
set_option linter.unusedVariables false
set_option maxRecDepth 1000000
variable {b : Nat} {w w' : World} {P : Pk}

/-- Whether the time is the prober's own or later, within the bounds. -/
theorem tm_yes {T t : Int} (h : T ≤ t ∧ t ≤ 1099511627776) : tmZ T t = t := by unfold tmZ; split <;> omega
theorem tm_no {T t : Int} (h : ¬ (T ≤ t ∧ t ≤ 1099511627776)) : tmZ T t = T := by unfold tmZ; rw [if_neg (by omega)]
theorem pgo_any (h : PkAt w b P) (ok : PkOk P) (t : Int) : Calls Try.prog 23 #[.pointer (some ⟨b, 0, none⟩), .int .i64 t] w fun e w' => e = .returned (.tuple #[]) ∧ Hid (PkAt w' b (P.go t) ∧ Tn b w w') := by
  have HB := hid (pbet_any t P.now 1099511627776 w)
  have c4 := h.cs.now
  have f4 := h.frozen 4
  have okt := ok.tm t
  -- the world behind the time's store
  by_cases hm : P.now ≤ t ∧ t ≤ 1099511627776
  · have et : tmZ P.now t = t := tm_yes hm
    have hd : decide (P.now ≤ t ∧ t ≤ 1099511627776) = true := decide_eq_true hm
    rw [hd] at HB
    obtain ⟨W1, hW1⟩ : ∃ W1, w.setCell ⟨b, 4, none⟩ (.int .i64 t) = W1 := ⟨_, rfl⟩
    have g1 : PkAt W1 b (P.tm t) := by rw [← hW1]; exact h.set (by unfold Pk.tm; rw [et]; rfl)
    have t1 : Tn b w W1 := by rw [← hW1]; exact (Tn.refl b w).set _ _
    have eg : P.go t = if (P.tm t).late = true then (P.tm t).miss else P.tm t := rfl
    rw [eg]
    clear h ok et hm eg hd
    generalize P.tm t = Q at *
    have d9 := fun n : Nat => (g1.drewN n).cs.op
    have d7 := fun n : Nat => (g1.drewN n).cs.en
    have d4 := fun n : Nat => (g1.drewN n).cs.now
    have HE := hid fun n : Nat => And.intro (g1.drewN n) (t1.drewN n)
    have HM := hid fun n : Nat => pmissed_any (g1.drewN n) okt
    clear g1 t1 okt
    cases ho : Q.op with
    | false =>
      have e : Q.late = false := by unfold Pk.late; rw [ho]; rfl
      rw [e, if_neg (by decide)]
      rw [ho] at d9
      clear e ho HM d7 d4
      go_enter Try.func23, Try.ntmps23
      go_wp2_with fail
      refine HB.out.mono ?_
      rintro e w1 ⟨rfl, rfl⟩
      go_wp2_with fail
      (try rw [hW1]); (try clear hW1)
      go_quiet (fail)
      go_wp2_with fail
      go_end0
      exact ⟨rfl, HE.out _⟩
    | true =>
      rw [ho] at d9
      by_cases hu : Q.en ≤ Q.now
      · have e : Q.late = true := by unfold Pk.late; rw [ho]; simp [hu]
        rw [e, if_pos rfl]
        have db : decide (Q.en ≤ Q.now) = true := decide_eq_true hu
        clear e ho hu
        go_enter Try.func23, Try.ntmps23
        go_wp2_with fail
        refine HB.out.mono ?_
        rintro e w1 ⟨rfl, rfl⟩
        go_wp2_with fail
        (try rw [hW1]); (try clear hW1)
        go_quiet (fail)
        go_wp2_with fail
        refine (HM.out _).mono ?_
        rintro e w2 ⟨rfl, H⟩
        have HX := hid (And.intro H.out.1 ((HE.out _).2.trans H.out.2))
        clear HM HE H d9 d7 d4 c4 f4
        go_wp2_with fail
        go_end0
        exact ⟨rfl, HX⟩
      · have e : Q.late = false := by unfold Pk.late; rw [ho]; simp; omega
        rw [e, if_neg (by decide)]
        have db : decide (Q.en ≤ Q.now) = false := decide_eq_false hu
        clear e ho HM hu
        go_enter Try.func23, Try.ntmps23
        go_wp2_with fail
        refine HB.out.mono ?_
        rintro e w1 ⟨rfl, rfl⟩
        go_wp2_with fail
        (try rw [hW1]); (try clear hW1)
        go_quiet (fail)
        go_wp2_with fail
        go_end0
        exact ⟨rfl, HE.out _⟩
  · have et : tmZ P.now t = P.now := tm_no hm
    have hd : decide (P.now ≤ t ∧ t ≤ 1099511627776) = false := decide_eq_false hm
    rw [hd] at HB
    have g1 : PkAt w b (P.tm t) := by unfold Pk.tm; rw [et]; exact h
    have t1 : Tn b w w := Tn.refl b w
    have eg : P.go t = if (P.tm t).late = true then (P.tm t).miss else P.tm t := rfl
    rw [eg]
    clear h ok et hm eg hd
    generalize P.tm t = Q at *
    have d9 := fun n : Nat => (g1.drewN n).cs.op
    have d7 := fun n : Nat => (g1.drewN n).cs.en
    have d4 := fun n : Nat => (g1.drewN n).cs.now
    have HE := hid fun n : Nat => And.intro (g1.drewN n) (t1.drewN n)
    have HM := hid fun n : Nat => pmissed_any (g1.drewN n) okt
    clear g1 t1 okt
    cases ho : Q.op with
    | false =>
      have e : Q.late = false := by unfold Pk.late; rw [ho]; rfl
      rw [e, if_neg (by decide)]
      rw [ho] at d9
      clear e ho HM d7 d4
      go_enter Try.func23, Try.ntmps23
      go_wp2_with fail
      refine HB.out.mono ?_
      rintro e w1 ⟨rfl, rfl⟩
      go_wp2_with fail
      go_quiet (fail)
      go_wp2_with fail
      go_end0
      exact ⟨rfl, HE.out _⟩
    | true =>
      rw [ho] at d9
      by_cases hu : Q.en ≤ Q.now
      · have e : Q.late = true := by unfold Pk.late; rw [ho]; simp [hu]
        rw [e, if_pos rfl]
        have db : decide (Q.en ≤ Q.now) = true := decide_eq_true hu
        clear e ho hu
        go_enter Try.func23, Try.ntmps23
        go_wp2_with fail
        refine HB.out.mono ?_
        rintro e w1 ⟨rfl, rfl⟩
        go_wp2_with fail
        go_quiet (fail)
        go_wp2_with fail
        refine (HM.out _).mono ?_
        rintro e w2 ⟨rfl, H⟩
        have HX := hid (And.intro H.out.1 ((HE.out _).2.trans H.out.2))
        clear HM HE H d9 d7 d4 c4 f4
        go_wp2_with fail
        go_end0
        exact ⟨rfl, HX⟩
      · have e : Q.late = false := by unfold Pk.late; rw [ho]; simp; omega
        rw [e, if_neg (by decide)]
        have db : decide (Q.en ≤ Q.now) = false := decide_eq_false hu
        clear e ho HM hu
        go_enter Try.func23, Try.ntmps23
        go_wp2_with fail
        refine HB.out.mono ?_
        rintro e w1 ⟨rfl, rfl⟩
        go_wp2_with fail
        go_quiet (fail)
        go_wp2_with fail
        go_end0
        exact ⟨rfl, HE.out _⟩
end Go.Proofs.Ytmpooeflbfggbaa
