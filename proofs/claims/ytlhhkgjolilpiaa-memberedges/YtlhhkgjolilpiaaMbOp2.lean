/-
  Package member: turn, Lost, Drain, Up, Remove, Bind, Get, Now.
-/
import Derived.Test.YtlhhkgjolilpiaaMbOp
namespace Go.Proofs.Ytlhhkgjolilpiaa
open Go.RowKit
set_option linter.unusedVariables false
set_option maxRecDepth 1000000
variable {W W' w w' : World} {b M g : Nat} {f : Int → Nat} {S S' : Ml} {r q r' : Mr} {n t v wt s i : Int}

theorem mat_no (h : MlAt w b M f S) (t : Int) (hn : isU n) (hg : (S.tm t).get n = none) : Calls Try.prog 34 #[.pointer (some ⟨b, 0, none⟩), .int .i64 t, .int .u64 n] w fun e w' => e = .returned (.tuple #[.pointer none, .int .i64 6]) ∧ Hid (MlO w b M f S (S.tm t) f w') := by
  have := mat_any h t hn
  rw [(ptr_none (f := f) hg).1, (ptr_none (f := f) hg).2] at this
  exact this
theorem mat_yes (h : MlAt w b M f S) (hris : RisM S.L) (t : Int) (hn : isU n) (hg : (S.tm t).get n = some r) : Calls Try.prog 34 #[.pointer (some ⟨b, 0, none⟩), .int .i64 t, .int .u64 n] w fun e w' => e = .returned (.tuple #[.pointer (some ⟨f n, 0, none⟩), .int .i64 0]) ∧ Hid (MlO w b M f S (S.tm t) f w' ∧ Rc w' w' b M f (S.tm t) r (f n)) := by
  have := mat_any h t hn
  rw [(ptr_some (f := f) hg).1, (ptr_some (f := f) hg).2] at this
  refine this.mono fun e w' ⟨he, H⟩ => ⟨he, H.out, ?_⟩
  have hr := get_num hg
  have := Rc.init H.out.at' hris hr.1
  rw [hr.2] at this
  exact this
theorem mone_yes (h : MlAt w b M f S) (hris : RisM S.L) (hn : isU n) (hg : S.get n = some r) : Calls Try.prog 35 #[.pointer (some ⟨b, 0, none⟩), .int .u64 n] w fun e w' => e = .returned (.tuple #[.pointer (some ⟨f n, 0, none⟩), .int .i64 0]) ∧ w' = w := by
  have := mone_any h hn
  rw [(ptr_some (f := f) hg).1, (ptr_some (f := f) hg).2] at this
  exact this
theorem mone_no (h : MlAt w b M f S) (hn : isU n) (hg : S.get n = none) : Calls Try.prog 35 #[.pointer (some ⟨b, 0, none⟩), .int .u64 n] w fun e w' => e = .returned (.tuple #[.pointer none, .int .i64 6]) ∧ w' = w := by
  have := mone_any h hn
  rw [(ptr_none (f := f) hg).1, (ptr_none (f := f) hg).2] at this
  exact this
theorem mturn_any (h : MlAt w b M f S) (hris : RisM S.L) (t : Int) (hn : isU n) (s : Int) : Calls Try.prog 31 #[.pointer (some ⟨b, 0, none⟩), .int .i64 t, .int .u64 n, .int .i64 s] w fun e w' => e = .returned (.int .i64 ((S.tm t).turnE n)) ∧ Hid (MlO w b M f S ((S.tm t).turnS n s) f w') := by
  cases hg : (S.tm t).get n with
  | none =>
    obtain ⟨_, _, _, e1, e2, _⟩ := get_none (i := 0) (v := 0) (wt := 0) (s := s) hg
    rw [e1, e2]
    have hA := mat_no h t hn hg
    clear h hris hn hg e1 e2
    go_enter Try.func31, Try.ntmps31
    go_wp2_with fail
    refine hA.mono ?_
    rintro e w1 ⟨rfl, H⟩
    go_wp2
    go_ret
    exact ⟨rfl, H⟩
  | some r =>
    rw [(get_turn (s := s) hg).1, (get_turn (s := s) hg).2]
    have hA := mat_yes h hris t hn hg
    have HE := hid fun (W : World) (r : Mr) (g : Nat) (h : Rc W W b M f (S.tm t) r g) => menter_any h s
    clear h hris hn hg
    generalize S.tm t = S1 at *
    generalize f n = g at *
    by_cases h3 : r.st = 3
    · rw [if_pos h3, if_pos h3]
      clear HE
      go_enter Try.func31, Try.ntmps31
      go_wp2_with fail
      refine hA.mono ?_
      rintro e w1 ⟨rfl, H⟩
      have c1 := H.out.2.cs.st
      rw [h3] at c1
      have HF := hid H.out.1
      clear hA H h3
      go_wp2
      go_ret
      exact ⟨rfl, HF⟩
    · rw [if_neg h3, if_neg h3]
      have d1 : (r.st == 3) = false := by simp [h3]
      go_enter Try.func31, Try.ntmps31
      go_wp2_with fail
      refine hA.mono ?_
      rintro e w1 ⟨rfl, H⟩
      have c1 := H.out.2.cs.st
      have hE := HE.out _ _ _ H.out.2
      clear hA HE h3
      generalize hst : r.st = st at c1 d1
      clear hst
      go_wp2_with fail
      refine hE.mono ?_
      rintro e w2 ⟨rfl, H2⟩
      have HF := hid (H.out.1.trans H2.out.o)
      clear hE H H2
      go_wp2
      go_ret
      exact ⟨rfl, HF⟩
theorem mlost_any (h : MlAt w b M f S) (hris : RisM S.L) (t : Int) (hn : isU n) : Calls Try.prog 10 #[.pointer (some ⟨b, 0, none⟩), .int .i64 t, .int .u64 n] w fun e w' => e = .returned (.int .i64 ((S.tm t).turnE n)) ∧ Hid (MlO w b M f S ((S.tm t).turnS n 4) f w') := by
  have hT := mturn_any h hris t hn 4
  clear h hris hn
  go_enter Try.func10, Try.ntmps10
  go_wp2_with fail
  refine hT.mono ?_
  rintro e w1 ⟨rfl, H⟩
  go_wp2
  go_ret
  exact ⟨rfl, H⟩
theorem mdrain_any (h : MlAt w b M f S) (hris : RisM S.L) (t : Int) (hn : isU n) : Calls Try.prog 12 #[.pointer (some ⟨b, 0, none⟩), .int .i64 t, .int .u64 n] w fun e w' => e = .returned (.int .i64 ((S.tm t).turnE n)) ∧ Hid (MlO w b M f S ((S.tm t).turnS n 3) f w') := by
  have hT := mturn_any h hris t hn 3
  clear h hris hn
  go_enter Try.func12, Try.ntmps12
  go_wp2_with fail
  refine hT.mono ?_
  rintro e w1 ⟨rfl, H⟩
  go_wp2
  go_ret
  exact ⟨rfl, H⟩
theorem old_any (r : Mr) (i : Int) : r.old i = (decide (i = 0) || decide (i < r.inc)) := by unfold Mr.old; rw [Bool.decide_or]
theorem mup_any (h : MlAt w b M f S) (hris : RisM S.L) (t : Int) (hn : isU n) (i : Int) : Calls Try.prog 18 #[.pointer (some ⟨b, 0, none⟩), .int .i64 t, .int .u64 n, .int .u64 i] w fun e w' => e = .returned (.tuple #[.bool ((S.tm t).upB n i), .int .i64 ((S.tm t).upE n i)]) ∧ Hid (MlO w b M f S ((S.tm t).upS n i) f w') := by
  cases hg : (S.tm t).get n with
  | none =>
    obtain ⟨e0, e1, e2, _⟩ := get_none (i := i) (v := 0) (wt := 0) (s := 0) hg
    rw [e0, e1, e2]
    have hA := mat_no h t hn hg
    clear h hris hn hg e0 e1 e2
    go_enter Try.func18, Try.ntmps18
    go_wp2_with fail
    refine hA.mono ?_
    rintro e w1 ⟨rfl, H⟩
    go_wp2
    go_ret2
    exact ⟨rfl, H⟩
  | some r =>
    obtain ⟨e0, e1, e2⟩ := get_up (i := i) hg
    rw [e0, e1, e2]
    have hA := mat_yes h hris t hn hg
    have HE := hid fun (W : World) (r : Mr) (g : Nat) (h : Rc W W b M f (S.tm t) r g) => menter_any h 2
    have HB := hid fun (W W' : World) (r : Mr) (g : Nat) (h : Rc W W' b M f (S.tm t) r g) => mbegin_any h i
    clear h hris hn hg e0 e1 e2
    generalize S.tm t = S1 at *
    generalize f n = g at *
    rw [old_any]
    by_cases h0 : i = 0
    · subst h0
      simp only [decide_true, Bool.true_or, if_true]
      clear HE HB
      go_enter Try.func18, Try.ntmps18
      go_wp2_with fail
      refine hA.mono ?_
      rintro e w1 ⟨rfl, H⟩
      have HF := hid H.out.1
      clear hA H
      go_wp2
      go_ret2
      exact ⟨rfl, HF⟩
    · have d0 : (i == 0) = false := by simp [h0]
      rw [decide_eq_false h0, Bool.false_or]
      by_cases h1 : i < r.inc
      · have d1 : decide (i < r.inc) = true := decide_eq_true h1
        rw [d1, if_pos rfl, if_pos rfl, if_pos rfl]
        clear HE HB h0
        go_enter Try.func18, Try.ntmps18
        go_wp2_with fail
        refine hA.mono ?_
        rintro e w1 ⟨rfl, H⟩
        have HF := hid H.out.1
        have c2 := H.out.2.cs.inc
        clear hA H
        go_wp2
        go_ret2
        exact ⟨rfl, HF⟩
      · have d1 : decide (i < r.inc) = false := decide_eq_false h1
        rw [d1, if_neg (by decide), if_neg (by decide), if_neg (by decide)]
        have HZ : Hid (∀ (w1 w' : World) (q : Mr), q.n = r.n → MlO w b M f S S1 f w1 → Rc w1 w' b M f S1 q g → MlO w b M f S (S1.put q) f w') := fun w1 w' q hq h1 h2 => h1.trans h2.o
        have hu : (r.st = 1 ∧ r.ups S1.now = r.ent S1.now 2) ∨ (r.st ≠ 1 ∧ r.st = 4 ∧ r.ups S1.now = r.ent S1.now 2) ∨ (r.st ≠ 1 ∧ r.st ≠ 4 ∧ r.ups S1.now = r) := by
          unfold Mr.ups
          by_cases k1 : r.st = 1
          · exact .inl ⟨k1, if_pos (.inl k1)⟩
          · by_cases k4 : r.st = 4
            · exact .inr (.inl ⟨k1, k4, if_pos (.inr k4)⟩)
            · exact .inr (.inr ⟨k1, k4, if_neg (fun e => e.elim k1 k4)⟩)
        have HN : Hid ((r.ent S1.now 2).anew i = r.anew i) := by
          unfold Hid Mr.ent Mr.anew
          split <;> rfl
        clear h0 h1
        rcases hu with ⟨k1, e⟩ | ⟨k1, k4, e⟩ | ⟨k1, k4, e⟩
        · rw [e]
          clear e
          go_enter Try.func18, Try.ntmps18
          go_wp2_with fail
          refine hA.mono ?_
          rintro e w1 ⟨rfl, H⟩
          have c1 := H.out.2.cs.st
          rw [k1] at c1
          have c2 := H.out.2.cs.inc
          have hE := HE.out _ _ _ H.out.2
          clear hA k1 HE
          generalize r.inc = ri at c2 d1
          go_wp2_with fail
          refine hE.mono ?_
          rintro e w2 ⟨rfl, H2⟩
          have hB := HB.out _ _ _ _ H2.out
          rw [HN.out] at hB
          clear hE HB c1 c2 d0 d1
          go_wp2_with fail
          refine hB.mono ?_
          rintro e w3 ⟨rfl, H3⟩
          have HF := hid (H.out.1.trans H3.out.o)
          clear hB H H2 H3
          go_wp2
          go_ret2
          exact ⟨rfl, HF⟩
        · rw [e]
          clear e
          go_enter Try.func18, Try.ntmps18
          go_wp2_with fail
          refine hA.mono ?_
          rintro e w1 ⟨rfl, H⟩
          have c1 := H.out.2.cs.st
          rw [k4] at c1
          have c2 := H.out.2.cs.inc
          have hE := HE.out _ _ _ H.out.2
          clear hA k1 k4 HE
          generalize r.inc = ri at c2 d1
          go_wp2_with fail
          refine hE.mono ?_
          rintro e w2 ⟨rfl, H2⟩
          have hB := HB.out _ _ _ _ H2.out
          rw [HN.out] at hB
          clear hE HB c1 c2 d0 d1
          go_wp2_with fail
          refine hB.mono ?_
          rintro e w3 ⟨rfl, H3⟩
          have HF := hid (H.out.1.trans H3.out.o)
          clear hB H H2 H3
          go_wp2
          go_ret2
          exact ⟨rfl, HF⟩
        · rw [e]
          have d2 : (r.st == 1) = false := by simp [k1]
          have d3 : (r.st == 4) = false := by simp [k4]
          clear e HE
          go_enter Try.func18, Try.ntmps18
          go_wp2_with fail
          refine hA.mono ?_
          rintro e w1 ⟨rfl, H⟩
          have c1 := H.out.2.cs.st
          have c2 := H.out.2.cs.inc
          have hB := HB.out _ _ _ _ H.out.2
          clear hA k1 k4 HB
          generalize r.inc = ri at c2 d1
          generalize r.st = rs at c1 d2 d3
          go_wp2_with fail
          refine hB.mono ?_
          rintro e w3 ⟨rfl, H3⟩
          have HF := hid (H.out.1.trans H3.out.o)
          clear hB H H3
          go_wp2
          go_ret2
          exact ⟨rfl, HF⟩
end Go.Proofs.Ytlhhkgjolilpiaa
