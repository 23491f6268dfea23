/-
  Package member: Remove, Bind, Get, Now, New.
-/
import Derived.Test.YtlhhkgjolilpiaaMbOp2
namespace Go.Proofs.Ytlhhkgjolilpiaa
open Go.RowKit
set_option linter.unusedVariables false
set_option maxRecDepth 1000000
variable {W W' w w' : World} {b M g : Nat} {f : Int → Nat} {S S' : Ml} {r q r' : Mr} {n t v wt s i : Int}

theorem stays_any (r : Mr) (T wt : Int) : r.stays T wt = (decide (r.st ≠ 3) || (decide (0 < r.bd) && decide (T - r.si < wt))) := by unfold Mr.stays; rw [Bool.decide_or, Bool.decide_and]
set_option maxHeartbeats 4000000 in
theorem mremove_any (h : MlAt w b M f S) (ok : MlOk S) (t : Int) (hn : isU n) (wt : Int) : Calls Try.prog 14 #[.pointer (some ⟨b, 0, none⟩), .int .i64 t, .int .u64 n, .int .i64 wt] w fun e w' => e = .returned (.int .i64 ((S.tm t).rmE n wt)) ∧ Hid (MlO w b M f S ((S.tm t).rmS n wt) f w') := by
  cases hg : (S.tm t).get n with
  | none =>
    obtain ⟨_, _, _, _, _, e1, e2, _⟩ := get_none (i := 0) (v := 0) (wt := wt) (s := 0) hg
    rw [e1, e2]
    have hA := mat_no h t hn hg
    clear h ok hn hg e1 e2
    go_enter Try.func14, Try.ntmps14
    go_wp2_with fail
    refine hA.mono ?_
    rintro e w1 ⟨rfl, H⟩
    go_wp2
    go_ret
    exact ⟨rfl, H⟩
  | some r =>
    rw [(get_rm (wt := wt) hg).1, (get_rm (wt := wt) hg).2]
    have hA := mat_yes h ok.ris t hn hg
    have ok1 := ok.tm t
    have hrk := ok1.rep r (get_num hg).1
    have hsi := hrk.si
    have hnw := ok1.now
    clear h ok hg
    generalize S.tm t = S1 at *
    generalize f n = g at *
    rw [stays_any]
    have v1 : wrap64 (S1.now - r.si) = S1.now - r.si := by unfold wrap64; omega
    have v2 : IntKind.i64.wrap (S1.now - r.si) = S1.now - r.si := by rw [IntKind.wrap_i64]; omega
    have HD : Hid (∀ w1 : World, MlO w b M f S S1 f w1 → ∃ Wd : Nat → World, ∀ k, (Builtin.delete_ #[59, 25] 0 #[.map (some M), .int .u64 n]).run Try.prog (w1.drewN k) = .ok (.tuple #[]) (Wd k) ∧ MlO w b M f S (S1.rm n) f (Wd k)) := fun w1 h1 => by
      have hx : ∀ k : Nat, ∃ W' : World, (Builtin.delete_ #[59, 25] 0 #[.map (some M), .int .u64 n]).run Try.prog (w1.drewN k) = .ok (.tuple #[]) W' ∧ MlO w b M f S (S1.rm n) f W' := fun k => by
        obtain ⟨W', hr, hm, hf⟩ := ((h1.at'.drewN k).map).drop hn 0
        exact ⟨W', hr, (h1.drewN k).trans ⟨(h1.at'.drewN k).struck hm hf, hf.mono fun x hx => .inr (.inl hx), fun x hx => .inl (mF_rm hx)⟩⟩
      exact ⟨fun k => Classical.choose (hx k), fun k => Classical.choose_spec (hx k)⟩
    by_cases h3 : r.st = 3
    · rw [decide_eq_false (fun e => e h3 : ¬ r.st ≠ 3), Bool.false_or]
      by_cases h4 : 0 < r.bd
      · have d1 : decide (0 < r.bd) = true := decide_eq_true h4
        rw [d1, Bool.true_and]
        by_cases h5 : S1.now - r.si < wt
        · have d2 : decide (S1.now - r.si < wt) = true := decide_eq_true h5
          rw [d2, if_pos rfl, if_pos rfl]
          clear HD hsi hnw hrk ok1 h4 h5
          go_enter Try.func14, Try.ntmps14
          go_wp2_with fail
          refine hA.mono ?_
          rintro e w1 ⟨rfl, H⟩
          have c1 := fun k => (H.out.2.drewN k).cs.st
          rw [h3] at c1
          have c3 := fun k => (H.out.2.drewN k).cs.bd
          have c4 := fun k => (H.out.2.drewN k).cs.si
          have c0 := fun k => (H.out.2.drewN k).box.now
          have HF := hid fun k => H.out.1.drewN k
          clear hA H h3
          generalize r.bd = rb at *
          generalize r.si = rs at *
          generalize S1.now = sn at *
          go_wp2_with fail
          go_quiet (fail)
          go_wp2_with fail
          go_ret
          exact ⟨rfl, HF.out _⟩
        · have d2 : decide (S1.now - r.si < wt) = false := decide_eq_false h5
          rw [d2, if_neg (by decide), if_neg (by decide)]
          clear hsi hnw hrk ok1 h4 h5
          go_enter Try.func14, Try.ntmps14
          go_wp2_with fail
          refine hA.mono ?_
          rintro e w1 ⟨rfl, H⟩
          have c1 := fun k => (H.out.2.drewN k).cs.st
          rw [h3] at c1
          have c3 := fun k => (H.out.2.drewN k).cs.bd
          have c4 := fun k => (H.out.2.drewN k).cs.si
          have c0 := fun k => (H.out.2.drewN k).box.now
          have c2 := fun k => (H.out.2.drewN k).box.map
          obtain ⟨Wd, hd⟩ := HD.out _ H.out.1
          have hdr := fun k => (hd k).1
          have HF := hid fun k => (hd k).2
          clear hA H h3 HD hd
          generalize r.bd = rb at *
          generalize r.si = rs at *
          generalize S1.now = sn at *
          go_wp2_with fail
          go_quiet (fail)
          go_wp2_with fail
          go_ret
          exact ⟨rfl, HF.out _⟩
      · have d1 : decide (0 < r.bd) = false := decide_eq_false h4
        rw [d1, Bool.false_and, if_neg (by decide), if_neg (by decide)]
        clear hsi hnw hrk ok1 h4
        go_enter Try.func14, Try.ntmps14
        go_wp2_with fail
        refine hA.mono ?_
        rintro e w1 ⟨rfl, H⟩
        have c1 := fun k => (H.out.2.drewN k).cs.st
        rw [h3] at c1
        have c3 := fun k => (H.out.2.drewN k).cs.bd
        have c4 := fun k => (H.out.2.drewN k).cs.si
        have c0 := fun k => (H.out.2.drewN k).box.now
        have c2 := fun k => (H.out.2.drewN k).box.map
        obtain ⟨Wd, hd⟩ := HD.out _ H.out.1
        have hdr := fun k => (hd k).1
        have HF := hid fun k => (hd k).2
        clear hA H h3 HD hd
        generalize r.bd = rb at *
        generalize r.si = rs at *
        generalize S1.now = sn at *
        go_wp2_with fail
        go_quiet (fail)
        go_wp2_with fail
        go_ret
        exact ⟨rfl, HF.out _⟩
    · rw [decide_eq_true h3, Bool.true_or, if_pos rfl, if_pos rfl]
      have d1 : (r.st == 3) = false := by simp [h3]
      have d2 : (r.st != 3) = true := by simp [h3]
      have d3 : decide (r.st = 3) = false := decide_eq_false h3
      clear HD hsi hnw hrk ok1 h3
      go_enter Try.func14, Try.ntmps14
      go_wp2_with fail
      refine hA.mono ?_
      rintro e w1 ⟨rfl, H⟩
      have c1 := fun k => (H.out.2.drewN k).cs.st
      have c3 := fun k => (H.out.2.drewN k).cs.bd
      have c4 := fun k => (H.out.2.drewN k).cs.si
      have c0 := fun k => (H.out.2.drewN k).box.now
      have HF := hid fun k => H.out.1.drewN k
      clear hA H
      generalize r.st = rst at *
      generalize r.bd = rb at *
      generalize r.si = rs at *
      generalize S1.now = sn at *
      go_wp2_with fail
      go_quiet (fail)
      go_wp2_with fail
      go_ret
      exact ⟨rfl, HF.out _⟩
theorem far_any (r : Mr) (v : Int) : r.far v = (decide (v < -r.bd) || decide (1048576 - r.bd < v)) := by unfold Mr.far; rw [Bool.decide_or]
theorem mbind_any (h : MlAt w b M f S) (ok : MlOk S) (hn : isU n) (v : Int) : Calls Try.prog 16 #[.pointer (some ⟨b, 0, none⟩), .int .u64 n, .int .i64 v] w fun e w' => e = .returned (.int .i64 (S.bindE n v)) ∧ Hid (MlO w b M f S (S.bindS n v) f w') := by
  cases hg : S.get n with
  | none =>
    obtain ⟨_, _, _, _, _, _, _, e1, e2, _⟩ := get_none (i := 0) (v := v) (wt := 0) (s := 0) hg
    rw [e1, e2]
    have hA := mone_no h hn hg
    have HF := hid (MlO.refl h)
    clear h ok hn hg e1 e2
    go_enter Try.func16, Try.ntmps16
    go_wp2_with fail
    refine hA.mono ?_
    rintro e w1 ⟨rfl, rfl⟩
    go_wp2
    go_ret
    exact ⟨rfl, HF⟩
  | some r =>
    rw [(get_bind (v := v) hg).1, (get_bind (v := v) hg).2]
    have hA := mone_yes h ok.ris hn hg
    have hR := Rc.init h ok.ris (get_num hg).1
    rw [(get_num hg).2] at hR
    have hbd := (ok.rep r (get_num hg).1).bd
    have HF := hid (MlO.refl h)
    clear h ok hn hg
    generalize f n = g at *
    rw [far_any]
    have v1 : wrap64 (-r.bd) = -r.bd := by unfold wrap64; omega
    have v2 : IntKind.i64.wrap (-r.bd) = -r.bd := by rw [IntKind.wrap_i64]; omega
    have v3 : wrap64 (1048576 - r.bd) = 1048576 - r.bd := by unfold wrap64; omega
    have v4 : IntKind.i64.wrap (1048576 - r.bd) = 1048576 - r.bd := by rw [IntKind.wrap_i64]; omega
    have c3 := hR.cs.bd
    by_cases h1 : v < -r.bd
    · have d1 : decide (v < -r.bd) = true := decide_eq_true h1
      rw [d1, Bool.true_or, if_pos rfl, if_pos rfl]
      clear h1 hR hbd
      generalize r.bd = rb at *
      go_enter Try.func16, Try.ntmps16
      go_wp2_with fail
      refine hA.mono ?_
      rintro e w1 ⟨rfl, rfl⟩
      clear hA
      go_wp2
      go_ret
      exact ⟨rfl, HF⟩
    · have d1 : decide (v < -r.bd) = false := decide_eq_false h1
      rw [d1, Bool.false_or]
      by_cases h2 : 1048576 - r.bd < v
      · have d2 : decide (1048576 - r.bd < v) = true := decide_eq_true h2
        rw [d2, if_pos rfl, if_pos rfl]
        clear h1 h2 hR hbd
        generalize r.bd = rb at *
        go_enter Try.func16, Try.ntmps16
        go_wp2_with fail
        refine hA.mono ?_
        rintro e w1 ⟨rfl, rfl⟩
        clear hA
        go_wp2
        go_ret
        exact ⟨rfl, HF⟩
      · have d2 : decide (1048576 - r.bd < v) = false := decide_eq_false h2
        rw [d2, if_neg (by decide), if_neg (by decide)]
        have v5 : IntKind.i64.wrap (r.bd + v) = r.bd + v := by rw [IntKind.wrap_i64]; omega
        have f3 := hR.fz 3
        have HE := hid (hR.set (r' := { r with bd := r.bd + v }) rfl (k := 3) (u := .int .i64 (r.bd + v)) rfl).o
        clear h1 h2 hR hbd HF
        generalize r.bd = rb at *
        go_enter Try.func16, Try.ntmps16
        go_wp2_with fail
        refine hA.mono ?_
        rintro e w1 ⟨rfl, rfl⟩
        clear hA
        go_wp2
        go_ret
        exact ⟨rfl, HE⟩
theorem mget_any (h : MlAt w b M f S) (ok : MlOk S) (hn : isU n) : Calls Try.prog 26 #[.pointer (some ⟨b, 0, none⟩), .int .u64 n] w fun e w' => e = .returned (.tuple #[.agg (MrC (S.getR n)), .int .i64 (S.getE n)]) ∧ Hid (Below w.heap.size w w') := by
  have HB : Hid (∀ o : Obj, Below w.heap.size w (w.alloc o)) := fun o => (Below.refl _ _).alloc (Nat.le_refl _) _
  have h1 := h.below (HB.out (.cells #[.int .u64 0, .int .i64 0, .int .u64 0, .int .i64 0, .int .i64 0] 55))
  cases hg : S.get n with
  | none =>
    obtain ⟨_, _, _, _, _, _, _, _, _, e1, e2⟩ := get_none (i := 0) (v := 0) (wt := 0) (s := 0) hg
    rw [e1, e2]
    have hA := mone_no h1 hn hg
    clear h ok hn hg e1 e2 h1
    unfold MrC Mr.zero
    go_enter Try.func26, Try.ntmps26
    go_wp2_with fail
    refine hA.mono ?_
    rintro e w1 ⟨rfl, rfl⟩
    go_wp2
    exact bodyPost_ret (v := .tuple #[.agg #[.int .u64 0, .int .i64 0, .int .u64 0, .int .i64 0, .int .i64 0], .int .i64 6]) (by rw [results_cell_tmp rfl]; simp [go_sem]) rfl ⟨rfl, HB.out _⟩
  | some r =>
    rw [(get_get hg).1, (get_get hg).2]
    have hA := mone_yes h1 ok.ris hn hg
    have hR := h1.rc (get_num hg).1
    rw [(get_num hg).2] at hR
    obtain ⟨c0, c1, c2, c3, c4⟩ := hR
    clear h ok hn hg h1
    generalize f n = g at *
    obtain ⟨rn, rst, ri, rb, rs⟩ := r
    unfold MrC
    simp only at c0 c1 c2 c3 c4 ⊢
    go_enter Try.func26, Try.ntmps26
    go_wp2_with fail
    refine hA.mono ?_
    rintro e w1 ⟨rfl, rfl⟩
    clear hA
    go_wp2
    exact bodyPost_ret (v := .tuple #[.agg #[.int .u64 rn, .int .i64 rst, .int .u64 ri, .int .i64 rb, .int .i64 rs], .int .i64 0]) (by rw [results_cell_tmp rfl]; simp [go_sem]) rfl ⟨rfl, HB.out _⟩
theorem mnow_any (h : MlAt w b M f S) : Calls Try.prog 24 #[.pointer (some ⟨b, 0, none⟩)] w fun e w' => e = .returned (.int .i64 S.now) ∧ w' = w := by
  have hM := mmade_yes h
  have c0 := h.cs.now
  clear h
  go_enter Try.func24, Try.ntmps24
  go_wp2_with fail
  refine hM.mono ?_
  rintro e w1 ⟨rfl, rfl⟩
  clear hM
  go_wp2
  go_ret
  exact ⟨rfl, rfl⟩
theorem mnew_any (W : World) : Calls Try.prog 6 #[] W fun e w' => ∃ b M, e = .returned (.pointer (some ⟨b, 0, none⟩)) ∧ Hid (MlAt w' b M (fun _ => 0) Ml.zero ∧ Below W.heap.size W w' ∧ ∀ k, mF b M (fun _ => 0) [] k → W.heap.size ≤ k) := by
  obtain ⟨W1, hW1⟩ : ∃ W1, W1 = W.alloc (.map #[] 0) := ⟨_, rfl⟩
  obtain ⟨W2, hW2⟩ : ∃ W2, W2 = W1.alloc (.cells #[.int .i64 0, .int .u64 0, .map (some W.heap.size)] 61) := ⟨_, rfl⟩
  have hs1 : W1.heap.size = W.heap.size + 1 := by rw [hW1]; simp
  have b1 : Below W.heap.size W W1 := by rw [hW1]; exact (Below.refl _ _).alloc (Nat.le_refl _) _
  have b2 : Below W1.heap.size W1 W2 := by rw [hW2]; exact (Below.refl _ _).alloc (Nat.le_refl _) _
  have m1 : MqAt W1 W.heap.size [] := by rw [hW1]; exact MqAt.new W
  have x2 : W2.heap[W1.heap.size]? = some (.cells #[.int .i64 0, .int .u64 0, .map (some W.heap.size)] 61 (0, 0)) := by rw [hW2]; exact heap_alloc_new W1 _
  have HF : Hid (MlAt W2 W1.heap.size W.heap.size (fun _ => 0) Ml.zero ∧ Below W.heap.size W W2 ∧ ∀ k, mF W1.heap.size W.heap.size (fun _ => 0) [] k → W.heap.size ≤ k) := by
    refine ⟨⟨x2, m1.below b2, fun r hr => ?_, fun r hr => ?_⟩, b1.trans (b2.mono b1.size), fun k hk => ?_⟩
    · exact absurd hr (by show ¬ r ∈ ([] : List Mr); simp)
    · exact absurd hr (by show ¬ r ∈ ([] : List Mr); simp)
    · rcases hk with rfl | rfl | ⟨r, hr, _⟩
      · omega
      · omega
      · simp at hr
  have hmk : (Instr.makeMap 59 none).run Try.prog W = .ok (.map (some W.heap.size)) W1 := by rw [hW1]; rfl
  clear b1 b2 m1 x2 hW1
  clear hs1
  go_enter Try.func6, Try.ntmps6
  go_wp2_with fail
  rw [← hW2]
  go_ret
  exact ⟨_, rfl, _, HF⟩
end Go.Proofs.Ytlhhkgjolilpiaa
