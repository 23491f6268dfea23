/-
  Contract: msg.Same tells whether two messages are the same.
-/
import Derived.Test.YtlcfjhlchpeedaaFMays
import Derived.Handy
namespace Go.Proofs.Ytlcfjhlchpeedaa
open Go.RowKit
open M
set_option linter.unusedVariables false
set_option maxRecDepth 1000000

set_option maxHeartbeats 4000000 in
theorem samejob_any (s1 s2 m1 m2 : Int) (x y : List Int) (p q : Sl) (w : World) (hp : Reads .i64 w p.a p.l p.c x) (hq : Reads .i64 w q.a q.l q.c y) (h1 : p.l ≤ 1000) (h2 : q.l ≤ 1000) :
    Calls Try.prog 36 #[.agg #[.int .u64 s1, .slice p.a p.l p.c, .int .i64 m1], .agg #[.int .u64 s2, .slice q.a q.l q.c, .int .i64 m2]] w fun e w' => e = .returned (.bool (decide (s1 = s2 ∧ m1 = m2 ∧ x = y))) ∧ Below w.heap.size w w' := by
  have hb : Below w.heap.size w ((w.alloc (.cells #[.int .u64 s1, .slice p.a p.l p.c, .int .i64 m1] 25)).alloc (.cells #[.int .u64 s2, .slice q.a q.l q.c, .int .i64 m2] 25)) := by go_grown
  have hE := equal37_any _ _ _ _ _ _ _ _ _ (hp.below hb) (hq.below hb) (by omega) (by omega)
  clear hp hq
  by_cases e1 : s1 = s2
  · by_cases e2 : m1 = m2
    · have HD : Hid (decide (s1 = s2 ∧ m1 = m2 ∧ x = y) = decide (x = y)) := by unfold Hid; simp [e1, e2]
      rw [← HD.out] at hE
      generalize decide (s1 = s2 ∧ m1 = m2 ∧ x = y) = r at *
      subst e1 e2
      go_enter Try.func36, Try.ntmps36
      go_wp2_with fail
      refine hE.mono ?_
      rintro e w2 ⟨rfl, hb2⟩
      go_wp2
      go_ret
      exact ⟨rfl, hb.trans (hb2.mono (by go_size))⟩
    · have HD : Hid (decide (s1 = s2 ∧ m1 = m2 ∧ x = y) = false) := by unfold Hid; simp [e2]
      have hd : decide (m1 = m2) = false := by simp [e2]
      rw [HD.out]
      subst e1
      clear hE
      go_enter Try.func36, Try.ntmps36
      go_wp2
      go_ret
      exact ⟨rfl, hb⟩
  · have HD : Hid (decide (s1 = s2 ∧ m1 = m2 ∧ x = y) = false) := by unfold Hid; simp [e1]
    have hd : decide (s1 = s2) = false := by simp [e1]
    rw [HD.out]
    clear hE
    go_enter Try.func36, Try.ntmps36
    go_wp2
    go_ret
    exact ⟨rfl, hb⟩

set_option maxHeartbeats 8000000 in
theorem same_any (a b : Mg) (p q p2 q2 : Sl) (w : World) (ha : MsgIn w a p q) (hb : MsgIn w b p2 q2) :
    Calls Try.prog 17 #[.agg (MV a p q), .agg (MV b p2 q2)] w fun e w' => e = .returned (.bool (sameB a b)) ∧ Below w.heap.size w w' := by
  have HJ : Hid (∀ W, Below w.heap.size w W → Calls Try.prog 36 #[.agg #[.int .u64 a.seed, .slice p.a p.l p.c, .int .i64 a.most], .agg #[.int .u64 b.seed, .slice p2.a p2.l p2.c, .int .i64 b.most]] W fun e w' => e = .returned (.bool (decide (a.seed = b.seed ∧ a.most = b.most ∧ a.pr = b.pr))) ∧ Below W.heap.size W w') := fun W hW =>
    samejob_any a.seed b.seed a.most b.most a.pr b.pr p p2 _ (ha.pr.below hW) (hb.pr.below hW) ha.hp hb.hp
  have HE : Hid (∀ W, Below w.heap.size w W → Calls Try.prog 37 #[.slice q.a q.l q.c, .slice q2.a q2.l q2.c] W fun e w' => e = .returned (.bool (decide (a.li = b.li))) ∧ Below W.heap.size W w') := fun W hW =>
    equal37_any _ _ _ _ _ _ _ _ _ (ha.li.below hW) (hb.li.below hW) (by have := ha.hq; omega) (by have := hb.hq; omega)
  clear ha hb
  unfold MV
  go_enter Try.func17, Try.ntmps17
  go_wp2_with fail
  · rename_i e0 e1 e2 e3 e4 e5 e6 e7 _ _
    have HS : Hid (sameB a b = (decide (a.seed = b.seed ∧ a.most = b.most ∧ a.pr = b.pr) && decide (a.li = b.li))) := by unfold Hid sameB; simp [e0, e1, e2, e3, e4, e5, e6, e7, Bool.and_assoc, Bool.decide_and]
    refine (HJ.out _ (by go_grown)).mono ?_
    rintro e w2 ⟨rfl, hb2⟩
    have d1 : w2.cell? ⟨w.heap.size, 11, none⟩ = some (.slice q.a q.l q.c) := (hb2.cell (by go_size)).trans (by simp)
    have d2 : w2.cell? ⟨w.heap.size + 1, 11, none⟩ = some (.slice q2.a q2.l q2.c) := (hb2.cell (by go_size)).trans (by simp)
    have hb3 : Below w.heap.size w w2 := (by go_grown : Below w.heap.size w _).trans (hb2.mono (by go_size))
    have hE := HE.out w2 hb3
    clear e0 e1 e2 e3 e4 e5 e6 e7 HJ HE
    by_cases hj : a.seed = b.seed ∧ a.most = b.most ∧ a.pr = b.pr
    · have HF := HS.out
      rw [decide_eq_true hj, Bool.true_and] at HF
      have HG := hid HF
      rw [decide_eq_true hj]
      clear hj HS HF
      go_wp2_with fail
      refine hE.mono ?_
      rintro e w3 ⟨rfl, hb4⟩
      go_wp2
      go_ret
      exact ⟨ret_bool HG.out.symm, hb3.trans (hb4.mono hb3.size)⟩
    · have HF := HS.out
      rw [decide_eq_false hj, Bool.false_and] at HF
      have HG := hid HF
      rw [decide_eq_false hj]
      clear hj HS HF hE
      go_wp2
      go_ret
      exact ⟨ret_bool HG.out.symm, hb3⟩
  all_goals
    go_ret
    exact ⟨ret_bool (by unfold sameB; simp [*]), by go_grown⟩

end Go.Proofs.Ytlcfjhlchpeedaa
