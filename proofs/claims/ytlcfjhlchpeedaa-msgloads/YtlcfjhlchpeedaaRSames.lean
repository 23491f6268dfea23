/-
  Contract: the document's Same tells whether two messages are the same.
-/
import Derived.Test.YtlcfjhlchpeedaaFMays
import Derived.Handy
namespace Go.Proofs.Ytlcfjhlchpeedaa
open Go.RowKit
open M
set_option linter.unusedVariables false
set_option maxRecDepth 1000000

set_option maxHeartbeats 8000000 in
theorem rsame_any (a b : Mg) (p q p2 q2 : Sl) (w : World) (ha : MsgIn w a p q) (hb : MsgIn w b p2 q2) :
    Calls Try.prog 18 #[.agg (MV a p q), .agg (MV b p2 q2)] w fun e w' => e = .returned (.bool (sameB a b)) ∧ Below w.heap.size w w' := by
  have HJ : Hid (∀ W, Below w.heap.size w W → Calls Try.prog 38 #[.slice p.a p.l p.c, .slice p2.a p2.l p2.c] W fun e w' => e = .returned (.bool (decide (a.pr = b.pr))) ∧ Below W.heap.size W w') := fun W hW =>
    alike_any _ _ _ _ _ _ _ _ _ (ha.pr.below hW) (hb.pr.below hW) (by have := ha.hp; omega) (by have := hb.hp; omega)
  have HE : Hid (∀ W, Below w.heap.size w W → Calls Try.prog 38 #[.slice q.a q.l q.c, .slice q2.a q2.l q2.c] W fun e w' => e = .returned (.bool (decide (a.li = b.li))) ∧ Below W.heap.size W w') := fun W hW =>
    alike_any _ _ _ _ _ _ _ _ _ (ha.li.below hW) (hb.li.below hW) (by have := ha.hq; omega) (by have := hb.hq; omega)
  clear ha hb
  unfold MV
  go_enter Try.func18, Try.ntmps18
  go_wp2_with fail
  · rename_i e0 e1 e2 e3 e4 e5 e6 e7 e8 e9 _ _
    have HS : Hid (sameB a b = (decide (a.pr = b.pr) && decide (a.li = b.li))) := by unfold Hid sameB; simp [e0, e1, e2, e3, e4, e5, e6, e7, e8, e9, Bool.decide_and]
    refine (HJ.out _ (by go_grown)).mono ?_
    rintro e w2 ⟨rfl, hb2⟩
    have d1 : w2.cell? ⟨w.heap.size, 11, none⟩ = some (.slice q.a q.l q.c) := (hb2.cell (by go_size)).trans (by simp)
    have d2 : w2.cell? ⟨w.heap.size + 1, 11, none⟩ = some (.slice q2.a q2.l q2.c) := (hb2.cell (by go_size)).trans (by simp)
    have hb3 : Below w.heap.size w w2 := (by go_grown : Below w.heap.size w _).trans (hb2.mono (by go_size))
    have hE := HE.out w2 hb3
    clear e0 e1 e2 e3 e4 e5 e6 e7 e8 e9 HJ HE
    by_cases hj : a.pr = b.pr
    · have HF := HS.out
      rw [decide_eq_true hj, Bool.true_and] at HF
      have HG := hid HF
      rw [decide_eq_true hj]
      clear hj HS HF
      go_wp2_with fail
      refine hE.mono ?_
      rintro e w3 ⟨rfl, hb4⟩
      go_wp2
      go_ret
      exact ⟨ret_bool HG.out.symm, hb3.trans (hb4.mono hb3.size)⟩
    · have HF := HS.out
      rw [decide_eq_false hj, Bool.false_and] at HF
      have HG := hid HF
      rw [decide_eq_false hj]
      clear hj HS HF hE
      go_wp2
      go_ret
      exact ⟨ret_bool HG.out.symm, hb3⟩
  all_goals
    go_ret
    exact ⟨ret_bool (by unfold sameB; simp [*]), by go_grown⟩

end Go.Proofs.Ytlcfjhlchpeedaa
