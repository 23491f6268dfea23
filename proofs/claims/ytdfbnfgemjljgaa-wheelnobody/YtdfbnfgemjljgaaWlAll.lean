/-
  The program's wheel keeps what is asked of it (Whl).
-/
import Derived.Test.YtdfbnfgemjljgaaWlDu
namespace Go.Proofs.Ytdfbnfgemjljgaa
open Go.RowKit Go.Maps
set_option linter.unusedVariables false
set_option maxRecDepth 1000000

theorem WlI.ty {W : World} {B : Nat} {T last : Int} {L : List Tm} {M : Nat} {v : Value} {ms : List Qe} (h : WlI W B T last L M v ms) {k : Nat} (hk : wlF B M v ms k) (cur : Array Value) (fr : Nat × Nat) : W.heap[k]? ≠ some (.cells cur 49 fr) := fun e => by
  rcases hk with rfl | rfl | hk | ⟨q, hq, rfl⟩
  · have := h.obj
    unfold WB at this
    rw [e] at this
    simp at this
  · exact h.map.nB e rfl
  · obtain ⟨_, c, hc⟩ := own_blkP h.que.own hk
    rw [e] at hc
    simp at hc
  · obtain ⟨i, hi, rfl⟩ := mem_gq hq
    have := h.que.els i hi
    unfold QbAt at this
    rw [e] at this
    simp at this
theorem whl : Whl WlAt where
  lt := fun ⟨M, v, ms, h, hF⟩ k hk => h.lts ((hF k).1 hk)
  fb := fun ⟨M, v, ms, h, hF⟩ _ _ hb hG => ⟨M, v, ms, h.fb hb fun k hk => hG k ((hF k).2 hk), hF⟩
  ty := fun ⟨M, v, ms, h, hF⟩ k hk cur fr => h.ty ((hF k).1 hk) cur fr
  bd := fun ⟨M, v, ms, h, hF⟩ => ⟨h.tm, h.la, h.few⟩
  new := wnew_any
  set := fun h _ _ _ _ a b c d => wset20_any h a b c d
  stop := fun h _ a => wstop20_any h a
  stopall := fun h _ a => wstopall_any h a
  due := fun h _ a => wdue_any h a
  len := wlen20_any
  next := wnext_any
  now := wnow_any
end Go.Proofs.Ytdfbnfgemjljgaa
