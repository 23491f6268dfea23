/-
  No operation takes draws back (run_drawn).
-/
import Derived.Test.YtdchoegaindnbaaFrames
import Derived.Deep.Draws
import Derived.Sort.Grow
namespace Go.Proofs.Ytdchoegaindnbaa
open Go.RowKit
set_option linter.unusedVariables false
set_option maxRecDepth 1000000

theorem ask_drawn {α : Type} : ∀ (q : Ask α) (w : World), w.drawn ≤ (w.ask q).2.drawn
  | .done a, w => Nat.le_refl _
  | .ask what range k, w => by
    unfold World.ask
    simp only
    split
    · exact ask_drawn (k 0) w
    · have h2 := ask_drawn (k (Question.cut (.extern what range) (w.tape w.drawn (.extern what range)))) { w with drawn := w.drawn + 1 }
      exact Nat.le_trans (Nat.le_succ _) h2
theorem sys_drawn (w : World) (c : Sys) : w.drawn ≤ (w.sys c).2.drawn := by
  unfold World.sys
  have := ask_drawn (Kernel.perform c w.os) w
  generalize w.ask (Kernel.perform c w.os) = r at *
  obtain ⟨⟨a, b⟩, w2⟩ := r
  split
  · exact Nat.le_refl _
  · rename_i h
    cases h
    exact this
theorem view_drawn {p : Program} {w : World} {at_ : Addr} {u : TypeId} {k : Addr} {v : Value} {atomic : Bool} {r : World × List Addr} (h : w.viewStore p at_ u k v atomic = .ok r) : r.1.drawn = w.drawn := by
  unfold World.viewStore at h
  simp only [bind, Except.bind, pure, Except.pure] at h
  repeat' (split at h)
  all_goals first | (cases h; done) | (cases h; rfl)
theorem far_drawn {p : Program} {w : World} {a : Addr} {v : Value} {atomic : Bool} {r : World × List Addr} (h : w.farStore p a v atomic = .ok r) : r.1.drawn = w.drawn := by
  unfold World.farStore at h
  split at h
  · split at h
    · rename_i hv
      cases h
      exact view_drawn hv
    · cases h
  · cases h
theorem run_drawn {α : Type} (p : Program) (s : Sem α) : ∀ (w : World) (a : α) (w' : World), s.run p w = .ok a w' → w.drawn ≤ w'.drawn := by
  induction s with
  | pure a => intro w a' w' h; simp only [Sem.run] at h; cases h; exact Nat.le_refl _
  | load m a k ih =>
    intro w a' w' h
    simp only [Sem.run] at h
    split at h
    · exact ih _ w a' w' h
    · split at h
      · exact ih _ w a' w' h
      · cases h
  | store m a v k ih =>
    intro w a' w' h
    cases v
    case agg xs => simp [Sem.run] at h
    case tuple xs => simp [Sem.run] at h
    all_goals
      simp only [Sem.run] at h
      split at h
      · split at h
        · cases h
        · have h2 := ih _ a' w' h
          exact h2
      · split at h
        · rename_i hf
          have := far_drawn hf
          simp only at this
          rw [← this]
          exact ih _ a' w' h
        · cases h
  | new o k ih => intro w a' w' h; simp only [Sem.run] at h; have h2 := ih _ _ a' w' h; exact h2
  | shape r k ih => intro w a' w' h; simp only [Sem.run] at h; exact ih _ _ a' w' h
  | freeze a n k ih =>
    intro w a' w' h
    simp only [Sem.run] at h
    have e : (w.freeze a n).drawn = w.drawn := by unfold World.freeze; split <;> rfl
    rw [← e]
    exact ih _ a' w' h
  | frozen a k ih => intro w a' w' h; simp only [Sem.run] at h; exact ih _ _ a' w' h
  | getObj r k ih =>
    intro w a' w' h
    simp only [Sem.run] at h
    split at h
    · cases h
    · exact ih _ _ a' w' h
    · cases h
  | setObj r o k ih =>
    intro w a' w' h
    simp only [Sem.run] at h
    split at h
    · cases h
    · have h2 := ih _ a' w' h
      exact h2
    · cases h
  | choose q k ih =>
    intro w a' w' h
    simp only [Sem.run] at h
    split at h
    · exact ih _ _ a' w' h
    · have h2 := ih _ _ a' w' h
      exact Nat.le_trans (Nat.le_succ _) h2
  | sys c k ih =>
    intro w a' w' h
    simp only [Sem.run] at h
    exact Nat.le_trans (sys_drawn w c) (ih _ _ a' w' h)
  | program k ih => intro w a' w' h; simp only [Sem.run] at h; exact ih _ _ a' w' h
  | mark m k ih => intro w a' w' h; simp only [Sem.run] at h; exact ih _ a' w' h
  | halt x => intro w a' w' h; simp only [Sem.run] at h; cases h
/-- New blocks and draws alone. -/
def Gw (W w' : World) : Prop := Below W.heap.size W w' ∧ W.drawn ≤ w'.drawn
theorem Gw.refl (W : World) : Gw W W := ⟨Below.refl _ _, Nat.le_refl _⟩
theorem Gw.trans {a b c : World} (h : Gw a b) (k : Gw b c) : Gw a c := ⟨h.1.trans (k.1.mono h.1.size), Nat.le_trans h.2 k.2⟩
theorem Gw.alloc {a b : World} (h : Gw a b) (o : Obj) : Gw a (b.alloc o) := h.trans ⟨(Below.refl _ _).alloc (Nat.le_refl _) _, Nat.le_refl _⟩
theorem Gw.drew {a b : World} (h : Gw a b) : Gw a b.drew := h.trans ⟨(Below.refl _ _).drew, Nat.le_succ _⟩
theorem Gw.drewN {a b : World} (h : Gw a b) (q : Nat) : Gw a (b.drewN q) := h.trans ⟨⟨rfl, rfl, rfl, Nat.le_refl _, fun _ _ => rfl⟩, Nat.le_add_right _ _⟩
theorem Gw.grow {W w' : World} (h : Gw W w') : ∃ q os', w' = Sort.grow (W.drewN q) os' := by
  refine ⟨w'.drawn - W.drawn, w'.heap.extract W.heap.size w'.heap.size, ?_⟩
  have hs := h.1.size
  have h2 := h.2
  have hh : W.heap ++ w'.heap.extract W.heap.size w'.heap.size = w'.heap := by
    apply Array.ext_getElem?
    intro i
    by_cases hi : i < W.heap.size
    · rw [Array.getElem?_append_left hi]
      exact (h.1.block i hi).symm
    · rw [Array.getElem?_append_right (by omega)]
      simp only [Array.getElem?_extract]
      by_cases hi2 : i < w'.heap.size
      · rw [if_pos (by omega)]
        congr 1
        omega
      · rw [if_neg (by omega), Array.getElem?_eq_none (by omega)]
  have e1 := h.1.os
  have e2 := h.1.tape
  have e3 := h.1.output
  obtain ⟨hp, tp, dr, os, ou⟩ := w'
  simp only at e1 e2 e3 h2 hh
  subst e1 e2 e3
  unfold Sort.grow World.drewN
  simp only
  rw [hh]
  congr 1
  omega
end Go.Proofs.Ytdchoegaindnbaa
