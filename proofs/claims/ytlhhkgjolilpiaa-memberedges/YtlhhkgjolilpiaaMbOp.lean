/-
  Package member: enter, begin, turn, Lost, Drain, Up, Remove, Bind, Get, Now.
-/
import Derived.Test.YtlhhkgjolilpiaaMbPr
namespace Go.Proofs.Ytlhhkgjolilpiaa
open Go.RowKit
set_option linter.unusedVariables false
set_option maxRecDepth 1000000
variable {W W' w w' : World} {b M g : Nat} {f : Int → Nat} {S S' : Ml} {r q r' : Mr} {n t v wt s i : Int}

theorem putL_in {L : List Mr} {r' : Mr} (hr : r ∈ L) (hn : r'.n = r.n) : r' ∈ putL L r' := List.mem_map.2 ⟨r, hr, if_pos hn.symm⟩
theorem Ml.put_put (S : Ml) {r q : Mr} (e : r.n = q.n) : (S.put r).put q = S.put q := by unfold Ml.put; simp only; rw [putL_put _ e]
theorem Ml.put_same (S : Ml) (h : RisM S.L) (hr : r ∈ S.L) : S.put r = S := by unfold Ml.put; rw [putL_same h hr]
/-- One of its replicas is as r now, in block g; all else is as it was. -/
structure Rc (w W : World) (b M : Nat) (f : Int → Nat) (S : Ml) (r : Mr) (g : Nat) : Prop where
  o : MlO w b M f S (S.put r) f W
  ris : RisM S.L
  mem : r ∈ (S.put r).L
  blk : f r.n = g
theorem Rc.init (h : MlAt w b M f S) (hris : RisM S.L) (hr : r ∈ S.L) : Rc w w b M f S r (f r.n) := by
  have e := S.put_same hris hr
  exact ⟨by rw [e]; exact MlO.refl h, hris, by rw [e]; exact hr, rfl⟩
theorem Rc.set (h : Rc w W b M f S r g) {k : Nat} {u : Value} (hn : r'.n = r.n) (e : (MrC r).setIfInBounds k u = MrC r') : Rc w (W.setCell ⟨g, k, none⟩ u) b M f S r' g := by
  have h1 := MlO.turned h.o.at' h.mem (h.ris.put r) hn e
  rw [h.blk, Ml.put_put _ hn.symm] at h1
  have h2 := h.o.trans h1
  refine ⟨h2, h.ris, ?_, by rw [hn]; exact h.blk⟩
  have := putL_in h.mem hn
  rw [show putL (S.put r).L r' = ((S.put r).put r').L from rfl, Ml.put_put _ hn.symm] at this
  exact this
theorem Rc.cs (h : Rc w W b M f S r g) : MrCs W g r := by have := h.o.at'.rc h.mem; rw [h.blk] at this; exact this
theorem Rc.fz (h : Rc w W b M f S r g) (k : Nat) : W.frozen? ⟨g, k, none⟩ = false := by have := h.o.at'.fr h.mem k; rw [h.blk] at this; exact this
theorem Rc.box (h : Rc w W b M f S r g) : MlCs W b M S := ⟨h.o.at'.cs.now, h.o.at'.cs.last, h.o.at'.cs.map⟩
theorem Rc.drewN (h : Rc w W b M f S r g) (n : Nat) : Rc w (W.drewN n) b M f S r g := ⟨h.o.drewN n, h.ris, h.mem, h.blk⟩
theorem Rc.then (h : Rc w W b M f S r g) {W2 : World} {r2 : Mr} (hn : r2.n = r.n) (k : MlO W b M f (S.put r) ((S.put r).put r2) f W2) : Rc w W2 b M f S r2 g := by
  rw [Ml.put_put _ hn.symm] at k
  refine ⟨h.o.trans k, h.ris, ?_, by rw [hn]; exact h.blk⟩
  have := putL_in h.mem hn
  rw [show putL (S.put r).L r2 = ((S.put r).put r2).L from rfl, Ml.put_put _ hn.symm] at this
  exact this
theorem menter_any (h : Rc w W b M f S r g) (s : Int) : Calls Try.prog 36 #[.pointer (some ⟨b, 0, none⟩), .pointer (some ⟨g, 0, none⟩), .int .i64 s] W fun e w' => e = .returned (.tuple #[]) ∧ Hid (Rc w w' b M f S (r.ent S.now s) g) := by
  have c1 := h.cs.st
  by_cases hs : r.st = s
  · have e : r.ent S.now s = r := if_pos hs
    rw [e]
    have HF := hid h
    rw [hs] at c1
    clear h e hs
    go_enter Try.func36, Try.ntmps36
    go_wp2
    (try simp only [Exit.inBlock, Exit.then])
    refine bodyPost_ret (results_none rfl _ _ _) rfl ?_
    exact ⟨rfl, HF⟩
  · have e : r.ent S.now s = { r with st := s, si := S.now } := if_neg hs
    rw [e]
    have f1 := h.fz 1
    have h1 := h.set (r' := { r with st := s }) rfl (k := 1) (u := .int .i64 s) rfl
    have h2 := h1.set (r' := { r with st := s, si := S.now }) rfl (k := 4) (u := .int .i64 S.now) rfl
    have c0 := h1.box.now
    have c4 := h1.cs.si
    have f4 := h1.fz 4
    have HF := hid h2
    have d1 : (r.st == s) = false := by simp [hs]
    simp only at c4
    clear h e hs h1 h2
    generalize r.st = st at *
    generalize r.si = rsi at *
    generalize S.now = sn at *
    go_enter Try.func36, Try.ntmps36
    go_wp2
    go_end0
    exact ⟨rfl, HF⟩
theorem Rc.end (h : Rc w W b M f S r g) {S' : Ml} (e : S.put r = S') : MlO w b M f S S' f W := e ▸ h.o
theorem anew_any (r : Mr) (i : Int) : r.anew i = (decide (r.inc ≠ 0) && decide (i ≠ r.inc)) := by unfold Mr.anew; rw [Bool.decide_and]
theorem mbegin_any (h : Rc w W b M f S r g) (i : Int) : Calls Try.prog 37 #[.pointer (some ⟨g, 0, none⟩), .int .u64 i] W fun e w' => e = .returned (.bool (r.anew i)) ∧ Hid (Rc w w' b M f S (r.beg i) g) := by
  have c2 := h.cs.inc
  have f2 := h.fz 2
  have h1 := h.set (r' := { r with inc := i }) rfl (k := 2) (u := .int .u64 i) rfl
  have c3 := h1.cs.bd
  have f3 := h1.fz 3
  have h2 := h1.set (r' := { r with inc := i, bd := 0 }) rfl (k := 3) (u := .int .i64 0) rfl
  have HF := hid h2
  have HG := hid h1
  simp only at c3
  have ea := anew_any r i
  have eb : r.beg i = if r.anew i = true then { r with inc := i, bd := 0 } else { r with inc := i } := rfl
  rw [eb, ea]
  clear h h1 h2 ea eb
  generalize r.inc = ri at *
  generalize r.bd = rb at *
  by_cases h1 : ri = 0
  · subst h1
    have d0 : ((0 : Int) != 0) = false := rfl
    simp only [ne_eq, not_true_eq_false, decide_false, Bool.false_and, Bool.false_eq_true, if_false]
    clear HF
    go_enter Try.func37, Try.ntmps37
    go_wp2
    go_ret
    exact ⟨rfl, HG⟩
  · by_cases h2 : i = ri
    · subst h2
      have d1 : (i == 0) = false := by simp [h1]
      have d3 : (i != 0) = true := by simp [h1]
      have d4 : (i != i) = false := by simp
      simp only [ne_eq, not_true_eq_false, decide_false, Bool.and_false, Bool.false_eq_true, if_false]
      clear HF h1
      go_enter Try.func37, Try.ntmps37
      go_wp2
      go_ret
      exact ⟨rfl, HG⟩
    · have d1 : (ri == 0) = false := by simp [h1]
      have d3 : (ri != 0) = true := by simp [h1]
      have d2 : (i == ri) = false := by simp [h2]
      have d4 : (i != ri) = true := by simp [h2]
      rw [decide_eq_true h1, decide_eq_true h2]
      simp only [Bool.and_self, if_true]
      clear HG h1 h2
      go_enter Try.func37, Try.ntmps37
      go_wp2
      go_ret
      exact ⟨rfl, HF⟩
end Go.Proofs.Ytlhhkgjolilpiaa
