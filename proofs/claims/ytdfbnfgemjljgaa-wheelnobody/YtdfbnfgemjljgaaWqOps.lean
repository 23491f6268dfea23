/-
  The wheel with a queue that has its row (WqAt), and the calls of the queue's methods through container/heap's interface.
-/
import Derived.Test.YtdfbnfgemjljgaaWqSw
namespace Go.Proofs.Ytdfbnfgemjljgaa
open Go.RowKit
set_option linter.unusedVariables false
set_option maxRecDepth 1000000

theorem Fb.tr {F : Nat → Prop} {a b c : World} (h : Fb F a b) (k : Fb F b c) : Fb F a c := h.trans k fun x hx => .inl hx
/-- A wheel's block. -/
def WB (W : World) (B : Nat) (T last : Int) (v : Value) (M : Nat) : Prop := W.heap[B]? = some (.cells #[.int .i64 T, .int .i64 last, v, .map (some M)] 59 (0, 0))
theorem WB.cells {W : World} {B : Nat} {T last : Int} {v : Value} {M : Nat} (h : WB W B T last v M) : W.cell? ⟨B, 0, none⟩ = some (.int .i64 T) ∧ W.cell? ⟨B, 1, none⟩ = some (.int .i64 last) ∧ W.cell? ⟨B, 2, none⟩ = some v ∧ W.cell? ⟨B, 3, none⟩ = some (.map (some M)) :=
  ⟨by rw [cell_of_row _ _ _ _ _ _ h]; rfl, by rw [cell_of_row _ _ _ _ _ _ h]; rfl, by rw [cell_of_row _ _ _ _ _ _ h]; rfl, by rw [cell_of_row _ _ _ _ _ _ h]; rfl⟩
theorem WB.lt {W : World} {B : Nat} {T last : Int} {v : Value} {M : Nat} (h : WB W B T last v M) : B < W.heap.size := lt_of_block h
theorem WB.same {W W' : World} {B : Nat} {T last : Int} {v : Value} {M : Nat} (h : WB W B T last v M) (hb : W'.heap[B]? = W.heap[B]?) : WB W' B T last v M := hb.trans h
theorem WB.frozen {W : World} {B : Nat} {T last : Int} {v : Value} {M : Nat} (h : WB W B T last v M) (k : Nat) : W.frozen? ⟨B, k, none⟩ = false := frozen_of_row _ _ k _ _ h
theorem WB.queue {W : World} {B : Nat} {T last : Int} {v : Value} {M : Nat} (h : WB W B T last v M) (v' : Value) : WB (W.setCell ⟨B, 2, none⟩ v') B T last v' M := row_set h
theorem WB.time {W : World} {B : Nat} {T last : Int} {v : Value} {M : Nat} (h : WB W B T last v M) (T' : Int) : WB (W.setCell ⟨B, 0, none⟩ (.int .i64 T')) B T' last v M := row_set h
theorem WB.num {W : World} {B : Nat} {T last : Int} {v : Value} {M : Nat} (h : WB W B T last v M) (n' : Int) : WB (W.setCell ⟨B, 1, none⟩ (.int .i64 n')) B T n' v M := row_set h
theorem WB.ty {W : World} {B k : Nat} {T last : Int} {v : Value} {M : Nat} (h : WB W B T last v M) {cs : Array Value} {t : TypeId} {f : Nat × Nat} (hk : W.heap[k]? = some (.cells cs t f)) (ht : t ≠ 59) : k ≠ B := fun e => by
  subst e
  rw [show W.heap[k]? = _ from h] at hk
  simp at hk
  exact ht hk.2.1.symm
/-- A wheel whose queue has a row. -/
structure WqAt (B : Nat) (T last : Int) (M g cap : Nat) (ms : List Qe) (W : World) : Prop where
  var : WB W B T last (.slice (some ⟨g, 0, none⟩) ms.length cap) M
  row : QrAt g cap ms W
theorem QrAt.nB {g cap : Nat} {ms : List Qe} {W : World} (h : QrAt g cap ms W) {B : Nat} {T last : Int} {v : Value} {M : Nat} (hB : WB W B T last v M) : ¬ frQ g ms B := by
  rintro (e | ⟨q, hq, e⟩)
  · obtain ⟨cur, hc⟩ := h.blk
    exact hB.ty hc (by decide) e.symm
  · obtain ⟨i, hi, rfl⟩ := mem_gq hq
    exact hB.ty (h.els i hi) (by decide) e
theorem WqAt.cell {B : Nat} {T last : Int} {M g cap : Nat} {ms : List Qe} {W : World} (h : WqAt B T last M g cap ms W) : W.cell? ⟨B, 2, none⟩ = some (.slice (some ⟨g, 0, none⟩) ms.length cap) := h.var.cells.2.2.1
theorem WqAt.below {B : Nat} {T last : Int} {M g cap : Nat} {ms : List Qe} {W W' : World} (h : WqAt B T last M g cap ms W) (hb : Below W.heap.size W W') : WqAt B T last M g cap ms W' := ⟨h.var.same (hb.block _ h.var.lt), h.row.below hb⟩
/-- The interface value. -/
abbrev hq (B o : Nat) : Value := .iface 71 (.pointer (some ⟨B, o, none⟩))
theorem Try.methI (name : String) (f : Nat) (h : (Try.prog.info? 71).map (fun i => (i.methods.find? (·.name == name)).map (fun m => (m.path, m.func))) = some (some (#[], some (f, false)))) :
    ∃ i m, Try.prog.info? 71 = some i ∧ i.methods.find? (·.name == name) = some m ∧ m.path = #[] ∧ m.func = some (f, false) := by
  cases hi : Try.prog.info? 71 with
  | none => rw [hi] at h; simp at h
  | some i =>
    rw [hi] at h
    simp only [Option.map_some, Option.some.injEq] at h
    cases hm : i.methods.find? (·.name == name) with
    | none => rw [hm] at h; simp at h
    | some m =>
      rw [hm] at h
      simp at h
      exact ⟨i, m, rfl, hm, h.1, h.2⟩
theorem wrapnilI (x : TypeId) (a : Addr) (s : String) (w : World) : (Builtin.ssaWrapNilChk_ #[x] x #[.pointer (some a), strVal "", strVal s]).run Try.prog w = .ok (.pointer (some a)) w := by kernel_rfl
theorem methI_val (name : String) (f : Nat) (h : (Try.prog.info? 71).map (fun i => (i.methods.find? (·.name == name)).map (fun m => (m.path, m.func))) = some (some (#[], some (f, false)))) (B o : Nat) (w : World) (v : Value) (hc : w.cell? ⟨B, o, none⟩ = some v) :
    (method 199 71 (.pointer (some ⟨B, o, none⟩)) name).run Try.prog w = .ok (f, v) w := by
  obtain ⟨i, m, hi, hm, hp, hf⟩ := Try.methI name f h
  unfold method
  simp [go_sem, typeInfo, hi, hm, hp, hf, follow, receiverAt, Place.get, wrapnilI, loadVar, hc]
theorem methI_less (B o : Nat) (w : World) (v : Value) (hc : w.cell? ⟨B, o, none⟩ = some v) : (method 199 71 (.pointer (some ⟨B, o, none⟩)) "Less").run Try.prog w = .ok (52, v) w := methI_val "Less" 52 (by kernel_rfl) B o w v hc
theorem methI_swap (B o : Nat) (w : World) (v : Value) (hc : w.cell? ⟨B, o, none⟩ = some v) : (method 199 71 (.pointer (some ⟨B, o, none⟩)) "Swap").run Try.prog w = .ok (53, v) w := methI_val "Swap" 53 (by kernel_rfl) B o w v hc
theorem methI_len (B o : Nat) (w : World) (v : Value) (hc : w.cell? ⟨B, o, none⟩ = some v) : (method 199 71 (.pointer (some ⟨B, o, none⟩)) "Len").run Try.prog w = .ok (24, v) w := methI_val "Len" 24 (by kernel_rfl) B o w v hc
theorem methI_push (a : Addr) (w : World) : (method 199 71 (.pointer (some a)) "Push").run Try.prog w = .ok (55, .pointer (some a)) w := by kernel_rfl
theorem methI_pop (a : Addr) (w : World) : (method 199 71 (.pointer (some a)) "Pop").run Try.prog w = .ok (54, .pointer (some a)) w := by kernel_rfl
theorem WqAt.less {B : Nat} {T last : Int} {M g cap : Nat} {ms : List Qe} {W : World} (h : WqAt B T last M g cap ms W) (i j : Nat) (hi : i < ms.length) (hj : j < ms.length) (hn : ms.length ≤ 5000) :
    Calls Try.prog 52 #[.slice (some ⟨g, 0, none⟩) ms.length cap, .int .i64 i, .int .i64 j] W fun e w' => e = .returned (.bool (ltb (gq ms i) (gq ms j))) ∧ WqAt B T last M g cap ms w' ∧ Fb (frQ g ms) W w' :=
  (wless_any g cap i j ms W h.row hi hj hn).mono fun e w' ⟨h1, h2⟩ => ⟨h1, h.below h2, Fb.of h2⟩
theorem WqAt.swap {B : Nat} {T last : Int} {M g cap : Nat} {ms : List Qe} {W : World} (h : WqAt B T last M g cap ms W) (i j : Nat) (hi : i < ms.length) (hj : j < ms.length) (hn : ms.length ≤ 5000) :
    Calls Try.prog 53 #[.slice (some ⟨g, 0, none⟩) ms.length cap, .int .i64 i, .int .i64 j] W fun e w' => e = .returned (.tuple #[]) ∧ WqAt B T last M g cap (swq ms i j) w' ∧ Fb (frQ g ms) W w' :=
  (wswap_any g cap i j ms W h.row hi hj hn).mono fun e w' ⟨h1, h2, h3⟩ => ⟨h1, ⟨by rw [swq_len]; exact h.var.same (h3.block _ h.var.lt (h.row.nB h.var)), h2⟩, h3⟩
end Go.Proofs.Ytdfbnfgemjljgaa
