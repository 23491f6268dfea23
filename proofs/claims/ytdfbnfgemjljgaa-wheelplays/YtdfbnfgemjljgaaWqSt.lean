/-
  The wheel's queue in memory: its slice of pointers and the timers' blocks (QrAt); contracts of its Len, Less, Swap.
-/
import Derived.Test.YtdfbnfgemjljgaaWlMap
import Derived.Test.YtdfbnfgemjljgaaWhTs
namespace Go.Proofs.Ytdfbnfgemjljgaa
open Go.RowKit
set_option linter.unusedVariables false
set_option maxRecDepth 1000000

/-- The pointers of timers, as they stand in the queue. -/
def ptQ (b : Nat) : Value := .pointer (some ⟨b, 0, none⟩)
def ptsQ (ms : List Qe) : List Value := ms.map fun q => ptQ q.blk
theorem ptsQ_len (ms : List Qe) : (ptsQ ms).length = ms.length := by simp [ptsQ]
theorem ptsQ_at {ms : List Qe} {i : Nat} (h : i < ms.length) : (ptsQ ms)[i]? = some (ptQ (gq ms i).blk) := by simp [ptsQ, gq, h]
theorem ptsQ_one (ms : List Qe) : ∀ u ∈ ptsQ ms, u.oneCell' = true := by
  intro u hu
  obtain ⟨q, _, rfl⟩ := List.mem_map.1 hu
  rfl
theorem ptsQ_set (ms : List Qe) (i : Nat) (q : Qe) : ptsQ (ms.set i q) = (ptsQ ms).set i (ptQ q.blk) := by simp [ptsQ, List.map_set]
/-- A timer's block: its place in the queue stands behind it. -/
def qC (t : Tm) (i : Int) : Array Value := #[.int .i64 t.num, .int .i64 t.kind, .int .u64 t.label, .int .i64 t.due, .int .i64 i]
def QbAt (W : World) (q : Qe) (i : Int) : Prop := W.heap[q.blk]? = some (.cells (qC q.tm i) 67 (0, 0))
theorem QbAt.cells {W : World} {q : Qe} {i : Int} (h : QbAt W q i) : W.cell? ⟨q.blk, 0, none⟩ = some (.int .i64 q.tm.num) ∧ W.cell? ⟨q.blk, 1, none⟩ = some (.int .i64 q.tm.kind) ∧ W.cell? ⟨q.blk, 2, none⟩ = some (.int .u64 q.tm.label) ∧ W.cell? ⟨q.blk, 3, none⟩ = some (.int .i64 q.tm.due) ∧ W.cell? ⟨q.blk, 4, none⟩ = some (.int .i64 i) :=
  ⟨by rw [cell_of_row _ _ _ _ _ _ h]; rfl, by rw [cell_of_row _ _ _ _ _ _ h]; rfl, by rw [cell_of_row _ _ _ _ _ _ h]; rfl, by rw [cell_of_row _ _ _ _ _ _ h]; rfl, by rw [cell_of_row _ _ _ _ _ _ h]; rfl⟩
theorem QbAt.lt {W : World} {q : Qe} {i : Int} (h : QbAt W q i) : q.blk < W.heap.size := lt_of_block h
theorem QbAt.same {W W' : World} {q : Qe} {i : Int} (h : QbAt W q i) (hb : W'.heap[q.blk]? = W.heap[q.blk]?) : QbAt W' q i := hb.trans h
theorem QbAt.frozen {W : World} {q : Qe} {i : Int} (h : QbAt W q i) (k : Nat) : W.frozen? ⟨q.blk, k, none⟩ = false := frozen_of_row _ _ k _ _ h
theorem QbAt.place {W : World} {q : Qe} {i : Int} (h : QbAt W q i) (j : Int) : QbAt (W.setCell ⟨q.blk, 4, none⟩ (.int .i64 j)) q j := row_set h
/-- The queue's row in block g, and the timers' blocks. -/
structure QrAt (g cap : Nat) (ms : List Qe) (W : World) : Prop where
  own : W.ownsRow 0 62 1 (.slice (some ⟨g, 0, none⟩) ms.length cap) ms.length (ptsQ ms)
  els : ∀ i : Nat, i < ms.length → QbAt W (gq ms i) (i : Int)
  nd : NdQ ms
/-- The blocks of a queue. -/
def frQ (g : Nat) (ms : List Qe) (k : Nat) : Prop := k = g ∨ ∃ q ∈ ms, q.blk = k
theorem frQ.perm {g : Nat} {ms ns : List Qe} (hp : ns.Perm ms) (k : Nat) : frQ g ns k ↔ frQ g ms k := by
  unfold frQ
  constructor
  · rintro (h | ⟨q, h1, h2⟩)
    · exact .inl h
    · exact .inr ⟨q, hp.mem_iff.1 h1, h2⟩
  · rintro (h | ⟨q, h1, h2⟩)
    · exact .inl h
    · exact .inr ⟨q, hp.mem_iff.2 h1, h2⟩
theorem own_blkP {base : Nat} {e : TypeId} {n : Nat} {v : Value} {g : Nat} {xs : List Value} {W : World} (h : W.ownsRow base e 1 v n xs) (hg : v.ownBlock = some g) : base ≤ g ∧ ∃ cur, W.heap[g]? = some (.cells cur e (0, 0)) := by
  rcases id h.2 with ⟨h', _⟩ | ⟨g', c, cur, hv, hB, hc, rest⟩
  · rw [h'] at hg; cases hg
  · rw [hv] at hg
    cases hg
    exact ⟨hB, cur, hc⟩
theorem QrAt.blk {g cap : Nat} {ms : List Qe} {W : World} (h : QrAt g cap ms W) : ∃ cur, W.heap[g]? = some (.cells cur 62 (0, 0)) := (own_blkP h.own rfl).2
theorem QrAt.glt {g cap : Nat} {ms : List Qe} {W : World} (h : QrAt g cap ms W) : g < W.heap.size := by obtain ⟨cur, hc⟩ := h.blk; exact lt_of_block hc
theorem QrAt.ne {g cap : Nat} {ms : List Qe} {W : World} (h : QrAt g cap ms W) {i : Nat} (hi : i < ms.length) : (gq ms i).blk ≠ g := fun e => by
  obtain ⟨cur, hc⟩ := h.blk
  have := h.els i hi
  unfold QbAt at this
  rw [e, hc] at this
  simp at this
theorem QrAt.room {g cap : Nat} {ms : List Qe} {W : World} (h : QrAt g cap ms W) : ms.length ≤ cap ∧ cap ≤ 9223372036854775807 := by
  rcases id h.own.2 with ⟨h', _⟩ | ⟨g', c, cur, hv, hB, hg, hnc, hm, rest⟩
  · cases h'
  · cases hv; exact ⟨hnc, by unfold maxLen at hm; omega⟩
theorem QrAt.cell {g cap : Nat} {ms : List Qe} {W : World} (h : QrAt g cap ms W) {i : Nat} (hi : i < ms.length) : W.cell? ⟨g, i, none⟩ = some (ptQ (gq ms i).blk) := by
  rw [World.ownsRow.cellAt h.own i (by omega)]
  exact ptsQ_at hi
theorem QrAt.frozen {g cap : Nat} {ms : List Qe} {W : World} (h : QrAt g cap ms W) (k : Nat) : W.frozen? ⟨g, k, none⟩ = false := World.ownsRow.frozenAt h.own k
theorem QrAt.same {g cap : Nat} {ms : List Qe} {W W' : World} (h : QrAt g cap ms W) (hb : ∀ k, frQ g ms k → W'.heap[k]? = W.heap[k]?) : QrAt g cap ms W' :=
  ⟨own_blk h.own fun b e => by cases e; exact hb _ (.inl rfl), fun i hi => (h.els i hi).same (hb _ (.inr ⟨_, gq_mem hi, rfl⟩)), h.nd⟩
theorem QrAt.lts {g cap : Nat} {ms : List Qe} {W : World} (h : QrAt g cap ms W) {k : Nat} (hk : frQ g ms k) : k < W.heap.size := by
  rcases hk with rfl | ⟨q, hq, rfl⟩
  · exact h.glt
  · obtain ⟨i, hi, rfl⟩ := mem_gq hq
    exact (h.els i hi).lt
theorem QrAt.below {g cap : Nat} {ms : List Qe} {W W' : World} (h : QrAt g cap ms W) (hb : Below W.heap.size W W') : QrAt g cap ms W' := h.same fun k hk => hb.block _ (h.lts hk)
theorem QrAt.fb {F : Nat → Prop} {g cap : Nat} {ms : List Qe} {W W' : World} (h : QrAt g cap ms W) (hb : Fb F W W') (hF : ∀ k, frQ g ms k → ¬ F k) : QrAt g cap ms W' := h.same fun k hk => hb.block _ (h.lts hk) (hF k hk)
theorem wlen_any (a : Option Addr) (n cap : Nat) (w : World) : Calls Try.prog 24 #[.slice a n cap] w fun e w' => e = .returned (.int .i64 n) ∧ w' = w := by
  go_enter Try.func24, Try.ntmps24
  go_wp2
  go_ret
  exact ⟨rfl, rfl⟩
theorem wless_any (g cap i j : Nat) (ms : List Qe) (w : World) (h : QrAt g cap ms w) (hi : i < ms.length) (hj : j < ms.length) (hn : ms.length ≤ 5000) :
    Calls Try.prog 52 #[.slice (some ⟨g, 0, none⟩) ms.length cap, .int .i64 i, .int .i64 j] w fun e w' => e = .returned (.bool (ltb (gq ms i) (gq ms j))) ∧ Below w.heap.size w w' := by
  have ci := h.cell hi
  have cj := h.cell hj
  obtain ⟨i0, _, _, i3, _⟩ := (h.els i hi).cells
  obtain ⟨j0, _, _, j3, _⟩ := (h.els j hj).cells
  unfold ptQ at ci cj
  clear h
  obtain ⟨n, hnn⟩ : ∃ n, ms.length = n := ⟨_, rfl⟩
  rw [hnn] at hi hj hn
  rw [hnn]
  unfold ltb
  generalize (gq ms i).tm.due = x at *
  generalize (gq ms j).tm.due = y at *
  generalize (gq ms i).tm.num = u at *
  generalize (gq ms j).tm.num = v at *
  generalize (gq ms i).blk = bi at *
  generalize (gq ms j).blk = bj at *
  clear hnn
  by_cases hxy : x = y
  · subst hxy
    have HR : Hid (decide (u < v) = ltZ x u x v) := by unfold Hid ltZ; simp
    go_enter Try.func52, Try.ntmps52
    go_wp2_with fail
    go_region
    go_wp2_with fail
    go_region
    go_wp2
    go_ret
    exact ⟨ret_bool HR.out, ((Below.refl _ _).drew).drew⟩
  · have d1 : (x == y) = false := by simpa using hxy
    have HR : Hid (decide (x < y) = ltZ x u y v) := by unfold Hid ltZ; simp [hxy]
    go_enter Try.func52, Try.ntmps52
    go_wp2_with fail
    go_region
    go_wp2_with fail
    go_region
    go_wp2
    go_ret
    exact ⟨ret_bool HR.out, ((Below.refl _ _).drew).drew⟩
end Go.Proofs.Ytdfbnfgemjljgaa
