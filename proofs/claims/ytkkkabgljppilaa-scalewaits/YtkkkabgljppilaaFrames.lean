/-
  A frame for calls that turn what lies at a pointer: of the blocks that are there only those of F may have turned (Fb).
-/
import Derived.Test.YtkkkabgljppilaaBase
namespace Go.Proofs.Ytkkkabgljppilaa
open Go.RowKit
set_option linter.unusedVariables false
set_option maxRecDepth 1000000

/-- Of the blocks that are there only those of F may have turned. -/
structure Fb (F : Nat → Prop) (w w' : World) : Prop where
  os : w'.os = w.os
  tape : w'.tape = w.tape
  output : w'.output = w.output
  size : w.heap.size ≤ w'.heap.size
  block : ∀ k, k < w.heap.size → ¬ F k → w'.heap[k]? = w.heap[k]?
theorem Fb.refl (F : Nat → Prop) (w : World) : Fb F w w := ⟨rfl, rfl, rfl, Nat.le_refl _, fun _ _ _ => rfl⟩
theorem Fb.of {F : Nat → Prop} {w w' : World} (h : Below w.heap.size w w') : Fb F w w' := ⟨h.os, h.tape, h.output, h.size, fun k hk _ => h.block k hk⟩
theorem Fb.trans {F G : Nat → Prop} {a b c : World} (h : Fb F a b) (k : Fb G b c) (hG : ∀ x, G x → F x ∨ a.heap.size ≤ x) : Fb F a c :=
  ⟨k.os.trans h.os, k.tape.trans h.tape, k.output.trans h.output, Nat.le_trans h.size k.size, fun i hi hn => (k.block i (Nat.lt_of_lt_of_le hi h.size) fun hg => (hG i hg).elim hn fun hl => by omega).trans (h.block i hi hn)⟩
theorem Fb.below {F : Nat → Prop} {a b c : World} (h : Fb F a b) (k : Below b.heap.size b c) : Fb F a c := h.trans (G := fun _ => False) (Fb.of k) fun x hx => hx.elim
theorem Fb.mono {F G : Nat → Prop} {a b : World} (h : Fb F a b) (hG : ∀ x, F x → G x) : Fb G a b := ⟨h.os, h.tape, h.output, h.size, fun k hk hn => h.block k hk fun hf => hn (hG k hf)⟩
/-- All that may have turned is newer. -/
theorem Fb.to {F : Nat → Prop} {a b : World} {B : Nat} (h : Fb F a b) (hF : ∀ x, F x → B ≤ x) (hB : B ≤ a.heap.size) : Below B a b :=
  ⟨h.os, h.tape, h.output, h.size, fun k hk => h.block k (by omega) fun hf => by have := hF k hf; omega⟩
theorem Fb.set {F : Nat → Prop} {w : World} {p : Addr} (hp : F p.block) (u : Value) : Fb F w (w.setCell p u) :=
  ⟨rfl, rfl, rfl, by simp [World.setCell], fun k _ hk => Below.heap_setCell _ _ _ _ (fun e => hk (e ▸ hp))⟩
theorem Fb.drew {F : Nat → Prop} {a b : World} (h : Fb F a b) : Fb F a b.drew := ⟨h.os, h.tape, h.output, h.size, h.block⟩
theorem Fb.alloc {F : Nat → Prop} {a b : World} (h : Fb F a b) (o : Obj) : Fb F a (b.alloc o) := h.below ((Below.refl _ _).alloc (Nat.le_refl _) o)
theorem Fb.one {F : Nat → Prop} {w w' : World} (h : Fb F w w') {B : Nat} {o : Obj} (hc : w.heap[B]? = some o) (hp : ¬ F B) : w'.heap[B]? = some o := (h.block B (lt_of_block hc) hp).trans hc
theorem Fb.cell {F : Nat → Prop} {w w' : World} (h : Fb F w w') {p : Addr} {v : Value} (hc : w.cell? p = some v) (hp : ¬ F p.block) : w'.cell? p = some v :=
  (World.cell?_of_block (w := w) (h.block p.block (World.block_lt_of_cell? _ _ hc) hp)).trans hc
theorem cells_two {W : World} {g : Nat} {x y : Value} {T : TypeId} (h : W.heap[g]? = some (.cells #[x, y] T (0, 0))) : W.cell? ⟨g, 0, none⟩ = some x ∧ W.cell? ⟨g, 1, none⟩ = some y :=
  ⟨by rw [cell_of_row _ _ _ _ _ _ h]; rfl, by rw [cell_of_row _ _ _ _ _ _ h]; rfl⟩
theorem wrap64_in {n : Int} (h0 : -9223372036854775808 ≤ n) (h1 : n ≤ 9223372036854775807) : IntKind.i64.wrap n = n := by
  rw [IntKind.wrap_i64]; omega
theorem block_bel {w w' : World} {k : Nat} {o : Obj} (h : w.heap[k]? = some o) (hb : Below w.heap.size w w') : w'.heap[k]? = some o := (hb.block k (lt_of_block h)).trans h
theorem row_set {w : World} {b k : Nat} {cs : Array Value} {u : Value} {T : TypeId} (h : w.heap[b]? = some (.cells cs T (0, 0))) : (w.setCell ⟨b, k, none⟩ u).heap[b]? = some (.cells (cs.setIfInBounds k u) T (0, 0)) := by
  have hlt := lt_of_block h
  have h' : w.heap[b] = .cells cs T (0, 0) := by simpa [Array.getElem?_eq_getElem hlt] using h
  show (w.heap.modify b _)[b]? = _
  rw [Array.getElem?_eq_getElem (by simpa using hlt), Array.getElem_modify_self, h']
  rfl
theorem own_blk {base e size n : Nat} {v : Value} {xs : List Value} {w w' : World} (h : w.ownsRow base e size v n xs) (hb : ∀ b, v.ownBlock = some b → w'.heap[b]? = w.heap[b]?) : w'.ownsRow base e size v n xs := by
  refine ⟨h.1, ?_⟩
  rcases id h.2 with h' | ⟨g, c, cur, hv, hB, hg, rest⟩
  · exact .inl h'
  · exact .inr ⟨g, c, cur, hv, hB, (hb g (by rw [hv]; rfl)).trans hg, rest⟩
/-- Only blocks of ints stay for sure. -/
def KpI (w w' : World) : Prop := ∀ (k : Nat) (cur : Array Value) (fz : Nat × Nat), w.heap[k]? = some (.cells cur 3 fz) → w'.heap[k]? = some (.cells cur 3 fz)
theorem KpI.refl (w : World) : KpI w w := fun _ _ _ h => h
theorem KpI.trans {a b c : World} (h : KpI a b) (k : KpI b c) : KpI a c := fun i cur fz hi => k i cur fz (h i cur fz hi)
theorem KpI.of {w w' : World} (h : Below w.heap.size w w') : KpI w w' := fun k cur fz hk => (h.block k (lt_of_block hk)).trans hk
theorem KpI.set {w : World} {g k : Nat} {cs : Array Value} {T : TypeId} {fz : Nat × Nat} (h : w.heap[g]? = some (.cells cs T fz)) (hT : T ≠ 3) (u : Value) : KpI w (w.setCell ⟨g, k, none⟩ u) := by
  intro i cur f hi
  by_cases e : i = g
  · subst e
    rw [h] at hi
    simp at hi
    exact absurd hi.2.1 hT
  · rw [Below.heap_setCell _ _ _ _ (by exact e)]
    exact hi
/-- The blocks of one pointer. -/
def at1 (b : Nat) (k : Nat) : Prop := k = b
end Go.Proofs.Ytkkkabgljppilaa
