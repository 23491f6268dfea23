/-
  A row of the call's own whose cells are slices of numbers (RowsI), and an append of one to it; a row that is written over cell by cell.
-/
import Derived.Test.YtpllffekebkacaaMTables
namespace Go.Proofs.Ytpllffekebkacaa
open Go.RowKit
set_option linter.unusedVariables false
set_option maxRecDepth 1000000

/-- The slice's block is one of numbers. -/
def BlI (w : World) (a : Option Addr) : Prop := ∀ p, a = some p → ∃ cur fz, w.heap[p.block]? = some (.cells cur 2 fz)
theorem BlI.none (w : World) : BlI w none := fun p h => by cases h
theorem BlI.below {w w' : World} {a : Option Addr} (h : BlI w a) (hb : Below w.heap.size w w') : BlI w' a := fun p hp => by
  obtain ⟨cur, fz, hc⟩ := h p hp
  exact ⟨cur, fz, (hb.block _ (lt_of_block hc)).trans hc⟩
theorem BlI.own {w : World} {B n l c : Nat} {a : Option Addr} {xs : List Value} (h : w.ownsRow B 2 1 (.slice a l c) n xs) : BlI w a := by
  rcases h.2 with ⟨h', _⟩ | ⟨g, cap, cur, h', _, hg, _⟩
  · cases h'; exact BlI.none w
  · cases h'; intro p hp; cases hp; exact ⟨cur, (0, 0), hg⟩
/-- A row of the call's own, whose cells are these slices, and they read as these lists. -/
structure RowsI (w : World) (base : Nat) (v : Value) (n : Nat) (hs : List Hd) (ls : List (List Int)) : Prop where
  own : w.ownsRow base 22 1 v n (hs.map hdV)
  size : ls.length = n
  rows : ∀ j, j < n → Reads .i64 w (hs[j]?.getD (none, 0, 0)).1 (hs[j]?.getD (none, 0, 0)).2.1 (hs[j]?.getD (none, 0, 0)).2.2 (ls[j]?.getD []) ∧ BlI w (hs[j]?.getD (none, 0, 0)).1 ∧ (hs[j]?.getD (none, 0, 0)).2.1 ≤ 1000
theorem RowsI.nil (w : World) (base : Nat) : RowsI w base (.slice none 0 0) 0 [] [] := ⟨World.ownsRow_nil _ _ _ _, rfl, fun j hj => by omega⟩
theorem RowsI.below {w w' : World} {base : Nat} {v : Value} {n : Nat} {hs : List Hd} {ls : List (List Int)} (h : RowsI w base v n hs ls) (hb : Below w.heap.size w w') : RowsI w' base v n hs ls :=
  ⟨own_below h.own hb, h.size, fun j hj => ⟨(h.rows j hj).1.below hb, (h.rows j hj).2.1.below hb, (h.rows j hj).2.2⟩⟩
theorem RowsI.tbl {w : World} {base : Nat} {v : Value} {n : Nat} {hs : List Hd} {ls : List (List Int)} (h : RowsI w base v n hs ls) : ∃ a c, v = .slice a n c ∧ Tbl w a n c hs ls := by
  have hl : hs.length = n := by have := h.own.1; simpa using this
  rcases id h.own.2 with ⟨rfl, rfl⟩ | ⟨g, cap, cur, rfl, hb, hg, hnc, hm, hs', ht⟩
  · exact ⟨none, 0, rfl, ⟨hl, Nat.le_refl _, by omega, fun _ => ⟨rfl, rfl⟩, fun i hi => by omega⟩, fun i hi => (h.rows i hi).1, fun i hi => (h.rows i hi).2.2⟩
  · refine ⟨some ⟨g, 0, none⟩, cap, rfl, ⟨hl, hnc, by unfold maxLen at hm; omega, (fun e => by cases e), fun i hi => ⟨g, 0, rfl, ?_⟩⟩, fun i hi => (h.rows i hi).1, fun i hi => (h.rows i hi).2.2⟩
    have := World.ownsRow.cellAt h.own i (by omega)
    rw [Nat.zero_add, this]
    simp [(by omega : i < hs.length), hdV]
/-- A slice of numbers stays while a row of slices grows. -/
theorem Reads.kept {w w' : World} {base : Nat} {v : Value} {n : Nat} {vals : List Value} {a : Option Addr} {l c : Nat} {zs : List Int} (ho : w.ownsRow base 22 1 v n vals) (hg : w.grownBy w' v.ownBlock)
    (hr : Reads .i64 w a l c zs) (h5 : BlI w a) : Reads .i64 w' a l c zs ∧ BlI w' a := by
  have key : ∀ p, a = some p → w'.heap[p.block]? = w.heap[p.block]? := by
    intro p hp
    obtain ⟨cur, fz, hc⟩ := h5 p hp
    refine hg.block p.block (lt_of_block hc) ?_
    intro e
    rcases ho.2 with ⟨rfl, _⟩ | ⟨g, cap, cur', rfl, _, hgb, _⟩
    · simp [Value.ownBlock] at e
    · simp [Value.ownBlock] at e
      rw [e, hgb] at hc
      simp at hc
  refine ⟨⟨hr.size, hr.room, hr.most, hr.bare, fun i hi => ?_⟩, fun p hp => ?_⟩
  · obtain ⟨b, off, ha, hc⟩ := hr.cell i hi
    exact ⟨b, off, ha, (World.cell?_of_block (a := ⟨b, off + i, none⟩) (key ⟨b, off, none⟩ ha)).trans hc⟩
  · obtain ⟨cur, fz, hc⟩ := h5 p hp
    exact ⟨cur, fz, (key p hp).trans hc⟩
/-- An append of one slice to a row of slices of the call's own. -/
theorem append_rowI {P : Program} (w : World) {ops : Array Oper} {rest : List Oper} {o : Oper} {a : Act} {Q : Exit → Act → World → Prop} (hgd : o.guard = none) (s x : Operand) (t : TypeId)
    (ho : o.op = .call { callee := .builtin .append, args := #[s, x], argTypes := #[t, t] })
    (base : Nat) (i : TypeInfo) (ht : P.underlying t = some (.slice 22)) (hi : P.info? 22 = some i) (hz : i.zero = some (.slice none 0 0)) (hsize : i.size = 1) (hby : i.bytes = 24)
    (v : Value) (n : Nat) (hs : List Hd) (ls : List (List Int)) (hv : a.eval s = v) (hown : RowsI w base v n hs ls) (hn : n ≤ 100000)
    (B : Nat) (y : Hd) (zs : List Int) (hx : a.eval x = .slice (some ⟨B, 0, none⟩) 1 1) (hc : w.cell? ⟨B, 0, none⟩ = some (.slice y.1 y.2.1 y.2.2)) (hr : Reads .i64 w y.1 y.2.1 y.2.2 zs) (h5 : BlI w y.1) (hy : y.2.1 ≤ 1000)
    (hbase : base ≤ w.heap.size)
    (h : ∀ v' w', RowsI w' base v' (n + 1) (hs ++ [y]) (ls ++ [zs]) → Below base w w' → wpList P ops Q rest (a.put o.dst v') w') : wpList P ops Q (o :: rest) a w := by
  have hlen : hs.length = n := by have := hown.own.1; simpa using this
  refine wpList_append_own w hgd s x t ho base 22 i (.slice none 0 0) 1 24 ht hi hz hsize hby rfl (by decide) v n _ hv hown.own ⟨B, 0, none⟩ 1 1 [hdV y] hx rfl ?_ ?_ (by unfold maxLen; omega) (by omega) hbase ?_
  · intro j u hu
    rcases j with _ | j
    · simp at hu
      rw [Addr.add_lit, Nat.zero_add, hc, ← hu]
      rfl
    · simp at hu
  · intro u hu
    simp at hu
    subst hu
    rfl
  · intro v' w' h1 h2 _
    refine h v' w' ⟨by rw [List.map_append]; exact h1, by simp [hown.size], fun j hj => ?_⟩ ((Below.refl _ _).grown h2 hbase fun g hg => (hown.own.lt g hg).1)
    have hsz := hown.size
    rcases Nat.lt_or_ge j n with hj' | hj'
    · obtain ⟨e2, e3, e4⟩ := hown.rows j hj'
      obtain ⟨k1, k2⟩ := Reads.kept hown.own h2 e2 e3
      rw [List.getElem?_append_left (by omega), List.getElem?_append_left (by omega)]
      exact ⟨k1, k2, e4⟩
    · obtain rfl : j = n := by omega
      obtain ⟨k1, k2⟩ := Reads.kept hown.own h2 hr h5
      rw [List.getElem?_append_right (by omega), List.getElem?_append_right (by omega)]
      simp only [hlen, hsz, Nat.sub_self, List.getElem?_cons_zero, Option.getD_some]
      exact ⟨k1, k2, hy⟩
theorem tblK_len (F : Nat → List Int) (n : Nat) : (tblK F n).length = n := by simp [tblK]
theorem tblK_snoc (F : Nat → List Int) (n : Nat) : tblK F n ++ [F n] = tblK F (n + 1) := by unfold tblK; rw [List.range_succ, List.map_append]; rfl
/-- Of a row's places the first k are turned. -/
def overK (f h : Nat → Int) (k n : Nat) : List Int := rowK (fun j => if j < k then h j else f j) n
theorem overK_0 (f h : Nat → Int) (n : Nat) : overK f h 0 n = rowK f n := by unfold overK; congr 1
theorem rowK_at (f : Nat → Int) {n i : Nat} (hi : i < n) : (rowK f n)[i]?.getD 0 = f i := by simp [rowK, hi]
theorem overK_at (f h : Nat → Int) {k n : Nat} (hk : k < n) : (overK f h k n)[k]?.getD 0 = f k := by unfold overK; rw [rowK_at _ hk]; simp
theorem overK_set (f h : Nat → Int) {k n : Nat} (hk : k < n) : (overK f h k n).set k (h k) = overK f h (k + 1) n := by
  apply List.ext_getElem?
  intro i
  unfold overK rowK
  by_cases e : k = i
  · subst e; simp [hk]
  · rw [List.getElem?_set_ne e]
    by_cases hi : i < n
    · simp only [List.getElem?_map, List.getElem?_range hi, Option.map_some]
      by_cases h1 : i < k
      · rw [if_pos h1, if_pos (by omega)]
      · rw [if_neg h1, if_neg (by omega)]
    · simp [hi]
theorem overK_all (f h : Nat → Int) (n : Nat) : overK f h n n = rowK h n := by
  unfold overK rowK
  apply List.map_congr_left
  intro i hi
  simp at hi
  simp [hi]
end Go.Proofs.Ytpllffekebkacaa
