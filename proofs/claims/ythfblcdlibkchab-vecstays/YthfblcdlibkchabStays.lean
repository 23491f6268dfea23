/-
  Rows that may be written (Wr), and what stands while they are.
-/
import Derived.Test.YthfblcdlibkchabMixes
namespace Go.Proofs.Ythfblcdlibkchab
open Go.RowKit
set_option linter.unusedVariables false
set_option maxRecDepth 1000000

/-- The first n cells of a block may be written. -/
def Wr (W : World) (g n : Nat) : Prop := ∀ i, i < n → (∃ v, W.cell? ⟨g, i, none⟩ = some v) ∧ W.frozen? ⟨g, i, none⟩ = false
theorem OwnK.wr {t : TypeId} {base g m cap : Nat} {xs : List Int} {w : World} (h : OwnK t base g m cap xs w) : Wr w g m := fun i hi => ⟨⟨_, h.cell hi⟩, h.frozen i⟩
theorem Wr.set {W : World} {g n : Nat} (h : Wr W g n) {p : Addr} {u : Value} (hp : W.cell? p = some u) (v : Value) : Wr (W.setCell p v) g n := by
  intro i hi
  obtain ⟨⟨x, hx⟩, hf⟩ := h i hi
  refine ⟨?_, (World.frozen?_setCell _ _ _ _).trans hf⟩
  by_cases e : (⟨g, i, none⟩ : Addr) = p
  · subst e
    exact ⟨v, World.cell?_setCell_same _ _ _ hp⟩
  · exact ⟨x, (World.cell?_setCell_other _ _ _ _ (fun h => e h.symm)).trans hx⟩
theorem Wr.below {W W' : World} {g n : Nat} (h : Wr W g n) (hb : Below W.heap.size W W') (hg : g < W.heap.size) : Wr W' g n := by
  intro i hi
  obtain ⟨⟨x, hx⟩, hf⟩ := h i hi
  exact ⟨⟨x, (hb.cell (p := ⟨g, i, none⟩) hg).trans hx⟩, (hb.frozen (p := ⟨g, i, none⟩) hg).trans hf⟩
/-- A row that a call behind V made. -/
structure Res (V W : World) (g n : Nat) : Prop where
  lo : V.heap.size ≤ g
  hi : g < W.heap.size
  wr : Wr W g n
theorem Res.below {V W W' : World} {g n : Nat} (h : Res V W g n) (hb : Below W.heap.size W W') : Res V W' g n := ⟨h.lo, Nat.lt_of_lt_of_le h.hi hb.size, h.wr.below hb h.hi⟩
/-- What a call behind V hands back: a row of its own, that may be written. -/
def ResOf (V W : World) (n : Nat) (e : Ending) (w' : World) : Prop := ∃ g c, e = .returned (.slice (some ⟨g, 0, none⟩) n c) ∧ Res V w' g n ∧ Below W.heap.size W w'
theorem Made.res {V W : World} {n : Nat} {xs : List Int} {e : Ending} {w' : World} (h : Made W n xs e w') (hV : V.heap.size ≤ W.heap.size) : ResOf V W n e w' := by
  obtain ⟨g, c, rfl, hO, hb⟩ := h
  exact ⟨g, c, rfl, ⟨Nat.le_trans hV hO.base, hO.lt, hO.wr⟩, hb⟩
/-- A table of two rows in a new block. -/
theorem tbl_two (w : World) (a b : Option Addr) (la ca lb cb : Nat) (xs ys : List Int) (ha : Reads .i64 w a la ca xs) (hb : Reads .i64 w b lb cb ys) (hla : la ≤ 1000) (hlb : lb ≤ 1000) :
    Tbl (w.alloc (.cells #[.slice a la ca, .slice b lb cb] 22)) (some ⟨w.heap.size, 0, none⟩) 2 2 [(a, la, ca), (b, lb, cb)] [xs, ys] := by
  have hbl : Below w.heap.size w (w.alloc (.cells #[.slice a la ca, .slice b lb cb] 22)) := (Below.refl _ _).alloc (Nat.le_refl _) _
  refine ⟨rd2_two w a b la ca lb cb, ?_, ?_⟩
  · intro i hi
    rcases (by omega : i = 0 ∨ i = 1) with rfl | rfl
    · exact ha.below hbl
    · exact hb.below hbl
  · intro i hi
    rcases (by omega : i = 0 ∨ i = 1) with rfl | rfl
    · exact hla
    · exact hlb
/-- Seven rows in a new block. -/
theorem rd2_seven (w : World) (v0 v1 v2 v3 v4 v5 v6 : Hd) :
    Rd2 (w.alloc (.cells #[.slice v0.1 v0.2.1 v0.2.2, .slice v1.1 v1.2.1 v1.2.2, .slice v2.1 v2.2.1 v2.2.2, .slice v3.1 v3.2.1 v3.2.2, .slice v4.1 v4.2.1 v4.2.2, .slice v5.1 v5.2.1 v5.2.2, .slice v6.1 v6.2.1 v6.2.2] 22)) (some ⟨w.heap.size, 0, none⟩) 7 7 [v0, v1, v2, v3, v4, v5, v6] := by
  refine ⟨rfl, Nat.le_refl _, by omega, (fun e => by cases e), fun i hi => ⟨w.heap.size, 0, rfl, ?_⟩⟩
  rw [Nat.zero_add, cell_of_row _ w.heap.size i _ _ _ (heap_alloc_new w _)]
  rcases (by omega : i = 0 ∨ i = 1 ∨ i = 2 ∨ i = 3 ∨ i = 4 ∨ i = 5 ∨ i = 6) with rfl | rfl | rfl | rfl | rfl | rfl | rfl <;> rfl
/-- What stands while the rows of hs are written: what was there, but those rows; and they may be written. -/
structure WriteAt (V W7 : World) (hs : List Hd) (W : World) : Prop where
  old : Below V.heap.size V W
  tab : Rd2 W (some ⟨W7.heap.size, 0, none⟩) 7 7 hs
  rows : ∀ j, j < 7 → ∃ g n c, hs[j]?.getD (none, 0, 0) = (some ⟨g, 0, none⟩, n, c) ∧ V.heap.size ≤ g ∧ g < W7.heap.size ∧ n ≤ 1000 ∧ Wr W g n
theorem WriteAt.set {V W7 W : World} {hs : List Hd} (h : WriteAt V W7 hs W) {g i : Nat} {u : Value} (hg : V.heap.size ≤ g) (hg7 : g < W7.heap.size) (hc : W.cell? ⟨g, i, none⟩ = some u) (v : Value) : WriteAt V W7 hs (W.setCell ⟨g, i, none⟩ v) := by
  refine ⟨h.old.setCell hg _, ⟨h.tab.size, h.tab.room, h.tab.most, h.tab.bare, fun j hj => ?_⟩, fun j hj => ?_⟩
  · obtain ⟨b, off, e, c⟩ := h.tab.cell j hj
    refine ⟨b, off, e, ?_⟩
    cases e
    rw [World.cell?_setCell_other _ _ _ _ (by intro e; cases e; omega)]
    exact c
  · obtain ⟨g', n, c, e, l1, l2, l3, hw⟩ := h.rows j hj
    exact ⟨g', n, c, e, l1, l2, l3, hw.set hc v⟩
/-- The memory in which the writing begins. -/
theorem WriteAt.new {V W : World} {g0 g1 g2 g3 g4 g5 g6 n0 n1 n2 n3 n4 n5 n6 c0 c1 c2 c3 c4 c5 c6 : Nat} (hV : Below V.heap.size V W) (h0 : Res V W g0 n0) (h1 : Res V W g1 n1) (h2 : Res V W g2 n2) (h3 : Res V W g3 n3) (h4 : Res V W g4 n4) (h5 : Res V W g5 n5) (h6 : Res V W g6 n6)
    (l0 : n0 ≤ 1000) (l1 : n1 ≤ 1000) (l2 : n2 ≤ 1000) (l3 : n3 ≤ 1000) (l4 : n4 ≤ 1000) (l5 : n5 ≤ 1000) (l6 : n6 ≤ 1000) :
    WriteAt V W [(some ⟨g0, 0, none⟩, n0, c0), (some ⟨g1, 0, none⟩, n1, c1), (some ⟨g2, 0, none⟩, n2, c2), (some ⟨g3, 0, none⟩, n3, c3), (some ⟨g4, 0, none⟩, n4, c4), (some ⟨g5, 0, none⟩, n5, c5), (some ⟨g6, 0, none⟩, n6, c6)]
      (W.alloc (.cells #[.slice (some ⟨g0, 0, none⟩) n0 c0, .slice (some ⟨g1, 0, none⟩) n1 c1, .slice (some ⟨g2, 0, none⟩) n2 c2, .slice (some ⟨g3, 0, none⟩) n3 c3, .slice (some ⟨g4, 0, none⟩) n4 c4, .slice (some ⟨g5, 0, none⟩) n5 c5, .slice (some ⟨g6, 0, none⟩) n6 c6] 22)) := by
  refine ⟨hV.alloc hV.size _, rd2_seven W (some ⟨g0, 0, none⟩, n0, c0) (some ⟨g1, 0, none⟩, n1, c1) (some ⟨g2, 0, none⟩, n2, c2) (some ⟨g3, 0, none⟩, n3, c3) (some ⟨g4, 0, none⟩, n4, c4) (some ⟨g5, 0, none⟩, n5, c5) (some ⟨g6, 0, none⟩, n6, c6), ?_⟩
  have k : ∀ {g n : Nat} (o : Obj), Res V W g n → Wr (W.alloc o) g n := fun o h => h.wr.below ((Below.refl _ _).alloc (Nat.le_refl _) o) h.hi
  intro j hj
  rcases (by omega : j = 0 ∨ j = 1 ∨ j = 2 ∨ j = 3 ∨ j = 4 ∨ j = 5 ∨ j = 6) with rfl | rfl | rfl | rfl | rfl | rfl | rfl
  · exact ⟨g0, n0, c0, rfl, h0.lo, h0.hi, l0, k _ h0⟩
  · exact ⟨g1, n1, c1, rfl, h1.lo, h1.hi, l1, k _ h1⟩
  · exact ⟨g2, n2, c2, rfl, h2.lo, h2.hi, l2, k _ h2⟩
  · exact ⟨g3, n3, c3, rfl, h3.lo, h3.hi, l3, k _ h3⟩
  · exact ⟨g4, n4, c4, rfl, h4.lo, h4.hi, l4, k _ h4⟩
  · exact ⟨g5, n5, c5, rfl, h5.lo, h5.hi, l5, k _ h5⟩
  · exact ⟨g6, n6, c6, rfl, h6.lo, h6.hi, l6, k _ h6⟩
theorem Reads.oldV {V W : World} {a : Option Addr} {len cap : Nat} {zs : List Int} (h : Reads .i64 V a len cap zs) (hb : Below V.heap.size V W) : Reads .i64 W a len cap zs := h.below hb
end Go.Proofs.Ythfblcdlibkchab
