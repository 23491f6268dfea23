/-
  A row of slices that the call owns (OwnS), a table that it made (TblMade); contracts: makeRow and makeRows, with whatever method they are handed.
-/
import Derived.Test.YtpllffekebkacaaWeights
namespace Go.Proofs.Ytpllffekebkacaa
open Go.RowKit
set_option linter.unusedVariables false
set_option maxRecDepth 1000000

/-- A slice as a value. -/
def hdV (h : Hd) : Value := .slice h.1 h.2.1 h.2.2
/-- The row in block g, not below base, holds these slices. -/
def OwnS (base g m cap : Nat) (hs : List Hd) (w : World) : Prop := w.ownsRow base 22 1 (.slice (some ⟨g, 0, none⟩) m cap) m (hs.map hdV)
theorem OwnS.len {base g m cap : Nat} {hs : List Hd} {w : World} (h : OwnS base g m cap hs w) : hs.length = m := by have := h.1; simpa using this
theorem OwnS.cell {base g m cap : Nat} {hs : List Hd} {w : World} (h : OwnS base g m cap hs w) {k : Nat} (hk : k < m) : w.cell? ⟨g, k, none⟩ = some (hdV (hs[k]?.getD (none, 0, 0))) := by
  have hl := h.len
  have := World.ownsRow.cellAt h k (by omega)
  rw [this]
  simp [(by omega : k < hs.length)]
theorem OwnS.frozen {base g m cap : Nat} {hs : List Hd} {w : World} (h : OwnS base g m cap hs w) (k : Nat) : w.frozen? ⟨g, k, none⟩ = false := World.ownsRow.frozenAt h k
theorem OwnS.set {base g m cap : Nat} {hs : List Hd} {w : World} (h : OwnS base g m cap hs w) (k : Nat) (v : Hd) : OwnS base g m cap (hs.set k v) (w.setCell ⟨g, k, none⟩ (hdV v)) := by
  have := (World.ownsRow.stored h k (hdV v)).1
  unfold OwnS
  rw [List.map_set]
  exact this
theorem OwnS.base {base g m cap : Nat} {hs : List Hd} {w : World} (h : OwnS base g m cap hs w) : base ≤ g := (World.ownsRow.lt h g rfl).1
theorem OwnS.lt {base g m cap : Nat} {hs : List Hd} {w : World} (h : OwnS base g m cap hs w) : g < w.heap.size := (World.ownsRow.lt h g rfl).2
theorem OwnS.stays {base g m cap : Nat} {hs : List Hd} {w w' : World} (h : OwnS base g m cap hs w) (hb : Below w.heap.size w w') : OwnS base g m cap hs w' := own_below h hb
theorem OwnS.rd {base g m cap : Nat} {hs : List Hd} {w : World} (h : OwnS base g m cap hs w) : Rd2 w (some ⟨g, 0, none⟩) m cap hs := by
  rcases h.2 with ⟨h', _⟩ | ⟨g', c, cur, hv, hB, hg, hnc, hm, _⟩
  · cases h'
  · cases hv
    refine ⟨h.len, hnc, by unfold maxLen at hm; omega, (fun e => by cases e), fun i hi => ⟨g, 0, rfl, ?_⟩⟩
    rw [Nat.zero_add]
    exact h.cell hi
theorem OwnS.low {base base' g m cap : Nat} {hs : List Hd} {w : World} (h : OwnS base g m cap hs w) (hb : base' ≤ base) : OwnS base' g m cap hs w := by
  refine ⟨h.1, ?_⟩
  rcases h.2 with h' | ⟨g', c, cur, hv, hB, rest⟩
  · exact .inl h'
  · exact .inr ⟨g', c, cur, hv, Nat.le_trans hb hB, rest⟩
theorem Try.infoS : (Try.prog.info? 22).map (fun i => (i.zero, i.size, i.bytes)) = some (some (.slice none 0 0), 1, 24) := by kernel_rfl
theorem own_rows (w : World) (m : Nat) (hm : m ≤ 1001) : OwnS w.heap.size w.heap.size m m (List.replicate m (none, 0, 0)) (w.alloc (.cells (madeCells #[.slice none 0 0] m) 22)) := by
  have := World.ownsRow_lit (base := w.heap.size) (e := 22) (size := 1) w (madeCells #[.slice none 0 0] m) m (Nat.le_refl _) (by unfold maxLen; omega) (by simp [madeCells])
  unfold OwnS
  rw [List.map_replicate, show hdV (none, 0, 0) = .slice none 0 0 from rfl, ← toList_madeCells_one]
  exact this

theorem makerow_any (fn : Nat) (recv : Value) (hE : ∀ args w, (callFunc fn args).run Try.prog w = .ok (.enter fn args) w) (r : Int) (n : Nat) (w : World) (hn : n ≤ 1000) (f : Nat → Int)
    (hC : ∀ k wr, k < n → Below w.heap.size w wr → Calls Try.prog fn #[recv, .int .i64 r, .int .i64 (k : Int)] wr fun e w' => e = .returned (.int .i64 (f k)) ∧ Below wr.heap.size wr w') :
    Calls Try.prog 68 #[.int .i64 r, .int .i64 n, .func (.func fn) #[recv] #[]] w fun e w' => Made w n (rowK f n) e w' := by
  have hmk := make_ints w n (by omega)
  have HO0 : Hid (OwnK 2 w.heap.size w.heap.size n n (rowK f 0 ++ List.replicate (n - 0) 0) (w.alloc (.cells (madeCells #[.int .i64 0] n) 2))) := own_made _ w n (by omega)
  have HB0 : Hid (Below w.heap.size w (w.alloc (.cells (madeCells #[.int .i64 0] n) 2))) := (Below.refl _ _).alloc (Nat.le_refl _) _
  have HC := hid hC
  clear hC
  go_enter Try.func68, Try.ntmps68
  go_wp2_with fail
  go_loopw [13] (fun i W => ∃ k : Nat, k ≤ n ∧ i = .int .i64 k ∧ Hid (OwnK 2 w.heap.size w.heap.size n n (rowK f k ++ List.replicate (n - k) 0) W) ∧ Hid (Below w.heap.size w W)) (fun i _ => n - (intOf i).toNat)
  case atStart => exact ⟨0, Nat.zero_le _, rfl, HO0, HB0⟩
  case round =>
    obtain ⟨k, hk, rfl, HO, HB⟩ := hrel
    clear HO0 HB0 hmk
    by_cases hlt : k < n
    · have hC := HC.out k wr hlt HB.out
      have HS := hid (rowK_set f hlt)
      clear HC
      go_wp2_with fail
      refine hC.mono ?_
      rintro e w2 ⟨rfl, hb⟩
      have HO2 := hid (HO.out.stays hb)
      have HB2 := hid (HB.out.trans (hb.mono HB.out.size))
      have ck := HO2.out.cell hlt
      have fk := HO2.out.frozen k
      have HO3 : Hid (OwnK 2 w.heap.size w.heap.size n n (rowK f (k + 1) ++ List.replicate (n - (k + 1)) 0) (w2.setCell ⟨w.heap.size, k, none⟩ (.int .i64 (f k)))) := by
        have := HO2.out.set k (f k)
        rw [HS.out] at this
        exact this
      have HB3 := hid (HB2.out.setCell (p := ⟨w.heap.size, k, none⟩) (Nat.le_refl _) (.int .i64 (f k)))
      clear hb hC HO HO2 HB HB2 HS
      go_wp2_with fail
      go_round
      case rel => exact ⟨k + 1, by omega, by go_num, HO3, HB3⟩
      case measure => simp [intOf]; omega
    · obtain rfl : k = n := by omega
      have HO3 : Hid (OwnK 2 w.heap.size w.heap.size k k (rowK f k) wr) := by
        have := HO.out
        rw [Nat.sub_self, List.replicate_zero, List.append_nil] at this
        exact this
      clear HO HC
      go_wp2
      go_ret
      exact ⟨_, _, rfl, HO3.out, HB.out⟩

/-- A table of n rows in block G: of the first k rows each lies in memory of its own, and has these numbers. -/
structure TblUp (w : World) (G n m : Nat) (F : Nat → List Int) (k : Nat) (hs : List Hd) (W : World) : Prop where
  own : OwnS w.heap.size G n n hs W
  rows : ∀ j, j < k → ∃ g c, hs[j]?.getD (none, 0, 0) = (some ⟨g, 0, none⟩, m, c) ∧ g ≠ G ∧ OwnK 2 w.heap.size g m c (F j) W
  old : Below w.heap.size w W
theorem TblUp.below {w : World} {G n m : Nat} {F : Nat → List Int} {k : Nat} {hs : List Hd} {W W' : World} (h : TblUp w G n m F k hs W) (hb : Below W.heap.size W W') : TblUp w G n m F k hs W' :=
  ⟨h.own.stays hb, fun j hj => by
    obtain ⟨g, c, h1, h2, h3⟩ := h.rows j hj
    exact ⟨g, c, h1, h2, h3.stays hb⟩, h.old.trans (hb.mono h.old.size)⟩
theorem TblUp.low {w w0 : World} {G n m : Nat} {F : Nat → List Int} {k : Nat} {hs : List Hd} {W : World} (h : TblUp w G n m F k hs W) (hb : Below w0.heap.size w0 w) : TblUp w0 G n m F k hs W :=
  ⟨h.own.low hb.size, fun j hj => by
    obtain ⟨g, c, h1, h2, h3⟩ := h.rows j hj
    exact ⟨g, c, h1, h2, h3.low hb.size⟩, hb.trans (h.old.mono hb.size)⟩
theorem TblUp.step {w : World} {G n m : Nat} {F : Nat → List Int} {k : Nat} {hs : List Hd} {W : World} (h : TblUp w G n m F k hs W) (hk : k < n) {g c : Nat} (hg : g ≠ G) (hw : OwnK 2 w.heap.size g m c (F k) W) :
    TblUp w G n m F (k + 1) (hs.set k (some ⟨g, 0, none⟩, m, c)) (W.setCell ⟨G, k, none⟩ (.slice (some ⟨g, 0, none⟩) m c)) := by
  have hl := h.own.len
  refine ⟨h.own.set k (some ⟨g, 0, none⟩, m, c), fun j hj => ?_, h.old.setCell h.own.base _⟩
  by_cases e : j = k
  · subst e
    refine ⟨g, c, by simp [(by omega : j < hs.length)], hg, hw.same (Below.heap_setCell _ _ _ _ ?_)⟩
    exact hg
  · obtain ⟨g', c', h1, h2, h3⟩ := h.rows j (by omega)
    refine ⟨g', c', ?_, h2, h3.same (Below.heap_setCell _ _ _ _ h2)⟩
    rw [List.getElem?_set_ne (by omega)]
    exact h1
/-- The rows of a table. -/
def tblK (F : Nat → List Int) (n : Nat) : List (List Int) := (List.range n).map F
theorem tblK_at (F : Nat → List Int) {n i : Nat} (h : i < n) : (tblK F n)[i]?.getD [] = F i := by simp [tblK, h]
theorem TblUp.tbl {w : World} {G n m : Nat} {F : Nat → List Int} {hs : List Hd} {W : World} (h : TblUp w G n m F n hs W) (hm : m ≤ 1000) : Tbl W (some ⟨G, 0, none⟩) n n hs (tblK F n) := by
  refine ⟨h.own.rd, fun i hi => ?_, fun i hi => ?_⟩
  · obtain ⟨g, c, h1, h2, h3⟩ := h.rows i hi
    rw [h1, tblK_at F hi]
    exact h3.reads
  · obtain ⟨g, c, h1, h2, h3⟩ := h.rows i hi
    rw [h1]
    exact hm
/-- The call made this table. -/
def MadeT (w : World) (n m : Nat) (F : Nat → List Int) (e : Ending) (w' : World) : Prop := ∃ G hs, e = .returned (.slice (some ⟨G, 0, none⟩) n n) ∧ TblUp w G n m F n hs w'

end Go.Proofs.Ytpllffekebkacaa
