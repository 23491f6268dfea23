/-
  Confs: Configurations (Cf); contracts: between and the document's in, the two May, New, Config.
  Weights: Contracts: tableOf, the weights of the program's and of the document's tables.
  Mrows: A row of slices that the call owns (OwnS), a table that it made (TblMade); contracts: makeRow and makeRows, with whatever method they are handed.
  Models: Contracts: Token, Place and Rows of a model.
  MTables: Contract: Rows of a model, a layer's table that is there.
  RowsI: A row of the call's own whose cells are slices of numbers (RowsI), and an append of one to it; a row that is written over cell by cell.
  RModels: Contracts of the document's model: row, Token, Place, Rows.
  RMTables: Contract of the document's Rows; the statements' own 'alive'.
  Likes: The statements' own 'rows': of like tables it is true.
  Asks: What a model's rows are, whatever is asked (tokL, plL, tabL), and the contracts of Token, Place and Rows, of the program and of the document, put together by them; the arguments of the statements.
-/
import Derived.Test.YtahpilgbabjebaaGreatPk04
import Derived.Test.YtahpilgbabjebaaGreatPk01
import Derived.Deep.DeepCutAuto
import Derived.ProofKit
namespace Go.Proofs.YtahpilgbabjebaaGreat
open Go.RowKit
set_option linter.unusedVariables false
set_option maxRecDepth 1000000

/-- A configuration. -/
structure Cf where
  seed : Int
  vocab : Int
  dim : Int
  layers : Int
  top : Int
  heat : Int
/-- Its cells. -/
def CfV (c : Cf) : Array Value := #[.int .u64 c.seed, .int .i64 c.vocab, .int .i64 c.dim, .int .i64 c.layers, .int .i64 c.top, .int .i64 c.heat]
/-- A number is from one to another one. -/
def btw (n lo hi : Int) : Bool := decide (lo ≤ n) && decide (n ≤ hi)
theorem btw_iff {n lo hi : Int} : btw n lo hi = true ↔ lo ≤ n ∧ n ≤ hi := by unfold btw; simp
theorem btw_no {n lo hi : Int} : btw n lo hi = false ↔ n < lo ∨ hi < n := by
  unfold btw; simp only [Bool.and_eq_false_iff, decide_eq_false_iff_not]; omega
/-- A configuration may be. -/
def mayB (c : Cf) : Bool := btw c.vocab 2 64 && (btw c.dim 1 16 && (btw c.layers 1 4 && (btw c.top 1 c.vocab && btw c.heat 0 8)))

theorem mbetween_any (n lo hi : Int) (w : World) :
    Calls Tryz.prog 44 #[.int .i64 n, .int .i64 lo, .int .i64 hi] w fun e w' => e = .returned (.bool (btw n lo hi)) ∧ w' = w := by
  by_cases h : lo ≤ n
  · by_cases h2 : n ≤ hi
    · rw [btw_iff.2 ⟨h, h2⟩]
      go_enter Tryz.func44, Tryz.ntmps44
      go_wp2
      go_ret
      exact ⟨rfl, rfl⟩
    · rw [btw_no.2 (.inr (by omega))]
      go_enter Tryz.func44, Tryz.ntmps44
      go_wp2
      go_ret
      exact ⟨rfl, rfl⟩
  · rw [btw_no.2 (.inl (by omega))]
    go_enter Tryz.func44, Tryz.ntmps44
    go_wp2
    go_ret
    exact ⟨rfl, rfl⟩
theorem may_any (c : Cf) (w : World) :
    Calls Tryz.prog 26 #[.agg (CfV c)] w fun e w' => e = .returned (.bool (mayB c)) ∧ Below w.heap.size w w' := by
  obtain ⟨s, v, d, l, t, h⟩ := c
  have HB : Hid (Below w.heap.size w (w.alloc (.cells (CfV ⟨s, v, d, l, t, h⟩) 24))) := (Below.refl _ _).alloc (Nat.le_refl _) _
  unfold mayB CfV at *
  simp only at HB ⊢
  go_enter Tryz.func26, Tryz.ntmps26
  go_wp2_with fail
  refine (mbetween_any _ _ _ _).mono ?_
  rintro e w' ⟨rfl, rfl⟩
  cases h1 : btw v 2 64 with
  | false =>
    go_wp2
    go_ret
    exact ⟨ret_bool (by simp [h1]), HB.out⟩
  | true =>
  go_wp2_with fail
  refine (mbetween_any _ _ _ _).mono ?_
  rintro e w' ⟨rfl, rfl⟩
  cases h2 : btw d 1 16 with
  | false =>
    go_wp2
    go_ret
    exact ⟨ret_bool (by simp [h1, h2]), HB.out⟩
  | true =>
  go_wp2_with fail
  refine (mbetween_any _ _ _ _).mono ?_
  rintro e w' ⟨rfl, rfl⟩
  cases h3 : btw l 1 4 with
  | false =>
    go_wp2
    go_ret
    exact ⟨ret_bool (by simp [h1, h2, h3]), HB.out⟩
  | true =>
  go_wp2_with fail
  refine (mbetween_any _ _ _ _).mono ?_
  rintro e w' ⟨rfl, rfl⟩
  cases h4 : btw t 1 v with
  | false =>
    go_wp2
    go_ret
    exact ⟨ret_bool (by simp [h1, h2, h3, h4]), HB.out⟩
  | true =>
  go_wp2_with fail
  refine (mbetween_any _ _ _ _).mono ?_
  rintro e w' ⟨rfl, rfl⟩
  go_wp2
  go_ret
  exact ⟨ret_bool (by simp [h1, h2, h3, h4]), HB.out⟩
/-- The model at a pointer has this configuration: a nil one, and one that nobody made, the zero one. -/
def MdAt (W : World) (p : Option Addr) (c : Cf) : Prop :=
  (p = none ∧ c = ⟨0, 0, 0, 0, 0, 0⟩) ∨ ∃ g, p = some ⟨g, 0, none⟩ ∧ W.heap[g]? = some (.cells (CfV c) 59 (0, 0))
theorem MdAt.below {W W' : World} {p : Option Addr} {c : Cf} (h : MdAt W p c) (hb : Below W.heap.size W W') : MdAt W' p c := by
  rcases h with h | ⟨g, hp, hg⟩
  · exact .inl h
  · exact .inr ⟨g, hp, (hb.block g (lt_of_block hg)).trans hg⟩

/-- A configuration's cells, out of its block. -/
theorem Cf_cells {W : World} {g : Nat} {c : Cf} {T : TypeId} (h : W.heap[g]? = some (.cells (CfV c) T (0, 0))) :
    W.cell? ⟨g, 0, none⟩ = some (.int .u64 c.seed) ∧ W.cell? ⟨g, 1, none⟩ = some (.int .i64 c.vocab) ∧ W.cell? ⟨g, 2, none⟩ = some (.int .i64 c.dim) ∧ W.cell? ⟨g, 3, none⟩ = some (.int .i64 c.layers) ∧ W.cell? ⟨g, 4, none⟩ = some (.int .i64 c.top) ∧ W.cell? ⟨g, 5, none⟩ = some (.int .i64 c.heat) := by
  refine ⟨?_, ?_, ?_, ?_, ?_, ?_⟩ <;> (rw [cell_of_row _ _ _ _ _ _ h]; rfl)
theorem block_below {w w' : World} {k : Nat} {o : Obj} (h : w.heap[k]? = some o) (hb : Below w.heap.size w w') : w'.heap[k]? = some o := (hb.block k (lt_of_block h)).trans h

theorem new_yes (c : Cf) (w : World) (hc : mayB c = true) :
    Calls Tryz.prog 9 #[.agg (CfV c)] w fun e w' => ∃ g, e = .returned (.tuple #[.pointer (some ⟨g, 0, none⟩), .int .i64 0]) ∧ w.heap.size ≤ g ∧ w'.heap[g]? = some (.cells (CfV c) 59 (0, 0)) ∧ Below w.heap.size w w' := by
  have HB : Hid (Below w.heap.size w (w.alloc (.cells (CfV c) 24))) := (Below.refl _ _).alloc (Nat.le_refl _) _
  have hM := may_any c (w.alloc (.cells (CfV c) 24))
  rw [hc] at hM
  have HN := hid (heap_alloc_new w (.cells (CfV c) 24))
  obtain ⟨s, v, d, l, t, h⟩ := c
  clear hc
  have HC : Hid (∀ W : World, Below (w.alloc (.cells (CfV ⟨s, v, d, l, t, h⟩) 24)).heap.size (w.alloc (.cells (CfV ⟨s, v, d, l, t, h⟩) 24)) W → _) := fun W hb => Cf_cells (block_below HN.out hb)
  unfold CfV at hM HN HB HC ⊢
  simp only at HB hM HN HC ⊢
  go_enter Tryz.func9, Tryz.ntmps9
  go_wp2_with fail
  refine hM.mono ?_
  rintro e w1 ⟨rfl, hb⟩
  obtain ⟨c0, c1, c2, c3, c4, c5⟩ := HC.out w1 hb
  have HB1 := hid (HB.out.trans (hb.mono (by simp)))
  clear hM HN hb HB HC
  go_wp2
  go_ret2
  exact ⟨_, rfl, HB1.out.size, heap_alloc_new _ _, HB1.out.alloc HB1.out.size _⟩
theorem new_no (c : Cf) (w : World) (hc : mayB c = false) :
    Calls Tryz.prog 9 #[.agg (CfV c)] w fun e w' => e = .returned (.tuple #[.pointer none, .int .i64 1]) ∧ Below w.heap.size w w' := by
  have HB : Hid (Below w.heap.size w (w.alloc (.cells (CfV c) 24))) := (Below.refl _ _).alloc (Nat.le_refl _) _
  have hM := may_any c (w.alloc (.cells (CfV c) 24))
  rw [hc] at hM
  obtain ⟨s, v, d, l, t, h⟩ := c
  clear hc
  unfold CfV at hM HB ⊢
  simp only at HB hM ⊢
  go_enter Tryz.func9, Tryz.ntmps9
  go_wp2_with fail
  refine hM.mono ?_
  rintro e w1 ⟨rfl, hb⟩
  have HB1 := hid (HB.out.trans (hb.mono (by simp)))
  clear hM hb HB
  go_wp2
  go_ret2
  exact ⟨rfl, HB1.out⟩
theorem config_any (p : Option Addr) (c : Cf) (w : World) (h : MdAt w p c) :
    Calls Tryz.prog 30 #[.pointer p] w fun e w' => e = .returned (.agg (CfV c)) ∧ Below w.heap.size w w' := by
  rcases h with ⟨rfl, rfl⟩ | ⟨g, rfl, hg⟩
  · go_enter Tryz.func30, Tryz.ntmps30
    go_wp2
    exact bodyPost_ret (v := .agg (CfV ⟨0, 0, 0, 0, 0, 0⟩)) (by simp [results, Tryz.results30, go_sem, CfV]) rfl ⟨rfl, by go_grown⟩
  · obtain ⟨c0, c1, c2, c3, c4, c5⟩ := Cf_cells hg
    have hlt := lt_of_block hg
    have hne : ¬ g = w.heap.size := by omega
    obtain ⟨s, v, d, l, t, h⟩ := c
    simp only at c0 c1 c2 c3 c4 c5
    clear hg
    go_enter Tryz.func30, Tryz.ntmps30
    go_wp2
    exact bodyPost_ret (v := .agg (CfV ⟨s, v, d, l, t, h⟩)) (by simp [results, Tryz.results30, go_sem, CfV]) rfl ⟨rfl, by go_grown⟩
end Go.Proofs.YtahpilgbabjebaaGreat
namespace Go.Proofs.YtahpilgbabjebaaGreat
open Go.RowKit
set_option linter.unusedVariables false
set_option maxRecDepth 1000000

/-- What stands at a row and a column of a table. -/
def weightZ (s t r c : Int) : Int := belowZ (deriveZ s [t]) (64 * r + c) 131073 - 65536
theorem weightZ_bd (s t r c : Int) : -65536 ≤ weightZ s t r c ∧ weightZ s t r c ≤ 65536 := by
  unfold weightZ
  have := below_bd (deriveZ s [t]) (64 * r + c) (m := 131073) (by omega)
  omega
theorem tableof_any (c : Cf) (n : Int) (w : World) (n0 : 0 ≤ n) (n1 : n ≤ 1000) :
    Calls Tryz.prog 66 #[.agg (CfV c), .int .i64 n] w fun e w' => e = .returned (.agg #[.int .u64 (deriveZ c.seed [n])]) ∧ Below w.heap.size w w' := by
  obtain ⟨s, v, d, l, t, h⟩ := c
  unfold CfV
  simp only
  have HD := hid fun a W (hr : Reads .u64 W a 1 1 [n]) => derive_any s a 1 1 [n] W hr (by omega)
  generalize deriveZ s [n] = x at *
  go_enter Tryz.func66, Tryz.ntmps66
  go_wp2_with fail
  refine (HD.out _ _ (Reads.oneB _ _ _ (by simp))).mono ?_
  rintro e w' ⟨rfl, rfl⟩
  clear HD
  go_wp2
  exact bodyPost_ret (v := .agg #[.int .u64 x]) (by simp [results, Tryz.results66, go_sem]) rfl ⟨rfl, by go_grown⟩
theorem weight_any (s t r c : Int) (w : World) (r0 : 0 ≤ r) (r1 : r ≤ 1000) (c0 : 0 ≤ c) (c1 : c ≤ 1000) :
    Calls Tryz.prog 67 #[.agg #[.int .u64 (deriveZ s [t])], .int .i64 r, .int .i64 c] w fun e w' => e = .returned (.int .i64 (weightZ s t r c)) ∧ Below w.heap.size w w' := by
  have HW : Hid (weightZ s t r c = belowZ (deriveZ s [t]) (64 * r + c) 131073 - 65536) := rfl
  have hb := below_bd (deriveZ s [t]) (64 * r + c) (m := 131073) (by omega)
  obtain ⟨hb0, hb1⟩ := hb
  generalize deriveZ s [t] = x at *
  go_enter Tryz.func67, Tryz.ntmps67
  go_wp2_with fail
  refine (dbelow_any _ _ _ _ (by omega) (by omega)).mono ?_
  rintro e w' ⟨rfl, rfl⟩
  go_wp2
  go_ret
  exact ⟨ret_int HW.out.symm, by go_grown⟩
theorem placeweight_any (s t r c : Int) (w : World) (r0 : 0 ≤ r) (r1 : r ≤ 1000) (c0 : 0 ≤ c) (c1 : c ≤ 1000) :
    Calls Tryz.prog 68 #[.agg #[.int .u64 (deriveZ s [t])], .int .i64 r, .int .i64 c] w fun e w' => e = .returned (.int .i64 (mulZ (weightZ s t r c) 16384)) ∧ Below w.heap.size w w' := by
  have hC := weight_any s t r c (w.alloc (.cells #[.int .u64 (deriveZ s [t])] 109)) r0 r1 c0 c1
  have HB : Hid (Below w.heap.size w (w.alloc (.cells #[.int .u64 (deriveZ s [t])] 109))) := (Below.refl _ _).alloc (Nat.le_refl _) _
  generalize deriveZ s [t] = x at *
  go_enter Tryz.func68, Tryz.ntmps68
  go_wp2_with fail
  refine hC.mono ?_
  rintro e w1 ⟨rfl, hb⟩
  have HB1 := hid (HB.out.trans (hb.mono HB.out.size))
  clear hb hC HB
  go_wp2_with fail
  refine (mul_any _ _ _).mono ?_
  rintro e w' ⟨rfl, rfl⟩
  go_wp2
  go_ret
  exact ⟨rfl, HB1.out⟩
theorem rweight_any (s t r c : Int) (w : World) (t0 : 0 ≤ t) (t1 : t ≤ 1000) (r0 : 0 ≤ r) (r1 : r ≤ 1000) (c0 : 0 ≤ c) (c1 : c ≤ 1000) :
    Calls Tryz.prog 96 #[.int .u64 s, .int .i64 t, .int .i64 r, .int .i64 c] w fun e w' => e = .returned (.int .i64 (weightZ s t r c)) ∧ Below w.heap.size w w' := by
  have HW : Hid (weightZ s t r c = belowZ (deriveZ s [t]) (64 * r + c) 131073 - 65536) := rfl
  have hb := below_bd (deriveZ s [t]) (64 * r + c) (m := 131073) (by omega)
  obtain ⟨hb0, hb1⟩ := hb
  go_enter Tryz.func96, Tryz.ntmps96
  go_wp2_with fail
  refine (rderive_any s _ 1 1 [t] _ (Reads.oneB _ _ _ (by simp)) (by omega)).mono ?_
  rintro e w' ⟨rfl, rfl⟩
  generalize deriveZ s [t] = x at *
  go_wp2_with fail
  refine (rdbelow_any _ _ _ _ (by omega) (by omega)).mono ?_
  rintro e w' ⟨rfl, rfl⟩
  go_wp2
  go_ret
  exact ⟨ret_int HW.out.symm, by go_grown⟩
end Go.Proofs.YtahpilgbabjebaaGreat
namespace Go.Proofs.YtahpilgbabjebaaGreat
open Go.RowKit
set_option linter.unusedVariables false
set_option maxRecDepth 1000000

/-- A slice as a value. -/
def hdV (h : Hd) : Value := .slice h.1 h.2.1 h.2.2
/-- The row in block g, not below base, holds these slices. -/
def OwnS (base g m cap : Nat) (hs : List Hd) (w : World) : Prop := w.ownsRow base 70 1 (.slice (some ⟨g, 0, none⟩) m cap) m (hs.map hdV)
theorem OwnS.len {base g m cap : Nat} {hs : List Hd} {w : World} (h : OwnS base g m cap hs w) : hs.length = m := by have := h.1; simpa using this
theorem OwnS.cell {base g m cap : Nat} {hs : List Hd} {w : World} (h : OwnS base g m cap hs w) {k : Nat} (hk : k < m) : w.cell? ⟨g, k, none⟩ = some (hdV (hs[k]?.getD (none, 0, 0))) := by
  have hl := h.len
  have := World.ownsRow.cellAt h k (by omega)
  rw [this]
  simp [(by omega : k < hs.length)]
theorem OwnS.frozen {base g m cap : Nat} {hs : List Hd} {w : World} (h : OwnS base g m cap hs w) (k : Nat) : w.frozen? ⟨g, k, none⟩ = false := World.ownsRow.frozenAt h k
theorem OwnS.set {base g m cap : Nat} {hs : List Hd} {w : World} (h : OwnS base g m cap hs w) (k : Nat) (v : Hd) : OwnS base g m cap (hs.set k v) (w.setCell ⟨g, k, none⟩ (hdV v)) := by
  have := (World.ownsRow.stored h k (hdV v)).1
  unfold OwnS
  rw [List.map_set]
  exact this
theorem OwnS.base {base g m cap : Nat} {hs : List Hd} {w : World} (h : OwnS base g m cap hs w) : base ≤ g := (World.ownsRow.lt h g rfl).1
theorem OwnS.lt {base g m cap : Nat} {hs : List Hd} {w : World} (h : OwnS base g m cap hs w) : g < w.heap.size := (World.ownsRow.lt h g rfl).2
theorem OwnS.stays {base g m cap : Nat} {hs : List Hd} {w w' : World} (h : OwnS base g m cap hs w) (hb : Below w.heap.size w w') : OwnS base g m cap hs w' := own_below h hb
theorem OwnS.rd {base g m cap : Nat} {hs : List Hd} {w : World} (h : OwnS base g m cap hs w) : Rd2 w (some ⟨g, 0, none⟩) m cap hs := by
  rcases h.2 with ⟨h', _⟩ | ⟨g', c, cur, hv, hB, hg, hnc, hm, _⟩
  · cases h'
  · cases hv
    refine ⟨h.len, hnc, by unfold maxLen at hm; omega, (fun e => by cases e), fun i hi => ⟨g, 0, rfl, ?_⟩⟩
    rw [Nat.zero_add]
    exact h.cell hi
theorem OwnS.low {base base' g m cap : Nat} {hs : List Hd} {w : World} (h : OwnS base g m cap hs w) (hb : base' ≤ base) : OwnS base' g m cap hs w := by
  refine ⟨h.1, ?_⟩
  rcases h.2 with h' | ⟨g', c, cur, hv, hB, rest⟩
  · exact .inl h'
  · exact .inr ⟨g', c, cur, hv, Nat.le_trans hb hB, rest⟩
theorem Tryz.infoS : (Tryz.prog.info? 70).map (fun i => (i.zero, i.size, i.bytes)) = some (some (.slice none 0 0), 1, 24) := by kernel_rfl
/-- 'make' of m slices. -/
theorem make_rows (w : World) (m : Nat) (hm : m ≤ 1001) : (Instr.makeSlice 65 (.int .i64 (m : Int)) (.int .i64 (m : Int))).run Tryz.prog w = .ok (.slice (some ⟨w.heap.size, 0, none⟩) m m) (w.alloc (.cells (madeCells #[.slice none 0 0] m) 70)) := by
  obtain ⟨i0, hi, hz0, hz1, hz2⟩ := info_parts Tryz.infoS
  have := run_make (P := Tryz.prog) w 65 70 i0 (.slice none 0 0) Tryz.underlying65 hi hz0 .i64 .i64 (m : Int) (m : Int) (by omega) (Int.le_refl _) (by rw [hz2]; omega) (by omega)
  rw [this, hz1, Int.toNat_natCast, Nat.mul_one]
  rfl
theorem own_rows (w : World) (m : Nat) (hm : m ≤ 1001) : OwnS w.heap.size w.heap.size m m (List.replicate m (none, 0, 0)) (w.alloc (.cells (madeCells #[.slice none 0 0] m) 70)) := by
  have := World.ownsRow_lit (base := w.heap.size) (e := 70) (size := 1) w (madeCells #[.slice none 0 0] m) m (Nat.le_refl _) (by unfold maxLen; omega) (by simp [madeCells])
  unfold OwnS
  rw [List.map_replicate, show hdV (none, 0, 0) = .slice none 0 0 from rfl, ← toList_madeCells_one]
  exact this

theorem makerow_any (fn : Nat) (recv : Value) (hE : ∀ args w, (callFunc fn args).run Tryz.prog w = .ok (.enter fn args) w) (r : Int) (n : Nat) (w : World) (hn : n ≤ 1000) (f : Nat → Int)
    (hC : ∀ k wr, k < n → Below w.heap.size w wr → Calls Tryz.prog fn #[recv, .int .i64 r, .int .i64 (k : Int)] wr fun e w' => e = .returned (.int .i64 (f k)) ∧ Below wr.heap.size wr w') :
    Calls Tryz.prog 65 #[.int .i64 r, .int .i64 n, .func (.func fn) #[recv] #[]] w fun e w' => Made w n (rowK f n) e w' := by
  have hmk := make_ints w n (by omega)
  have HO0 : Hid (OwnK 2 w.heap.size w.heap.size n n (rowK f 0 ++ List.replicate (n - 0) 0) (w.alloc (.cells (madeCells #[.int .i64 0] n) 2))) := own_made _ w n (by omega)
  have HB0 : Hid (Below w.heap.size w (w.alloc (.cells (madeCells #[.int .i64 0] n) 2))) := (Below.refl _ _).alloc (Nat.le_refl _) _
  have HC := hid hC
  clear hC
  go_enter Tryz.func65, Tryz.ntmps65
  go_wp2_with fail
  go_loopw [13] (fun i W => ∃ k : Nat, k ≤ n ∧ i = .int .i64 k ∧ Hid (OwnK 2 w.heap.size w.heap.size n n (rowK f k ++ List.replicate (n - k) 0) W) ∧ Hid (Below w.heap.size w W)) (fun i _ => n - (intOf i).toNat)
  case atStart => exact ⟨0, Nat.zero_le _, rfl, HO0, HB0⟩
  case round =>
    obtain ⟨k, hk, rfl, HO, HB⟩ := hrel
    clear HO0 HB0 hmk
    by_cases hlt : k < n
    · have hC := HC.out k wr hlt HB.out
      have HS := hid (rowK_set f hlt)
      clear HC
      go_wp2_with fail
      refine hC.mono ?_
      rintro e w2 ⟨rfl, hb⟩
      have HO2 := hid (HO.out.stays hb)
      have HB2 := hid (HB.out.trans (hb.mono HB.out.size))
      have ck := HO2.out.cell hlt
      have fk := HO2.out.frozen k
      have HO3 : Hid (OwnK 2 w.heap.size w.heap.size n n (rowK f (k + 1) ++ List.replicate (n - (k + 1)) 0) (w2.setCell ⟨w.heap.size, k, none⟩ (.int .i64 (f k)))) := by
        have := HO2.out.set k (f k)
        rw [HS.out] at this
        exact this
      have HB3 := hid (HB2.out.setCell (p := ⟨w.heap.size, k, none⟩) (Nat.le_refl _) (.int .i64 (f k)))
      clear hb hC HO HO2 HB HB2 HS
      go_wp2_with fail
      go_round
      case rel => exact ⟨k + 1, by omega, by go_num, HO3, HB3⟩
      case measure => simp [intOf]; omega
    · obtain rfl : k = n := by omega
      have HO3 : Hid (OwnK 2 w.heap.size w.heap.size k k (rowK f k) wr) := by
        have := HO.out
        rw [Nat.sub_self, List.replicate_zero, List.append_nil] at this
        exact this
      clear HO HC
      go_wp2
      go_ret
      exact ⟨_, _, rfl, HO3.out, HB.out⟩

/-- A table of n rows in block G: of the first k rows each lies in memory of its own, and has these numbers. -/
structure TblUp (w : World) (G n m : Nat) (F : Nat → List Int) (k : Nat) (hs : List Hd) (W : World) : Prop where
  own : OwnS w.heap.size G n n hs W
  rows : ∀ j, j < k → ∃ g c, hs[j]?.getD (none, 0, 0) = (some ⟨g, 0, none⟩, m, c) ∧ g ≠ G ∧ OwnK 2 w.heap.size g m c (F j) W
  old : Below w.heap.size w W
theorem TblUp.below {w : World} {G n m : Nat} {F : Nat → List Int} {k : Nat} {hs : List Hd} {W W' : World} (h : TblUp w G n m F k hs W) (hb : Below W.heap.size W W') : TblUp w G n m F k hs W' :=
  ⟨h.own.stays hb, fun j hj => by
    obtain ⟨g, c, h1, h2, h3⟩ := h.rows j hj
    exact ⟨g, c, h1, h2, h3.stays hb⟩, h.old.trans (hb.mono h.old.size)⟩
theorem TblUp.low {w w0 : World} {G n m : Nat} {F : Nat → List Int} {k : Nat} {hs : List Hd} {W : World} (h : TblUp w G n m F k hs W) (hb : Below w0.heap.size w0 w) : TblUp w0 G n m F k hs W :=
  ⟨h.own.low hb.size, fun j hj => by
    obtain ⟨g, c, h1, h2, h3⟩ := h.rows j hj
    exact ⟨g, c, h1, h2, h3.low hb.size⟩, hb.trans (h.old.mono hb.size)⟩
theorem TblUp.step {w : World} {G n m : Nat} {F : Nat → List Int} {k : Nat} {hs : List Hd} {W : World} (h : TblUp w G n m F k hs W) (hk : k < n) {g c : Nat} (hg : g ≠ G) (hw : OwnK 2 w.heap.size g m c (F k) W) :
    TblUp w G n m F (k + 1) (hs.set k (some ⟨g, 0, none⟩, m, c)) (W.setCell ⟨G, k, none⟩ (.slice (some ⟨g, 0, none⟩) m c)) := by
  have hl := h.own.len
  refine ⟨h.own.set k (some ⟨g, 0, none⟩, m, c), fun j hj => ?_, h.old.setCell h.own.base _⟩
  by_cases e : j = k
  · subst e
    refine ⟨g, c, by simp [(by omega : j < hs.length)], hg, hw.same (Below.heap_setCell _ _ _ _ ?_)⟩
    exact hg
  · obtain ⟨g', c', h1, h2, h3⟩ := h.rows j (by omega)
    refine ⟨g', c', ?_, h2, h3.same (Below.heap_setCell _ _ _ _ h2)⟩
    rw [List.getElem?_set_ne (by omega)]
    exact h1
/-- The rows of a table. -/
def tblK (F : Nat → List Int) (n : Nat) : List (List Int) := (List.range n).map F
theorem tblK_at (F : Nat → List Int) {n i : Nat} (h : i < n) : (tblK F n)[i]?.getD [] = F i := by simp [tblK, h]
theorem TblUp.tbl {w : World} {G n m : Nat} {F : Nat → List Int} {hs : List Hd} {W : World} (h : TblUp w G n m F n hs W) (hm : m ≤ 1000) : Tbl W (some ⟨G, 0, none⟩) n n hs (tblK F n) := by
  refine ⟨h.own.rd, fun i hi => ?_, fun i hi => ?_⟩
  · obtain ⟨g, c, h1, h2, h3⟩ := h.rows i hi
    rw [h1, tblK_at F hi]
    exact h3.reads
  · obtain ⟨g, c, h1, h2, h3⟩ := h.rows i hi
    rw [h1]
    exact hm
/-- The call made this table. -/
def MadeT (w : World) (n m : Nat) (F : Nat → List Int) (e : Ending) (w' : World) : Prop := ∃ G hs, e = .returned (.slice (some ⟨G, 0, none⟩) n n) ∧ TblUp w G n m F n hs w'

theorem makerows_any (fn : Nat) (recv : Value) (hE : ∀ args w, (callFunc fn args).run Tryz.prog w = .ok (.enter fn args) w) (n m : Nat) (w : World) (hn : n ≤ 1000) (hm : m ≤ 1000) (f : Nat → Nat → Int)
    (hC : ∀ r k wr, r < n → k < m → Below w.heap.size w wr → Calls Tryz.prog fn #[recv, .int .i64 (r : Int), .int .i64 (k : Int)] wr fun e w' => e = .returned (.int .i64 (f r k)) ∧ Below wr.heap.size wr w') :
    Calls Tryz.prog 137 #[.int .i64 n, .int .i64 m, .func (.func fn) #[recv] #[]] w fun e w' => MadeT w n m (fun r => rowK (f r) m) e w' := by
  have hmk := make_rows w n (by omega)
  have HU0 : Hid (TblUp w w.heap.size n m (fun r => rowK (f r) m) 0 (List.replicate n (none, 0, 0)) (w.alloc (.cells (madeCells #[.slice none 0 0] n) 70))) :=
    ⟨own_rows w n (by omega), fun j hj => absurd hj (by omega), (Below.refl _ _).alloc (Nat.le_refl _) _⟩
  have HR : Hid (∀ r W, r < n → Below w.heap.size w W → Calls Tryz.prog 65 #[.int .i64 (r : Int), .int .i64 m, .func (.func fn) #[recv] #[]] W fun e w' => Made W m (rowK (f r) m) e w') :=
    fun r W hr hW => makerow_any fn recv hE r m W hm (f r) fun k wr hk hb => hC r k wr hr hk (hW.trans (hb.mono hW.size))
  clear hC
  go_enter Tryz.func137, Tryz.ntmps137
  go_wp2_with fail
  go_loopw [13] (fun i W => ∃ (k : Nat) (hs : List Hd), k ≤ n ∧ i = .int .i64 k ∧ Hid (TblUp w w.heap.size n m (fun r => rowK (f r) m) k hs W)) (fun i _ => n - (intOf i).toNat)
  case atStart => exact ⟨0, _, Nat.zero_le _, rfl, HU0⟩
  case round =>
    obtain ⟨k, hs, hk, rfl, HU⟩ := hrel
    clear HU0 hmk
    by_cases hlt : k < n
    · have hC := HR.out k wr hlt HU.out.old
      clear HR
      go_wp2_with fail
      refine hC.mono ?_
      rintro e w2 ⟨g, c, rfl, hO, hb⟩
      have HU2 := hid (HU.out.below hb)
      have hGlt := HU.out.own.lt
      have hgb := hO.base
      have hgG : g ≠ w.heap.size := by omega
      have HU3 := hid (HU2.out.step hlt hgG (hO.low HU.out.old.size))
      have ck := HU2.out.own.cell hlt
      have fk := HU2.out.own.frozen k
      generalize hs[k]?.getD (none, 0, 0) = z at *
      obtain ⟨z1, z2, z3⟩ := z
      unfold hdV at ck
      simp only at ck
      clear hb hC HU HU2 hO hGlt hgb hgG
      go_wp2_with fail
      go_round
      case rel => exact ⟨k + 1, _, by omega, by go_num, HU3⟩
      case measure => simp [intOf]; omega
    · obtain rfl : k = n := by omega
      clear HR
      go_wp2
      go_ret
      exact ⟨_, _, rfl, HU.out⟩
end Go.Proofs.YtahpilgbabjebaaGreat
namespace Go.Proofs.YtahpilgbabjebaaGreat
open Go.RowKit
set_option linter.unusedVariables false
set_option maxRecDepth 1000000

/-- What a configuration's block holds, behind a call. -/
theorem Cf_keep {W W' : World} {g : Nat} {v0 v1 v2 v3 v4 v5 : Value} (hb : Below W.heap.size W W')
    (h : W.cell? ⟨g, 0, none⟩ = some v0 ∧ W.cell? ⟨g, 1, none⟩ = some v1 ∧ W.cell? ⟨g, 2, none⟩ = some v2 ∧ W.cell? ⟨g, 3, none⟩ = some v3 ∧ W.cell? ⟨g, 4, none⟩ = some v4 ∧ W.cell? ⟨g, 5, none⟩ = some v5) :
    W'.cell? ⟨g, 0, none⟩ = some v0 ∧ W'.cell? ⟨g, 1, none⟩ = some v1 ∧ W'.cell? ⟨g, 2, none⟩ = some v2 ∧ W'.cell? ⟨g, 3, none⟩ = some v3 ∧ W'.cell? ⟨g, 4, none⟩ = some v4 ∧ W'.cell? ⟨g, 5, none⟩ = some v5 :=
  ⟨(hb.cell (World.block_lt_of_cell? _ _ h.1)).trans h.1, (hb.cell (World.block_lt_of_cell? _ _ h.2.1)).trans h.2.1, (hb.cell (World.block_lt_of_cell? _ _ h.2.2.1)).trans h.2.2.1, (hb.cell (World.block_lt_of_cell? _ _ h.2.2.2.1)).trans h.2.2.2.1, (hb.cell (World.block_lt_of_cell? _ _ h.2.2.2.2.1)).trans h.2.2.2.2.1, (hb.cell (World.block_lt_of_cell? _ _ h.2.2.2.2.2)).trans h.2.2.2.2.2⟩
theorem token_no (p : Option Addr) (c : Cf) (t : Int) (w : World) (hp : MdAt w p c) (hb : t < 0 ∨ c.vocab ≤ t) (v0 : 0 ≤ c.vocab) (v1 : c.vocab ≤ 64) :
    Calls Tryz.prog 46 #[.pointer p, .int .i64 t] w fun e w' => e = .returned (.slice none 0 0) ∧ Below w.heap.size w w' := by
  have hC := config_any p c w hp
  obtain ⟨s, v, d, l, tt, h⟩ := c
  clear hp
  unfold CfV at hC
  simp only at hC hb v0 v1
  have hb : btw t 0 (v - 1) = false := btw_no.2 (by omega)
  go_enter Tryz.func46, Tryz.ntmps46
  go_wp2_with fail
  refine hC.mono ?_
  rintro e w1 ⟨rfl, hb1⟩
  have HB1 := hid hb1
  clear hb1 hC
  go_wp2_with fail
  refine (mbetween_any _ _ _ _).mono ?_
  rintro e w' ⟨rfl, rfl⟩
  rw [hb]
  go_wp2
  go_ret
  exact ⟨rfl, HB1.out.alloc HB1.out.size _⟩
theorem token_yes (p : Option Addr) (s v l tt h t : Int) (D : Nat) (w : World) (hp : MdAt w p ⟨s, v, D, l, tt, h⟩) (t0 : 0 ≤ t) (t1 : t < v) (v1 : v ≤ 64) (hD : D ≤ 16) :
    Calls Tryz.prog 46 #[.pointer p, .int .i64 t] w fun e w' => Made w D (rowK (fun k => weightZ s 0 t k) D) e w' := by
  have hC := config_any p _ w hp
  have HT := hid fun W => tableof_any ⟨s, v, D, l, tt, h⟩ 0 W (by omega) (by omega)
  have HR := hid fun W => makerow_any 67 (.agg #[.int .u64 (deriveZ s [0])]) (enters_of Tryz.func67 (by kernel_rfl) rfl) t D W (by omega) (fun k => weightZ s 0 t k) fun k wr hk hb => weight_any s 0 t k wr t0 (by omega) (by omega) (by omega)
  generalize rowK (fun k => weightZ s 0 t k) D = row at *
  clear hp
  unfold CfV at hC HT
  simp only at hC HT
  generalize deriveZ s [0] = x at *
  have hb : btw t 0 (v - 1) = true := btw_iff.2 (by omega)
  go_enter Tryz.func46, Tryz.ntmps46
  go_wp2_with fail
  refine hC.mono ?_
  rintro e w1 ⟨rfl, hb1⟩
  have HB1 := hid hb1
  have HN : Hid ((w1.alloc (.cells (CfV ⟨s, v, D, l, tt, h⟩) 24)).heap[w1.heap.size]? = some (.cells (CfV ⟨s, v, D, l, tt, h⟩) 24)) := heap_alloc_new w1 _
  have HK := hid (Cf_cells HN.out)
  unfold CfV at HK
  simp only at HK
  clear hb1 hC HN
  go_wp2_with fail
  refine (mbetween_any _ _ _ _).mono ?_
  rintro e w' ⟨rfl, rfl⟩
  rw [hb]
  have HB2 : Hid (Below w.heap.size w (w1.alloc (.cells #[.int .u64 s, .int .i64 v, .int .i64 D, .int .i64 l, .int .i64 tt, .int .i64 h] 24))) := HB1.out.alloc HB1.out.size _
  generalize hW : w1.alloc (.cells #[.int .u64 s, .int .i64 v, .int .i64 D, .int .i64 l, .int .i64 tt, .int .i64 h] 24) = W2 at *
  clear hW HB1
  go_wp2_with fail
  go_region_held3 (fun W : World => W.cell? ⟨w1.heap.size, 0, none⟩ = some (.int .u64 s) ∧ W.cell? ⟨w1.heap.size, 1, none⟩ = some (.int .i64 v) ∧ W.cell? ⟨w1.heap.size, 2, none⟩ = some (.int .i64 D) ∧ W.cell? ⟨w1.heap.size, 3, none⟩ = some (.int .i64 l) ∧ W.cell? ⟨w1.heap.size, 4, none⟩ = some (.int .i64 tt) ∧ W.cell? ⟨w1.heap.size, 5, none⟩ = some (.int .i64 h))
    (first | exact HK.out | exact Cf_keep hb4 (by assumption) | exact Cf_keep hb3 (by assumption))
    (first | (go_at_call 66; refine (HT.out _).mono ?_; rintro e w3 ⟨rfl, hb3⟩) | (go_at_call 65; refine (HR.out _).mono ?_; rintro e w4 ⟨g, c, rfl, hO, hb4⟩))
  have HB3 := hid (HB2.out.drew.trans (hb3.mono HB2.out.size))
  have HO := hid (hO.low HB3.out.size)
  have HB4 := hid (HB3.out.trans (hb4.mono HB3.out.size))
  clear hO hb3 hb4 HB2 HB3 HT HR HK
  go_wp2
  go_ret
  exact ⟨_, _, rfl, HO.out, HB4.out⟩
theorem place_off (p : Option Addr) (c : Cf) (t : Int) (w : World) (hp : MdAt w p c) (hb : mayB c = false) :
    Calls Tryz.prog 47 #[.pointer p, .int .i64 t] w fun e w' => e = .returned (.slice none 0 0) ∧ Below w.heap.size w w' := by
  have hC := config_any p c w hp
  have HM := hid (may_any c)
  obtain ⟨s, v, d, l, tt, h⟩ := c
  rw [hb] at HM
  clear hp hb
  unfold CfV at hC HM
  simp only at hC HM
  go_enter Tryz.func47, Tryz.ntmps47
  go_wp2_with fail
  refine hC.mono ?_
  rintro e w1 ⟨rfl, hb1⟩
  have HB1 := hid hb1
  clear hb1 hC
  go_wp2_with fail
  refine (HM.out _).mono ?_
  rintro e w2 ⟨rfl, hb2⟩
  have HB2 := hid ((HB1.out.alloc HB1.out.size _).trans (hb2.mono (Nat.le_trans HB1.out.size (by simp))))
  clear HB1 hb2 HM
  go_wp2
  go_ret
  exact ⟨rfl, HB2.out⟩
theorem place_no (p : Option Addr) (c : Cf) (t : Int) (w : World) (hp : MdAt w p c) (hm : mayB c = true) (hb : t < 0 ∨ 256 ≤ t) :
    Calls Tryz.prog 47 #[.pointer p, .int .i64 t] w fun e w' => e = .returned (.slice none 0 0) ∧ Below w.heap.size w w' := by
  have hC := config_any p c w hp
  have HM := hid (may_any c)
  obtain ⟨s, v, d, l, tt, h⟩ := c
  rw [hm] at HM
  clear hp hm
  have hb : btw t 0 255 = false := btw_no.2 (by omega)
  unfold CfV at hC HM
  simp only at hC HM
  go_enter Tryz.func47, Tryz.ntmps47
  go_wp2_with fail
  refine hC.mono ?_
  rintro e w1 ⟨rfl, hb1⟩
  have HB1 := hid hb1
  clear hb1 hC
  go_wp2_with fail
  refine (HM.out _).mono ?_
  rintro e w2 ⟨rfl, hb2⟩
  have HB2 := hid ((HB1.out.alloc HB1.out.size _).trans (hb2.mono (Nat.le_trans HB1.out.size (by simp))))
  clear HB1 hb2 HM
  go_wp2_with fail
  refine (mbetween_any _ _ _ _).mono ?_
  rintro e w' ⟨rfl, rfl⟩
  rw [hb]
  go_wp2
  go_ret
  exact ⟨rfl, HB2.out⟩
theorem place_yes (p : Option Addr) (s v l tt h t : Int) (D : Nat) (w : World) (hp : MdAt w p ⟨s, v, D, l, tt, h⟩) (hm : mayB ⟨s, v, D, l, tt, h⟩ = true) (t0 : 0 ≤ t) (t1 : t < 256) (hD : D ≤ 16) :
    Calls Tryz.prog 47 #[.pointer p, .int .i64 t] w fun e w' => Made w D (rowK (fun k => mulZ (weightZ s 1 t k) 16384) D) e w' := by
  have hC := config_any p _ w hp
  have HM := hid (may_any ⟨s, v, D, l, tt, h⟩)
  rw [hm] at HM
  have HT := hid fun W => tableof_any ⟨s, v, D, l, tt, h⟩ 1 W (by omega) (by omega)
  have HR := hid fun W => makerow_any 68 (.agg #[.int .u64 (deriveZ s [1])]) (enters_of Tryz.func68 (by kernel_rfl) rfl) t D W (by omega) (fun k => mulZ (weightZ s 1 t k) 16384) fun k wr hk hb => placeweight_any s 1 t k wr t0 (by omega) (by omega) (by omega)
  generalize rowK (fun k => mulZ (weightZ s 1 t k) 16384) D = row at *
  clear hp hm
  unfold CfV at hC HT HM
  simp only at hC HT HM
  generalize deriveZ s [1] = x at *
  have hb : btw t 0 255 = true := btw_iff.2 (by omega)
  go_enter Tryz.func47, Tryz.ntmps47
  go_wp2_with fail
  refine hC.mono ?_
  rintro e w1 ⟨rfl, hb1⟩
  have HB1 := hid hb1
  have HN : Hid ((w1.alloc (.cells (CfV ⟨s, v, D, l, tt, h⟩) 24)).heap[w1.heap.size]? = some (.cells (CfV ⟨s, v, D, l, tt, h⟩) 24)) := heap_alloc_new w1 _
  have HK := hid (Cf_cells HN.out)
  unfold CfV at HK
  simp only at HK
  clear hb1 hC HN
  go_wp2_with fail
  refine (HM.out _).mono ?_
  rintro e W2 ⟨rfl, hb2⟩
  have HB2 := hid ((HB1.out.alloc HB1.out.size _).trans (hb2.mono (Nat.le_trans HB1.out.size (by simp))))
  replace HK := hid (Cf_keep hb2 HK.out)
  clear HB1 hb2 HM
  go_wp2_with fail
  refine (mbetween_any _ _ _ _).mono ?_
  rintro e w' ⟨rfl, rfl⟩
  rename World => W2
  rw [hb]
  go_wp2_with fail
  go_region_held3 (fun W : World => W.cell? ⟨w1.heap.size, 0, none⟩ = some (.int .u64 s) ∧ W.cell? ⟨w1.heap.size, 1, none⟩ = some (.int .i64 v) ∧ W.cell? ⟨w1.heap.size, 2, none⟩ = some (.int .i64 D) ∧ W.cell? ⟨w1.heap.size, 3, none⟩ = some (.int .i64 l) ∧ W.cell? ⟨w1.heap.size, 4, none⟩ = some (.int .i64 tt) ∧ W.cell? ⟨w1.heap.size, 5, none⟩ = some (.int .i64 h))
    (first | exact HK.out | exact Cf_keep hb4 (by assumption) | exact Cf_keep hb3 (by assumption))
    (first | (go_at_call 66; refine (HT.out _).mono ?_; rintro e w3 ⟨rfl, hb3⟩) | (go_at_call 65; refine (HR.out _).mono ?_; rintro e w4 ⟨g, c, rfl, hO, hb4⟩))
  have HB3 := hid (HB2.out.drew.trans (hb3.mono HB2.out.size))
  have HO := hid (hO.low HB3.out.size)
  have HB4 := hid (HB3.out.trans (hb4.mono HB3.out.size))
  clear hO hb3 hb4 HB2 HB3 HT HR HK
  go_wp2
  go_ret
  exact ⟨_, _, rfl, HO.out, HB4.out⟩
theorem rows_no (p : Option Addr) (c : Cf) (la wh : Int) (w : World) (hp : MdAt w p c) (hb : (la < 0 ∨ c.layers ≤ la) ∨ (wh < 0 ∨ 5 < wh)) (v0 : 0 ≤ c.layers) (v1 : c.layers ≤ 4) :
    Calls Tryz.prog 108 #[.pointer p, .int .i64 la, .int .i64 wh] w fun e w' => e = .returned (.slice none 0 0) ∧ Below w.heap.size w w' := by
  have hC := config_any p c w hp
  obtain ⟨s, v, d, l, tt, h⟩ := c
  clear hp
  unfold CfV at hC
  simp only at hC hb v0 v1
  by_cases h1 : la < 0 ∨ l ≤ la
  · have hb : btw la 0 (l - 1) = false := btw_no.2 (by omega)
    clear h1
    go_enter Tryz.func108, Tryz.ntmps108
    go_wp2_with fail
    refine hC.mono ?_
    rintro e w1 ⟨rfl, hb1⟩
    have HB1 := hid hb1
    clear hb1 hC
    go_wp2_with fail
    refine (mbetween_any _ _ _ _).mono ?_
    rintro e w' ⟨rfl, rfl⟩
    rw [hb]
    go_wp2
    go_ret
    exact ⟨rfl, HB1.out.alloc HB1.out.size _⟩
  · have hb1 : btw la 0 (l - 1) = true := btw_iff.2 (by omega)
    have hb2 : btw wh 0 5 = false := btw_no.2 (by omega)
    clear h1 hb
    go_enter Tryz.func108, Tryz.ntmps108
    go_wp2_with fail
    refine hC.mono ?_
    rintro e w1 ⟨rfl, hbl⟩
    have HB1 := hid hbl
    clear hbl hC
    go_wp2_with fail
    refine (mbetween_any _ _ _ _).mono ?_
    rintro e w' ⟨rfl, rfl⟩
    rw [hb1]
    go_wp2_with fail
    refine (mbetween_any _ _ _ _).mono ?_
    rintro e w' ⟨rfl, rfl⟩
    rw [hb2]
    go_wp2
    go_ret
    exact ⟨rfl, HB1.out.alloc HB1.out.size _⟩
end Go.Proofs.YtahpilgbabjebaaGreat
namespace Go.Proofs.YtahpilgbabjebaaGreat
open Go.RowKit
set_option linter.unusedVariables false
set_option maxRecDepth 1000000

theorem wrap_in {n : Int} (h0 : -9223372036854775808 ≤ n) (h1 : n ≤ 9223372036854775807) : IntKind.i64.wrap n = n := by
  rw [IntKind.wrap_i64]; omega
theorem rows_yes (p : Option Addr) (s v l tt h la wh : Int) (D : Nat) (w : World) (hp : MdAt w p ⟨s, v, D, l, tt, h⟩) (l0 : 0 ≤ la) (l1 : la < l) (l2 : l ≤ 4) (k0 : 0 ≤ wh) (k1 : wh ≤ 5) (hD : D ≤ 16) :
    Calls Tryz.prog 108 #[.pointer p, .int .i64 la, .int .i64 wh] w fun e w' => MadeT w D D (fun r => rowK (fun k => weightZ s (2 + 6 * la + wh) r k) D) e w' := by
  have hC := config_any p _ w hp
  have HT := hid fun W => tableof_any ⟨s, v, D, l, tt, h⟩ (2 + 6 * la + wh) W (by omega) (by omega)
  have HR := hid fun W => makerows_any 67 (.agg #[.int .u64 (deriveZ s [2 + 6 * la + wh])]) (enters_of Tryz.func67 (by kernel_rfl) rfl) D D W (by omega) (by omega) (fun r k => weightZ s (2 + 6 * la + wh) r k) fun r k wr hr hk hb => weight_any s _ r k wr (by omega) (by omega) (by omega) (by omega)
  generalize (fun r : Nat => rowK (fun k => weightZ s (2 + 6 * la + wh) r k) D) = F at *
  clear hp
  unfold CfV at hC HT
  simp only at hC HT
  generalize deriveZ s [2 + 6 * la + wh] = x at *
  have hw : 2 + 6 * la + wh = IntKind.i64.wrap (IntKind.i64.wrap (2 + IntKind.i64.wrap (6 * la)) + wh) := by
    rw [wrap_in (n := 6 * la) (by omega) (by omega), wrap_in (n := 2 + 6 * la) (by omega) (by omega), wrap_in (by omega) (by omega)]
  rw [hw] at HT
  clear hw
  have hb1 : btw la 0 (l - 1) = true := btw_iff.2 (by omega)
  have hb2 : btw wh 0 5 = true := btw_iff.2 (by omega)
  go_enter Tryz.func108, Tryz.ntmps108
  go_wp2_with fail
  refine hC.mono ?_
  rintro e w1 ⟨rfl, hbl⟩
  have HB1 := hid hbl
  have HN : Hid ((w1.alloc (.cells (CfV ⟨s, v, D, l, tt, h⟩) 24)).heap[w1.heap.size]? = some (.cells (CfV ⟨s, v, D, l, tt, h⟩) 24)) := heap_alloc_new w1 _
  have HK := hid (Cf_cells HN.out)
  unfold CfV at HK
  simp only at HK
  clear hbl hC HN
  go_wp2_with fail
  refine (mbetween_any _ _ _ _).mono ?_
  rintro e w' ⟨rfl, rfl⟩
  rw [hb1]
  go_wp2_with fail
  refine (mbetween_any _ _ _ _).mono ?_
  rintro e w' ⟨rfl, rfl⟩
  rw [hb2]
  have HB2 : Hid (Below w.heap.size w (w1.alloc (.cells #[.int .u64 s, .int .i64 v, .int .i64 D, .int .i64 l, .int .i64 tt, .int .i64 h] 24))) := HB1.out.alloc HB1.out.size _
  generalize hW : w1.alloc (.cells #[.int .u64 s, .int .i64 v, .int .i64 D, .int .i64 l, .int .i64 tt, .int .i64 h] 24) = W2 at *
  clear hW HB1
  go_wp2_with fail
  go_region_held3 (fun W : World => W.cell? ⟨w1.heap.size, 0, none⟩ = some (.int .u64 s) ∧ W.cell? ⟨w1.heap.size, 1, none⟩ = some (.int .i64 v) ∧ W.cell? ⟨w1.heap.size, 2, none⟩ = some (.int .i64 D) ∧ W.cell? ⟨w1.heap.size, 3, none⟩ = some (.int .i64 l) ∧ W.cell? ⟨w1.heap.size, 4, none⟩ = some (.int .i64 tt) ∧ W.cell? ⟨w1.heap.size, 5, none⟩ = some (.int .i64 h))
    (first | exact HK.out | exact Cf_keep hb4 (by assumption) | exact Cf_keep hb3 (by assumption))
    (first | (go_at_call 66; refine (HT.out _).mono ?_; rintro e w3 ⟨rfl, hb3⟩) | (go_at_call 137; refine (HR.out _).mono ?_; rintro e w4 ⟨G, hs, rfl, hU⟩; have hb4 := hU.old))
  have HB3 := hid (HB2.out.drew.trans (hb3.mono HB2.out.size))
  have HU := hid (hU.low HB3.out)
  clear hU hb3 hb4 HB2 HB3 HT HR HK
  go_wp2
  go_ret
  exact ⟨_, _, rfl, HU.out⟩
end Go.Proofs.YtahpilgbabjebaaGreat
namespace Go.Proofs.YtahpilgbabjebaaGreat
open Go.RowKit
set_option linter.unusedVariables false
set_option maxRecDepth 1000000

/-- The slice's block is one of numbers. -/
def BlI (w : World) (a : Option Addr) : Prop := ∀ p, a = some p → ∃ cur fz, w.heap[p.block]? = some (.cells cur 2 fz)
theorem BlI.none (w : World) : BlI w none := fun p h => by cases h
theorem BlI.below {w w' : World} {a : Option Addr} (h : BlI w a) (hb : Below w.heap.size w w') : BlI w' a := fun p hp => by
  obtain ⟨cur, fz, hc⟩ := h p hp
  exact ⟨cur, fz, (hb.block _ (lt_of_block hc)).trans hc⟩
theorem BlI.own {w : World} {B n l c : Nat} {a : Option Addr} {xs : List Value} (h : w.ownsRow B 2 1 (.slice a l c) n xs) : BlI w a := by
  rcases h.2 with ⟨h', _⟩ | ⟨g, cap, cur, h', _, hg, _⟩
  · cases h'; exact BlI.none w
  · cases h'; intro p hp; cases hp; exact ⟨cur, (0, 0), hg⟩
/-- A row of the call's own, whose cells are these slices, and they read as these lists. -/
structure RowsI (w : World) (base : Nat) (v : Value) (n : Nat) (hs : List Hd) (ls : List (List Int)) : Prop where
  own : w.ownsRow base 70 1 v n (hs.map hdV)
  size : ls.length = n
  rows : ∀ j, j < n → Reads .i64 w (hs[j]?.getD (none, 0, 0)).1 (hs[j]?.getD (none, 0, 0)).2.1 (hs[j]?.getD (none, 0, 0)).2.2 (ls[j]?.getD []) ∧ BlI w (hs[j]?.getD (none, 0, 0)).1 ∧ (hs[j]?.getD (none, 0, 0)).2.1 ≤ 1000
theorem RowsI.nil (w : World) (base : Nat) : RowsI w base (.slice none 0 0) 0 [] [] := ⟨World.ownsRow_nil _ _ _ _, rfl, fun j hj => by omega⟩
theorem RowsI.below {w w' : World} {base : Nat} {v : Value} {n : Nat} {hs : List Hd} {ls : List (List Int)} (h : RowsI w base v n hs ls) (hb : Below w.heap.size w w') : RowsI w' base v n hs ls :=
  ⟨own_below h.own hb, h.size, fun j hj => ⟨(h.rows j hj).1.below hb, (h.rows j hj).2.1.below hb, (h.rows j hj).2.2⟩⟩
theorem RowsI.tbl {w : World} {base : Nat} {v : Value} {n : Nat} {hs : List Hd} {ls : List (List Int)} (h : RowsI w base v n hs ls) : ∃ a c, v = .slice a n c ∧ Tbl w a n c hs ls := by
  have hl : hs.length = n := by have := h.own.1; simpa using this
  rcases id h.own.2 with ⟨rfl, rfl⟩ | ⟨g, cap, cur, rfl, hb, hg, hnc, hm, hs', ht⟩
  · exact ⟨none, 0, rfl, ⟨hl, Nat.le_refl _, by omega, fun _ => ⟨rfl, rfl⟩, fun i hi => by omega⟩, fun i hi => (h.rows i hi).1, fun i hi => (h.rows i hi).2.2⟩
  · refine ⟨some ⟨g, 0, none⟩, cap, rfl, ⟨hl, hnc, by unfold maxLen at hm; omega, (fun e => by cases e), fun i hi => ⟨g, 0, rfl, ?_⟩⟩, fun i hi => (h.rows i hi).1, fun i hi => (h.rows i hi).2.2⟩
    have := World.ownsRow.cellAt h.own i (by omega)
    rw [Nat.zero_add, this]
    simp [(by omega : i < hs.length), hdV]
/-- A slice of numbers stays while a row of slices grows. -/
theorem Reads.kept {w w' : World} {base : Nat} {v : Value} {n : Nat} {vals : List Value} {a : Option Addr} {l c : Nat} {zs : List Int} (ho : w.ownsRow base 70 1 v n vals) (hg : w.grownBy w' v.ownBlock)
    (hr : Reads .i64 w a l c zs) (h5 : BlI w a) : Reads .i64 w' a l c zs ∧ BlI w' a := by
  have key : ∀ p, a = some p → w'.heap[p.block]? = w.heap[p.block]? := by
    intro p hp
    obtain ⟨cur, fz, hc⟩ := h5 p hp
    refine hg.block p.block (lt_of_block hc) ?_
    intro e
    rcases ho.2 with ⟨rfl, _⟩ | ⟨g, cap, cur', rfl, _, hgb, _⟩
    · simp [Value.ownBlock] at e
    · simp [Value.ownBlock] at e
      rw [e, hgb] at hc
      simp at hc
  refine ⟨⟨hr.size, hr.room, hr.most, hr.bare, fun i hi => ?_⟩, fun p hp => ?_⟩
  · obtain ⟨b, off, ha, hc⟩ := hr.cell i hi
    exact ⟨b, off, ha, (World.cell?_of_block (a := ⟨b, off + i, none⟩) (key ⟨b, off, none⟩ ha)).trans hc⟩
  · obtain ⟨cur, fz, hc⟩ := h5 p hp
    exact ⟨cur, fz, (key p hp).trans hc⟩
/-- An append of one slice to a row of slices of the call's own. -/
theorem append_rowI {P : Program} (w : World) {ops : Array Oper} {rest : List Oper} {o : Oper} {a : Act} {Q : Exit → Act → World → Prop} (hgd : o.guard = none) (s x : Operand) (t : TypeId)
    (ho : o.op = .call { callee := .builtin .append, args := #[s, x], argTypes := #[t, t] })
    (base : Nat) (i : TypeInfo) (ht : P.underlying t = some (.slice 70)) (hi : P.info? 70 = some i) (hz : i.zero = some (.slice none 0 0)) (hsize : i.size = 1) (hby : i.bytes = 24)
    (v : Value) (n : Nat) (hs : List Hd) (ls : List (List Int)) (hv : a.eval s = v) (hown : RowsI w base v n hs ls) (hn : n ≤ 100000)
    (B : Nat) (y : Hd) (zs : List Int) (hx : a.eval x = .slice (some ⟨B, 0, none⟩) 1 1) (hc : w.cell? ⟨B, 0, none⟩ = some (.slice y.1 y.2.1 y.2.2)) (hr : Reads .i64 w y.1 y.2.1 y.2.2 zs) (h5 : BlI w y.1) (hy : y.2.1 ≤ 1000)
    (hbase : base ≤ w.heap.size)
    (h : ∀ v' w', RowsI w' base v' (n + 1) (hs ++ [y]) (ls ++ [zs]) → Below base w w' → wpList P ops Q rest (a.put o.dst v') w') : wpList P ops Q (o :: rest) a w := by
  have hlen : hs.length = n := by have := hown.own.1; simpa using this
  refine wpList_append_own w hgd s x t ho base 70 i (.slice none 0 0) 1 24 ht hi hz hsize hby rfl (by decide) v n _ hv hown.own ⟨B, 0, none⟩ 1 1 [hdV y] hx rfl ?_ ?_ (by unfold maxLen; omega) (by omega) hbase ?_
  · intro j u hu
    rcases j with _ | j
    · simp at hu
      rw [Addr.add_lit, Nat.zero_add, hc, ← hu]
      rfl
    · simp at hu
  · intro u hu
    simp at hu
    subst hu
    rfl
  · intro v' w' h1 h2 _
    refine h v' w' ⟨by rw [List.map_append]; exact h1, by simp [hown.size], fun j hj => ?_⟩ ((Below.refl _ _).grown h2 hbase fun g hg => (hown.own.lt g hg).1)
    have hsz := hown.size
    rcases Nat.lt_or_ge j n with hj' | hj'
    · obtain ⟨e2, e3, e4⟩ := hown.rows j hj'
      obtain ⟨k1, k2⟩ := Reads.kept hown.own h2 e2 e3
      rw [List.getElem?_append_left (by omega), List.getElem?_append_left (by omega)]
      exact ⟨k1, k2, e4⟩
    · obtain rfl : j = n := by omega
      obtain ⟨k1, k2⟩ := Reads.kept hown.own h2 hr h5
      rw [List.getElem?_append_right (by omega), List.getElem?_append_right (by omega)]
      simp only [hlen, hsz, Nat.sub_self, List.getElem?_cons_zero, Option.getD_some]
      exact ⟨k1, k2, hy⟩
theorem tblK_len (F : Nat → List Int) (n : Nat) : (tblK F n).length = n := by simp [tblK]
theorem tblK_snoc (F : Nat → List Int) (n : Nat) : tblK F n ++ [F n] = tblK F (n + 1) := by unfold tblK; rw [List.range_succ, List.map_append]; rfl
/-- Of a row's places the first k are turned. -/
def overK (f h : Nat → Int) (k n : Nat) : List Int := rowK (fun j => if j < k then h j else f j) n
theorem overK_0 (f h : Nat → Int) (n : Nat) : overK f h 0 n = rowK f n := by unfold overK; congr 1
theorem rowK_at (f : Nat → Int) {n i : Nat} (hi : i < n) : (rowK f n)[i]?.getD 0 = f i := by simp [rowK, hi]
theorem overK_at (f h : Nat → Int) {k n : Nat} (hk : k < n) : (overK f h k n)[k]?.getD 0 = f k := by unfold overK; rw [rowK_at _ hk]; simp
theorem overK_set (f h : Nat → Int) {k n : Nat} (hk : k < n) : (overK f h k n).set k (h k) = overK f h (k + 1) n := by
  apply List.ext_getElem?
  intro i
  unfold overK rowK
  by_cases e : k = i
  · subst e; simp [hk]
  · rw [List.getElem?_set_ne e]
    by_cases hi : i < n
    · simp only [List.getElem?_map, List.getElem?_range hi, Option.map_some]
      by_cases h1 : i < k
      · rw [if_pos h1, if_pos (by omega)]
      · rw [if_neg h1, if_neg (by omega)]
    · simp [hi]
theorem overK_all (f h : Nat → Int) (n : Nat) : overK f h n n = rowK h n := by
  unfold overK rowK
  apply List.map_congr_left
  intro i hi
  simp at hi
  simp [hi]
end Go.Proofs.YtahpilgbabjebaaGreat
namespace Go.Proofs.YtahpilgbabjebaaGreat
open Go.RowKit
set_option linter.unusedVariables false
set_option maxRecDepth 1000000

/-- The call hands back a row of its own. -/
def GivesO (w : World) (n : Nat) (xs : List Int) (e : Ending) (w' : World) : Prop := ∃ v, e = .returned v ∧ w'.ownsRow w.heap.size 2 1 v n (xs.map (Value.int .i64)) ∧ Below w.heap.size w w'
theorem GivesO.gives {w w' : World} {n : Nat} {xs : List Int} {e : Ending} (h : GivesO w n xs e w') : Gives w n xs e w' := by
  obtain ⟨v, rfl, h1, h2⟩ := h
  exact gives_own h1 h2
theorem own_base {base base' e size n : Nat} {v : Value} {xs : List Value} {w : World} (h : w.ownsRow base e size v n xs) (hb : base' ≤ base) : w.ownsRow base' e size v n xs := by
  refine ⟨h.1, ?_⟩
  rcases h.2 with h' | ⟨g', c, cur, hv, hB, rest⟩
  · exact .inl h'
  · exact .inr ⟨g', c, cur, hv, Nat.le_trans hb hB, rest⟩

set_option maxHeartbeats 1000000 in
theorem rrow_any (s v l tt h t r : Int) (D : Nat) (w : World) (t0 : 0 ≤ t) (t1 : t ≤ 1000) (r0 : 0 ≤ r) (r1 : r ≤ 1000) (hD : D ≤ 16) :
    Calls Tryz.prog 54 #[.agg (CfV ⟨s, v, D, l, tt, h⟩), .int .i64 t, .int .i64 r] w fun e w' => GivesO w D (rowK (fun k => weightZ s t r k) D) e w' := by
  obtain ⟨i0, hi, hz0, hz1, hz2⟩ := info_parts Tryz.info2
  obtain ⟨f, hf⟩ : ∃ f : Nat → Int, f = fun (k : Nat) => weightZ s t r k := ⟨_, rfl⟩
  rw [← hf]
  have HC : Hid (∀ (k : Nat) (W : World), k < D → Calls Tryz.prog 96 #[.int .u64 s, .int .i64 t, .int .i64 r, .int .i64 k] W fun e w' => e = .returned (.int .i64 (f k)) ∧ Below W.heap.size W w') := by
    intro k W hk
    rw [hf]
    exact rweight_any s t r k W t0 t1 r0 r1 (by omega) (by omega)
  have HK := hid fun (W : World) (hb : Below (w.heap.size + 1) (w.alloc (.cells (CfV ⟨s, v, D, l, tt, h⟩) 24)) W) => Cf_cells ((hb.block w.heap.size (by omega)).trans (heap_alloc_new w _))
  have HB0 : Hid (∀ W, Below (w.heap.size + 1) (w.alloc (.cells (CfV ⟨s, v, D, l, tt, h⟩) 24)) W → w.heap.size + 1 ≤ W.heap.size ∧ Below w.heap.size w W) := fun W hb =>
    ⟨by have := hb.size; simpa using this, ((Below.refl _ _).alloc (Nat.le_refl _) _).trans (hb.mono (by omega))⟩
  clear hf
  unfold CfV at HK HB0 ⊢
  simp only at HK HB0 ⊢
  go_enter Tryz.func54, Tryz.ntmps54
  go_wp2_with fail
  go_loopw [7, 8] (fun u i W => ∃ k : Nat, k ≤ D ∧ i = .int .i64 k ∧ Hid (W.ownsRow (w.heap.size + 1) 2 1 u k ((rowK f k).map (Value.int .i64))) ∧ Hid (Below (w.heap.size + 1) (w.alloc (.cells #[.int .u64 s, .int .i64 v, .int .i64 D, .int .i64 l, .int .i64 tt, .int .i64 h] 24)) W)) (fun _ i _ => D - (intOf i).toNat)
  case atStart => exact ⟨0, Nat.zero_le _, rfl, World.ownsRow_nil _ _ _ _, Below.refl _ _⟩
  case round =>
    obtain ⟨k, hk, rfl, HO, HW⟩ := hrel
    obtain ⟨c0, c1, c2, c3, c4, c5⟩ := HK.out wr HW.out
    by_cases hlt : k < D
    · have hC := HC.out k wr hlt
      have q1 : (k : Int) < (D : Int) := by omega
      have HE := hid (rowK_snoc f k)
      clear HC HK
      generalize f k = x at *
      generalize rowK f k = us at *
      go_wp2_with fail
      refine hC.mono ?_
      rintro e w2 ⟨rfl, hb2⟩
      have HO2 := hid (own_below HO.out hb2)
      have HW2 := hid (HW.out.trans (hb2.mono (HB0.out _ HW.out).1))
      have HS : Hid (w.heap.size + 1 ≤ w2.heap.size) := (HB0.out _ HW2.out).1
      clear hb2 hC c0 c1 c2 c3 c4 c5 HO HW
      go_wp2_with (at_builtin; refine append_any _ rfl (.tmp 15) (.tmp 22) 70 rfl (w.heap.size + 1) 2 i0 (.int .i64 0) 8 Tryz.underlying70 hi hz0 hz1 hz2 rfl .i64 _ k us rfl (HO2.out.alloc _) _ 1 1 [x] rfl (Reads.one _ _ _) (by omega) (by omega) (Nat.le_trans HS.out (by simp)) ?_; intro v' w3 hO3 hb3)
      have HB3 := hid ((HW2.out.alloc HS.out _).trans hb3)
      have HO3 : Hid (w3.ownsRow (w.heap.size + 1) 2 1 v' (k + 1) ((rowK f (k + 1)).map (Value.int .i64))) := by rw [← HE.out]; exact hO3
      clear hO3 hb3 HE HO2 HW2 HS
      go_wp2_with fail
      go_round
      case rel => exact ⟨k + 1, by omega, by go_num, HO3, HB3⟩
      case measure => simp [intOf]; omega
    · obtain rfl : k = D := by omega
      clear HC HK
      go_wp2
      go_ret
      exact ⟨_, rfl, own_base HO.out (by omega), (HB0.out _ HW.out).2⟩

theorem rtoken_no (c : Cf) (t : Int) (w : World) (hb : t < 0 ∨ c.vocab ≤ t) :
    Calls Tryz.prog 36 #[.agg (CfV c), .int .i64 t] w fun e w' => e = .returned (.slice none 0 0) ∧ Below w.heap.size w w' := by
  obtain ⟨s, v, d, l, tt, h⟩ := c
  unfold CfV
  simp only at hb ⊢
  have HB : Hid (Below w.heap.size w (w.alloc (.cells #[.int .u64 s, .int .i64 v, .int .i64 d, .int .i64 l, .int .i64 tt, .int .i64 h] 24))) := (Below.refl _ _).alloc (Nat.le_refl _) _
  by_cases h1 : t < 0
  · clear hb
    go_enter Tryz.func36, Tryz.ntmps36
    go_wp2
    go_ret
    exact ⟨rfl, HB.out⟩
  · have h2 : v ≤ t := by omega
    clear hb
    go_enter Tryz.func36, Tryz.ntmps36
    go_wp2
    go_ret
    exact ⟨rfl, HB.out⟩
theorem rtoken_yes (s v l tt h t : Int) (D : Nat) (w : World) (t0 : 0 ≤ t) (t1 : t < v) (v1 : v ≤ 64) (hD : D ≤ 16) :
    Calls Tryz.prog 36 #[.agg (CfV ⟨s, v, D, l, tt, h⟩), .int .i64 t] w fun e w' => GivesO w D (rowK (fun k => weightZ s 0 t k) D) e w' := by
  have hC := rrow_any s v l tt h 0 t D (w.alloc (.cells (CfV ⟨s, v, D, l, tt, h⟩) 24)) (by omega) (by omega) t0 (by omega) hD
  have HB : Hid (Below w.heap.size w (w.alloc (.cells (CfV ⟨s, v, D, l, tt, h⟩) 24))) := (Below.refl _ _).alloc (Nat.le_refl _) _
  generalize rowK (fun k => weightZ s 0 t k) D = row at *
  unfold CfV at *
  simp only at hC HB ⊢
  go_enter Tryz.func36, Tryz.ntmps36
  go_wp2_with fail
  refine hC.mono ?_
  rintro e w1 ⟨v', rfl, hO, hb⟩
  have HO := hid (own_base hO HB.out.size)
  have HB1 := hid (HB.out.trans (hb.mono HB.out.size))
  clear hO hb hC HB
  go_wp2
  go_ret
  exact ⟨_, rfl, HO.out, HB1.out⟩
theorem rplace_no (c : Cf) (t : Int) (w : World) (hb : t < 0 ∨ 256 ≤ t) :
    Calls Tryz.prog 37 #[.agg (CfV c), .int .i64 t] w fun e w' => e = .returned (.slice none 0 0) ∧ Below w.heap.size w w' := by
  obtain ⟨s, v, d, l, tt, h⟩ := c
  unfold CfV
  simp only at hb ⊢
  have HB : Hid (Below w.heap.size w (w.alloc (.cells #[.int .u64 s, .int .i64 v, .int .i64 d, .int .i64 l, .int .i64 tt, .int .i64 h] 24))) := (Below.refl _ _).alloc (Nat.le_refl _) _
  by_cases h1 : t < 0
  · clear hb
    go_enter Tryz.func37, Tryz.ntmps37
    go_wp2
    go_ret
    exact ⟨rfl, HB.out⟩
  · have h2 : 256 ≤ t := by omega
    clear hb
    go_enter Tryz.func37, Tryz.ntmps37
    go_wp2
    go_ret
    exact ⟨rfl, HB.out⟩
theorem ownK_of {base n : Nat} {v : Value} {xs : List Int} {w : World} (h : w.ownsRow base 2 1 v n (xs.map (Value.int .i64))) (hn : 1 ≤ n) : ∃ g c, v = .slice (some ⟨g, 0, none⟩) n c ∧ OwnK 2 base g n c xs w := by
  rcases id h.2 with ⟨rfl, rfl⟩ | ⟨g, cap, cur, rfl, rest⟩
  · omega
  · exact ⟨g, cap, rfl, h⟩
theorem rplace_yes (s v l tt h t : Int) (D : Nat) (w : World) (t0 : 0 ≤ t) (t1 : t < 256) (hD : D ≤ 16) (hD1 : 1 ≤ D) :
    Calls Tryz.prog 37 #[.agg (CfV ⟨s, v, D, l, tt, h⟩), .int .i64 t] w fun e w' => Gives w D (rowK (fun k => mulZ (weightZ s 1 t k) 16384) D) e w' := by
  have hC := rrow_any s v l tt h 1 t D (w.alloc (.cells (CfV ⟨s, v, D, l, tt, h⟩) 24)) (by omega) (by omega) t0 (by omega) hD
  have HB : Hid (Below w.heap.size w (w.alloc (.cells (CfV ⟨s, v, D, l, tt, h⟩) 24))) := (Below.refl _ _).alloc (Nat.le_refl _) _
  obtain ⟨f, hf⟩ : ∃ f : Nat → Int, f = fun (k : Nat) => weightZ s 1 t k := ⟨_, rfl⟩
  rw [← hf] at hC
  have e2 : (fun k : Nat => mulZ (weightZ s 1 t k) 16384) = fun k => mulZ (f k) 16384 := by rw [hf]
  rw [e2]
  clear hf e2
  unfold CfV at *
  simp only at hC HB ⊢
  go_enter Tryz.func37, Tryz.ntmps37
  go_wp2_with fail
  refine hC.mono ?_
  rintro e w1 ⟨v', rfl, hO, hb⟩
  obtain ⟨g, cap, rfl, hO1⟩ := ownK_of (own_base hO HB.out.size) hD1
  have HO : Hid (OwnK 2 w.heap.size g D cap (overK f (fun k => mulZ (f k) 16384) 0 D) w1) := by rw [overK_0]; exact hO1
  have HB1 := hid (HB.out.trans (hb.mono HB.out.size))
  have hcap := hO1.reads.room
  have hcap2 := hO1.reads.most
  clear hO hO1 hb hC HB
  go_wp2_with fail
  go_loopw [6] (fun i W => ∃ k : Nat, k ≤ D ∧ i = .int .i64 k ∧ Hid (OwnK 2 w.heap.size g D cap (overK f (fun k => mulZ (f k) 16384) k D) W) ∧ Hid (Below w.heap.size w W)) (fun i _ => D - (intOf i).toNat)
  case atStart => exact ⟨0, Nat.zero_le _, rfl, HO, HB1⟩
  case round =>
    obtain ⟨k, hk, rfl, HOk, HW⟩ := hrel
    clear HO HB1
    by_cases hlt : k < D
    · have ck := HOk.out.cell hlt
      rw [overK_at _ _ hlt] at ck
      have fk := HOk.out.frozen k
      have HO2 : Hid (OwnK 2 w.heap.size g D cap (overK f (fun k => mulZ (f k) 16384) (k + 1) D) (wr.setCell ⟨g, k, none⟩ (.int .i64 (mulZ (f k) 16384)))) := by
        have := HOk.out.set k (mulZ (f k) 16384)
        rw [overK_set f (fun k => mulZ (f k) 16384) hlt] at this
        exact this
      have HB2 := hid (HW.out.setCell (p := ⟨g, k, none⟩) HOk.out.base (.int .i64 (mulZ (f k) 16384)))
      have q1 : (k : Int) < (D : Int) := by omega
      clear HOk HW
      go_wp2_with fail
      refine (rmul_any _ _ _).mono ?_
      rintro e w' ⟨rfl, rfl⟩
      go_wp2_with fail
      go_round
      case rel => exact ⟨k + 1, by omega, by go_num, HO2, HB2⟩
      case measure => simp [intOf]; omega
    · obtain rfl : k = D := by omega
      have HO3 : Hid (OwnK 2 w.heap.size g k cap (rowK (fun k => mulZ (f k) 16384) k) wr) := by
        have := HOk.out
        rw [overK_all] at this
        exact this
      clear HOk
      go_wp2
      go_ret
      exact ⟨_, _, rfl, HO3.out.reads, HW.out⟩
theorem rrows_no (c : Cf) (la wh : Int) (w : World) (hb : (la < 0 ∨ c.layers ≤ la) ∨ (wh < 0 ∨ 5 < wh)) :
    Calls Tryz.prog 86 #[.agg (CfV c), .int .i64 la, .int .i64 wh] w fun e w' => e = .returned (.slice none 0 0) ∧ Below w.heap.size w w' := by
  obtain ⟨s, v, d, l, tt, h⟩ := c
  unfold CfV
  simp only at hb ⊢
  have HB : Hid (Below w.heap.size w (w.alloc (.cells #[.int .u64 s, .int .i64 v, .int .i64 d, .int .i64 l, .int .i64 tt, .int .i64 h] 24))) := (Below.refl _ _).alloc (Nat.le_refl _) _
  by_cases h1 : la < 0
  · clear hb
    go_enter Tryz.func86, Tryz.ntmps86
    go_wp2
    go_ret
    exact ⟨rfl, HB.out⟩
  · by_cases h2 : l ≤ la
    · clear hb
      go_enter Tryz.func86, Tryz.ntmps86
      go_wp2
      go_ret
      exact ⟨rfl, HB.out⟩
    · by_cases h3 : wh < 0
      · clear hb
        go_enter Tryz.func86, Tryz.ntmps86
        go_wp2
        go_ret
        exact ⟨rfl, HB.out⟩
      · have h4 : 5 < wh := by omega
        clear hb
        go_enter Tryz.func86, Tryz.ntmps86
        go_wp2
        go_ret
        exact ⟨rfl, HB.out⟩
end Go.Proofs.YtahpilgbabjebaaGreat
namespace Go.Proofs.YtahpilgbabjebaaGreat
open Go.RowKit
set_option linter.unusedVariables false
set_option maxRecDepth 1000000

/-- The call hands back a table. -/
def GivesT (w : World) (n : Nat) (ls : List (List Int)) (e : Ending) (w' : World) : Prop := ∃ a c hs, e = .returned (.slice a n c) ∧ Tbl w' a n c hs ls ∧ Below w.heap.size w w'
theorem MadeT.gives {w w' : World} {n m : Nat} {F : Nat → List Int} {e : Ending} (h : MadeT w n m F e w') (hm : m ≤ 1000) : GivesT w n (tblK F n) e w' := by
  obtain ⟨G, hs, rfl, hU⟩ := h
  exact ⟨_, _, hs, rfl, hU.tbl hm, hU.old⟩
set_option maxHeartbeats 1000000 in
theorem rrows_yes (s v l tt h la wh : Int) (D : Nat) (w : World) (l0 : 0 ≤ la) (l1 : la < l) (l2 : l ≤ 4) (k0 : 0 ≤ wh) (k1 : wh ≤ 5) (hD : D ≤ 16) :
    Calls Tryz.prog 86 #[.agg (CfV ⟨s, v, D, l, tt, h⟩), .int .i64 la, .int .i64 wh] w fun e w' => GivesT w D (tblK (fun r => rowK (fun k => weightZ s (2 + 6 * la + wh) r k) D) D) e w' := by
  obtain ⟨i0, hi, hz0, hz1, hz2⟩ := info_parts Tryz.infoS
  obtain ⟨F, hF⟩ : ∃ F : Nat → List Int, F = fun (r : Nat) => rowK (fun k => weightZ s (2 + 6 * la + wh) r k) D := ⟨_, rfl⟩
  rw [← hF]
  have HC : Hid (∀ (r : Nat) (W : World), r < D → Calls Tryz.prog 54 #[.agg (CfV ⟨s, v, D, l, tt, h⟩), .int .i64 (2 + 6 * la + wh), .int .i64 r] W fun e w' => GivesO W D (F r) e w') := by
    intro r W hr
    rw [hF]
    exact rrow_any s v l tt h _ r D W (by omega) (by omega) (by omega) (by omega) hD
  have HK := hid fun (W : World) (hb : Below (w.heap.size + 1) (w.alloc (.cells (CfV ⟨s, v, D, l, tt, h⟩) 24)) W) => Cf_cells ((hb.block w.heap.size (by omega)).trans (heap_alloc_new w _))
  have HB0 : Hid (∀ W, Below (w.heap.size + 1) (w.alloc (.cells (CfV ⟨s, v, D, l, tt, h⟩) 24)) W → w.heap.size + 1 ≤ W.heap.size ∧ Below w.heap.size w W) := fun W hb =>
    ⟨by have := hb.size; simpa using this, ((Below.refl _ _).alloc (Nat.le_refl _) _).trans (hb.mono (by omega))⟩
  clear hF
  unfold CfV at HK HB0 HC ⊢
  simp only at HK HB0 HC ⊢
  go_enter Tryz.func86, Tryz.ntmps86
  go_wp2_with fail
  go_loopw [7, 8] (fun u i W => ∃ (k : Nat) (hs : List Hd), k ≤ D ∧ i = .int .i64 k ∧ Hid (RowsI W (w.heap.size + 1) u k hs (tblK F k)) ∧ Hid (Below (w.heap.size + 1) (w.alloc (.cells #[.int .u64 s, .int .i64 v, .int .i64 D, .int .i64 l, .int .i64 tt, .int .i64 h] 24)) W)) (fun _ i _ => D - (intOf i).toNat)
  case atStart => exact ⟨0, [], Nat.zero_le _, rfl, RowsI.nil _ _, Below.refl _ _⟩
  case round =>
    obtain ⟨k, hs, hk, rfl, HO, HW⟩ := hrel
    obtain ⟨c0, c1, c2, c3, c4, c5⟩ := HK.out wr HW.out
    by_cases hlt : k < D
    · have hC := HC.out k wr hlt
      have q1 : (k : Int) < (D : Int) := by omega
      have HE := hid (tblK_snoc F k)
      clear HC HK
      generalize F k = x at *
      generalize tblK F k = us at *
      go_wp2_with fail
      refine hC.mono ?_
      rintro e w2 ⟨v2, rfl, hO2, hb2⟩
      have HO2 := hid (HO.out.below hb2)
      have HW2 := hid (HW.out.trans (hb2.mono (HB0.out _ HW.out).1))
      have HS : Hid (w.heap.size + 1 ≤ w2.heap.size) := (HB0.out _ HW2.out).1
      obtain ⟨a2, n2, rfl, hr2⟩ := Reads.own (k := .i64) hO2
      have HR2 := hid hr2
      have HI2 := hid (BlI.own hO2)
      clear hb2 hC c0 c1 c2 c3 c4 c5 HO HW hO2 hr2
      have hal : Hid (∀ o, Below w2.heap.size w2 (w2.alloc o)) := fun o => (Below.refl _ _).alloc (Nat.le_refl _) _
      go_wp2_with (at_builtin; refine append_rowI _ rfl (.tmp 31) (.tmp 40) 65 rfl (w.heap.size + 1) i0 Tryz.underlying65 hi hz0 hz1 hz2 _ k hs us rfl (HO2.out.below (hal.out _)) (by omega) w2.heap.size (a2, D, n2) x rfl (by simp) (HR2.out.below (hal.out _)) (HI2.out.below (hal.out _)) (by simp only; omega) (Nat.le_trans HS.out (by simp)) ?_; intro v' w3 hO3 hb3)
      have HB3 := hid ((HW2.out.alloc HS.out _).trans hb3)
      have HO3 : Hid (RowsI w3 (w.heap.size + 1) v' (k + 1) (hs ++ [(a2, D, n2)]) (tblK F (k + 1))) := by rw [← HE.out]; exact hO3
      clear hO3 hb3 HE HO2 HW2 HS HR2 HI2 hal
      go_wp2_with fail
      go_round
      case rel => exact ⟨k + 1, _, by omega, by go_num, HO3, HB3⟩
      case measure => simp [intOf]; omega
    · obtain rfl : k = D := by omega
      obtain ⟨ra, rc, rfl, hT⟩ := HO.out.tbl
      have HT := hid hT
      clear HC HK hT HO
      go_wp2
      go_ret
      exact ⟨_, _, hs, rfl, HT.out, (HB0.out _ HW.out).2⟩

theorem may_al : mayB ⟨0, 2, 1, 1, 1, 0⟩ = true := by decide
end Go.Proofs.YtahpilgbabjebaaGreat
namespace Go.Proofs.YtahpilgbabjebaaGreat
open Go.RowKit
set_option linter.unusedVariables false
set_option maxRecDepth 1000000

end Go.Proofs.YtahpilgbabjebaaGreat
namespace Go.Proofs.YtahpilgbabjebaaGreat
open Go.RowKit
set_option linter.unusedVariables false
set_option maxRecDepth 1000000

/-- A token's vector, nothing of none that is there. -/
def tokL (c : Cf) (t : Int) : List Int := if 0 ≤ t ∧ t < c.vocab then rowK (fun k => weightZ c.seed 0 t k) c.dim.toNat else []
/-- A place's vector. -/
def plL (c : Cf) (p : Int) : List Int := if 0 ≤ p ∧ p < 256 then rowK (fun k => mulZ (weightZ c.seed 1 p k) 16384) c.dim.toNat else []
/-- A layer's table. -/
def tabL (c : Cf) (la wh : Int) : List (List Int) := if 0 ≤ la ∧ la < c.layers ∧ 0 ≤ wh ∧ wh ≤ 5 then tblK (fun r => rowK (fun k => weightZ c.seed (2 + 6 * la + wh) r k) c.dim.toNat) c.dim.toNat else []

theorem may_parts {c : Cf} (h : mayB c = true) : 2 ≤ c.vocab ∧ c.vocab ≤ 64 ∧ 1 ≤ c.dim ∧ c.dim ≤ 16 ∧ 1 ≤ c.layers ∧ c.layers ≤ 4 := by
  unfold mayB at h
  simp only [Bool.and_eq_true, btw_iff] at h
  omega
theorem tokL_len {c : Cf} (h : mayB c = true) (t : Int) : (tokL c t).length ≤ 16 := by
  have := may_parts h
  unfold tokL
  split
  · rw [rowK_len]; omega
  · simp
theorem plL_len {c : Cf} (h : mayB c = true) (t : Int) : (plL c t).length ≤ 16 := by
  have := may_parts h
  unfold plL
  split
  · rw [rowK_len]; omega
  · simp
theorem tabL_len {c : Cf} (h : mayB c = true) (la wh : Int) : (tabL c la wh).length ≤ 16 := by
  have := may_parts h
  unfold tabL
  split
  · rw [tblK_len]; omega
  · simp

theorem Made.giveso {w w' : World} {n : Nat} {xs : List Int} {e : Ending} (h : Made w n xs e w') : GivesO w n xs e w' := by
  obtain ⟨g, c, rfl, hO, hb⟩ := h
  exact ⟨_, rfl, hO, hb⟩
theorem giveso_nil {w w' : World} {e : Ending} (h : e = .returned (.slice none 0 0) ∧ Below w.heap.size w w') : GivesO w 0 [] e w' := ⟨_, h.1, World.ownsRow_nil _ _ _ _, h.2⟩
theorem givest_nil {w w' : World} {e : Ending} (h : e = .returned (.slice none 0 0) ∧ Below w.heap.size w w') : GivesT w 0 [] e w' :=
  ⟨none, 0, [], h.1, ⟨⟨rfl, Nat.le_refl _, by omega, fun _ => ⟨rfl, rfl⟩, fun i hi => by omega⟩, fun i hi => by omega, fun i hi => by omega⟩, h.2⟩

theorem cf_dim {c : Cf} (h : mayB c = true) : ∃ D : Nat, c = ⟨c.seed, c.vocab, (D : Int), c.layers, c.top, c.heat⟩ ∧ c.dim.toNat = D ∧ 1 ≤ D ∧ D ≤ 16 := by
  have := may_parts h
  refine ⟨c.dim.toNat, ?_, rfl, by omega, by omega⟩
  rw [Int.toNat_of_nonneg (by omega)]

theorem token_g (p : Option Addr) (c : Cf) (t : Int) (w : World) (hp : MdAt w p c) (hc : mayB c = true) :
    Calls Tryz.prog 46 #[.pointer p, .int .i64 t] w fun e w' => GivesO w (tokL c t).length (tokL c t) e w' := by
  have hm := may_parts hc
  obtain ⟨D, hD, hD2, h1, h16⟩ := cf_dim hc
  unfold tokL
  by_cases h : 0 ≤ t ∧ t < c.vocab
  · rw [if_pos h, rowK_len, hD2]
    rw [hD] at hp
    exact (token_yes p _ _ _ _ _ t D w hp h.1 h.2 hm.2.1 h16).mono fun e w' h => h.giveso
  · rw [if_neg h]
    exact (token_no p c t w hp (by omega) (by omega) (by omega)).mono fun e w' h => giveso_nil h
theorem place_g (p : Option Addr) (c : Cf) (t : Int) (w : World) (hp : MdAt w p c) (hc : mayB c = true) :
    Calls Tryz.prog 47 #[.pointer p, .int .i64 t] w fun e w' => GivesO w (plL c t).length (plL c t) e w' := by
  have hm := may_parts hc
  obtain ⟨D, hD, hD2, h1, h16⟩ := cf_dim hc
  unfold plL
  by_cases h : 0 ≤ t ∧ t < 256
  · rw [if_pos h, rowK_len, hD2]
    rw [hD] at hp hc
    exact (place_yes p _ _ _ _ _ t D w hp hc h.1 h.2 h16).mono fun e w' h => h.giveso
  · rw [if_neg h]
    exact (place_no p c t w hp hc (by omega)).mono fun e w' h => giveso_nil h
theorem rows_g (p : Option Addr) (c : Cf) (la wh : Int) (w : World) (hp : MdAt w p c) (hc : mayB c = true) :
    Calls Tryz.prog 108 #[.pointer p, .int .i64 la, .int .i64 wh] w fun e w' => GivesT w (tabL c la wh).length (tabL c la wh) e w' := by
  have hm := may_parts hc
  obtain ⟨D, hD, hD2, h1, h16⟩ := cf_dim hc
  unfold tabL
  by_cases h : 0 ≤ la ∧ la < c.layers ∧ 0 ≤ wh ∧ wh ≤ 5
  · rw [if_pos h, tblK_len, hD2]
    rw [hD] at hp
    exact (rows_yes p _ _ _ _ _ la wh D w hp h.1 h.2.1 hm.2.2.2.2.2 h.2.2.1 h.2.2.2 h16).mono fun e w' h => h.gives (by omega)
  · rw [if_neg h]
    exact (rows_no p c la wh w hp (by omega) (by omega) (by omega)).mono fun e w' h => givest_nil h
theorem rtoken_g (c : Cf) (t : Int) (w : World) (hc : mayB c = true) :
    Calls Tryz.prog 36 #[.agg (CfV c), .int .i64 t] w fun e w' => GivesO w (tokL c t).length (tokL c t) e w' := by
  have hm := may_parts hc
  obtain ⟨D, hD, hD2, h1, h16⟩ := cf_dim hc
  unfold tokL
  by_cases h : 0 ≤ t ∧ t < c.vocab
  · rw [if_pos h, rowK_len, hD2]
    have := rtoken_yes c.seed c.vocab c.layers c.top c.heat t D w h.1 h.2 hm.2.1 h16
    rw [← hD] at this
    exact this
  · rw [if_neg h]
    exact (rtoken_no c t w (by omega)).mono fun e w' h => giveso_nil h
theorem rplace_g (c : Cf) (t : Int) (w : World) (hc : mayB c = true) :
    Calls Tryz.prog 37 #[.agg (CfV c), .int .i64 t] w fun e w' => Gives w (plL c t).length (plL c t) e w' := by
  have hm := may_parts hc
  obtain ⟨D, hD, hD2, h1, h16⟩ := cf_dim hc
  unfold plL
  by_cases h : 0 ≤ t ∧ t < 256
  · rw [if_pos h, rowK_len, hD2]
    have := rplace_yes c.seed c.vocab c.layers c.top c.heat t D w h.1 h.2 h16 h1
    rw [← hD] at this
    exact this
  · rw [if_neg h]
    exact (rplace_no c t w (by omega)).mono fun e w' h => (giveso_nil h).gives
theorem rrows_g (c : Cf) (la wh : Int) (w : World) (hc : mayB c = true) :
    Calls Tryz.prog 86 #[.agg (CfV c), .int .i64 la, .int .i64 wh] w fun e w' => GivesT w (tabL c la wh).length (tabL c la wh) e w' := by
  have hm := may_parts hc
  obtain ⟨D, hD, hD2, h1, h16⟩ := cf_dim hc
  unfold tabL
  by_cases h : 0 ≤ la ∧ la < c.layers ∧ 0 ≤ wh ∧ wh ≤ 5
  · rw [if_pos h, tblK_len, hD2]
    have := rrows_yes c.seed c.vocab c.layers c.top c.heat la wh D w h.1 h.2.1 hm.2.2.2.2.2 h.2.2.1 h.2.2.2 h16
    rw [← hD] at this
    exact this
  · rw [if_neg h]
    exact (rrows_no c la wh w (by omega)).mono fun e w' h => givest_nil h

theorem Tryz.cellsI : Tryz.prog.cellsOf 3 = 1 := by kernel_rfl
theorem Tryz.cellsU : Tryz.prog.cellsOf 22 = 1 := by kernel_rfl
theorem Tryz.cellsC : Tryz.prog.cellsOf 24 = 6 := by kernel_rfl
theorem Tryz.cellsA : Tryz.prog.cellsOf 49 = 2 := by kernel_rfl
theorem array6 {α : Type} {cs : Array α} (h : cs.size = 6) : ∃ c0 c1 c2 c3 c4 c5, cs = #[c0, c1, c2, c3, c4, c5] := by
  obtain ⟨l⟩ := cs
  match l, h with
  | [c0, c1, c2, c3, c4, c5], _ => exact ⟨c0, c1, c2, c3, c4, c5, rfl⟩
theorem array2 {α : Type} {cs : Array α} (h : cs.size = 2) : ∃ c0 c1, cs = #[c0, c1] := by
  obtain ⟨l⟩ := cs
  match l, h with
  | [c0, c1], _ => exact ⟨c0, c1, rfl⟩
section
open Go.ChangeShapes Go.WideShapes Go.ChangeAt
variable {H : Type} {enc : TypeId × Value → H} {W : World}
theorem u64_open {fuel : Nat} {c : Value} {x : DataW H × List MemPlace} (h : DataW.trod enc Tryz.prog W 0 (fun _ => true) true fuel 22 [c] = some x) : ∃ n : Int, c = .int .u64 n := by
  obtain ⟨n, hcs, _, hw⟩ := DataW.trod_int Tryz.underlying22 h
  simp at hcs
  exact ⟨n, hcs⟩
theorem int_open {fuel : Nat} {c : Value} {x : DataW H × List MemPlace} (h : DataW.trod enc Tryz.prog W 0 (fun _ => true) true fuel 3 [c] = some x) : ∃ n : Int, c = .int .i64 n := by
  obtain ⟨n, hcs, _, hw⟩ := DataW.trod_int Tryz.underlying3 h
  simp at hcs
  exact ⟨n, hcs⟩
theorem at_some {α : Type} {xs : List α} {n : Nat} (h : xs.length = n) {i : Nat} (hi : i < n) : ∃ y, xs[i]? = some y := ⟨_, List.getElem?_eq_getElem (by omega)⟩
theorem okWide_array {P : Program} {w : World} {r : Reach} {base n : Nat} {e t : TypeId} {v : Value} (ht : P.underlying t = some (.array n e)) (h : Value.okWide P w r base t v) : ∃ cs, v = .agg cs ∧ cs.size = P.cellsOf t := by
  simp only [Value.okWide, ht] at h
  obtain ⟨cs, h1, h2, _⟩ := h
  exact ⟨cs, h1, h2⟩
theorem conf_open {b0 : Nat} {v : Value} {d : DataW H} {ps : List MemPlace} (hv : Value.okWide Tryz.prog W .any b0 24 v) (h : DataW.Trod enc Tryz.prog W 0 (fun _ => true) true 24 v d ps) :
    ∃ c : Cf, v = .agg (CfV c) := by
  obtain ⟨cs, rfl, hsz⟩ := okWide_struct Tryz.underlying24 hv
  rw [Tryz.cellsC] at hsz
  obtain ⟨c0, c1, c2, c3, c4, c5, rfl⟩ := array6 hsz
  obtain ⟨fuel, hf⟩ := h
  obtain ⟨xs, n, _, _, _, hl, hF⟩ := DataW.trod_struct Tryz.underlying24 hf
  have hl : xs.length = 6 := hl
  obtain ⟨y0, e0⟩ := at_some hl (i := 0) (by omega)
  obtain ⟨y1, e1⟩ := at_some hl (i := 1) (by omega)
  obtain ⟨y2, e2⟩ := at_some hl (i := 2) (by omega)
  obtain ⟨y3, e3⟩ := at_some hl (i := 3) (by omega)
  obtain ⟨y4, e4⟩ := at_some hl (i := 4) (by omega)
  obtain ⟨y5, e5⟩ := at_some hl (i := 5) (by omega)
  have g0 : DataW.trod enc Tryz.prog W 0 (fun _ => true) true n 22 [c0] = some y0 := by
    have g := hF 0 _ rfl
    change DataW.trod enc Tryz.prog W 0 (fun _ => true) true n 22 (List.take (Tryz.prog.cellsOf 22) (List.drop 0 [c0, c1, c2, c3, c4, c5])) = xs[0]? at g
    rw [Tryz.cellsU, e0] at g
    exact g
  have g1 : DataW.trod enc Tryz.prog W 0 (fun _ => true) true n 3 [c1] = some y1 := by
    have g := hF 1 _ rfl
    change DataW.trod enc Tryz.prog W 0 (fun _ => true) true n 3 (List.take (Tryz.prog.cellsOf 3) (List.drop 1 [c0, c1, c2, c3, c4, c5])) = xs[1]? at g
    rw [Tryz.cellsI, e1] at g
    exact g
  have g2 : DataW.trod enc Tryz.prog W 0 (fun _ => true) true n 3 [c2] = some y2 := by
    have g := hF 2 _ rfl
    change DataW.trod enc Tryz.prog W 0 (fun _ => true) true n 3 (List.take (Tryz.prog.cellsOf 3) (List.drop 2 [c0, c1, c2, c3, c4, c5])) = xs[2]? at g
    rw [Tryz.cellsI, e2] at g
    exact g
  have g3 : DataW.trod enc Tryz.prog W 0 (fun _ => true) true n 3 [c3] = some y3 := by
    have g := hF 3 _ rfl
    change DataW.trod enc Tryz.prog W 0 (fun _ => true) true n 3 (List.take (Tryz.prog.cellsOf 3) (List.drop 3 [c0, c1, c2, c3, c4, c5])) = xs[3]? at g
    rw [Tryz.cellsI, e3] at g
    exact g
  have g4 : DataW.trod enc Tryz.prog W 0 (fun _ => true) true n 3 [c4] = some y4 := by
    have g := hF 4 _ rfl
    change DataW.trod enc Tryz.prog W 0 (fun _ => true) true n 3 (List.take (Tryz.prog.cellsOf 3) (List.drop 4 [c0, c1, c2, c3, c4, c5])) = xs[4]? at g
    rw [Tryz.cellsI, e4] at g
    exact g
  have g5 : DataW.trod enc Tryz.prog W 0 (fun _ => true) true n 3 [c5] = some y5 := by
    have g := hF 5 _ rfl
    change DataW.trod enc Tryz.prog W 0 (fun _ => true) true n 3 (List.take (Tryz.prog.cellsOf 3) (List.drop 5 [c0, c1, c2, c3, c4, c5])) = xs[5]? at g
    rw [Tryz.cellsI, e5] at g
    exact g
  clear hF hv
  obtain ⟨n0, rfl⟩ := u64_open g0
  obtain ⟨n1, rfl⟩ := int_open g1
  obtain ⟨n2, rfl⟩ := int_open g2
  obtain ⟨n3, rfl⟩ := int_open g3
  obtain ⟨n4, rfl⟩ := int_open g4
  obtain ⟨n5, rfl⟩ := int_open g5
  exact ⟨⟨n0, n1, n2, n3, n4, n5⟩, rfl⟩
theorem pair_open {b0 : Nat} {v : Value} {d : DataW H} {ps : List MemPlace} (hv : Value.okWide Tryz.prog W .any b0 49 v) (h : DataW.Trod enc Tryz.prog W 0 (fun _ => true) true 49 v d ps) :
    ∃ a b : Int, v = .agg #[.int .i64 a, .int .i64 b] := by
  obtain ⟨cs, rfl, hsz⟩ := okWide_array Tryz.underlying49 hv
  rw [Tryz.cellsA] at hsz
  obtain ⟨c0, c1, rfl⟩ := array2 hsz
  obtain ⟨fuel, hf⟩ := h
  obtain ⟨xs, n, _, _, _, hl, hF⟩ := DataW.trod_array Tryz.underlying49 hf
  obtain ⟨y0, e0⟩ := at_some hl (i := 0) (by omega)
  obtain ⟨y1, e1⟩ := at_some hl (i := 1) (by omega)
  have g0 : DataW.trod enc Tryz.prog W 0 (fun _ => true) true n 3 [c0] = some y0 := by
    have g := hF 0 (by omega)
    rw [Tryz.cellsI, e0] at g
    exact g
  have g1 : DataW.trod enc Tryz.prog W 0 (fun _ => true) true n 3 [c1] = some y1 := by
    have g := hF 1 (by omega)
    rw [Tryz.cellsI, e1] at g
    exact g
  obtain ⟨n0, rfl⟩ := int_open g0
  obtain ⟨n1, rfl⟩ := int_open g1
  exact ⟨n0, n1, rfl⟩
theorem num_open {b0 : Nat} {v : Value} {d : DataW H} {ps : List MemPlace} (hv : Value.okWide Tryz.prog W .any b0 3 v) (h : DataW.Trod enc Tryz.prog W 0 (fun _ => true) true 3 v d ps) :
    ∃ a : Int, v = .int .i64 a := by
  obtain ⟨a, h1, _, _, _⟩ := open_int Tryz.underlying3 hv h
  exact ⟨a, h1⟩
end
end Go.Proofs.YtahpilgbabjebaaGreat
