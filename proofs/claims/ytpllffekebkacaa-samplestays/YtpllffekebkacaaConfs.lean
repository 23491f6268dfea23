/-
  Configurations (Cf); contracts: between and the document's in, the two May, New, Config.
-/
import Derived.Test.YtpllffekebkacaaDerives
import Derived.Test.YtpllffekebkacaaNums
namespace Go.Proofs.Ytpllffekebkacaa
open Go.RowKit
set_option linter.unusedVariables false
set_option maxRecDepth 1000000

/-- A configuration. -/
structure Cf where
  seed : Int
  vocab : Int
  dim : Int
  layers : Int
  top : Int
  heat : Int
/-- Its cells. -/
def CfV (c : Cf) : Array Value := #[.int .u64 c.seed, .int .i64 c.vocab, .int .i64 c.dim, .int .i64 c.layers, .int .i64 c.top, .int .i64 c.heat]
/-- A number is from one to another one. -/
def btw (n lo hi : Int) : Bool := decide (lo ≤ n) && decide (n ≤ hi)
theorem btw_iff {n lo hi : Int} : btw n lo hi = true ↔ lo ≤ n ∧ n ≤ hi := by unfold btw; simp
theorem btw_no {n lo hi : Int} : btw n lo hi = false ↔ n < lo ∨ hi < n := by
  unfold btw; simp only [Bool.and_eq_false_iff, decide_eq_false_iff_not]; omega
/-- A configuration may be. -/
def mayB (c : Cf) : Bool := btw c.vocab 2 64 && (btw c.dim 1 16 && (btw c.layers 1 4 && (btw c.top 1 c.vocab && btw c.heat 0 8)))

theorem mbetween_any (n lo hi : Int) (w : World) :
    Calls Try.prog 62 #[.int .i64 n, .int .i64 lo, .int .i64 hi] w fun e w' => e = .returned (.bool (btw n lo hi)) ∧ w' = w := by
  by_cases h : lo ≤ n
  · by_cases h2 : n ≤ hi
    · rw [btw_iff.2 ⟨h, h2⟩]
      go_enter Try.func62, Try.ntmps62
      go_wp2
      go_ret
      exact ⟨rfl, rfl⟩
    · rw [btw_no.2 (.inr (by omega))]
      go_enter Try.func62, Try.ntmps62
      go_wp2
      go_ret
      exact ⟨rfl, rfl⟩
  · rw [btw_no.2 (.inl (by omega))]
    go_enter Try.func62, Try.ntmps62
    go_wp2
    go_ret
    exact ⟨rfl, rfl⟩
theorem may_any (c : Cf) (w : World) :
    Calls Try.prog 34 #[.agg (CfV c)] w fun e w' => e = .returned (.bool (mayB c)) ∧ Below w.heap.size w w' := by
  obtain ⟨s, v, d, l, t, h⟩ := c
  have HB : Hid (Below w.heap.size w (w.alloc (.cells (CfV ⟨s, v, d, l, t, h⟩) 32))) := (Below.refl _ _).alloc (Nat.le_refl _) _
  unfold mayB CfV at *
  simp only at HB ⊢
  go_enter Try.func34, Try.ntmps34
  go_wp2_with fail
  refine (mbetween_any _ _ _ _).mono ?_
  rintro e w' ⟨rfl, rfl⟩
  cases h1 : btw v 2 64 with
  | false =>
    go_wp2
    go_ret
    exact ⟨ret_bool (by simp [h1]), HB.out⟩
  | true =>
  go_wp2_with fail
  refine (mbetween_any _ _ _ _).mono ?_
  rintro e w' ⟨rfl, rfl⟩
  cases h2 : btw d 1 16 with
  | false =>
    go_wp2
    go_ret
    exact ⟨ret_bool (by simp [h1, h2]), HB.out⟩
  | true =>
  go_wp2_with fail
  refine (mbetween_any _ _ _ _).mono ?_
  rintro e w' ⟨rfl, rfl⟩
  cases h3 : btw l 1 4 with
  | false =>
    go_wp2
    go_ret
    exact ⟨ret_bool (by simp [h1, h2, h3]), HB.out⟩
  | true =>
  go_wp2_with fail
  refine (mbetween_any _ _ _ _).mono ?_
  rintro e w' ⟨rfl, rfl⟩
  cases h4 : btw t 1 v with
  | false =>
    go_wp2
    go_ret
    exact ⟨ret_bool (by simp [h1, h2, h3, h4]), HB.out⟩
  | true =>
  go_wp2_with fail
  refine (mbetween_any _ _ _ _).mono ?_
  rintro e w' ⟨rfl, rfl⟩
  go_wp2
  go_ret
  exact ⟨ret_bool (by simp [h1, h2, h3, h4]), HB.out⟩
/-- The model at a pointer has this configuration: a nil one, and one that nobody made, the zero one. -/
def MdAt (W : World) (p : Option Addr) (c : Cf) : Prop :=
  (p = none ∧ c = ⟨0, 0, 0, 0, 0, 0⟩) ∨ ∃ g, p = some ⟨g, 0, none⟩ ∧ W.heap[g]? = some (.cells (CfV c) 55 (0, 0))
theorem MdAt.below {W W' : World} {p : Option Addr} {c : Cf} (h : MdAt W p c) (hb : Below W.heap.size W W') : MdAt W' p c := by
  rcases h with h | ⟨g, hp, hg⟩
  · exact .inl h
  · exact .inr ⟨g, hp, (hb.block g (lt_of_block hg)).trans hg⟩

/-- A configuration's cells, out of its block. -/
theorem Cf_cells {W : World} {g : Nat} {c : Cf} {T : TypeId} (h : W.heap[g]? = some (.cells (CfV c) T (0, 0))) :
    W.cell? ⟨g, 0, none⟩ = some (.int .u64 c.seed) ∧ W.cell? ⟨g, 1, none⟩ = some (.int .i64 c.vocab) ∧ W.cell? ⟨g, 2, none⟩ = some (.int .i64 c.dim) ∧ W.cell? ⟨g, 3, none⟩ = some (.int .i64 c.layers) ∧ W.cell? ⟨g, 4, none⟩ = some (.int .i64 c.top) ∧ W.cell? ⟨g, 5, none⟩ = some (.int .i64 c.heat) := by
  refine ⟨?_, ?_, ?_, ?_, ?_, ?_⟩ <;> (rw [cell_of_row _ _ _ _ _ _ h]; rfl)
theorem block_below {w w' : World} {k : Nat} {o : Obj} (h : w.heap[k]? = some o) (hb : Below w.heap.size w w') : w'.heap[k]? = some o := (hb.block k (lt_of_block h)).trans h

theorem new_yes (c : Cf) (w : World) (hc : mayB c = true) :
    Calls Try.prog 13 #[.agg (CfV c)] w fun e w' => ∃ g, e = .returned (.tuple #[.pointer (some ⟨g, 0, none⟩), .int .i64 0]) ∧ w.heap.size ≤ g ∧ w'.heap[g]? = some (.cells (CfV c) 55 (0, 0)) ∧ Below w.heap.size w w' := by
  have HB : Hid (Below w.heap.size w (w.alloc (.cells (CfV c) 32))) := (Below.refl _ _).alloc (Nat.le_refl _) _
  have hM := may_any c (w.alloc (.cells (CfV c) 32))
  rw [hc] at hM
  have HN := hid (heap_alloc_new w (.cells (CfV c) 32))
  obtain ⟨s, v, d, l, t, h⟩ := c
  clear hc
  have HC : Hid (∀ W : World, Below (w.alloc (.cells (CfV ⟨s, v, d, l, t, h⟩) 32)).heap.size (w.alloc (.cells (CfV ⟨s, v, d, l, t, h⟩) 32)) W → _) := fun W hb => Cf_cells (block_below HN.out hb)
  unfold CfV at hM HN HB HC ⊢
  simp only at HB hM HN HC ⊢
  go_enter Try.func13, Try.ntmps13
  go_wp2_with fail
  refine hM.mono ?_
  rintro e w1 ⟨rfl, hb⟩
  obtain ⟨c0, c1, c2, c3, c4, c5⟩ := HC.out w1 hb
  have HB1 := hid (HB.out.trans (hb.mono (by simp)))
  clear hM HN hb HB HC
  go_wp2
  go_ret2
  exact ⟨_, rfl, HB1.out.size, heap_alloc_new _ _, HB1.out.alloc HB1.out.size _⟩
theorem new_no (c : Cf) (w : World) (hc : mayB c = false) :
    Calls Try.prog 13 #[.agg (CfV c)] w fun e w' => e = .returned (.tuple #[.pointer none, .int .i64 1]) ∧ Below w.heap.size w w' := by
  have HB : Hid (Below w.heap.size w (w.alloc (.cells (CfV c) 32))) := (Below.refl _ _).alloc (Nat.le_refl _) _
  have hM := may_any c (w.alloc (.cells (CfV c) 32))
  rw [hc] at hM
  obtain ⟨s, v, d, l, t, h⟩ := c
  clear hc
  unfold CfV at hM HB ⊢
  simp only at HB hM ⊢
  go_enter Try.func13, Try.ntmps13
  go_wp2_with fail
  refine hM.mono ?_
  rintro e w1 ⟨rfl, hb⟩
  have HB1 := hid (HB.out.trans (hb.mono (by simp)))
  clear hM hb HB
  go_wp2
  go_ret2
  exact ⟨rfl, HB1.out⟩
theorem config_any (p : Option Addr) (c : Cf) (w : World) (h : MdAt w p c) :
    Calls Try.prog 36 #[.pointer p] w fun e w' => e = .returned (.agg (CfV c)) ∧ Below w.heap.size w w' := by
  rcases h with ⟨rfl, rfl⟩ | ⟨g, rfl, hg⟩
  · go_enter Try.func36, Try.ntmps36
    go_wp2
    exact bodyPost_ret (v := .agg (CfV ⟨0, 0, 0, 0, 0, 0⟩)) (by simp [results, Try.results36, go_sem, CfV]) rfl ⟨rfl, by go_grown⟩
  · obtain ⟨c0, c1, c2, c3, c4, c5⟩ := Cf_cells hg
    have hlt := lt_of_block hg
    have hne : ¬ g = w.heap.size := by omega
    obtain ⟨s, v, d, l, t, h⟩ := c
    simp only at c0 c1 c2 c3 c4 c5
    clear hg
    go_enter Try.func36, Try.ntmps36
    go_wp2
    exact bodyPost_ret (v := .agg (CfV ⟨s, v, d, l, t, h⟩)) (by simp [results, Try.results36, go_sem, CfV]) rfl ⟨rfl, by go_grown⟩
end Go.Proofs.Ytpllffekebkacaa
