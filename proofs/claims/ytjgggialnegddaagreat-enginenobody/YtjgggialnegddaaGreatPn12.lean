/-
  The texts Marks of this proof.
-/
import Derived.Test.YtjgggialnegddaaGreatPn11
set_option linter.unusedVariables false
set_option maxRecDepth 1000000
namespace Go.Proofs.YtjgggialnegddaaGreat
open Go.RowKit
def cellsM : List Mk → List Value
 | [] => []
 | m :: ms => .int .i64 m.1 :: .int .i64 m.2 :: cellsM ms
theorem cellsM_len (ms : List Mk) : (cellsM ms).length = ms.length * 2 := by
 induction ms with
 | nil => rfl
 | cons m ms ih => simp [cellsM, ih]; omega
theorem cellsM_app (ms ns : List Mk) : cellsM (ms ++ ns) = cellsM ms ++ cellsM ns := by
 induction ms with
 | nil => rfl
 | cons m ms ih => simp [cellsM, ih]
theorem cellsM_0 (ms : List Mk) : ∀ k, k < ms.length → (cellsM ms)[k * 2]? = some (.int .i64 (gx ms k).1) := by
 induction ms with
 | nil => intro k hk; simp at hk
 | cons m ms ih =>
  intro k hk
  cases k with
  | zero => simp [cellsM, gx]
  | succ k =>
   have := ih k (by simpa using hk)
   rw [show (k + 1) * 2 = k * 2 + 1 + 1 by omega]
   simpa [cellsM, gx] using this
theorem cellsM_1 (ms : List Mk) : ∀ k, k < ms.length → (cellsM ms)[k * 2 + 1]? = some (.int .i64 (gx ms k).2) := by
 induction ms with
 | nil => intro k hk; simp at hk
 | cons m ms ih =>
  intro k hk
  cases k with
  | zero => simp [cellsM, gx]
  | succ k =>
   have := ih k (by simpa using hk)
   rw [show (k + 1) * 2 + 1 = (k * 2 + 1) + 1 + 1 by omega]
   simpa [cellsM, gx] using this
theorem cellsM_set (ms : List Mk) (x : Mk) : ∀ k, k < ms.length → cellsM (ms.set k x) = ((cellsM ms).set (k * 2) (.int .i64 x.1)).set (k * 2 + 1) (.int .i64 x.2) := by
 induction ms with
 | nil => intro k hk; simp at hk
 | cons m ms ih =>
  intro k hk
  cases k with
  | zero => simp [cellsM]
  | succ k =>
   have := ih k (by simpa using hk)
   rw [show (k + 1) * 2 + 1 = (k * 2 + 1) + 1 + 1 by omega, show (k + 1) * 2 = k * 2 + 1 + 1 by omega]
   simp [cellsM, this]
def OwnM (base g n cap : Nat) (ms : List Mk) (w : World) : Prop := w.ownsRow base 273 2 (.slice (some ⟨g, 0, none⟩) n cap) n (cellsM ms)
theorem OwnM.len {base g n cap : Nat} {ms : List Mk} {w : World} (h : OwnM base g n cap ms w) : ms.length = n := by have := h.1; rw [cellsM_len] at this; omega
theorem OwnM.at0 {base g n cap : Nat} {ms : List Mk} {w : World} (h : OwnM base g n cap ms w) {k : Nat} (hk : k < n) : w.cell? ⟨g, k * 2, none⟩ = some (.int .i64 (gx ms k).1) := by
 have hl := h.len
 rw [World.ownsRow.cellAt h (k * 2) (by omega), cellsM_0 ms k (by omega)]
theorem OwnM.at1 {base g n cap : Nat} {ms : List Mk} {w : World} (h : OwnM base g n cap ms w) {k : Nat} (hk : k < n) : w.cell? ⟨g, k * 2 + 1, none⟩ = some (.int .i64 (gx ms k).2) := by
 have hl := h.len
 rw [World.ownsRow.cellAt h (k * 2 + 1) (by omega), cellsM_1 ms k (by omega)]
theorem OwnM.frozen {base g n cap : Nat} {ms : List Mk} {w : World} (h : OwnM base g n cap ms w) (k : Nat) : w.frozen? ⟨g, k, none⟩ = false := World.ownsRow.frozenAt h k
theorem OwnM.set {base g n cap : Nat} {ms : List Mk} {w : World} (h : OwnM base g n cap ms w) {k : Nat} (hk : k < n) (x : Mk) : OwnM base g n cap (ms.set k x) ((w.setCell ⟨g, k * 2, none⟩ (.int .i64 x.1)).setCell ⟨g, k * 2 + 1, none⟩ (.int .i64 x.2)) := by
 have h1 := (World.ownsRow.stored h (k * 2) (.int .i64 x.1)).1
 have h2 := (World.ownsRow.stored h1 (k * 2 + 1) (.int .i64 x.2)).1
 unfold OwnM
 rw [cellsM_set ms x k (by rw [h.len]; exact hk)]
 exact h2
theorem OwnM.lt {base g n cap : Nat} {ms : List Mk} {w : World} (h : OwnM base g n cap ms w) : g < w.heap.size := (World.ownsRow.lt h g rfl).2
theorem OwnM.same {base g n cap : Nat} {ms : List Mk} {w w' : World} (h : OwnM base g n cap ms w) (hb : w'.heap[g]? = w.heap[g]?) : OwnM base g n cap ms w' := by
 refine ⟨h.1, ?_⟩
 rcases h.2 with h' | ⟨g', c, cur, hv, hB, hg, rest⟩
 ·exact .inl h'
 ·cases hv
  exact .inr ⟨g, cap, cur, rfl, hB, hb.trans hg, rest⟩
theorem OwnM.stays {base g n cap : Nat} {ms : List Mk} {w w' : World} (h : OwnM base g n cap ms w) (hb : Below w.heap.size w w') : OwnM base g n cap ms w' := h.same (hb.block g h.lt)
theorem OwnM.room {base g n cap : Nat} {ms : List Mk} {w : World} (h : OwnM base g n cap ms w) : n ≤ cap := by
 rcases h.2 with ⟨h', _⟩ | ⟨g', c, cur, hv, hB, hg, hnc, rest⟩
 ·cases h'
 ·cases hv; exact hnc
def belowB (a b : Mk) : Bool := decide (a.2 < b.2) || (decide (a.2 = b.2) && decide (b.1 < a.1))
theorem belowB_yes {a b : Mk} (h : ltM a b) : belowB a b = true := by unfold belowB; unfold ltM at h; simpa using h
theorem belowB_no {a b : Mk} (h : ¬ ltM a b) : belowB a b = false := by
 cases hb : belowB a b with
 | false => rfl
 | true =>
  refine absurd ?_ h
  unfold belowB at hb
  unfold ltM
  simpa using hb
theorem belowB_ne {a b : Mk} (h : a.2 ≠ b.2) : belowB a b = decide (a.2 < b.2) := by unfold belowB; simp [h]
theorem belowB_eq {a b : Mk} (h : a.2 = b.2) : belowB a b = decide (b.1 < a.1) := by unfold belowB; simp [h]
theorem below_any (a b : Mk) (w : World) :
  Calls Tryz.prog 274 #[.agg #[.int .i64 a.1, .int .i64 a.2], .agg #[.int .i64 b.1, .int .i64 b.2]] w fun e w' => e = .returned (.bool (belowB a b)) ∧ Below w.heap.size w w' := by
 obtain ⟨a1, a2⟩ := a
 obtain ⟨b1, b2⟩ := b
 by_cases h : a2 = b2
 ·have HE := hid (belowB_eq (a := (a1, a2)) (b := (b1, b2)) h)
  subst h
  go_enter Tryz.func274, Tryz.ntmps274
  go_wp2
  go_ret
  rw [HE.out]
  exact ⟨rfl, by go_grown⟩
 ·have HE := hid (belowB_ne (a := (a1, a2)) (b := (b1, b2)) h)
  go_enter Tryz.func274, Tryz.ntmps274
  go_wp2
  go_ret
  rw [HE.out]
  exact ⟨rfl, by go_grown⟩
theorem mlen_any (a : Option Addr) (n cap : Nat) (w : World) : Calls Tryz.prog 271 #[.slice a n cap] w fun e w' => e = .returned (.int .i64 n) ∧ w' = w := by
 go_enter Tryz.func271, Tryz.ntmps271
 go_wp2
 go_ret
 exact ⟨rfl, rfl⟩
set_option maxHeartbeats 2000000 in
theorem less_any (base g n cap i j : Nat) (ms : List Mk) (w : World) (h : OwnM base g n cap ms w) (hi : i < n) (hj : j < n) (hn : n ≤ 1001) :
  Calls Tryz.prog 272 #[.slice (some ⟨g, 0, none⟩) n cap, .int .i64 i, .int .i64 j] w fun e w' => e = .returned (.bool (belowB (gx ms i) (gx ms j))) ∧ Below w.heap.size w w' := by
 have i0 := h.at0 hi
 have i1 := h.at1 hi
 have j0 := h.at0 hj
 have j1 := h.at1 hj
 clear h
 generalize gx ms i = x at *
 generalize gx ms j = y at *
 have HK : Hid (∀ W, Below w.heap.size w W → W.cell? ⟨g, i * 2, none⟩ = some (.int .i64 x.1) ∧ W.cell? ⟨g, i * 2 + 1, none⟩ = some (.int .i64 x.2) ∧ W.cell? ⟨g, j * 2, none⟩ = some (.int .i64 y.1) ∧ W.cell? ⟨g, j * 2 + 1, none⟩ = some (.int .i64 y.2)) :=
  fun W h => ⟨(h.cell (World.block_lt_of_cell? _ _ i0)).trans i0, (h.cell (World.block_lt_of_cell? _ _ i1)).trans i1, (h.cell (World.block_lt_of_cell? _ _ j0)).trans j0, (h.cell (World.block_lt_of_cell? _ _ j1)).trans j1⟩
 go_enter Tryz.func272, Tryz.ntmps272
 go_wp2_with fail
 go_region_held3 (fun W : World => W.cell? ⟨g, i * 2, none⟩ = some (.int .i64 x.1) ∧ W.cell? ⟨g, i * 2 + 1, none⟩ = some (.int .i64 x.2) ∧ W.cell? ⟨g, j * 2, none⟩ = some (.int .i64 y.1) ∧ W.cell? ⟨g, j * 2 + 1, none⟩ = some (.int .i64 y.2)) (first | exact ⟨i0, i1, j0, j1⟩ | assumption | exact HK.out _ hB) (first | (refine (below_any x y w.drew).mono ?_; rintro e w2 ⟨rfl, hB0⟩; have hB : Below w.heap.size w w2 := (Below.refl _ _).drew.trans hB0))
 have HB := hid hB
 clear hB hB0 HK i0 i1 j0 j1
 go_wp2
 go_ret
 exact ⟨rfl, HB.out⟩
theorem swap_any (base g n cap i j : Nat) (ms : List Mk) (w : World) (h : OwnM base g n cap ms w) (hi : i < n) (hj : j < n) (hn : n ≤ 1001) :
  Calls Tryz.prog 273 #[.slice (some ⟨g, 0, none⟩) n cap, .int .i64 i, .int .i64 j] w fun e w' => e = .returned (.tuple #[]) ∧ OwnM base g n cap (swp ms i j) w' ∧ But [g] w w' := by
 have i0 := h.at0 hi
 have i1 := h.at1 hi
 have j0 := h.at0 hj
 have j1 := h.at1 hj
 have fi := h.frozen
 have h2 := h.set hi (gx ms j)
 have c0 := h2.at0 hj
 have c1 := h2.at1 hj
 have f2 := h2.frozen
 have HS : Hid (OwnM base g n cap (swp ms i j) _) := h2.set hj (gx ms i)
 clear h h2
 generalize gx ms i = x at *
 generalize gx ms j = y at *
 generalize gx (ms.set i y) j = z at *
 go_enter Tryz.func273, Tryz.ntmps273
 go_wp2_with fail
 go_region
 go_wp2
 go_end0
 exact ⟨rfl, HS.out, ((((But.refl [g] w).set (p := ⟨g, i * 2, none⟩) (List.mem_singleton.2 rfl) _).set (p := ⟨g, i * 2 + 1, none⟩) (List.mem_singleton.2 rfl) _).set (p := ⟨g, j * 2, none⟩) (List.mem_singleton.2 rfl) _ |>.set (p := ⟨g, j * 2 + 1, none⟩) (List.mem_singleton.2 rfl) _).drew⟩
end Go.Proofs.YtjgggialnegddaaGreat
