/-
  Memories: what lies at a pointer to one (MemAt); contracts: New, all, Layers, Len.
-/
import Derived.Test.YtehmdlipacbpfaaGreatStepY
namespace Go.Proofs.YtehmdlipacbpfaaGreat
open Go.RowKit
set_option linter.unusedVariables false
set_option maxRecDepth 1000000

/-- A layer's two slices. -/
abbrev Hp := Hd × Hd
def pk (ps : List Hp) (i : Nat) : Hp := ps[i]?.getD ((none, 0, 0), (none, 0, 0))
/-- Their cells. -/
def flatP : List Hp → List Value
  | [] => []
  | p :: r => hdV p.1 :: hdV p.2 :: flatP r
theorem flatP_len (ps : List Hp) : (flatP ps).length = ps.length * 2 := by
  induction ps with
  | nil => rfl
  | cons p r ih => simp only [flatP, List.length_cons, ih]; omega
theorem flatP_at0 (ps : List Hp) (i : Nat) (h : i < ps.length) : (flatP ps)[i * 2]? = some (hdV (pk ps i).1) := by
  induction ps generalizing i with
  | nil => simp at h
  | cons p r ih =>
    cases i with
    | zero => rfl
    | succ i =>
      rw [show (i + 1) * 2 = i * 2 + 1 + 1 by omega]
      simp only [flatP, List.getElem?_cons_succ]
      exact ih i (by simpa using h)
theorem flatP_at1 (ps : List Hp) (i : Nat) (h : i < ps.length) : (flatP ps)[i * 2 + 1]? = some (hdV (pk ps i).2) := by
  induction ps generalizing i with
  | nil => simp at h
  | cons p r ih =>
    cases i with
    | zero => rfl
    | succ i =>
      rw [show (i + 1) * 2 + 1 = i * 2 + 1 + 1 + 1 by omega]
      simp only [flatP, List.getElem?_cons_succ]
      exact ih i (by simpa using h)
theorem flatP_set (ps : List Hp) (k : Nat) (x y : Hd) : flatP (ps.set k (x, y)) = ((flatP ps).set (k * 2) (hdV x)).set (k * 2 + 1) (hdV y) := by
  induction ps generalizing k with
  | nil => rfl
  | cons p r ih =>
    cases k with
    | zero => rfl
    | succ k =>
      rw [show (k + 1) * 2 = k * 2 + 1 + 1 by omega]
      simp only [List.set_cons_succ, flatP, ih k]
/-- The row in block g, not below base, holds these layers. -/
def OwnP (base g n : Nat) (ps : List Hp) (w : World) : Prop := w.ownsRow base 77 2 (.slice (some ⟨g, 0, none⟩) n n) n (flatP ps)
theorem OwnP.len {base g n : Nat} {ps : List Hp} {w : World} (h : OwnP base g n ps w) : ps.length = n := by have := h.1; rw [flatP_len] at this; omega
theorem OwnP.cell0 {base g n : Nat} {ps : List Hp} {w : World} (h : OwnP base g n ps w) {k : Nat} (hk : k < n) : w.cell? ⟨g, k * 2, none⟩ = some (hdV (pk ps k).1) := by
  have hl := h.len
  rw [World.ownsRow.cellAt h (k * 2) (by omega)]
  exact flatP_at0 ps k (by omega)
theorem OwnP.cell1 {base g n : Nat} {ps : List Hp} {w : World} (h : OwnP base g n ps w) {k : Nat} (hk : k < n) : w.cell? ⟨g, k * 2 + 1, none⟩ = some (hdV (pk ps k).2) := by
  have hl := h.len
  rw [World.ownsRow.cellAt h (k * 2 + 1) (by omega)]
  exact flatP_at1 ps k (by omega)
theorem OwnP.frozen {base g n : Nat} {ps : List Hp} {w : World} (h : OwnP base g n ps w) (k : Nat) : w.frozen? ⟨g, k, none⟩ = false := World.ownsRow.frozenAt h k
theorem OwnP.set {base g n : Nat} {ps : List Hp} {w : World} (h : OwnP base g n ps w) (k : Nat) (x y : Hd) : OwnP base g n (ps.set k (x, y)) ((w.setCell ⟨g, k * 2, none⟩ (hdV x)).setCell ⟨g, k * 2 + 1, none⟩ (hdV y)) := by
  have h1 := (World.ownsRow.stored h (k * 2) (hdV x)).1
  have h2 := (World.ownsRow.stored h1 (k * 2 + 1) (hdV y)).1
  unfold OwnP
  rw [flatP_set]
  exact h2
theorem OwnP.base {base g n : Nat} {ps : List Hp} {w : World} (h : OwnP base g n ps w) : base ≤ g := (World.ownsRow.lt h g rfl).1
theorem OwnP.lt {base g n : Nat} {ps : List Hp} {w : World} (h : OwnP base g n ps w) : g < w.heap.size := (World.ownsRow.lt h g rfl).2
theorem OwnP.stays {base g n : Nat} {ps : List Hp} {w w' : World} (h : OwnP base g n ps w) (hb : Below w.heap.size w w') : OwnP base g n ps w' := own_below h hb
theorem OwnP.low {base base' g n : Nat} {ps : List Hp} {w : World} (h : OwnP base g n ps w) (hb : base' ≤ base) : OwnP base' g n ps w := own_base h hb
theorem OwnP.blk {base g n : Nat} {ps : List Hp} {w : World} (h : OwnP base g n ps w) : ∃ cur, w.heap[g]? = some (.cells cur 77 (0, 0)) := by
  rcases id h.2 with ⟨h', _⟩ | ⟨g', c, cur, hv, hB, hg, rest⟩
  · cases h'
  · cases hv; exact ⟨cur, hg⟩
theorem Tryz.infoP : (Tryz.prog.info? 77).map (fun i => (i.zero, i.size, i.bytes)) = some (some (.agg #[.slice none 0 0, .slice none 0 0]), 2, 48) := by kernel_rfl
/-- 'make' of m layers. -/
theorem make_places (w : World) (m : Nat) (hm : m ≤ 1001) : (Instr.makeSlice 72 (.int .i64 (m : Int)) (.int .i64 (m : Int))).run Tryz.prog w = .ok (.slice (some ⟨w.heap.size, 0, none⟩) m m) (w.alloc (.cells (madeCells #[.slice none 0 0, .slice none 0 0] (m * 2)) 77)) := by
  obtain ⟨i0, hi, hz0, hz1, hz2⟩ := info_parts Tryz.infoP
  have := run_make (P := Tryz.prog) w 72 77 i0 (.agg #[.slice none 0 0, .slice none 0 0]) Tryz.underlying72 hi hz0 .i64 .i64 (m : Int) (m : Int) (by omega) (Int.le_refl _) (by rw [hz2]; omega) (by omega)
  rw [this, hz1, Int.toNat_natCast]
  rfl
theorem toList_made_two (z : Value) (n : Nat) : (madeCells #[z, z] n).toList = List.replicate n z := by
  apply List.ext_getElem?
  intro j
  by_cases hj : j < n
  · rcases (by omega : j % 2 = 0 ∨ j % 2 = 1) with e | e <;> simp [madeCells, hj, e]
  · simp [madeCells, hj]
theorem flatP_none (m : Nat) : flatP (List.replicate m ((none, 0, 0), (none, 0, 0))) = List.replicate (m * 2) (.slice none 0 0) := by
  induction m with
  | zero => rfl
  | succ m ih =>
    rw [List.replicate_succ, show (m + 1) * 2 = m * 2 + 1 + 1 by omega, List.replicate_succ, List.replicate_succ]
    simp only [flatP, ih]
    rfl
theorem own_places (w : World) (m : Nat) (hm : m ≤ 1001) : OwnP w.heap.size w.heap.size m (List.replicate m ((none, 0, 0), (none, 0, 0))) (w.alloc (.cells (madeCells #[.slice none 0 0, .slice none 0 0] (m * 2)) 77)) := by
  have := World.ownsRow_lit (base := w.heap.size) (e := 77) (size := 2) w (madeCells #[.slice none 0 0, .slice none 0 0] (m * 2)) m (Nat.le_refl _) (by unfold maxLen; omega) (by simp [madeCells])
  unfold OwnP
  rw [flatP_none, ← toList_made_two]
  exact this
/-- What lies at a pointer to a memory that somebody made: its layers in block g, their slices, and what they read as. -/
structure MemB (W : World) (B g : Nat) (M : List KV) (ps : List Hp) : Prop where
  var : W.heap[B]? = some (.cells #[.slice (some ⟨g, 0, none⟩) M.length M.length] 74 (0, 0))
  own : OwnP 0 g M.length ps W
  rows : ∀ i, i < M.length → TbH W (pk ps i).1 (kv M i).1 ∧ TbH W (pk ps i).2 (kv M i).2
theorem MemB.below {W W' : World} {B g : Nat} {M : List KV} {ps : List Hp} (h : MemB W B g M ps) (hb : Below W.heap.size W W') : MemB W' B g M ps :=
  ⟨block_below h.var hb, h.own.stays hb, fun i hi => ⟨(h.rows i hi).1.below hb, (h.rows i hi).2.below hb⟩⟩
/-- The memory at a pointer has these keys and values, a nil one none. -/
def MemAt (W : World) (p : Option Addr) (M : List KV) : Prop := (p = none ∧ M = []) ∨ ∃ B g ps, p = some ⟨B, 0, none⟩ ∧ MemB W B g M ps
theorem MemAt.below {W W' : World} {p : Option Addr} {M : List KV} (h : MemAt W p M) (hb : Below W.heap.size W W') : MemAt W' p M := by
  rcases h with h | ⟨B, g, ps, hp, h⟩
  · exact .inl h
  · exact .inr ⟨B, g, ps, hp, h.below hb⟩
/-- The call hands back a memory that it made. -/
def MemG (w : World) (M : List KV) (e : Ending) (w' : World) : Prop := ∃ B g ps, e = .returned (.pointer (some ⟨B, 0, none⟩)) ∧ w.heap.size ≤ B ∧ w.heap.size ≤ g ∧ MemB w' B g M ps ∧ Below w.heap.size w w'
/-- The new one. -/
theorem mem_new (w : World) (m : Nat) (hm : m ≤ 4) : MemB ((w.alloc (.cells (madeCells #[.slice none 0 0, .slice none 0 0] (m * 2)) 77)).alloc (.cells #[.slice (some ⟨w.heap.size, 0, none⟩) m m] 74)) (w.heap.size + 1) w.heap.size (noneM m) (List.replicate m ((none, 0, 0), (none, 0, 0))) := by
  have h1 := own_places w m (by omega)
  have hb : Below (w.alloc (.cells (madeCells #[.slice none 0 0, .slice none 0 0] (m * 2)) 77)).heap.size _ ((w.alloc (.cells (madeCells #[.slice none 0 0, .slice none 0 0] (m * 2)) 77)).alloc (.cells #[.slice (some ⟨w.heap.size, 0, none⟩) m m] 74)) := (Below.refl _ _).alloc (Nat.le_refl _) _
  refine ⟨?_, ?_, fun i hi => ?_⟩
  · rw [noneM_len]
    have := heap_alloc_new (w.alloc (.cells (madeCells #[.slice none 0 0, .slice none 0 0] (m * 2)) 77)) (.cells #[.slice (some ⟨w.heap.size, 0, none⟩) m m] 74)
    rw [World.size_alloc] at this
    exact this
  · rw [noneM_len]
    exact (h1.low (Nat.zero_le _)).stays hb
  · rw [noneM_len] at hi
    rw [noneM_at]
    have : pk (List.replicate m ((none, 0, 0), (none, 0, 0))) i = ((none, 0, 0), (none, 0, 0)) := by simp [pk, hi]
    rw [this]
    exact ⟨TbH.nil _, TbH.nil _⟩
/-- How many layers New makes. -/
def clampL (n : Int) : Nat := (max 0 (min n 4)).toNat
theorem anew_nat (m : Nat) (w : World) (hm : m ≤ 4) : Calls Tryz.prog 11 #[.int .i64 m] w fun e w' => MemG w (noneM m) e w' := by
  have hmk := make_places w m (by omega)
  have HN := hid (mem_new w m hm)
  have HB : Hid (Below w.heap.size w ((w.alloc (.cells (madeCells #[.slice none 0 0, .slice none 0 0] (m * 2)) 77)).alloc (.cells #[.slice (some ⟨w.heap.size, 0, none⟩) m m] 74))) := ((Below.refl _ _).alloc (Nat.le_refl _) _).alloc (by simp) _
  have h1 : (if (4 : Int) < (m : Int) then (4 : Int) else (m : Int)) = (m : Int) := by split <;> omega
  have h2 : (if (0 : Int) < (m : Int) then (m : Int) else 0) = (m : Int) := by split <;> omega
  have h3 : (if 0 < m then (m : Int) else 0) = (m : Int) := by split <;> omega
  have h4 : (if 4 < m then (4 : Int) else (m : Int)) = (m : Int) := by split <;> omega
  go_enter Tryz.func11, Tryz.ntmps11
  go_wp2
  go_ret
  exact ⟨_, _, _, rfl, by omega, Nat.le_refl _, HN.out, HB.out⟩
end Go.Proofs.YtehmdlipacbpfaaGreat
