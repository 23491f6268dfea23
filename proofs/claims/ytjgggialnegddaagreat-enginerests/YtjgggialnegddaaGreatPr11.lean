/-
  The texts Asks, Marks of this proof.
-/
import Derived.Test.YtjgggialnegddaaGreatPr10
import Derived.ProofKit
set_option linter.unusedVariables false
set_option maxRecDepth 1000000
namespace Go.Proofs.YtjgggialnegddaaGreat
open Go.RowKit
def tokL (c : Cf) (t : Int) : List Int := if 0 ≤ t ∧ t < c.vocab then rowK (fun k => weightZ c.seed 0 t k) c.dim.toNat else []
def plL (c : Cf) (p : Int) : List Int := if 0 ≤ p ∧ p < 256 then rowK (fun k => mulZ (weightZ c.seed 1 p k) 16384) c.dim.toNat else []
def tabL (c : Cf) (la wh : Int) : List (List Int) := if 0 ≤ la ∧ la < c.layers ∧ 0 ≤ wh ∧ wh ≤ 5 then tblK (fun r => rowK (fun k => weightZ c.seed (2 + 6 * la + wh) r k) c.dim.toNat) c.dim.toNat else []
theorem may_parts {c : Cf} (h : mayB c = true) : 2 ≤ c.vocab ∧ c.vocab ≤ 64 ∧ 1 ≤ c.dim ∧ c.dim ≤ 16 ∧ 1 ≤ c.layers ∧ c.layers ≤ 4 := by
 unfold mayB at h
 simp only [Bool.and_eq_true, btw_iff] at h
 omega
theorem tokL_len {c : Cf} (h : mayB c = true) (t : Int) : (tokL c t).length ≤ 16 := by
 have := may_parts h
 unfold tokL
 split
 ·rw [rowK_len]; omega
 ·simp
theorem plL_len {c : Cf} (h : mayB c = true) (t : Int) : (plL c t).length ≤ 16 := by
 have := may_parts h
 unfold plL
 split
 ·rw [rowK_len]; omega
 ·simp
theorem tabL_len {c : Cf} (h : mayB c = true) (la wh : Int) : (tabL c la wh).length ≤ 16 := by
 have := may_parts h
 unfold tabL
 split
 ·rw [tblK_len]; omega
 ·simp
theorem Made.giveso {w w' : World} {n : Nat} {xs : List Int} {e : Ending} (h : Made w n xs e w') : GivesO w n xs e w' := by
 obtain ⟨g, c, rfl, hO, hb⟩ := h
 exact ⟨_, rfl, hO, hb⟩
theorem giveso_nil {w w' : World} {e : Ending} (h : e = .returned (.slice none 0 0) ∧ Below w.heap.size w w') : GivesO w 0 [] e w' := ⟨_, h.1, World.ownsRow_nil _ _ _ _, h.2⟩
theorem givest_nil {w w' : World} {e : Ending} (h : e = .returned (.slice none 0 0) ∧ Below w.heap.size w w') : GivesT w 0 [] e w' :=
 ⟨none, 0, [], h.1, ⟨⟨rfl, Nat.le_refl _, by omega, fun _ => ⟨rfl, rfl⟩, fun i hi => by omega⟩, fun i hi => by omega, fun i hi => by omega⟩, h.2⟩
theorem cf_dim {c : Cf} (h : mayB c = true) : ∃ D : Nat, c = ⟨c.seed, c.vocab, (D : Int), c.layers, c.top, c.heat⟩ ∧ c.dim.toNat = D ∧ 1 ≤ D ∧ D ≤ 16 := by
 have := may_parts h
 refine ⟨c.dim.toNat, ?_, rfl, by omega, by omega⟩
 rw [Int.toNat_of_nonneg (by omega)]
theorem token_g (p : Option Addr) (c : Cf) (t : Int) (w : World) (hp : MdAt w p c) (hc : mayB c = true) :
  Calls Tryz.prog 151 #[.pointer p, .int .i64 t] w fun e w' => GivesO w (tokL c t).length (tokL c t) e w' := by
 have hm := may_parts hc
 obtain ⟨D, hD, hD2, h1, h16⟩ := cf_dim hc
 unfold tokL
 by_cases h : 0 ≤ t ∧ t < c.vocab
 ·rw [if_pos h, rowK_len, hD2]
  rw [hD] at hp
  exact (token_yes p _ _ _ _ _ t D w hp h.1 h.2 hm.2.1 h16).mono fun e w' h => h.giveso
 ·rw [if_neg h]
  exact (token_no p c t w hp (by omega) (by omega) (by omega)).mono fun e w' h => giveso_nil h
theorem place_g (p : Option Addr) (c : Cf) (t : Int) (w : World) (hp : MdAt w p c) (hc : mayB c = true) :
  Calls Tryz.prog 152 #[.pointer p, .int .i64 t] w fun e w' => GivesO w (plL c t).length (plL c t) e w' := by
 have hm := may_parts hc
 obtain ⟨D, hD, hD2, h1, h16⟩ := cf_dim hc
 unfold plL
 by_cases h : 0 ≤ t ∧ t < 256
 ·rw [if_pos h, rowK_len, hD2]
  rw [hD] at hp hc
  exact (place_yes p _ _ _ _ _ t D w hp hc h.1 h.2 h16).mono fun e w' h => h.giveso
 ·rw [if_neg h]
  exact (place_no p c t w hp hc (by omega)).mono fun e w' h => giveso_nil h
theorem rows_g (p : Option Addr) (c : Cf) (la wh : Int) (w : World) (hp : MdAt w p c) (hc : mayB c = true) :
  Calls Tryz.prog 208 #[.pointer p, .int .i64 la, .int .i64 wh] w fun e w' => GivesT w (tabL c la wh).length (tabL c la wh) e w' := by
 have hm := may_parts hc
 obtain ⟨D, hD, hD2, h1, h16⟩ := cf_dim hc
 unfold tabL
 by_cases h : 0 ≤ la ∧ la < c.layers ∧ 0 ≤ wh ∧ wh ≤ 5
 ·rw [if_pos h, tblK_len, hD2]
  rw [hD] at hp
  exact (rows_yes p _ _ _ _ _ la wh D w hp h.1 h.2.1 hm.2.2.2.2.2 h.2.2.1 h.2.2.2 h16).mono fun e w' h => h.gives (by omega)
 ·rw [if_neg h]
  exact (rows_no p c la wh w hp (by omega) (by omega) (by omega)).mono fun e w' h => givest_nil h
theorem rtoken_g (c : Cf) (t : Int) (w : World) (hc : mayB c = true) :
  Calls Tryz.prog 72 #[.agg (CfV c), .int .i64 t] w fun e w' => GivesO w (tokL c t).length (tokL c t) e w' := by
 have hm := may_parts hc
 obtain ⟨D, hD, hD2, h1, h16⟩ := cf_dim hc
 unfold tokL
 by_cases h : 0 ≤ t ∧ t < c.vocab
 ·rw [if_pos h, rowK_len, hD2]
  have := rtoken_yes c.seed c.vocab c.layers c.top c.heat t D w h.1 h.2 hm.2.1 h16
  rw [← hD] at this
  exact this
 ·rw [if_neg h]
  exact (rtoken_no c t w (by omega)).mono fun e w' h => giveso_nil h
theorem rplace_g (c : Cf) (t : Int) (w : World) (hc : mayB c = true) :
  Calls Tryz.prog 73 #[.agg (CfV c), .int .i64 t] w fun e w' => Gives w (plL c t).length (plL c t) e w' := by
 have hm := may_parts hc
 obtain ⟨D, hD, hD2, h1, h16⟩ := cf_dim hc
 unfold plL
 by_cases h : 0 ≤ t ∧ t < 256
 ·rw [if_pos h, rowK_len, hD2]
  have := rplace_yes c.seed c.vocab c.layers c.top c.heat t D w h.1 h.2 h16 h1
  rw [← hD] at this
  exact this
 ·rw [if_neg h]
  exact (rplace_no c t w (by omega)).mono fun e w' h => (giveso_nil h).gives
theorem rrows_g (c : Cf) (la wh : Int) (w : World) (hc : mayB c = true) :
  Calls Tryz.prog 132 #[.agg (CfV c), .int .i64 la, .int .i64 wh] w fun e w' => GivesT w (tabL c la wh).length (tabL c la wh) e w' := by
 have hm := may_parts hc
 obtain ⟨D, hD, hD2, h1, h16⟩ := cf_dim hc
 unfold tabL
 by_cases h : 0 ≤ la ∧ la < c.layers ∧ 0 ≤ wh ∧ wh ≤ 5
 ·rw [if_pos h, tblK_len, hD2]
  have := rrows_yes c.seed c.vocab c.layers c.top c.heat la wh D w h.1 h.2.1 hm.2.2.2.2.2 h.2.2.1 h.2.2.2 h16
  rw [← hD] at this
  exact this
 ·rw [if_neg h]
  exact (rrows_no c la wh w (by omega)).mono fun e w' h => givest_nil h
theorem Tryz.cellsI : Tryz.prog.cellsOf 3 = 1 := by kernel_rfl
theorem Tryz.cellsU : Tryz.prog.cellsOf 22 = 1 := by kernel_rfl
section
open Go.ChangeShapes Go.WideShapes Go.ChangeAt
variable {H : Type} {enc : TypeId × Value → H} {W : World}
theorem at_some {α : Type} {xs : List α} {n : Nat} (h : xs.length = n) {i : Nat} (hi : i < n) : ∃ y, xs[i]? = some y := ⟨_, List.getElem?_eq_getElem (by omega)⟩
end
end Go.Proofs.YtjgggialnegddaaGreat
namespace Go.Proofs.YtjgggialnegddaaGreat
open Go.RowKit
def cellsM : List Mk → List Value
 | [] => []
 | m :: ms => .int .i64 m.1 :: .int .i64 m.2 :: cellsM ms
theorem cellsM_len (ms : List Mk) : (cellsM ms).length = ms.length * 2 := by
 induction ms with
 | nil => rfl
 | cons m ms ih => simp [cellsM, ih]; omega
theorem cellsM_app (ms ns : List Mk) : cellsM (ms ++ ns) = cellsM ms ++ cellsM ns := by
 induction ms with
 | nil => rfl
 | cons m ms ih => simp [cellsM, ih]
theorem cellsM_0 (ms : List Mk) : ∀ k, k < ms.length → (cellsM ms)[k * 2]? = some (.int .i64 (gx ms k).1) := by
 induction ms with
 | nil => intro k hk; simp at hk
 | cons m ms ih =>
  intro k hk
  cases k with
  | zero => simp [cellsM, gx]
  | succ k =>
   have := ih k (by simpa using hk)
   rw [show (k + 1) * 2 = k * 2 + 1 + 1 by omega]
   simpa [cellsM, gx] using this
theorem cellsM_1 (ms : List Mk) : ∀ k, k < ms.length → (cellsM ms)[k * 2 + 1]? = some (.int .i64 (gx ms k).2) := by
 induction ms with
 | nil => intro k hk; simp at hk
 | cons m ms ih =>
  intro k hk
  cases k with
  | zero => simp [cellsM, gx]
  | succ k =>
   have := ih k (by simpa using hk)
   rw [show (k + 1) * 2 + 1 = (k * 2 + 1) + 1 + 1 by omega]
   simpa [cellsM, gx] using this
theorem cellsM_set (ms : List Mk) (x : Mk) : ∀ k, k < ms.length → cellsM (ms.set k x) = ((cellsM ms).set (k * 2) (.int .i64 x.1)).set (k * 2 + 1) (.int .i64 x.2) := by
 induction ms with
 | nil => intro k hk; simp at hk
 | cons m ms ih =>
  intro k hk
  cases k with
  | zero => simp [cellsM]
  | succ k =>
   have := ih k (by simpa using hk)
   rw [show (k + 1) * 2 + 1 = (k * 2 + 1) + 1 + 1 by omega, show (k + 1) * 2 = k * 2 + 1 + 1 by omega]
   simp [cellsM, this]
def OwnM (base g n cap : Nat) (ms : List Mk) (w : World) : Prop := w.ownsRow base 273 2 (.slice (some ⟨g, 0, none⟩) n cap) n (cellsM ms)
theorem OwnM.len {base g n cap : Nat} {ms : List Mk} {w : World} (h : OwnM base g n cap ms w) : ms.length = n := by have := h.1; rw [cellsM_len] at this; omega
theorem OwnM.at0 {base g n cap : Nat} {ms : List Mk} {w : World} (h : OwnM base g n cap ms w) {k : Nat} (hk : k < n) : w.cell? ⟨g, k * 2, none⟩ = some (.int .i64 (gx ms k).1) := by
 have hl := h.len
 rw [World.ownsRow.cellAt h (k * 2) (by omega), cellsM_0 ms k (by omega)]
theorem OwnM.at1 {base g n cap : Nat} {ms : List Mk} {w : World} (h : OwnM base g n cap ms w) {k : Nat} (hk : k < n) : w.cell? ⟨g, k * 2 + 1, none⟩ = some (.int .i64 (gx ms k).2) := by
 have hl := h.len
 rw [World.ownsRow.cellAt h (k * 2 + 1) (by omega), cellsM_1 ms k (by omega)]
theorem OwnM.frozen {base g n cap : Nat} {ms : List Mk} {w : World} (h : OwnM base g n cap ms w) (k : Nat) : w.frozen? ⟨g, k, none⟩ = false := World.ownsRow.frozenAt h k
theorem OwnM.set {base g n cap : Nat} {ms : List Mk} {w : World} (h : OwnM base g n cap ms w) {k : Nat} (hk : k < n) (x : Mk) : OwnM base g n cap (ms.set k x) ((w.setCell ⟨g, k * 2, none⟩ (.int .i64 x.1)).setCell ⟨g, k * 2 + 1, none⟩ (.int .i64 x.2)) := by
 have h1 := (World.ownsRow.stored h (k * 2) (.int .i64 x.1)).1
 have h2 := (World.ownsRow.stored h1 (k * 2 + 1) (.int .i64 x.2)).1
 unfold OwnM
 rw [cellsM_set ms x k (by rw [h.len]; exact hk)]
 exact h2
theorem OwnM.lt {base g n cap : Nat} {ms : List Mk} {w : World} (h : OwnM base g n cap ms w) : g < w.heap.size := (World.ownsRow.lt h g rfl).2
theorem OwnM.same {base g n cap : Nat} {ms : List Mk} {w w' : World} (h : OwnM base g n cap ms w) (hb : w'.heap[g]? = w.heap[g]?) : OwnM base g n cap ms w' := by
 refine ⟨h.1, ?_⟩
 rcases h.2 with h' | ⟨g', c, cur, hv, hB, hg, rest⟩
 ·exact .inl h'
 ·cases hv
  exact .inr ⟨g, cap, cur, rfl, hB, hb.trans hg, rest⟩
theorem OwnM.stays {base g n cap : Nat} {ms : List Mk} {w w' : World} (h : OwnM base g n cap ms w) (hb : Below w.heap.size w w') : OwnM base g n cap ms w' := h.same (hb.block g h.lt)
theorem OwnM.room {base g n cap : Nat} {ms : List Mk} {w : World} (h : OwnM base g n cap ms w) : n ≤ cap := by
 rcases h.2 with ⟨h', _⟩ | ⟨g', c, cur, hv, hB, hg, hnc, rest⟩
 ·cases h'
 ·cases hv; exact hnc
def belowB (a b : Mk) : Bool := decide (a.2 < b.2) || (decide (a.2 = b.2) && decide (b.1 < a.1))
theorem belowB_yes {a b : Mk} (h : ltM a b) : belowB a b = true := by unfold belowB; unfold ltM at h; simpa using h
theorem belowB_no {a b : Mk} (h : ¬ ltM a b) : belowB a b = false := by
 cases hb : belowB a b with
 | false => rfl
 | true =>
  refine absurd ?_ h
  unfold belowB at hb
  unfold ltM
  simpa using hb
theorem belowB_ne {a b : Mk} (h : a.2 ≠ b.2) : belowB a b = decide (a.2 < b.2) := by unfold belowB; simp [h]
theorem belowB_eq {a b : Mk} (h : a.2 = b.2) : belowB a b = decide (b.1 < a.1) := by unfold belowB; simp [h]
theorem below_any (a b : Mk) (w : World) :
  Calls Tryz.prog 274 #[.agg #[.int .i64 a.1, .int .i64 a.2], .agg #[.int .i64 b.1, .int .i64 b.2]] w fun e w' => e = .returned (.bool (belowB a b)) ∧ Below w.heap.size w w' := by
 obtain ⟨a1, a2⟩ := a
 obtain ⟨b1, b2⟩ := b
 by_cases h : a2 = b2
 ·have HE := hid (belowB_eq (a := (a1, a2)) (b := (b1, b2)) h)
  subst h
  go_enter Tryz.func274, Tryz.ntmps274
  go_wp2
  go_ret
  rw [HE.out]
  exact ⟨rfl, by go_grown⟩
 ·have HE := hid (belowB_ne (a := (a1, a2)) (b := (b1, b2)) h)
  go_enter Tryz.func274, Tryz.ntmps274
  go_wp2
  go_ret
  rw [HE.out]
  exact ⟨rfl, by go_grown⟩
theorem mlen_any (a : Option Addr) (n cap : Nat) (w : World) : Calls Tryz.prog 271 #[.slice a n cap] w fun e w' => e = .returned (.int .i64 n) ∧ w' = w := by
 go_enter Tryz.func271, Tryz.ntmps271
 go_wp2
 go_ret
 exact ⟨rfl, rfl⟩
set_option maxHeartbeats 2000000 in
theorem less_any (base g n cap i j : Nat) (ms : List Mk) (w : World) (h : OwnM base g n cap ms w) (hi : i < n) (hj : j < n) (hn : n ≤ 1001) :
  Calls Tryz.prog 272 #[.slice (some ⟨g, 0, none⟩) n cap, .int .i64 i, .int .i64 j] w fun e w' => e = .returned (.bool (belowB (gx ms i) (gx ms j))) ∧ Below w.heap.size w w' := by
 have i0 := h.at0 hi
 have i1 := h.at1 hi
 have j0 := h.at0 hj
 have j1 := h.at1 hj
 clear h
 generalize gx ms i = x at *
 generalize gx ms j = y at *
 have HK : Hid (∀ W, Below w.heap.size w W → W.cell? ⟨g, i * 2, none⟩ = some (.int .i64 x.1) ∧ W.cell? ⟨g, i * 2 + 1, none⟩ = some (.int .i64 x.2) ∧ W.cell? ⟨g, j * 2, none⟩ = some (.int .i64 y.1) ∧ W.cell? ⟨g, j * 2 + 1, none⟩ = some (.int .i64 y.2)) :=
  fun W h => ⟨(h.cell (World.block_lt_of_cell? _ _ i0)).trans i0, (h.cell (World.block_lt_of_cell? _ _ i1)).trans i1, (h.cell (World.block_lt_of_cell? _ _ j0)).trans j0, (h.cell (World.block_lt_of_cell? _ _ j1)).trans j1⟩
 go_enter Tryz.func272, Tryz.ntmps272
 go_wp2_with fail
 go_region_held3 (fun W : World => W.cell? ⟨g, i * 2, none⟩ = some (.int .i64 x.1) ∧ W.cell? ⟨g, i * 2 + 1, none⟩ = some (.int .i64 x.2) ∧ W.cell? ⟨g, j * 2, none⟩ = some (.int .i64 y.1) ∧ W.cell? ⟨g, j * 2 + 1, none⟩ = some (.int .i64 y.2)) (first | exact ⟨i0, i1, j0, j1⟩ | assumption | exact HK.out _ hB) (first | (refine (below_any x y w.drew).mono ?_; rintro e w2 ⟨rfl, hB0⟩; have hB : Below w.heap.size w w2 := (Below.refl _ _).drew.trans hB0))
 have HB := hid hB
 clear hB hB0 HK i0 i1 j0 j1
 go_wp2
 go_ret
 exact ⟨rfl, HB.out⟩
theorem swap_any (base g n cap i j : Nat) (ms : List Mk) (w : World) (h : OwnM base g n cap ms w) (hi : i < n) (hj : j < n) (hn : n ≤ 1001) :
  Calls Tryz.prog 273 #[.slice (some ⟨g, 0, none⟩) n cap, .int .i64 i, .int .i64 j] w fun e w' => e = .returned (.tuple #[]) ∧ OwnM base g n cap (swp ms i j) w' ∧ But [g] w w' := by
 have i0 := h.at0 hi
 have i1 := h.at1 hi
 have j0 := h.at0 hj
 have j1 := h.at1 hj
 have fi := h.frozen
 have h2 := h.set hi (gx ms j)
 have c0 := h2.at0 hj
 have c1 := h2.at1 hj
 have f2 := h2.frozen
 have HS : Hid (OwnM base g n cap (swp ms i j) _) := h2.set hj (gx ms i)
 clear h h2
 generalize gx ms i = x at *
 generalize gx ms j = y at *
 generalize gx (ms.set i y) j = z at *
 go_enter Tryz.func273, Tryz.ntmps273
 go_wp2_with fail
 go_region
 go_wp2
 go_end0
 exact ⟨rfl, HS.out, ((((But.refl [g] w).set (p := ⟨g, i * 2, none⟩) (List.mem_singleton.2 rfl) _).set (p := ⟨g, i * 2 + 1, none⟩) (List.mem_singleton.2 rfl) _).set (p := ⟨g, j * 2, none⟩) (List.mem_singleton.2 rfl) _ |>.set (p := ⟨g, j * 2 + 1, none⟩) (List.mem_singleton.2 rfl) _).drew⟩
end Go.Proofs.YtjgggialnegddaaGreat
