/-
  Package breaker in memory (PkAt); counters; may, made, none, halfOpen, close.
-/
import Derived.Test.YtekdbmhpdkdjjaaBrMath
import Derived.BigQuiet
import Derived.Deep.RegionHeld3
import Derived.Deep.RegionLaw
import Derived.Deep.DrawnRows
namespace Go.Proofs.Ytekdbmhpdkdjjaa
open Go.RowKit
set_option linter.unusedVariables false
set_option maxRecDepth 1000000
variable {b : Nat} {w w' : World} {P : Pk}

/-- Its cells. -/
def PkC (P : Pk) : Array Value := #[.int .i64 P.f, .int .i64 P.c, .int .i64 P.m, .int .i64 P.n, .int .i64 P.now, .int .i64 P.st, .int .i64 P.cool, .int .u32 P.fn, .int .u32 P.fm, .int .i64 P.un, .bool P.tr, .int .u32 P.sn, .int .u32 P.sm]
/-- It lies there. -/
def PkAt (W : World) (b : Nat) (P : Pk) : Prop := W.heap[b]? = some (.cells (PkC P) 49 (0, 0))
theorem PkAt.lt (h : PkAt w b P) : b < w.heap.size := lt_of_block h
theorem PkAt.below (h : PkAt w b P) (hb : Below w.heap.size w w') : PkAt w' b P := (hb.block b h.lt).trans h
theorem PkAt.cells (h : PkAt w b P) : w.cell? ⟨b, 0, none⟩ = some (.int .i64 P.f) ∧ w.cell? ⟨b, 1, none⟩ = some (.int .i64 P.c) ∧ w.cell? ⟨b, 2, none⟩ = some (.int .i64 P.m) ∧ w.cell? ⟨b, 3, none⟩ = some (.int .i64 P.n) ∧ w.cell? ⟨b, 4, none⟩ = some (.int .i64 P.now) ∧ w.cell? ⟨b, 5, none⟩ = some (.int .i64 P.st) ∧ w.cell? ⟨b, 6, none⟩ = some (.int .i64 P.cool) ∧ w.cell? ⟨b, 7, none⟩ = some (.int .u32 P.fn) ∧ w.cell? ⟨b, 8, none⟩ = some (.int .u32 P.fm) ∧ w.cell? ⟨b, 9, none⟩ = some (.int .i64 P.un) ∧ w.cell? ⟨b, 10, none⟩ = some (.bool P.tr) ∧ w.cell? ⟨b, 11, none⟩ = some (.int .u32 P.sn) ∧ w.cell? ⟨b, 12, none⟩ = some (.int .u32 P.sm) := by
  have hc : w.heap[b]? = some (.cells (PkC P) 49 (0, 0)) := h
  refine ⟨?_, ?_, ?_, ?_, ?_, ?_, ?_, ?_, ?_, ?_, ?_, ?_, ?_⟩ <;> (rw [cell_of_row _ _ _ _ _ _ hc]; rfl)
theorem PkAt.frozen (h : PkAt w b P) (k : Nat) : w.frozen? ⟨b, k, none⟩ = false := frozen_of_row _ _ k _ _ h
theorem PkAt.set {k : Nat} {u : Value} {P' : Pk} (h : PkAt w b P) (e : (PkC P).setIfInBounds k u = PkC P') : PkAt (w.setCell ⟨b, k, none⟩ u) b P' := by
  have := row_set (k := k) (u := u) h
  rw [e] at this
  exact this
/-- Only this block has turned. -/
def Tn (b : Nat) (w w' : World) : Prop := Fb (at1 b) w w'
theorem Tn.refl (b : Nat) (w : World) : Tn b w w := Fb.refl _ _
theorem Tn.set (h : Tn b w w') (k : Nat) (u : Value) : Tn b w (w'.setCell ⟨b, k, none⟩ u) := Fb.trans h (Fb.set (F := at1 b) (p := ⟨b, k, none⟩) rfl u) fun x hx => .inl hx
theorem Tn.below {w2 : World} (h : Tn b w w') (hb : Below w'.heap.size w' w2) : Tn b w w2 := Fb.below h hb
theorem Tn.trans {w2 : World} (h : Tn b w w') (k : Tn b w' w2) : Tn b w w2 := Fb.trans h k fun x hx => .inl hx
theorem Tn.drew (h : Tn b w w') : Tn b w w'.drew := Fb.drew h

/-! ### Counters -/
theorem bup_any (n m : Int) (w : World) (h0 : 0 ≤ n) (h1 : n < m) (h2 : m ≤ 1000) : Calls Try.prog 31 #[.agg #[.int .u32 n, .int .u32 m], .int .u32 1] w fun e w' => e = .returned (.agg #[.int .u32 (n + 1), .int .u32 m]) ∧ Hid (Below w.heap.size w w') := by
  have e1 : IntKind.u32.wrap (m - n) = m - n := by rw [IntKind.wrap_u32]; omega
  have e2 : IntKind.u32.wrap (n + 1) = n + 1 := by rw [IntKind.wrap_u32]; omega
  have e3 : ¬ m - n < 1 := by omega
  go_enter Try.func31, Try.ntmps31
  go_wp2
  refine bodyPost_ret (v := .agg #[.int .u32 (n + 1), .int .u32 m]) (by simp [results, Try.results31, go_sem]) rfl ⟨rfl, ?_⟩
  exact ((Below.refl _ _).alloc (Nat.le_refl _) _).alloc (by simp) _
theorem bfull_any (n m : Int) (w : World) : Calls Try.prog 32 #[.agg #[.int .u32 n, .int .u32 m]] w fun e w' => e = .returned (.bool (decide (n = m))) ∧ Hid (Below w.heap.size w w') := by
  have HE : Hid (Below w.heap.size w (w.alloc (.cells #[.int .u32 n, .int .u32 m] 47))) := (Below.refl _ _).alloc (Nat.le_refl _) _
  go_enter Try.func32, Try.ntmps32
  go_wp2
  go_ret
  exact ⟨rfl, HE⟩
theorem bcnew_any (m : Int) (w : World) : Calls Try.prog 36 #[.int .u32 m] w fun e w' => e = .returned (.agg #[.int .u32 0, .int .u32 m]) ∧ Hid (Below w.heap.size w w') := by
  go_enter Try.func36, Try.ntmps36
  go_wp2
  refine bodyPost_ret (v := .agg #[.int .u32 0, .int .u32 m]) (by simp [results, Try.results36, go_sem]) rfl ⟨rfl, ?_⟩
  exact (Below.refl _ _).alloc (Nat.le_refl _) _
theorem bnone_any (m : Int) (w : World) (h0 : 1 ≤ m) (h1 : m ≤ 1000) : Calls Try.prog 30 #[.int .i64 m] w fun e w' => e = .returned (.agg #[.int .u32 0, .int .u32 m]) ∧ Hid (Below w.heap.size w w') := by
  have e1 : IntKind.u32.wrap m = m := by rw [IntKind.wrap_u32]; omega
  obtain ⟨W0, hW0⟩ : ∃ W0, W0 = w.alloc (.cells #[.int .u32 0, .int .u32 0] 47) := ⟨_, rfl⟩
  have hb0 : Below w.heap.size w W0 := by rw [hW0]; exact (Below.refl _ _).alloc (Nat.le_refl _) _
  have HC := bcnew_any m W0
  have HK : Hid (∀ W : World, Below W0.heap.size W0 W → W.heap[w.heap.size]? = some (.cells #[.int .u32 0, .int .u32 0] 47 (0, 0)) ∧ Below w.heap.size w W) := fun W hb => ⟨block_bel (by rw [hW0]; exact heap_alloc_new w _) hb, hb0.trans (hb.mono hb0.size)⟩
  clear hb0
  go_enter Try.func30, Try.ntmps30
  go_wp2_with fail
  rw [← hW0]
  clear hW0
  refine HC.mono ?_
  rintro e w1 ⟨rfl, hb⟩
  obtain ⟨k1, k2⟩ := HK.out _ hb.out
  clear hb HC HK
  obtain ⟨q, hq⟩ : ∃ q, w.heap.size = q := ⟨_, rfl⟩
  have HE : Hid (∀ W2 : World, ((w1.setCell ⟨q, 0, none⟩ (.int .u32 0)).setCell ⟨q, 1, none⟩ (.int .u32 m)) = W2 → W2.heap[q]? = some (.cells #[.int .u32 0, .int .u32 m] 47 (0, 0)) ∧ Below q w W2) := fun W2 e => by
    subst e
    refine ⟨?_, by rw [← hq]; exact (k2.setCell (Nat.le_refl _) _).setCell (Nat.le_refl _) _⟩
    rw [← hq]
    exact row_set (row_set k1)
  have HQ := hid hq
  rw [hq] at k1 k2 ⊢
  clear hq k2
  obtain ⟨c0, c1⟩ := cells_two k1
  have f0 := frozen_of_row _ _ 0 _ _ k1
  have f1 := frozen_of_row _ _ 1 _ _ k1
  go_wp2_with fail
  generalize hW2 : ((w1.setCell ⟨q, 0, none⟩ (.int .u32 0)).setCell ⟨q, 1, none⟩ (.int .u32 m)) = W2
  obtain ⟨k2, HB⟩ := HE.out W2 hW2
  obtain ⟨c2, c3⟩ := cells_two k2
  have HB2 := hid HB
  clear HB HE c0 c1 f0 f1 hW2 k1
  refine bodyPost_ret (v := .agg #[.int .u32 0, .int .u32 m]) (by simp [results, Try.results30, go_sem, c2, c3]) rfl ⟨rfl, ?_⟩
  have h1 := HQ.out
  have h2 := HB2.out
  unfold Hid
  rw [h1]
  exact h2
/-! ### Settings -/
theorem bin_any (n : Int) (w : World) : Calls Try.prog 34 #[.int .i64 n] w fun e w' => e = .returned (.bool (decide (1 ≤ n) && decide (n ≤ 1000))) ∧ w' = w := by
  by_cases h : 1 ≤ n
  · go_enter Try.func34, Try.ntmps34
    go_wp2
    go_ret
    exact ⟨by simp [h], rfl⟩
  · go_enter Try.func34, Try.ntmps34
    go_wp2
    go_ret
    exact ⟨ret_bool (by rw [decide_eq_false (show ¬ 1 ≤ n by omega)]; rfl), rfl⟩
/-- A setting's cells. -/
def SgV (s : Sg) : Array Value := #[.int .i64 s.f, .int .i64 s.c, .int .i64 s.m, .int .i64 s.n]
theorem bmay_yes {s : Sg} (h : s.Is) (w : World) : Calls Try.prog 26 #[.agg (SgV s)] w fun e w' => e = .returned (.bool true) ∧ Hid (Below w.heap.size w w') := by
  obtain ⟨⟨h1, h2⟩, ⟨h3, h4⟩, h5, h6, h7⟩ := h
  have HI := hid fun (n : Int) W => bin_any n W
  unfold SgV
  have HE : Hid (Below w.heap.size w (w.alloc (.cells #[.int .i64 s.f, .int .i64 s.c, .int .i64 s.m, .int .i64 s.n] 29))) := (Below.refl _ _).alloc (Nat.le_refl _) _
  have d1 : decide (1 ≤ s.f) = true := decide_eq_true h1
  have d2 : decide (s.f ≤ 1000) = true := decide_eq_true h2
  have d3 : decide (1 ≤ s.n) = true := decide_eq_true h3
  have d4 : decide (s.n ≤ 1000) = true := decide_eq_true h4
  go_enter Try.func26, Try.ntmps26
  go_wp2_with (go_at_call 34; refine (HI.out _ _).mono ?_; rintro e w1 ⟨rfl, rfl⟩)
  go_ret
  exact ⟨rfl, HE⟩
theorem bmay_no {s : Sg} (h : ¬ s.Is) (w : World) : Calls Try.prog 26 #[.agg (SgV s)] w fun e w' => e = .returned (.bool false) ∧ Hid (Below w.heap.size w w') := by
  have HI := hid fun (n : Int) W => bin_any n W
  unfold SgV
  have HE : Hid (Below w.heap.size w (w.alloc (.cells #[.int .i64 s.f, .int .i64 s.c, .int .i64 s.m, .int .i64 s.n] 29))) := (Below.refl _ _).alloc (Nat.le_refl _) _
  obtain ⟨b1, hb1⟩ : ∃ b1, (decide (1 ≤ s.f) && decide (s.f ≤ 1000)) = b1 := ⟨_, rfl⟩
  obtain ⟨b2, hb2⟩ : ∃ b2, (decide (1 ≤ s.n) && decide (s.n ≤ 1000)) = b2 := ⟨_, rfl⟩
  have HX : Hid (¬ (b1 = true ∧ b2 = true ∧ 1 ≤ s.c ∧ s.c ≤ s.m ∧ s.m ≤ 4294967296)) := fun ⟨x1, x2, x3⟩ => by
    rw [← hb1] at x1
    rw [← hb2] at x2
    simp at x1 x2
    exact h ⟨x1, x2, x3⟩
  have HI1 : Hid (∀ W, Calls Try.prog 34 #[.int .i64 s.f] W fun e w' => e = .returned (.bool b1) ∧ w' = W) := fun W => hb1 ▸ HI.out s.f W
  have HI2 : Hid (∀ W, Calls Try.prog 34 #[.int .i64 s.n] W fun e w' => e = .returned (.bool b2) ∧ w' = W) := fun W => hb2 ▸ HI.out s.n W
  clear h hb1 hb2 HI
  cases b1 with
  | false =>
    go_enter Try.func26, Try.ntmps26
    go_wp2_with (go_at_call 34; refine (HI1.out _).mono ?_; rintro e w1 ⟨rfl, rfl⟩)
    go_ret
    exact ⟨rfl, HE⟩
  | true =>
    cases b2 with
    | false =>
      go_enter Try.func26, Try.ntmps26
      go_wp2_with fail
      refine (HI1.out _).mono ?_
      rintro e w1 ⟨rfl, rfl⟩
      go_wp2_with fail
      refine (HI2.out _).mono ?_
      rintro e w1 ⟨rfl, rfl⟩
      go_wp2_with fail
      go_ret
      exact ⟨rfl, HE⟩
    | true =>
      by_cases h3 : 1 ≤ s.c
      · by_cases h4 : s.c ≤ s.m
        · have h5 : 4294967296 < s.m := by have := HX.out; simp [h3, h4] at this; omega
          go_enter Try.func26, Try.ntmps26
          go_wp2_with fail
          refine (HI1.out _).mono ?_
          rintro e w1 ⟨rfl, rfl⟩
          go_wp2_with fail
          refine (HI2.out _).mono ?_
          rintro e w1 ⟨rfl, rfl⟩
          go_wp2_with fail
          go_ret
          exact ⟨ret_bool (decide_eq_false (by omega)), HE⟩
        · have h5 : s.m < s.c := by omega
          go_enter Try.func26, Try.ntmps26
          go_wp2_with fail
          refine (HI1.out _).mono ?_
          rintro e w1 ⟨rfl, rfl⟩
          go_wp2_with fail
          refine (HI2.out _).mono ?_
          rintro e w1 ⟨rfl, rfl⟩
          go_wp2_with fail
          go_ret
          exact ⟨rfl, HE⟩
      · have h5 : s.c < 1 := by omega
        go_enter Try.func26, Try.ntmps26
        go_wp2_with fail
        refine (HI1.out _).mono ?_
        rintro e w1 ⟨rfl, rfl⟩
        go_wp2_with fail
        refine (HI2.out _).mono ?_
        rintro e w1 ⟨rfl, rfl⟩
        go_wp2_with fail
        go_ret
        exact ⟨rfl, HE⟩
/-! ### Made -/
theorem bmade_yes (h : PkAt w b P) (ok : PkOk P) : Calls Try.prog 28 #[.pointer (some ⟨b, 0, none⟩)] w fun e w' => e = .returned (.bool true) ∧ w' = w := by
  have c0 := h.cells.1
  have r0 : 0 < P.f := by have := ok.f; omega
  clear h ok
  go_enter Try.func28, Try.ntmps28
  go_wp2
  go_ret
  exact ⟨rfl, rfl⟩
/-- A pointer to none, or to one that New did not give. -/
def PkNo (W : World) (p : Option Addr) : Prop := p = none ∨ ∃ b, p = some ⟨b, 0, none⟩ ∧ W.cell? ⟨b, 0, none⟩ = some (.int .i64 0)
theorem bmade_no {p : Option Addr} (h : PkNo w p) : Calls Try.prog 28 #[.pointer p] w fun e w' => e = .returned (.bool false) ∧ w' = w := by
  rcases h with rfl | ⟨b, rfl, c0⟩
  · go_enter Try.func28, Try.ntmps28
    go_wp2
    go_ret
    exact ⟨rfl, rfl⟩
  · go_enter Try.func28, Try.ntmps28
    go_wp2
    go_ret
    exact ⟨rfl, rfl⟩
end Go.Proofs.Ytekdbmhpdkdjjaa
