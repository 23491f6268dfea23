/-
  The arguments of the statements of layer 10: a list of numbers, a table, as they came in; a slice of one and of two tables; 'same' of like lists.
-/
import Derived.Test.YtehmdlipacbpfaaGreatAAlive
import Derived.Deep.Matrix
import Derived.ProofKit
namespace Go.Proofs.YtehmdlipacbpfaaGreat
open Go.RowKit
set_option linter.unusedVariables false
set_option maxRecDepth 1000000

/-- A table that came in. -/
def TblIn (w : World) (a : Option Addr) (len cap : Nat) (hs : List Hd) (xss : List (List Int)) : Prop :=
  Rd2 w a len cap hs ∧ xss.length = len ∧ ∀ i, i < len → Reads .i64 w (hs[i]?.getD (none, 0, 0)).1 (hs[i]?.getD (none, 0, 0)).2.1 (hs[i]?.getD (none, 0, 0)).2.2 (xss[i]?.getD [])
theorem tbl_in {H : Type} {enc : TypeId × Value → H} {w : World} {held : Bool} {fuel : Nat} {a : Option Addr} {len cap : Nat} {x : DataW H × List MemPlace}
    (h : DataW.trod enc Tryz.prog w 0 (fun _ => true) held fuel 26 [.slice a len cap] = some x) : ∃ hs xss, TblIn w a len cap hs xss := by
  rcases Go.Deep.open_int_rows Tryz.underlying26 Tryz.underlying25 Tryz.underlying2 (by kernel_rfl) (by kernel_rfl) h with ⟨hcs, _⟩ | ⟨ad, l, c, A, L, C, Z, hcs, _, hl, hm, _, hx⟩
  · simp at hcs
    obtain ⟨rfl, rfl, rfl⟩ := hcs
    exact ⟨[], [], ⟨rfl, Nat.le_refl _, by omega, fun _ => ⟨rfl, rfl⟩, fun i hi => by omega⟩, rfl, fun i hi => by omega⟩
  · simp at hcs
    obtain ⟨rfl, rfl, rfl⟩ := hcs
    have hrow : ∀ i, i < len → IsRow' .i64 w (A i) (L i) (C i) (Z i) := by
      intro i hi
      obtain ⟨hc, h1, h2, h3, h4, h5, h6⟩ := hx i (by omega)
      cases hA : A i with
      | none =>
        have hC := h5 hA
        exact .inl ⟨rfl, by omega, hC, List.eq_nil_of_length_eq_zero (by omega)⟩
      | some a' => exact .inr ⟨a', rfl, h1, h2, h3, fun c hc' => (h6 a' hA).2 c (by omega), h4⟩
    refine ⟨(List.range len).map fun r => (A r, L r, C r), (List.range len).map fun r => (Z r).take (L r), ⟨by simp, hl, by unfold maxLen at hm; omega, (fun e => by cases e), fun i hi => ?_⟩, by simp, fun i hi => ?_⟩
    · obtain ⟨hc, _⟩ := hx i (by omega)
      obtain ⟨b, off, spot⟩ := ad
      have hspot : spot = none := by simpa [Addr.add] using World.cell?_spot (hx 0 (by omega)).1
      subst hspot
      rw [Go.WideShapes.add_plain] at hc
      refine ⟨b, off, rfl, ?_⟩
      rw [hc]
      simp [hi]
    · have := (Reads.row (hrow i hi)).1
      simpa [hi] using this
theorem ints_in {H : Type} {enc : TypeId × Value → H} {w : World} {held : Bool} {fuel : Nat} {a : Option Addr} {len cap : Nat} {x : DataW H × List MemPlace}
    (h : DataW.trod enc Tryz.prog w 0 (fun _ => true) held fuel 25 [.slice a len cap] = some x) : ∃ zs, Reads .i64 w a len cap zs := by
  rcases Go.ChangeShapes.open_ints Tryz.underlying25 Tryz.underlying2 (by kernel_rfl) h with ⟨hcs, _⟩ | ⟨ad, l, c, zs, hcs, _, hl, hm, hz, _, hx, hw⟩
  · simp at hcs
    obtain ⟨rfl, rfl, rfl⟩ := hcs
    exact ⟨[], Reads.nil _ _⟩
  · simp at hcs
    obtain ⟨rfl, rfl, rfl⟩ := hcs
    exact ⟨_, (Reads.row (zs := zs) (.inr ⟨ad, rfl, hl, hm, by simpa using hz, hx, hw⟩)).1⟩
section
open Go.ChangeShapes Go.WideShapes Go.ChangeAt
variable {H : Type} {enc : TypeId × Value → H} {W : World}
theorem ints_open {b0 : Nat} {v : Value} {d : DataW H} {ps : List MemPlace} (hv : Value.okWide Tryz.prog W .any b0 25 v) (h : DataW.Trod enc Tryz.prog W 0 (fun _ => true) true 25 v d ps) :
    ∃ a len cap zs, v = .slice a len cap ∧ Reads .i64 W a len cap zs := by
  obtain ⟨a, len, cap, rfl⟩ := okWide_slice Tryz.underlying25 hv
  obtain ⟨fuel, hf⟩ := h
  obtain ⟨zs, hz⟩ := ints_in hf
  exact ⟨a, len, cap, zs, rfl, hz⟩
theorem rows_open {b0 : Nat} {v : Value} {d : DataW H} {ps : List MemPlace} (hv : Value.okWide Tryz.prog W .any b0 26 v) (h : DataW.Trod enc Tryz.prog W 0 (fun _ => true) true 26 v d ps) :
    ∃ a len cap hs xss, v = .slice a len cap ∧ TblIn W a len cap hs xss := by
  obtain ⟨a, len, cap, rfl⟩ := okWide_slice Tryz.underlying26 hv
  obtain ⟨fuel, hf⟩ := h
  obtain ⟨hs, xss, hz⟩ := tbl_in hf
  exact ⟨a, len, cap, hs, xss, rfl, hz⟩
end
theorem rd2_oneT (T : TypeId) (w : World) (a : Option Addr) (la ca : Nat) {B : Nat} (hB : w.heap.size = B) : Rd2 (w.alloc (.cells #[.slice a la ca] T)) (some ⟨B, 0, none⟩) 1 1 [(a, la, ca)] := by
  subst hB
  refine ⟨rfl, Nat.le_refl _, by omega, (fun e => by cases e), fun i hi => ⟨w.heap.size, 0, rfl, ?_⟩⟩
  rw [Nat.zero_add, cell_of_row _ w.heap.size i _ _ _ (heap_alloc_new w _)]
  obtain rfl : i = 0 := by omega
  rfl
theorem rd2_twoT (T : TypeId) (w : World) (a b : Option Addr) (la ca lb cb : Nat) {B : Nat} (hB : w.heap.size = B) : Rd2 (w.alloc (.cells #[.slice a la ca, .slice b lb cb] T)) (some ⟨B, 0, none⟩) 2 2 [(a, la, ca), (b, lb, cb)] := by
  subst hB
  refine ⟨rfl, Nat.le_refl _, by omega, (fun e => by cases e), fun i hi => ⟨w.heap.size, 0, rfl, ?_⟩⟩
  rw [Nat.zero_add, cell_of_row _ w.heap.size i _ _ _ (heap_alloc_new w _)]
  rcases (by omega : i = 0 ∨ i = 1) with rfl | rfl <;> rfl
theorem Rd2.nil (w : World) : Rd2 w none 0 0 [] := ⟨rfl, Nat.le_refl _, by omega, fun _ => ⟨rfl, rfl⟩, fun i hi => by omega⟩
theorem TblIn.tbl {w : World} {a : Option Addr} {len cap : Nat} {hs : List Hd} {xss : List (List Int)} (h : TblIn w a len cap hs xss) (hs40 : ∀ j, j < len → (hs[j]?.getD (none, 0, 0)).2.1 ≤ 40) : Tbl w a len cap hs xss :=
  ⟨h.1, h.2.2, fun i hi => Nat.le_trans (hs40 i hi) (by omega)⟩
theorem same_h (a b : Option Addr) (n m ca cb : Nat) (xs : List Int) (w : World) (ha : Reads .i64 w a n ca xs) (hb : Reads .i64 w b m cb xs) (hn : n ≤ 1000) :
    Calls Tryz.prog 9 #[.slice a n ca, .slice b m cb] w fun e w' => e = .returned (.bool true) ∧ Below w.heap.size w w' := by
  obtain rfl : n = m := by rw [← ha.size, ← hb.size]
  exact same_yes a b n ca cb xs w ha hb hn
end Go.Proofs.YtehmdlipacbpfaaGreat
