/-
  A map from ints to ints that the call makes, as a function (MpAt); what calls of a pool do to how often each page is held, said so.
-/
import Derived.Test.YtdmakboapchhnaaPgMath
import Derived.Maps.Own
import Derived.Maps.OwnOps
import Derived.Maps.Views
import Derived.Maps.OwnSet
namespace Go.Proofs.Ytdmakboapchhnaa
open Go.RowKit Go.Maps
set_option linter.unusedVariables false
set_option maxRecDepth 1000000

theorem mlaw : Keyed Try.prog 3 := int_keyed Try.underlying3
theorem mzero (w : World) : (zeroValue 3).run Try.prog w = .ok (.int .i64 0) w := by kernel_rfl
/-- A number of 64 bits. -/
def In64 (x : Int) : Prop := -9223372036854775808 ≤ x ∧ x ≤ 9223372036854775807
theorem In64.wf {x : Int} (h : In64 x) : (Lit.int .i64 x).wf = true := WalkArith.wf_i64 h
/-- The map in block B, of at most n entries, has f x at x. -/
def MpAt (W : World) (B n : Nat) (f : Int → Int) : Prop :=
  ∃ D : DataW Unit, W.ownsMap Try.prog 3 (plainElem Try.prog 3) B n D ∧ ∀ x, In64 x → D.atKey (.int .i64 x) (.lit (.int .i64 0)) = .lit (.int .i64 (f x))
theorem MpAt.new (w : World) : MpAt (w.alloc (.map #[] 0)) w.heap.size 0 (fun _ => 0) := ⟨.map [], World.ownsMap_made _ _ _ _, fun x _ => rfl⟩
theorem MpAt.lt {W : World} {B n : Nat} {f : Int → Int} (h : MpAt W B n f) : B < W.heap.size := by obtain ⟨D, h1, _⟩ := h; exact h1.lt
theorem MpAt.same {W W' : World} {B n : Nat} {f : Int → Int} (h : MpAt W B n f) (hb : W'.heap[B]? = W.heap[B]?) : MpAt W' B n f := by
  obtain ⟨D, ⟨es, clock, h1, h2⟩, h3⟩ := h
  exact ⟨D, ⟨es, clock, hb.trans h1, h2⟩, h3⟩
theorem MpAt.below {W W' : World} {B n : Nat} {f : Int → Int} (h : MpAt W B n f) (hb : Below W.heap.size W W') : MpAt W' B n f := h.same (hb.block _ h.lt)
theorem MpAt.fb {F : Nat → Prop} {W W' : World} {B n : Nat} {f : Int → Int} (h : MpAt W B n f) (hb : Fb F W W') (hF : ¬ F B) : MpAt W' B n f := h.same (hb.block _ h.lt hF)
theorem MpAt.mono {W : World} {B n m : Nat} {f : Int → Int} (h : MpAt W B n f) (hm : n ≤ m) : MpAt W B m f := by
  obtain ⟨D, h1, h2⟩ := h
  exact ⟨D, h1.mono hm, h2⟩
theorem MpAt.ext {W : World} {B n : Nat} {f g : Int → Int} (h : MpAt W B n f) (he : ∀ x, f x = g x) : MpAt W B n g := by
  obtain ⟨D, h1, h2⟩ := h
  exact ⟨D, h1, fun x hx => by rw [h2 x hx, he x]⟩
theorem MpAt.look {W : World} {B n : Nat} {f : Int → Int} (h : MpAt W B n f) {x : Int} (hx : In64 x) : (Instr.lookup 50 (.map (some B)) (.int .i64 x) false).run Try.prog W = .ok (.int .i64 (f x)) W := by
  obtain ⟨D, h1, h2⟩ := h
  obtain ⟨c, hr, ha, _⟩ := h1.lookup_int mlaw Try.underlying50 Try.underlying3 (mzero W) (keyOf_int_mk Try.underlying3 hx.wf)
  rw [h2 x hx] at ha
  cases ha
  exact hr
theorem MpAt.store {W : World} {B n : Nat} {f : Int → Int} (h : MpAt W B n f) (hn : n ≤ 100000) {x v : Int} (hx : In64 x) (hv : In64 v) :
    ∃ W', (Instr.mapUpdate 50 (.map (some B)) (.int .i64 x) (.int .i64 v)).run Try.prog W = .ok () W' ∧ MpAt W' B (n + 1) (fun y => if y = x then v else f y) ∧ W.grownBy W' (some B) := by
  obtain ⟨D, h1, h2⟩ := h
  obtain ⟨W', hr, ho, hg⟩ := h1.update mlaw Try.underlying50 (by unfold maxLen; omega) (keyOf_int_mk Try.underlying3 hx.wf) (plainElem_int Try.underlying3 hv.wf)
  refine ⟨W', hr, ⟨_, ho, fun y hy => ?_⟩, hg⟩
  show _ = DataW.lit (.int .i64 (if y = x then v else f y))
  by_cases e : y = x
  · subst e
    rw [atKey_put_same h1.isMap (k := .int .i64 y) (by trivial), if_pos rfl]
  · rw [atKey_put_other (fun e' => e (by cases e'; rfl)), if_neg e, h2 y hy]
theorem fb_grown {W W' : World} {B : Nat} (h : W.grownBy W' (some B)) : Fb (at1 B) W W' := ⟨h.os, h.tape, h.output, h.size, fun k hk hn => h.block k hk fun e => hn (by cases e; rfl)⟩

theorem heldZ_set {hs : List Int} {k : Nat} {v : Int} (hk : k < hs.length) (y : Int) : heldZ (hs.set k v) y = if y = (k : Int) then v else heldZ hs y := by
  unfold heldZ
  rw [List.length_set]
  by_cases hy : 0 ≤ y ∧ y < hs.length
  · rw [if_pos hy, if_pos hy, List.getElem?_set]
    by_cases e : y = (k : Int)
    · subst e
      rw [if_pos rfl, Int.toNat_natCast, if_pos rfl, if_pos hk]
      rfl
    · rw [if_neg e, if_neg (by omega)]
  · rw [if_neg hy, if_neg hy, if_neg (by omega)]
theorem hold_f {hs : List Int} {n : Int} (h0 : heldZ hs n ≠ 0) (h1 : heldZ hs n < 2147483647) (y : Int) : heldZ (holdH hs n) y = if y = n then heldZ hs n + 1 else heldZ hs y := by
  obtain ⟨b0, b1⟩ := heldZ_in h0
  unfold holdH
  rw [if_neg (by omega), heldZ_set (by omega), Int.toNat_of_nonneg b0]
theorem drop_f {hs : List Int} {n : Int} (h0 : heldZ hs n ≠ 0) (y : Int) : heldZ (dropH hs n) y = if y = n then heldZ hs n - 1 else heldZ hs y := by
  obtain ⟨b0, b1⟩ := heldZ_in h0
  unfold dropH
  rw [if_neg h0, heldZ_set (by omega), Int.toNat_of_nonneg b0]
theorem take_f {hs : List Int} (h : takeI hs < hs.length) (y : Int) : heldZ (takeH hs) y = if y = (takeI hs : Int) then 1 else heldZ hs y := by
  unfold takeH
  rw [if_pos h, heldZ_set h]
theorem take_0 {hs : List Int} (h : takeI hs < hs.length) : heldZ hs (takeI hs : Int) = 0 := by
  rw [heldZ_at (by omega) (by omega), Int.toNat_natCast]
  exact takeI_free h
theorem used_all {hs : List Int} (h : OkP hs) (ht : ¬ takeI hs < hs.length) : (usedL hs).length = hs.length := by
  have hn : ∀ j, j < hs.length → 0 < hs[j]?.getD 0 := by
    intro j hj
    have h0 := (h.2.2 j hj).1
    rcases Int.lt_or_eq_of_le h0 with h1 | h1
    · exact h1
    · exfalso
      apply ht
      unfold takeI
      rw [List.findIdx_lt_length]
      refine ⟨hs[j], List.getElem_mem hj, ?_⟩
      rw [List.getElem?_eq_getElem hj] at h1
      simpa using h1.symm
  have key : ∀ k, k ≤ hs.length → (usedK hs k).length = k := by
    intro k
    induction k with
    | zero => intro _; rfl
    | succ k ih =>
      intro hk
      simp only [usedK]
      rw [if_pos (hn k (by omega)), List.length_append, ih (by omega)]
      rfl
  exact key _ (Nat.le_refl _)
end Go.Proofs.Ytdmakboapchhnaa
