/-
  The document's wheel: Set.
-/
import Derived.Test.YtdfbnfgemjljgaaWhRh
namespace Go.Proofs.Ytdfbnfgemjljgaa
open Go.RowKit
set_option linter.unusedVariables false
set_option maxRecDepth 1000000

theorem TsAt.single (W : World) (x : Tm) : TsAt 49 (W.alloc (.cells #[.int .i64 x.num, .int .i64 x.kind, .int .u64 x.label, .int .i64 x.due] 49)) (some ⟨W.heap.size, 0, none⟩) 1 1 [x] := by
  have h := heap_alloc_new W (.cells #[.int .i64 x.num, .int .i64 x.kind, .int .u64 x.label, .int .i64 x.due] 49)
  refine ⟨rfl, Nat.le_refl _, by omega, (fun e => by cases e), fun ad e => by cases e; exact ⟨rfl, _, _, h⟩, fun i hi => ⟨W.heap.size, 0, rfl, ?_⟩⟩
  obtain rfl : i = 0 := by omega
  exact ⟨by rw [cell_of_row _ _ _ _ _ _ h]; rfl, by rw [cell_of_row _ _ _ _ _ _ h]; rfl, by rw [cell_of_row _ _ _ _ _ _ h]; rfl, by rw [cell_of_row _ _ _ _ _ _ h]; rfl⟩
/-- What the appends of Set leave. -/
structure SetQ (W : World) (B : Nat) (T last : Int) (a : Option Addr) (len cap : Nat) (M : List Tm) (v3 : Value) (w4 : World) : Prop where
  sl : ∃ a' cap', v3 = .slice a' (len + 1) cap' ∧ TsAt 49 w4 a' (len + 1) cap' M
  bel : Below W.heap.size W w4
theorem SetQ.out {W : World} {B : Nat} {T last : Int} {a : Option Addr} {len cap : Nat} {L M : List Tm} {v3 : Value} {w4 : World} (h : RwAt W B T last a len cap L) (hl : len < 4096) (q : SetQ W B T last a len cap M v3 w4) : RwO W B T last M (w4.setCell ⟨B, 2, none⟩ v3) := by
  obtain ⟨a', cap', rfl, ht⟩ := q.sl
  exact ⟨⟨a', len + 1, cap', h.list q.bel ht (by omega)⟩, (Fb.of q.bel).trans (Fb.set (F := at1 B) (p := ⟨B, 2, none⟩) rfl _) fun k hk => .inl hk⟩
/-- The row that is copied first. -/
theorem rset_a {W : World} {B : Nat} {T last : Int} {a : Option Addr} {len cap : Nat} {L : List Tm} (h : RwAt W B T last a len cap L) {i : Nat} (hi : i ≤ len) (x : Tm) {A : Option Addr} (hA : ∀ W', TsAt 49 W' a len cap L → TsAt 49 W' A (len - i) (cap - i) (L.drop i)) (ty : TypeId) :
    ∃ (v1 : Value) (w1 : World) (v2 : Value) (w3 : World) (v3 : Value) (w4 : World),
      (Builtin.append_ #[25, 25] ty #[.slice none 0 0, .slice a i cap]).run Try.prog W = .ok v1 w1 ∧
      (Builtin.append_ #[25, 25] ty #[v1, .slice (some ⟨w1.heap.size, 0, none⟩) 1 1]).run Try.prog (w1.alloc (.cells #[.int .i64 x.num, .int .i64 x.kind, .int .u64 x.label, .int .i64 x.due] 49)) = .ok v2 w3 ∧
      (Builtin.append_ #[25, 25] ty #[v2, .slice A (len - i) (cap - i)]).run Try.prog w3 = .ok v3 w4 ∧
      SetQ W B T last a len cap (L.take i ++ x :: L.drop i) v3 w4 ∧ Below W.heap.size W w1 ∧ Below W.heap.size W w3 := by
  have hs := h.lst.size
  have hf := h.few
  have hnil : W.ownsRow W.heap.size 49 4 (.slice none 0 0) ([] : List Tm).length (flatT []) := World.ownsRow_nil _ _ _ _
  obtain ⟨v1, w1, e1, o1, b1, _⟩ := appT hnil (Nat.le_refl _) (h.lst.take (m := i) hi) (by simp; omega) ty
  rw [List.nil_append] at o1
  have ba : Below w1.heap.size w1 (w1.alloc (.cells #[.int .i64 x.num, .int .i64 x.kind, .int .u64 x.label, .int .i64 x.due] 49)) := (Below.refl _ _).alloc (Nat.le_refl _) _
  have o1' := own_below o1 ba
  obtain ⟨v2, w3, e2, o2, b2, _⟩ := appT o1' (Nat.le_trans b1.size ba.size) (TsAt.single w1 x) (by simp; omega) ty
  have hb3 : Below W.heap.size W w3 := (b1.trans (ba.mono b1.size)).trans b2
  obtain ⟨v3, w4, e3, o3, b3, _⟩ := appT o2 hb3.size (hA w3 (h.lst.below hb3)) (by simp; omega) ty
  have hl : (L.take i ++ [x] ++ L.drop i).length = len + 1 := by simp; omega
  rw [hl] at o3
  obtain ⟨a', cap', hv, ht, _⟩ := TsAt.own o3
  refine ⟨v1, w1, v2, w3, v3, w4, e1, e2, e3, ⟨⟨a', cap', hv, ?_⟩, hb3.trans b3⟩, b1, hb3⟩
  simpa using ht
/-- The element that is laid first. -/
theorem rset_b {W : World} {B : Nat} {T last : Int} {a : Option Addr} {len cap : Nat} {L : List Tm} (h : RwAt W B T last a len cap L) {i : Nat} (hi : i ≤ len) (x : Tm) {A : Option Addr} (hA : ∀ W', TsAt 49 W' a len cap L → TsAt 49 W' A (len - i) (cap - i) (L.drop i)) (ty : TypeId) :
    ∃ (v1 : Value) (w2 : World) (v2 : Value) (w3 : World) (v3 : Value) (w4 : World),
      (Builtin.append_ #[25, 25] ty #[.slice none 0 0, .slice a i cap]).run Try.prog (W.alloc (.cells #[.int .i64 x.num, .int .i64 x.kind, .int .u64 x.label, .int .i64 x.due] 49)) = .ok v1 w2 ∧
      (Builtin.append_ #[25, 25] ty #[v1, .slice (some ⟨W.heap.size, 0, none⟩) 1 1]).run Try.prog w2 = .ok v2 w3 ∧
      (Builtin.append_ #[25, 25] ty #[v2, .slice A (len - i) (cap - i)]).run Try.prog w3 = .ok v3 w4 ∧
      SetQ W B T last a len cap (L.take i ++ x :: L.drop i) v3 w4 ∧ Below W.heap.size W w2 ∧ Below W.heap.size W w3 := by
  have hs := h.lst.size
  have hf := h.few
  obtain ⟨wa, hwa⟩ : ∃ wa, wa = W.alloc (.cells #[.int .i64 x.num, .int .i64 x.kind, .int .u64 x.label, .int .i64 x.due] 49) := ⟨_, rfl⟩
  have ba : Below W.heap.size W wa := by rw [hwa]; exact (Below.refl _ _).alloc (Nat.le_refl _) _
  have h1 := TsAt.single W x
  rw [← hwa] at h1 ⊢
  have hnil : wa.ownsRow wa.heap.size 49 4 (.slice none 0 0) ([] : List Tm).length (flatT []) := World.ownsRow_nil _ _ _ _
  obtain ⟨v1, w2, e1, o1, b1, _⟩ := appT hnil (Nat.le_refl _) ((h.lst.below ba).take (m := i) hi) (by simp; omega) ty
  rw [List.nil_append] at o1
  have hb2 : Below W.heap.size W w2 := ba.trans (b1.mono ba.size)
  obtain ⟨v2, w3, e2, o2, b2, _⟩ := appT o1 b1.size (h1.below b1) (by simp; omega) ty
  have hb3 : Below W.heap.size W w3 := hb2.trans (b2.mono ba.size)
  obtain ⟨v3, w4, e3, o3, b3, _⟩ := appT o2 (Nat.le_trans b1.size b2.size) (hA w3 (h.lst.below hb3)) (by simp; omega) ty
  have hl : (L.take i ++ [x] ++ L.drop i).length = len + 1 := by simp; omega
  rw [hl] at o3
  obtain ⟨a', cap', hv, ht, _⟩ := TsAt.own o3
  refine ⟨v1, w2, v2, w3, v3, w4, e1, e2, e3, ⟨⟨a', cap', hv, ?_⟩, hb3.trans (b3.mono ba.size)⟩, hb2, hb3⟩
  simpa using ht
end Go.Proofs.Ytdfbnfgemjljgaa
