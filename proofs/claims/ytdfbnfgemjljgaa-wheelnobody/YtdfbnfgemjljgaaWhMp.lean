/-
  The statement's map from numbers to times: its keys are K, what it has at each is f (UsAt).
-/
import Derived.Test.YtdfbnfgemjljgaaWhMath
import Derived.Maps.Own
import Derived.Maps.OwnOps
import Derived.Maps.Views
import Derived.Maps.OwnSet
namespace Go.Proofs.Ytdfbnfgemjljgaa
open Go.RowKit Go.Maps
set_option linter.unusedVariables false
set_option maxRecDepth 1000000

theorem isI.wf {x : Int} (h : isI x) : (Lit.int .i64 x).wf = true := WalkArith.wf_i64 h
theorem ilaw : Keyed Try.prog 3 := int_keyed Try.underlying3
theorem ikey {x : Int} (h : isI x) : keyOf Try.prog 3 (.int .i64 x) = some (.int .i64 x) := keyOf_int_mk Try.underlying3 h.wf
theorem fb_map {W W' : World} {B : Nat} (h : W.mapTurned W' B) : Fb (at1 B) W W' := by
  have := h.grown
  exact ⟨this.os, this.tape, this.output, this.size, fun k hk hn => this.block k hk fun e => hn (by cases e; rfl)⟩
/-- How a number of the kind q reads. -/
def Rq (q : IntKind) : Value → Option (DataW Unit × List MemPlace)
  | .int k c => if k = q then some (.lit (.int q c), []) else none
  | _ => none
theorem Rq_mk (q : IntKind) (c : Int) : Rq q (.int q c) = some (.lit (.int q c), []) := by simp [Rq]
theorem Rq_inv {q : IntKind} {v : Value} {c : Int} {ps : List MemPlace} (h : Rq q v = some (.lit (.int q c), ps)) : v = .int q c := by
  cases v <;> simp [Rq] at h
  rename_i k a
  obtain ⟨rfl, rfl, _⟩ := h
  rfl
theorem jzero (w : World) : (zeroValue 2).run Try.prog w = .ok (.int .i64 0) w := by kernel_rfl
theorem owns_tightQ {q : IntKind} {W : World} {B n : Nat} {D : DataW Unit} (h : W.ownsMap Try.prog 3 (Rq q) B n D) : W.ownsMap Try.prog 3 (Rq q) B (Maps.size D) D := by
  obtain ⟨es, clock, h1, h2, h3, rfl⟩ := h
  refine ⟨es, clock, h1, h2, ?_, rfl⟩
  rw [size_eq, length_read]
  exact Nat.le_refl _
/-- A key's value, others as they were. -/
def upd (f : Int → Int) (x c : Int) (y : Int) : Int := if y = x then c else f y
/-- A key beside others. -/
def addK (K : List Int) (x : Int) : List Int := if x ∈ K then K else x :: K
def subK (K : List Int) (x : Int) : List Int := K.filter fun y => decide (y ≠ x)
theorem addK_mem {K : List Int} {x y : Int} : y ∈ addK K x ↔ y = x ∨ y ∈ K := by
  unfold addK
  split
  · constructor
    · exact .inr
    · rintro (rfl | h) <;> assumption
  · simp
theorem subK_mem {K : List Int} {x y : Int} : y ∈ subK K x ↔ y ∈ K ∧ y ≠ x := by unfold subK; simp
theorem addK_nd {K : List Int} (h : K.Nodup) (x : Int) : (addK K x).Nodup := by
  unfold addK
  split
  · exact h
  · exact List.nodup_cons.2 ⟨by assumption, h⟩
theorem addK_len (K : List Int) (x : Int) : (addK K x).length ≤ K.length + 1 := by unfold addK; split <;> simp
theorem subK_len {K : List Int} (h : K.Nodup) (x : Int) : (subK K x).length = K.length - (if x ∈ K then 1 else 0) := by
  unfold subK
  induction K with
  | nil => simp
  | cons y K ih =>
    rw [List.nodup_cons] at h
    have ih := ih h.2
    by_cases e : y = x
    · subst e
      rw [List.filter_cons_of_neg (by simp), ih, if_neg h.1]
      simp
    · rw [List.filter_cons_of_pos (by simp [e]), List.length_cons, ih]
      have e' : ¬ x = y := fun h => e h.symm
      simp only [List.mem_cons, e', false_or, List.length_cons]
      split
      · have := List.length_pos_of_mem (by assumption)
        omega
      · omega
/-- The map of times: its keys are K. -/
def UsAt (W : World) (B : Nat) (K : List Int) (f : Int → Int) : Prop :=
  ∃ D : DataW Unit, W.ownsMap Try.prog 3 (Rq .i64) B K.length D ∧ (∀ x, isI x → D.atKey (.int .i64 x) (.lit (.int .i64 0)) = .lit (.int .i64 (if x ∈ K then f x else 0)) ∧ Maps.has D (.int .i64 x) = decide (x ∈ K)) ∧ Maps.size D = K.length ∧ K.Nodup
theorem UsAt.new (w : World) : UsAt (w.alloc (.map #[] 0)) w.heap.size [] (fun _ => 0) := ⟨.map [], World.ownsMap_made _ _ _ _, fun v _ => ⟨by simp; rfl, by simp; rfl⟩, rfl, List.nodup_nil⟩
theorem UsAt.lt {W : World} {B : Nat} {K : List Int} {f : Int → Int} (h : UsAt W B K f) : B < W.heap.size := by obtain ⟨D, h1, _⟩ := h; exact h1.lt
theorem UsAt.nodup {W : World} {B : Nat} {K : List Int} {f : Int → Int} (h : UsAt W B K f) : K.Nodup := by obtain ⟨D, _, _, _, h4⟩ := h; exact h4
theorem UsAt.same {W W' : World} {B : Nat} {K : List Int} {f : Int → Int} (h : UsAt W B K f) (hb : W'.heap[B]? = W.heap[B]?) : UsAt W' B K f := by
  obtain ⟨D, ⟨es, clock, h1, h2⟩, h3⟩ := h
  exact ⟨D, ⟨es, clock, hb.trans h1, h2⟩, h3⟩
theorem UsAt.look {W : World} {B : Nat} {K : List Int} {f : Int → Int} (h : UsAt W B K f) {x : Int} (hx : isI x) : (Instr.lookup 52 (.map (some B)) (.int .i64 x) true).run Try.prog W = .ok (.tuple #[.int .i64 (if x ∈ K then f x else 0), .bool (decide (x ∈ K))]) W := by
  obtain ⟨D, h1, h2, _⟩ := h
  obtain ⟨u, ps, hr, hu⟩ := h1.look_ok ilaw Try.underlying52 (jzero W) (zd := .lit (.int .i64 0)) (zp := []) (Rq_mk .i64 0) (ikey hx)
  rw [(h2 x hx).2] at hr
  rw [(h2 x hx).1] at hu
  rw [hr, Rq_inv hu]
theorem UsAt.store {W : World} {B : Nat} {K : List Int} {f : Int → Int} (h : UsAt W B K f) (hn : K.length ≤ 1000) {x : Int} (hx : isI x) (c : Int) :
    ∃ W', (Instr.mapUpdate 52 (.map (some B)) (.int .i64 x) (.int .i64 c)).run Try.prog W = .ok () W' ∧ UsAt W' B (addK K x) (upd f x c) ∧ Fb (at1 B) W W' := by
  obtain ⟨D, h1, h2, h3, h4⟩ := h
  obtain ⟨W', hr, ho, hg⟩ := h1.store ilaw Try.underlying52 (by unfold maxLen; omega) (ikey hx) (Rq_mk .i64 c)
  have hs := size_put (k := Lit.int .i64 x) (d := .lit (.int .i64 c)) (h1.tidy ilaw)
  rw [(h2 x hx).2, h3] at hs
  have hs2 : Maps.size (D.put (.int .i64 x) (.lit (.int .i64 c))) = (addK K x).length := by
    rw [hs]
    unfold addK
    by_cases e : x ∈ K <;> simp [e]
  refine ⟨W', hr, ⟨_, hs2 ▸ owns_tightQ ho, fun u hu => ?_, hs2, addK_nd h4 x⟩, fb_map hg⟩
  unfold upd
  by_cases e : u = x
  · subst e
    rw [atKey_put_same h1.isMap (ilaw.key (ikey hx)), has_put_same h1.isMap (ilaw.key (ikey hx))]
    simp [addK_mem]
  · have hne : Lit.int .i64 u ≠ Lit.int .i64 x := fun e2 => e (by cases e2; rfl)
    rw [atKey_put_other hne, has_put_other hne, (h2 u hu).1, (h2 u hu).2]
    simp [e, addK_mem]
theorem UsAt.drop {W : World} {B : Nat} {K : List Int} {f : Int → Int} (h : UsAt W B K f) {x : Int} (hx : isI x) (ty : TypeId) :
    ∃ W', (Builtin.delete_ #[52, 3] ty #[.map (some B), .int .i64 x]).run Try.prog W = .ok (.tuple #[]) W' ∧ UsAt W' B (subK K x) f ∧ Fb (at1 B) W W' := by
  obtain ⟨D, h1, h2, h3, h4⟩ := h
  obtain ⟨W', hr, ho, hg⟩ := h1.drop ilaw Try.underlying52 (ikey hx) ty
  have hs := size_del (k := Lit.int .i64 x) (h1.tidy ilaw)
  rw [(h2 x hx).2, h3] at hs
  have hs2 : Maps.size (D.del (.int .i64 x)) = (subK K x).length := by
    rw [subK_len h4]
    by_cases e : x ∈ K
    · simp [e] at hs ⊢; omega
    · simp [e] at hs ⊢; omega
  refine ⟨W', hr, ⟨_, hs2 ▸ owns_tightQ ho, fun y hy => ?_, hs2, h4.filter _⟩, fb_map hg⟩
  by_cases e : y = x
  · subst e
    rw [atKey_del_same, has_del_same]
    simp [subK_mem]
  · have hne : Lit.int .i64 y ≠ Lit.int .i64 x := fun e2 => e (by cases e2; rfl)
    rw [atKey_del_other hne, has_del_other hne, (h2 y hy).1, (h2 y hy).2]
    simp [subK_mem, e]
theorem UsAt.len {W : World} {B : Nat} {K : List Int} {f : Int → Int} (h : UsAt W B K f) (ty : TypeId) : (Builtin.len_ #[52] ty #[.map (some B)]).run Try.prog W = .ok (.int .i64 K.length) W := by
  obtain ⟨D, h1, h2, h3, _⟩ := h
  have := h1.len Try.underlying52 ty
  rw [h3] at this
  exact this
end Go.Proofs.Ytdfbnfgemjljgaa
