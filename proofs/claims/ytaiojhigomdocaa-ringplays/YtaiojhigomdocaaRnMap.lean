/-
  The map of a ring's nodes (SmAt: its keys are a list's numbers), and the map of loads (LdAt: what it leads a number to).
-/
import Derived.Test.YtaiojhigomdocaaFrames
import Derived.Maps.Own
import Derived.Maps.OwnOps
import Derived.Maps.Views
import Derived.Maps.OwnSet
import Derived.DeepKeys4
import Derived.MapViews
namespace Go.Proofs.Ytaiojhigomdocaa
open Go.RowKit Go.Maps
set_option linter.unusedVariables false
set_option maxRecDepth 1000000

/-- A number of 64 bits. -/
def isU (x : Int) : Prop := 0 ≤ x ∧ x ≤ 18446744073709551615
theorem isU.wf {x : Int} (h : isU x) : (Lit.int .u64 x).wf = true := WalkArith.wf_u64 h
theorem alaw : Keyed Try.prog 22 := int_keyed Try.underlying22
theorem akey {x : Int} (h : isU x) : keyOf Try.prog 22 (.int .u64 x) = some (.int .u64 x) := keyOf_int_mk Try.underlying22 h.wf
theorem akey_inv {key : Value} {kl : Lit} (h : keyOf Try.prog 22 key = some kl) : ∃ x : Int, key = .int .u64 x ∧ kl = .int .u64 x ∧ isU x := by
  cases key <;> simp [keyOf, Try.underlying22, mapKey] at h
  rename_i q a
  obtain ⟨⟨rfl, hw⟩, rfl⟩ := h
  refine ⟨a, rfl, rfl, ?_⟩
  have h1 : IntKind.u64.min = 0 := by decide
  have h2 : IntKind.u64.max = 18446744073709551615 := by decide
  simp [Lit.wf] at hw
  rw [h1, h2] at hw
  exact hw
theorem fb_map {W W' : World} {B : Nat} (h : W.mapTurned W' B) : Fb (at1 B) W W' := by
  have := h.grown
  exact ⟨this.os, this.tape, this.output, this.size, fun k hk hn => this.block k hk fun e => hn (by cases e; rfl)⟩
/-- How an element of a set reads. -/
def Rs : Value → Option (DataW Unit × List MemPlace)
  | .agg xs => if xs.size = 0 then some (.lit (.int .i64 0), []) else none
  | _ => none
theorem Rs_mk : Rs (.agg #[]) = some (.lit (.int .i64 0), []) := rfl
theorem szero (w : World) : (zeroValue 66).run Try.prog w = .ok (.agg #[]) w := by kernel_rfl
/-- The map in block B has just the keys of L. -/
def SmAt (W : World) (B : Nat) (L : List Int) : Prop :=
  ∃ D : DataW Unit, W.ownsMap Try.prog 22 Rs B L.length D ∧ (∀ x, isU x → Maps.has D (.int .u64 x) = decide (x ∈ L)) ∧ Maps.size D = L.length ∧ L.Nodup ∧ ∀ x ∈ L, isU x
theorem SmAt.new (w : World) : SmAt (w.alloc (.map #[] 0)) w.heap.size [] := ⟨.map [], World.ownsMap_made _ _ _ _, fun v _ => by simp; rfl, rfl, List.nodup_nil, by simp⟩
theorem SmAt.lt {W : World} {B : Nat} {L : List Int} (h : SmAt W B L) : B < W.heap.size := by obtain ⟨D, h1, _⟩ := h; exact h1.lt
theorem SmAt.blk {W : World} {B : Nat} {L : List Int} (h : SmAt W B L) : ∃ es clock, W.heap[B]? = some (.map es clock) := by
  obtain ⟨D, ⟨es, clock, h1, h2⟩, h3⟩ := h
  exact ⟨es, clock, h1⟩
theorem SmAt.same {W W' : World} {B : Nat} {L : List Int} (h : SmAt W B L) (hb : W'.heap[B]? = W.heap[B]?) : SmAt W' B L := by
  obtain ⟨D, ⟨es, clock, h1, h2⟩, h3⟩ := h
  exact ⟨D, ⟨es, clock, hb.trans h1, h2⟩, h3⟩
theorem SmAt.fb {F : Nat → Prop} {W W' : World} {B : Nat} {L : List Int} (h : SmAt W B L) (hb : Fb F W W') (hF : ¬ F B) : SmAt W' B L := h.same (hb.block _ h.lt hF)
theorem SmAt.below {W W' : World} {B : Nat} {L : List Int} (h : SmAt W B L) (hb : Below W.heap.size W W') : SmAt W' B L := h.same (hb.block _ h.lt)
theorem owns_tightS {W : World} {B n : Nat} {D : DataW Unit} (h : W.ownsMap Try.prog 22 Rs B n D) : W.ownsMap Try.prog 22 Rs B (Maps.size D) D := by
  obtain ⟨es, clock, h1, h2, h3, rfl⟩ := h
  refine ⟨es, clock, h1, h2, ?_, rfl⟩
  rw [size_eq, length_read]
  exact Nat.le_refl _
theorem SmAt.look {W : World} {B : Nat} {L : List Int} (h : SmAt W B L) {x : Int} (hx : isU x) : ∃ u, (Instr.lookup 55 (.map (some B)) (.int .u64 x) true).run Try.prog W = .ok (.tuple #[u, .bool (decide (x ∈ L))]) W := by
  obtain ⟨D, h1, h2, _⟩ := h
  obtain ⟨u, ps, hr, hu⟩ := h1.look_ok alaw Try.underlying55 (szero W) (zd := .lit (.int .i64 0)) (zp := []) rfl (akey hx)
  rw [h2 x hx] at hr
  exact ⟨u, hr⟩
theorem SmAt.store {W : World} {B : Nat} {L : List Int} (h : SmAt W B L) (hn : L.length ≤ 100000) {x : Int} (hx : isU x) (hnew : x ∉ L) :
    ∃ W', (Instr.mapUpdate 55 (.map (some B)) (.int .u64 x) (.agg #[])).run Try.prog W = .ok () W' ∧ SmAt W' B (x :: L) ∧ Fb (at1 B) W W' := by
  obtain ⟨D, h1, h2, h3, h4, h5⟩ := h
  obtain ⟨W', hr, ho, hg⟩ := h1.store alaw Try.underlying55 (by unfold maxLen; omega) (akey hx) Rs_mk
  refine ⟨W', hr, ⟨_, ho, fun u hu => ?_, ?_, List.nodup_cons.2 ⟨hnew, h4⟩, fun y hy => (List.mem_cons.1 hy).elim (fun e => e ▸ hx) (h5 y)⟩, fb_map hg⟩
  · by_cases e : u = x
    · subst e
      rw [has_put_same h1.isMap (alaw.key (akey hx))]
      simp
    · have hne : Lit.int .u64 u ≠ Lit.int .u64 x := fun e2 => e (by cases e2; rfl)
      rw [has_put_other hne, h2 u hu]
      simp [e]
  · rw [size_put (h1.tidy alaw), h2 x hx, h3]
    simp [hnew]
theorem SmAt.drop {W : World} {B : Nat} {L : List Int} (h : SmAt W B L) {x : Int} (hx : isU x) (hin : x ∈ L) (ty : TypeId) :
    ∃ W', (Builtin.delete_ #[55, 22] ty #[.map (some B), .int .u64 x]).run Try.prog W = .ok (.tuple #[]) W' ∧ SmAt W' B (L.erase x) ∧ Fb (at1 B) W W' := by
  obtain ⟨D, h1, h2, h3, h4, h5⟩ := h
  obtain ⟨W', hr, ho, hg⟩ := h1.drop alaw Try.underlying55 (akey hx) ty
  have hs := size_del (k := Lit.int .u64 x) (h1.tidy alaw)
  rw [h2 x hx, h3] at hs
  have hlen : (L.erase x).length = L.length - 1 := List.length_erase_of_mem hin
  have hs2 : Maps.size (D.del (.int .u64 x)) = (L.erase x).length := by
    simp [hin] at hs
    omega
  refine ⟨W', hr, ⟨_, hs2 ▸ owns_tightS ho, fun u hu => ?_, hs2, h4.erase x, fun y hy => h5 y (List.mem_of_mem_erase hy)⟩, fb_map hg⟩
  by_cases e : u = x
  · subst e
    rw [has_del_same]
    simp [h4.not_mem_erase]
  · have hne : Lit.int .u64 u ≠ Lit.int .u64 x := fun e2 => e (by cases e2; rfl)
    rw [has_del_other hne, h2 u hu]
    simp [List.mem_erase_of_ne e]
theorem SmAt.len {W : World} {B : Nat} {L : List Int} (h : SmAt W B L) (ty : TypeId) : (Builtin.len_ #[55] ty #[.map (some B)]).run Try.prog W = .ok (.int .i64 L.length) W := by
  obtain ⟨D, h1, h2, h3, _⟩ := h
  have := h1.len Try.underlying55 ty
  rw [h3] at this
  exact this
end Go.Proofs.Ytaiojhigomdocaa
