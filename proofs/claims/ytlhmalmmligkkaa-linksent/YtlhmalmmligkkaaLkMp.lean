/-
  Strings as keys: a map from strings to truths (SsAt); a link beside such a map.
-/
import Derived.Test.YtlhmalmmligkkaaLkAl
import Derived.Maps.Own
import Derived.Maps.OwnOps
import Derived.Maps.Views
import Derived.Maps.OwnSet
import Derived.StringKeys
import Derived.MapViews
namespace Go.Proofs.Ytlhmalmmligkkaa
open Go.RowKit Go.Maps
set_option linter.unusedVariables false
set_option maxRecDepth 1000000

theorem strN_inj {xs ys : List Int} (hx : IsBytes xs) (hy : IsBytes ys) (h : strOfNums xs = strOfNums ys) : xs = ys := by
  have h1 : (xs.map fun n => UInt8.ofNat n.toNat) = ys.map fun n => UInt8.ofNat n.toNat := by
    have := congrArg (fun b : ByteArray => b.data.toList) h
    simpa [strOfNums_data] using this
  have key : ∀ a b : Int, (0 ≤ a ∧ a ≤ 255) → (0 ≤ b ∧ b ≤ 255) → UInt8.ofNat a.toNat = UInt8.ofNat b.toNat → a = b := fun a b ha hb e => by
    have := congrArg UInt8.toNat e
    simp at this
    omega
  clear h
  induction xs generalizing ys with
  | nil => cases ys with
    | nil => rfl
    | cons y ys => simp at h1
  | cons x xs ih => cases ys with
    | nil => simp at h1
    | cons y ys =>
      simp only [List.map_cons, List.cons.injEq] at h1
      rw [key x y (hx x (by simp)) (hy y (by simp)) h1.1, ih (ys := ys) (fun z hz => hx z (by simp [hz])) (fun z hz => hy z (by simp [hz])) h1.2]
/-! A tree's block. -/
/-- How a truth reads. -/
def Rt : Value → Option (DataW Unit × List MemPlace)
  | .bool b => some (.lit (.bool b), [])
  | _ => none
theorem Rt_mk (b : Bool) : Rt (.bool b) = some (.lit (.bool b), []) := rfl
theorem Rt_inv {v : Value} {b : Bool} {ps : List MemPlace} (h : Rt v = some (.lit (.bool b), ps)) : v = .bool b := by
  cases v <;> simp [Rt] at h
  rw [h.1]
theorem tzero (w : World) : (zeroValue 4).run Try.prog w = .ok (.bool false) w := by kernel_rfl
theorem slaw : Keyed Try.prog 9 := string_keyed Try.underlying9
/-- The key that bytes are. -/
def kz (zs : List Int) : Lit := .string (strOfNums zs).data.toList
theorem kz_inj {xs ys : List Int} (hx : IsBytes xs) (hy : IsBytes ys) (h : kz xs = kz ys) : xs = ys := by
  refine strN_inj hx hy (ByteArray.ext ?_)
  unfold kz at h
  have : (strOfNums xs).data.toList = (strOfNums ys).data.toList := by injection h
  exact Array.toList_inj.1 this
theorem kz_key {zs : List Int} (h : zs.length ≤ 140737488351232) : keyOf Try.prog 9 (.string (strOfNums zs)) = some (kz zs) :=
  WideMaps.keyOf_string_mk Try.underlying9 (by rw [strOfNums_size]; unfold maxLen; omega)
theorem fb_map {W W' : World} {B : Nat} (h : W.mapTurned W' B) : Fb (at1 B) W W' := by
  have := h.grown
  exact ⟨this.os, this.tape, this.output, this.size, fun k hk hn => this.block k hk fun e => hn (by cases e; rfl)⟩
/-- The map in block M holds just these bytes as keys, each true. -/
def SsAt (W : World) (M n : Nat) (K : List (List Int)) : Prop :=
  ∃ D : DataW Unit, W.ownsMap Try.prog 9 Rt M n D ∧ ∀ zs, IsBytes zs → D.atKey (kz zs) (.lit (.bool false)) = .lit (.bool (decide (zs ∈ K)))
theorem SsAt.new (w : World) : SsAt (w.alloc (.map #[] 0)) w.heap.size 0 [] := ⟨.map [], World.ownsMap_made _ _ _ _, fun v _ => rfl⟩
theorem SsAt.lt {W : World} {M n : Nat} {K : List (List Int)} (h : SsAt W M n K) : M < W.heap.size := by obtain ⟨D, h1, _⟩ := h; exact h1.lt
theorem SsAt.blk {W : World} {M n : Nat} {K : List (List Int)} (h : SsAt W M n K) : ∃ es clock, W.heap[M]? = some (.map es clock) := by
  obtain ⟨D, ⟨es, clock, h1, h2⟩, h3⟩ := h
  exact ⟨es, clock, h1⟩
theorem SsAt.same {W W' : World} {M n : Nat} {K : List (List Int)} (h : SsAt W M n K) (hb : W'.heap[M]? = W.heap[M]?) : SsAt W' M n K := by
  obtain ⟨D, ⟨es, clock, h1, h2⟩, h3⟩ := h
  exact ⟨D, ⟨es, clock, hb.trans h1, h2⟩, h3⟩
theorem SsAt.below {W W' : World} {M n : Nat} {K : List (List Int)} (h : SsAt W M n K) (hb : Below W.heap.size W W') : SsAt W' M n K := h.same (hb.block _ h.lt)
theorem SsAt.more {W : World} {M n m : Nat} {K : List (List Int)} (h : SsAt W M n K) (hm : n ≤ m) : SsAt W M m K := by
  obtain ⟨D, ⟨es, clock, h1, h2, h3, h4⟩, h5⟩ := h
  exact ⟨D, ⟨es, clock, h1, h2, Nat.le_trans h3 hm, h4⟩, h5⟩
theorem SsAt.look {W : World} {M n : Nat} {K : List (List Int)} (h : SsAt W M n K) {zs : List Int} (hz : IsBytes zs) (hl : zs.length ≤ 140737488351232) : (Instr.lookup 54 (.map (some M)) (.string (strOfNums zs)) false).run Try.prog W = .ok (.bool (decide (zs ∈ K))) W := by
  obtain ⟨D, h1, h2⟩ := h
  obtain ⟨u, ps, hr, hu⟩ := h1.lookup slaw Try.underlying54 (tzero W) (zd := .lit (.bool false)) (zp := []) rfl (kz_key hl)
  rw [h2 zs hz] at hu
  rw [hr, Rt_inv hu]
theorem SsAt.store {W : World} {M n : Nat} {K : List (List Int)} (h : SsAt W M n K) (hn : n ≤ 100000) {zs : List Int} (hz : IsBytes zs) (hl : zs.length ≤ 140737488351232) :
    ∃ W', (Instr.mapUpdate 54 (.map (some M)) (.string (strOfNums zs)) (.bool true)).run Try.prog W = .ok () W' ∧ SsAt W' M (n + 1) (zs :: K) ∧ Fb (at1 M) W W' := by
  obtain ⟨D, h1, h2⟩ := h
  obtain ⟨W', hr, ho, hg⟩ := h1.store slaw Try.underlying54 (by unfold maxLen; omega) (kz_key hl) (Rt_mk true)
  refine ⟨W', hr, ⟨_, ho, fun ys hy => ?_⟩, fb_map hg⟩
  by_cases e : ys = zs
  · subst e
    rw [atKey_put_same h1.isMap (slaw.key (kz_key hl))]
    simp
  · have hne : kz ys ≠ kz zs := fun e2 => e (kz_inj hy hz e2)
    rw [atKey_put_other hne, h2 ys hy]
    simp [e]
variable {B b : Nat} {W W' : World} {v : Value} {us : List Value} {S : Lm}
/-- A link beside a map that has turned. -/
theorem Lo.map (h : Lo B W b S) {M : Nat} (hM : ∃ es clock, W.heap[M]? = some (.map es clock)) (hf : Fb (at1 M) W W') : Lo B W' b S := by
  obtain ⟨v, us, h1⟩ := h
  obtain ⟨es, clock, hc⟩ := hM
  refine ⟨v, us, h1.same (fun k hk => hf.block k (h1.lt1 hk).2 fun e => ?_) fun k hk => hf.block k (h1.lt2 hk).2 fun e => ?_⟩
  · obtain ⟨cs, t, f, hq, _⟩ := h1.cellsF hk
    rw [show k = M from e, hc] at hq
    cases hq
  · obtain ⟨u, hu, ek⟩ := hk
    obtain ⟨zs, hm⟩ := h1.of hu
    obtain ⟨_, cur, hq⟩ := own_blkP hm.own ek
    rw [show k = M from e, hc] at hq
    cases hq
theorem Lo.msgs (h : Lo B W b S) : ∀ zs ∈ S.ms, IsBytes zs ∧ zs.length ≤ 140737488351232 := fun zs hz => by
  obtain ⟨v, us, h1⟩ := h
  obtain ⟨i, hi, rfl⟩ := List.mem_iff_getElem.1 hz
  obtain ⟨u, ys, _, h3, h4⟩ := h1.get hi
  rw [List.getElem?_eq_getElem hi] at h3
  cases h3
  exact ⟨h4.bs, h4.len⟩
end Go.Proofs.Ytlhmalmmligkkaa
