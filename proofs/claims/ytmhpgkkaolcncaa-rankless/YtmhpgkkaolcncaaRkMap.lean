/-
  A map of truths by numbers (BbAt); what RankOnce lays into its maps.
-/
import Derived.Test.YtmhpgkkaolcncaaRkTh
import Derived.Maps.Own
import Derived.Maps.OwnOps
import Derived.Maps.Views
import Derived.Maps.OwnSet
import Derived.DeepKeys4
import Derived.MapViews
namespace Go.Proofs.Ytmhpgkkaolcncaa
open Go.RowKit Go.Maps
set_option linter.unusedVariables false
set_option maxRecDepth 1000000

theorem isU.wf {x : Int} (h : isU x) : (Lit.int .u64 x).wf = true := WalkArith.wf_u64 h
theorem alaw : Keyed Try.prog 34 := int_keyed Try.underlying34
theorem akey {x : Int} (h : isU x) : keyOf Try.prog 34 (.int .u64 x) = some (.int .u64 x) := keyOf_int_mk Try.underlying34 h.wf
theorem fb_map {W W' : World} {B : Nat} (h : W.mapTurned W' B) : Fb (at1 B) W W' := by
  have := h.grown
  exact ⟨this.os, this.tape, this.output, this.size, fun k hk hn => this.block k hk fun e => hn (by cases e; rfl)⟩
/-- How a truth reads. -/
def Rt : Value → Option (DataW Unit × List MemPlace)
  | .bool b => some (.lit (.bool b), [])
  | _ => none
theorem Rt_mk (b : Bool) : Rt (.bool b) = some (.lit (.bool b), []) := rfl
theorem Rt_inv {v : Value} {b : Bool} {ps : List MemPlace} (h : Rt v = some (.lit (.bool b), ps)) : v = .bool b := by
  cases v <;> simp [Rt] at h
  rw [h.1]
theorem tzero (w : World) : (zeroValue 4).run Try.prog w = .ok (.bool false) w := by kernel_rfl
/-- A key's value, others as they were. -/
def updb (f : Int → Bool) (x : Int) (c : Bool) (y : Int) : Bool := if y = x then c else f y
/-- The map in block B, of at most n entries. -/
def BbAt (W : World) (B n : Nat) (f : Int → Bool) : Prop :=
  ∃ D : DataW Unit, W.ownsMap Try.prog 34 Rt B n D ∧ ∀ x, isU x → D.atKey (.int .u64 x) (.lit (.bool false)) = .lit (.bool (f x))
theorem BbAt.new (w : World) : BbAt (w.alloc (.map #[] 0)) w.heap.size 0 (fun _ => false) := ⟨.map [], World.ownsMap_made _ _ _ _, fun v _ => rfl⟩
theorem BbAt.lt {W : World} {B n : Nat} {f : Int → Bool} (h : BbAt W B n f) : B < W.heap.size := by obtain ⟨D, h1, _⟩ := h; exact h1.lt
theorem BbAt.blk {W : World} {B n : Nat} {f : Int → Bool} (h : BbAt W B n f) : ∃ es clock, W.heap[B]? = some (.map es clock) := by
  obtain ⟨D, ⟨es, clock, h1, h2⟩, h3⟩ := h
  exact ⟨es, clock, h1⟩
theorem BbAt.same {W W' : World} {B n : Nat} {f : Int → Bool} (h : BbAt W B n f) (hb : W'.heap[B]? = W.heap[B]?) : BbAt W' B n f := by
  obtain ⟨D, ⟨es, clock, h1, h2⟩, h3⟩ := h
  exact ⟨D, ⟨es, clock, hb.trans h1, h2⟩, h3⟩
theorem BbAt.below {W W' : World} {B n : Nat} {f : Int → Bool} (h : BbAt W B n f) (hb : RowKit.Below W.heap.size W W') : BbAt W' B n f := h.same (hb.block _ h.lt)
theorem BbAt.look {W : World} {B n : Nat} {f : Int → Bool} (h : BbAt W B n f) {x : Int} (hx : isU x) : (Instr.lookup 47 (.map (some B)) (.int .u64 x) false).run Try.prog W = .ok (.bool (f x)) W := by
  obtain ⟨D, h1, h2⟩ := h
  obtain ⟨u, ps, hr, hu⟩ := h1.lookup alaw Try.underlying47 (tzero W) (zd := .lit (.bool false)) (zp := []) (Rt_mk false) (akey hx)
  rw [h2 x hx] at hu
  rw [hr, Rt_inv hu]
theorem BbAt.store {W : World} {B n : Nat} {f : Int → Bool} (h : BbAt W B n f) (hn : n ≤ 1000) {x : Int} (hx : isU x) (c : Bool) :
    ∃ W', (Instr.mapUpdate 47 (.map (some B)) (.int .u64 x) (.bool c)).run Try.prog W = .ok () W' ∧ BbAt W' B (n + 1) (updb f x c) ∧ Fb (at1 B) W W' := by
  obtain ⟨D, h1, h2⟩ := h
  obtain ⟨W', hr, ho, hg⟩ := h1.store alaw Try.underlying47 (by unfold maxLen; omega) (akey hx) (Rt_mk c)
  refine ⟨W', hr, ⟨_, ho, fun u hu => ?_⟩, fb_map hg⟩
  unfold updb
  by_cases e : u = x
  · subst e
    rw [atKey_put_same h1.isMap (alaw.key (akey hx))]
    simp
  · have hne : Lit.int .u64 u ≠ Lit.int .u64 x := fun e2 => e (by cases e2; rfl)
    rw [atKey_put_other hne, h2 u hu]
    simp [e]
/-- Is it one of them? -/
def memF (K : List Int) (x : Int) : Bool := decide (x ∈ K)
theorem memF_nil : memF [] = fun _ => false := by funext x; simp [memF]
theorem memF_snoc (K : List Int) (x : Int) : memF (K ++ [x]) = updb (memF K) x true := by
  funext y
  unfold memF updb
  by_cases e : y = x <;> simp [e]
theorem updb_same (f : Int → Bool) (x : Int) : updb f x (f x) = f := by
  funext y
  unfold updb
  split
  · rename_i e; rw [e]
  · rfl
/-- The numbers of those that may be asked. -/
def opnL (L : List Cd) : List Int := (L.filter Cd.opn).map Cd.rep
theorem opnL_snoc (L : List Cd) (c : Cd) : memF (opnL (L ++ [c])) = updb (memF (opnL L)) c.rep (memF (opnL L) c.rep || c.opn) := by
  cases ho : c.opn with
  | true =>
    have : opnL (L ++ [c]) = opnL L ++ [c.rep] := by unfold opnL; rw [List.filter_append, List.filter_cons_of_pos ho]; simp
    rw [this, memF_snoc, Bool.or_true]
  | false =>
    have : opnL (L ++ [c]) = opnL L := by unfold opnL; rw [List.filter_append, List.filter_cons_of_neg (by simp [ho])]; simp
    rw [this, Bool.or_false, updb_same]
/-- Is a number met twice? -/
def twF (L : List Cd) : Bool := !decide ((L.map Cd.rep).Nodup)
theorem twF_snoc (L : List Cd) (c : Cd) : twF (L ++ [c]) = (twF L || memF (L.map Cd.rep) c.rep) := by
  unfold twF memF
  rw [List.map_append, List.map_singleton]
  have h : (L.map Cd.rep ++ [c.rep]).Nodup ↔ (L.map Cd.rep).Nodup ∧ c.rep ∉ L.map Cd.rep := by
    rw [List.nodup_append]
    constructor
    · rintro ⟨h1, _, h3⟩
      exact ⟨h1, fun hm => h3 _ hm _ (by simp) rfl⟩
    · rintro ⟨h1, h2⟩
      refine ⟨h1, by simp, fun a ha b hb e => ?_⟩
      rw [List.mem_singleton.1 hb] at e
      exact h2 (e ▸ ha)
  by_cases h1 : (L.map Cd.rep).Nodup <;> by_cases h2 : c.rep ∈ L.map Cd.rep <;> simp [h, h1, h2]
theorem rev_take {l : List Cd} {k : Nat} (h : k < l.length) : l.reverse.take (k + 1) = l.reverse.take k ++ [ck l (l.length - 1 - k)] := by
  have hk : k < l.reverse.length := by simpa using h
  rw [List.take_add_one, List.getElem?_eq_getElem hk, List.getElem_reverse]
  have : l[l.length - 1 - k]? = some (ck l (l.length - 1 - k)) := ck_get (by omega)
  rw [List.getElem?_eq_getElem (by omega)] at this
  rw [Option.some.inj this]
  rfl
end Go.Proofs.Ytmhpgkkaolcncaa
