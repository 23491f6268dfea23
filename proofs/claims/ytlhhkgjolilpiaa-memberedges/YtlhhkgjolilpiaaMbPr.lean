/-
  Package member in memory (MlAt): a box, a map, a block each replica; made, goOn, one, at.
-/
import Derived.Test.YtlhhkgjolilpiaaMbMath
import Derived.BigQuiet
import Derived.Deep.RegionHeld3
import Derived.Deep.RegionLaw
import Derived.Deep.DrawnRows
import Derived.StillTailTactics
namespace Go.Proofs.Ytlhhkgjolilpiaa
open Go.RowKit
set_option linter.unusedVariables false
set_option maxRecDepth 1000000

/-- Numbers and blocks. -/
def ents (f : Int → Nat) (L : List Mr) : List (Int × Nat) := L.map fun r => (r.n, f r.n)
theorem lkQ_ents (f : Int → Nat) (L : List Mr) (n : Int) : lkQ (ents f L) n = (gtL L n).map fun _ => f n := by
  induction L with
  | nil => rfl
  | cons r L ih =>
    show lkQ ((r.n, f r.n) :: ents f L) n = _
    by_cases e : r.n = n
    · subst e; simp [lkQ, gtL]
    · simp only [lkQ, gtL, if_neg e]
      exact ih
theorem ents_put (f : Int → Nat) (L : List Mr) (r : Mr) : ents f (putL L r) = ents f L := by
  have h : ∀ K : List Mr, ents f K = (K.map Mr.n).map fun n => (n, f n) := fun K => by unfold ents; rw [List.map_map]; rfl
  rw [h, h, putL_n]
theorem ents_rm (f : Int → Nat) (L : List Mr) (n : Int) : butQ (ents f L) n = ents f (rmL L n) := by
  unfold butQ ents rmL
  rw [List.filter_map]
  rfl
theorem ents_n (f : Int → Nat) (L : List Mr) : (ents f L).map (fun q => q.1) = L.map Mr.n := by unfold ents; rw [List.map_map]; rfl
def MrC (r : Mr) : Array Value := #[.int .u64 r.n, .int .i64 r.st, .int .u64 r.inc, .int .i64 r.bd, .int .i64 r.si]
def MlC (S : Ml) (M : Nat) : Array Value := #[.int .i64 S.now, .int .u64 S.last, .map (some M)]
/-- A list lies there. -/
structure MlAt (W : World) (b M : Nat) (f : Int → Nat) (S : Ml) : Prop where
  box : W.heap[b]? = some (.cells (MlC S M) 61 (0, 0))
  map : MqAt W M (ents f S.L)
  rep : ∀ r ∈ S.L, W.heap[f r.n]? = some (.cells (MrC r) 55 (0, 0))
  inj : ∀ r ∈ S.L, ∀ q ∈ S.L, f r.n = f q.n → r.n = q.n
/-- Its blocks. -/
def mF (b M : Nat) (f : Int → Nat) (L : List Mr) (k : Nat) : Prop := k = b ∨ k = M ∨ ∃ r ∈ L, k = f r.n
variable {W W' w w' : World} {b M : Nat} {f : Int → Nat} {S S' : Ml} {r q : Mr} {n t v wt s i : Int}
theorem MlAt.lts (h : MlAt W b M f S) {k : Nat} (hk : mF b M f S.L k) : k < W.heap.size := by
  rcases hk with rfl | rfl | ⟨r, hr, rfl⟩
  · exact lt_of_block h.box
  · exact h.map.lt
  · exact lt_of_block (h.rep r hr)
theorem MlAt.same (h : MlAt W b M f S) (hb : ∀ k, mF b M f S.L k → W'.heap[k]? = W.heap[k]?) : MlAt W' b M f S :=
  ⟨(hb b (.inl rfl)).trans h.box, h.map.same (hb M (.inr (.inl rfl))), fun r hr => (hb _ (.inr (.inr ⟨r, hr, rfl⟩))).trans (h.rep r hr), h.inj⟩
theorem MlAt.below (h : MlAt W b M f S) (hb : Below W.heap.size W W') : MlAt W' b M f S := h.same fun k hk => hb.block k (h.lts hk)
theorem MlAt.fb {F : Nat → Prop} (h : MlAt W b M f S) (hb : Fb F W W') (hF : ∀ k, mF b M f S.L k → ¬ F k) : MlAt W' b M f S := h.same fun k hk => hb.block k (h.lts hk) (hF k hk)
theorem MlAt.drewN (h : MlAt W b M f S) (n : Nat) : MlAt (W.drewN n) b M f S := h.same fun _ _ => rfl
theorem MlAt.drew (h : MlAt W b M f S) : MlAt W.drew b M f S := h.same fun _ _ => rfl
theorem MlAt.bM (h : MlAt W b M f S) : b ≠ M := fun e => by
  obtain ⟨es, cl, hm⟩ := h.map.blk
  rw [← e, h.box] at hm
  cases hm
theorem MlAt.fM (h : MlAt W b M f S) (hr : r ∈ S.L) : f r.n ≠ M := fun e => by
  obtain ⟨es, cl, hm⟩ := h.map.blk
  rw [← e, h.rep r hr] at hm
  cases hm
theorem MlAt.fb' (h : MlAt W b M f S) (hr : r ∈ S.L) : f r.n ≠ b := fun e => by
  have := h.rep r hr
  rw [e, h.box] at this
  simp at this
/-- The cells, one by one. -/
structure MlCs (W : World) (b M : Nat) (S : Ml) : Prop where
  now : W.cell? ⟨b, 0, none⟩ = some (.int .i64 S.now)
  last : W.cell? ⟨b, 1, none⟩ = some (.int .u64 S.last)
  map : W.cell? ⟨b, 2, none⟩ = some (.map (some M))
structure MrCs (W : World) (g : Nat) (r : Mr) : Prop where
  n : W.cell? ⟨g, 0, none⟩ = some (.int .u64 r.n)
  st : W.cell? ⟨g, 1, none⟩ = some (.int .i64 r.st)
  inc : W.cell? ⟨g, 2, none⟩ = some (.int .u64 r.inc)
  bd : W.cell? ⟨g, 3, none⟩ = some (.int .i64 r.bd)
  si : W.cell? ⟨g, 4, none⟩ = some (.int .i64 r.si)
theorem MlAt.cs (h : MlAt W b M f S) : MlCs W b M S := by
  constructor <;> (rw [cell_of_row _ _ _ _ _ _ h.box]; rfl)
theorem mr_cs {g : Nat} {T : TypeId} (h : W.heap[g]? = some (.cells (MrC r) T (0, 0))) : MrCs W g r := by
  constructor <;> (rw [cell_of_row _ _ _ _ _ _ h]; rfl)
theorem MlAt.rc (h : MlAt W b M f S) (hr : r ∈ S.L) : MrCs W (f r.n) r := mr_cs (h.rep r hr)
theorem MlAt.fz (h : MlAt W b M f S) (k : Nat) : W.frozen? ⟨b, k, none⟩ = false := frozen_of_row _ _ k _ _ h.box
theorem MlAt.fr (h : MlAt W b M f S) (hr : r ∈ S.L) (k : Nat) : W.frozen? ⟨f r.n, k, none⟩ = false := frozen_of_row _ _ k _ _ (h.rep r hr)
theorem MlAt.look (h : MlAt W b M f S) (hn : isU n) : (Instr.lookup 59 (.map (some M)) (.int .u64 n) true).run Try.prog W = .ok (.tuple #[.pointer (ptrP ((S.get n).map fun _ => f n)), .bool (S.get n).isSome]) W := by
  have := h.map.look hn
  rw [lkQ_ents] at this
  rw [this]
  show _ = Result.ok (Value.tuple #[.pointer (ptrP ((gtL S.L n).map fun _ => f n)), .bool (gtL S.L n).isSome]) W
  rw [Option.isSome_map]
theorem MlAt.look1 (h : MlAt W b M f S) (hn : isU n) : (Instr.lookup 59 (.map (some M)) (.int .u64 n) false).run Try.prog W = .ok (.pointer (ptrP ((S.get n).map fun _ => f n))) W := by
  have := h.map.look1 hn
  rw [lkQ_ents] at this
  exact this
theorem fb_set1 (W : World) (g k : Nat) (u : Value) : Fb (at1 g) W (W.setCell ⟨g, k, none⟩ u) := Fb.set (F := at1 g) (p := ⟨g, k, none⟩) rfl u
/-- A cell of the box is stored. -/
theorem MlAt.boxed (h : MlAt W b M f S) {k : Nat} {u : Value} (e : (MlC S M).setIfInBounds k u = MlC S' M) (hL : S'.L = S.L) : MlAt (W.setCell ⟨b, k, none⟩ u) b M f S' := by
  have hf := fb_set1 W b k u
  refine ⟨?_, ?_, ?_, ?_⟩
  · rw [← e]; exact row_set h.box
  · rw [hL]; exact h.map.fb hf fun e => h.bM (show M = b from e).symm
  · rw [hL]; exact fun r hr => hf.one (h.rep r hr) fun e => h.fb' hr e
  · rw [hL]; exact h.inj
/-- A cell of a replica's is stored. -/
theorem MlAt.turned (h : MlAt W b M f S) (hr : r ∈ S.L) (hris : RisM S.L) {r' : Mr} (hn : r'.n = r.n) {k : Nat} {u : Value} (e : (MrC r).setIfInBounds k u = MrC r') : MlAt (W.setCell ⟨f r.n, k, none⟩ u) b M f (S.put r') := by
  have hf := fb_set1 W (f r.n) k u
  refine ⟨hf.one h.box fun e => h.fb' hr (show b = f r.n from e).symm, ?_, ?_, ?_⟩
  · show MqAt _ M (ents f (putL S.L r'))
    rw [ents_put]
    exact h.map.fb hf fun e => h.fM hr (show M = f r.n from e).symm
  · intro x hx
    rcases putL_mem hx with ⟨rfl, _⟩ | ⟨hx, hne⟩
    · rw [hn, ← e]
      exact row_set (h.rep r hr)
    · exact hf.one (h.rep x hx) fun e => hne ((h.inj x hx r hr e).trans hn.symm)
  · have hm : ∀ x ∈ putL S.L r', ∃ y ∈ S.L, y.n = x.n := fun x hx => by
      rcases putL_mem hx with ⟨rfl, y, hy, e⟩ | ⟨hx, _⟩
      · exact ⟨y, hy, e⟩
      · exact ⟨x, hx, rfl⟩
    intro x hx y hy e
    obtain ⟨x', hx', e1⟩ := hm x hx
    obtain ⟨y', hy', e2⟩ := hm y hy
    rw [← e1, ← e2] at e ⊢
    exact h.inj _ hx' _ hy' e
/-- The map is struck. -/
theorem MlAt.struck (h : MlAt W b M f S) (hm : MqAt W' M (butQ (ents f S.L) n)) (hf : Fb (at1 M) W W') : MlAt W' b M f (S.rm n) :=
  ⟨hf.one h.box fun e => h.bM e, by rw [ents_rm] at hm; exact hm, fun x hx => hf.one (h.rep x (rmL_mem.1 hx).1) fun e => h.fM (rmL_mem.1 hx).1 e, fun x hx y hy e => h.inj x (rmL_mem.1 hx).1 y (rmL_mem.1 hy).1 e⟩
theorem mF_rm {k : Nat} (hk : mF b M f (rmL S.L n) k) : mF b M f S.L k := by
  rcases hk with e | e | ⟨r, hr, e⟩
  · exact .inl e
  · exact .inr (.inl e)
  · exact .inr (.inr ⟨r, (rmL_mem.1 hr).1, e⟩)
theorem mF_put {k : Nat} (hk : mF b M f (putL S.L r) k) : mF b M f S.L k := by
  rcases hk with e | e | ⟨x, hx, e⟩
  · exact .inl e
  · exact .inr (.inl e)
  · rcases putL_mem hx with ⟨rfl, y, hy, e2⟩ | ⟨hx, _⟩
    · exact .inr (.inr ⟨y, hy, by rw [e2]; exact e⟩)
    · exact .inr (.inr ⟨x, hx, e⟩)
/-- What a call leaves: only its own blocks have turned; its blocks are those that were, or new. -/
structure MlO (W : World) (b M : Nat) (f : Int → Nat) (S S' : Ml) (f' : Int → Nat) (W' : World) : Prop where
  at' : MlAt W' b M f' S'
  fr : Fb (mF b M f S.L) W W'
  own : ∀ k, mF b M f' S'.L k → mF b M f S.L k ∨ W.heap.size ≤ k
theorem MlO.refl (h : MlAt W b M f S) : MlO W b M f S S f W := ⟨h, Fb.refl _ _, fun k hk => .inl hk⟩
theorem MlO.trans {W1 W2 : World} {S1 S2 : Ml} {f1 f2 : Int → Nat} (h : MlO W b M f S S1 f1 W1) (k : MlO W1 b M f1 S1 S2 f2 W2) : MlO W b M f S S2 f2 W2 :=
  ⟨k.at', h.fr.trans k.fr h.own, fun x hx => (k.own x hx).elim (h.own x) fun e => .inr (Nat.le_trans h.fr.size e)⟩
theorem MlO.boxed (h : MlAt W b M f S) {k : Nat} {u : Value} (e : (MlC S M).setIfInBounds k u = MlC S' M) (hL : S'.L = S.L) : MlO W b M f S S' f (W.setCell ⟨b, k, none⟩ u) :=
  ⟨h.boxed e hL, (fb_set1 W b k u).mono fun x hx => .inl hx, fun k hk => .inl (by rw [hL] at hk; exact hk)⟩
theorem MlO.turned (h : MlAt W b M f S) (hr : r ∈ S.L) (hris : RisM S.L) {r' : Mr} (hn : r'.n = r.n) {k : Nat} {u : Value} (e : (MrC r).setIfInBounds k u = MrC r') : MlO W b M f S (S.put r') f (W.setCell ⟨f r.n, k, none⟩ u) :=
  ⟨h.turned hr hris hn e, (fb_set1 W (f r.n) k u).mono fun x hx => .inr (.inr ⟨r, hr, hx⟩), fun k hk => .inl (mF_put hk)⟩
theorem MlO.drew (h : MlO W b M f S S' f W') : MlO W b M f S S' f W'.drew := ⟨h.at'.drew, h.fr.drew, h.own⟩
theorem MlO.drewN (h : MlO W b M f S S' f W') (n : Nat) : MlO W b M f S S' f (W'.drewN n) := ⟨h.at'.drewN n, ⟨h.fr.os, h.fr.tape, h.fr.output, h.fr.size, h.fr.block⟩, h.own⟩
/-! ### Made -/
theorem neq_map (M : Nat) (W : World) : (binOp .neq 59 (.map (some M)) (.map none)).run Try.prog W = .ok (.bool true) W := by kernel_rfl
theorem neq_nil (W : World) : (binOp .neq 59 (.map none) (.map none)).run Try.prog W = .ok (.bool false) W := by kernel_rfl
theorem mmade_yes (h : MlAt w b M f S) : Calls Try.prog 28 #[.pointer (some ⟨b, 0, none⟩)] w fun e w' => e = .returned (.bool true) ∧ w' = w := by
  have c2 := h.cs.map
  have hq := neq_map M w
  clear h
  go_enter Try.func28, Try.ntmps28
  go_wp2
  go_ret
  exact ⟨rfl, rfl⟩
/-- A pointer to none, or to one that New did not give. -/
def MlNo (W : World) (p : Option Addr) : Prop := p = none ∨ ∃ b, p = some ⟨b, 0, none⟩ ∧ W.cell? ⟨b, 2, none⟩ = some (.map none)
theorem mmade_no {p : Option Addr} (h : MlNo w p) : Calls Try.prog 28 #[.pointer p] w fun e w' => e = .returned (.bool false) ∧ w' = w := by
  rcases h with rfl | ⟨b, rfl, c0⟩
  · go_enter Try.func28, Try.ntmps28
    go_wp2
    go_ret
    exact ⟨rfl, rfl⟩
  · have hq := neq_nil w
    go_enter Try.func28, Try.ntmps28
    go_wp2
    go_ret
    exact ⟨rfl, rfl⟩
/-! ### goOn -/
theorem mgo_any (h : MlAt w b M f S) (t : Int) : Calls Try.prog 29 #[.pointer (some ⟨b, 0, none⟩), .int .i64 t] w fun e w' => e = .returned (.tuple #[]) ∧ Hid (MlO w b M f S (S.tm t) f w') := by
  have c0 := h.cs.now
  by_cases h1 : S.now < t
  · by_cases h2 : t ≤ 1099511627776
    · have e : tmZ S.now t = t := if_pos ⟨h1, h2⟩
      have HF : Hid (MlO w b M f S (S.tm t) f (w.setCell ⟨b, 0, none⟩ (.int .i64 t))) := MlO.boxed h (by unfold Ml.tm; rw [e]; rfl) rfl
      have f0 := h.fz 0
      clear h e
      go_enter Try.func29, Try.ntmps29
      go_wp2
      go_end0
      exact ⟨rfl, HF⟩
    · have e : S.tm t = S := by unfold Ml.tm tmZ; rw [if_neg (by omega)]
      rw [e]
      have HF := hid (MlO.refl h)
      clear h e
      go_enter Try.func29, Try.ntmps29
      go_wp2
      go_end0
      exact ⟨rfl, HF⟩
  · have e : S.tm t = S := by unfold Ml.tm tmZ; rw [if_neg (by omega)]
    rw [e]
    have HF := hid (MlO.refl h)
    clear h e
    go_enter Try.func29, Try.ntmps29
    go_wp2
    go_end0
    exact ⟨rfl, HF⟩
/-! ### one, at -/
/-- Where the replica of a number lies, and the error if there is none. -/
def Ml.ptr (S : Ml) (f : Int → Nat) (n : Int) : Option Addr := ptrP ((S.get n).map fun _ => f n)
theorem ptr_none (h : S.get n = none) : S.ptr f n = none ∧ S.getE n = 6 := by unfold Ml.ptr Ml.getE; rw [h]; exact ⟨rfl, rfl⟩
theorem ptr_some (h : S.get n = some r) : S.ptr f n = some ⟨f n, 0, none⟩ ∧ S.getE n = 0 := by unfold Ml.ptr Ml.getE; rw [h]; exact ⟨rfl, rfl⟩
theorem mone_any (h : MlAt w b M f S) (hn : isU n) : Calls Try.prog 35 #[.pointer (some ⟨b, 0, none⟩), .int .u64 n] w fun e w' => e = .returned (.tuple #[.pointer (S.ptr f n), .int .i64 (S.getE n)]) ∧ w' = w := by
  have hM := mmade_yes h
  have c2 := h.cs.map
  have hl := h.look hn
  cases hg : S.get n with
  | none =>
    rw [(ptr_none (f := f) hg).1, (ptr_none (f := f) hg).2]
    rw [hg] at hl
    simp only [Option.map_none, ptrP, Option.isSome_none] at hl
    clear h hn hg
    go_enter Try.func35, Try.ntmps35
    go_wp2_with fail
    refine hM.mono ?_
    rintro e w1 ⟨rfl, rfl⟩
    go_wp2
    go_ret2
    exact ⟨rfl, rfl⟩
  | some r =>
    rw [(ptr_some (f := f) hg).1, (ptr_some (f := f) hg).2]
    rw [hg] at hl
    simp only [Option.map_some, ptrP, Option.isSome_some] at hl
    clear h hn hg
    go_enter Try.func35, Try.ntmps35
    go_wp2_with fail
    refine hM.mono ?_
    rintro e w1 ⟨rfl, rfl⟩
    go_wp2
    go_ret2
    exact ⟨rfl, rfl⟩
theorem mat_any (h : MlAt w b M f S) (t : Int) (hn : isU n) : Calls Try.prog 34 #[.pointer (some ⟨b, 0, none⟩), .int .i64 t, .int .u64 n] w fun e w' => e = .returned (.tuple #[.pointer ((S.tm t).ptr f n), .int .i64 ((S.tm t).getE n)]) ∧ Hid (MlO w b M f S (S.tm t) f w') := by
  have hM := mmade_yes h
  have hG := mgo_any h t
  have HO := hid fun (w1 : World) (h1 : MlAt w1 b M f (S.tm t)) => mone_any h1 hn
  clear h
  go_enter Try.func34, Try.ntmps34
  go_wp2_with fail
  refine hM.mono ?_
  rintro e w1 ⟨rfl, rfl⟩
  clear hM
  go_wp2_with fail
  refine hG.mono ?_
  rintro e w2 ⟨rfl, H2⟩
  have hO := HO.out _ H2.out.at'
  clear hG HO
  go_wp2_with fail
  refine hO.mono ?_
  rintro e w3 ⟨rfl, rfl⟩
  clear hO
  go_wp2_with fail
  go_ret2
  exact ⟨rfl, H2⟩
end Go.Proofs.Ytlhhkgjolilpiaa
