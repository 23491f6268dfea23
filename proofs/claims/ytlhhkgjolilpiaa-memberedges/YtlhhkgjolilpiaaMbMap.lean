/-
  A list's map from numbers to blocks, as a list of pairs (MqAt): looked up, stored into, struck, counted; a range over it (RqAt).
-/
import Derived.Test.YtlhhkgjolilpiaaMbArgs
import Derived.Maps.Own
import Derived.Maps.OwnOps
import Derived.Maps.Views
import Derived.Maps.OwnSet
import Derived.Maps.RangeWalk
import Derived.DeepKeys4
import Derived.MapViews
namespace Go.Proofs.Ytlhhkgjolilpiaa
open Go.RowKit Go.Maps
set_option linter.unusedVariables false
set_option maxRecDepth 1000000

theorem isU.wf {x : Int} (h : isU x) : (Lit.int .u64 x).wf = true := WalkArith.wf_u64 h
theorem alaw : Keyed Try.prog 25 := int_keyed Try.underlying25
theorem akey {x : Int} (h : isU x) : keyOf Try.prog 25 (.int .u64 x) = some (.int .u64 x) := keyOf_int_mk Try.underlying25 h.wf
theorem akey_inv {key : Value} {kl : Lit} (h : keyOf Try.prog 25 key = some kl) : ∃ x : Int, key = .int .u64 x ∧ kl = .int .u64 x ∧ isU x := by
  cases key <;> simp [keyOf, Try.underlying25, mapKey] at h
  rename_i q a
  obtain ⟨⟨rfl, hw⟩, rfl⟩ := h
  refine ⟨a, rfl, rfl, ?_⟩
  have h1 : IntKind.u64.min = 0 := by decide
  have h2 : IntKind.u64.max = 18446744073709551615 := by decide
  simp [Lit.wf] at hw
  rw [h1, h2] at hw
  exact hw
theorem fb_map {W W' : World} {B : Nat} (h : W.mapTurned W' B) : Fb (at1 B) W W' := by
  have := h.grown
  exact ⟨this.os, this.tape, this.output, this.size, fun k hk hn => this.block k hk fun e => hn (by cases e; rfl)⟩
/-- A pointer to a block, read as that block's number. -/
def Rp : Value → Option (DataW Unit × List MemPlace)
  | .pointer none => some (.lit (.int .i64 (-1)), [])
  | .pointer (some a) => if a.off = 0 ∧ a.spot = none then some (.lit (.int .i64 (a.block : Int)), []) else none
  | _ => none
def codeP : Option Nat → Int
  | none => -1
  | some b => b
def ptrP : Option Nat → Option Addr
  | none => none
  | some b => some ⟨b, 0, none⟩
theorem Rp_inv {v : Value} {o : Option Nat} {ps : List MemPlace} (h : Rp v = some (.lit (.int .i64 (codeP o)), ps)) : v = .pointer (ptrP o) := by
  cases v with
  | pointer a =>
    cases a with
    | none =>
      have h1 : (-1 : Int) = codeP o := by simp [Rp] at h; exact h.1
      cases o with
      | none => rfl
      | some b => change (-1 : Int) = (b : Int) at h1; omega
    | some a =>
      obtain ⟨b, off, spot⟩ := a
      simp only [Rp] at h
      split at h
      · rename_i hc
        obtain ⟨h1, h2⟩ := hc
        subst h1 h2
        have h3 : (b : Int) = codeP o := by simp at h; exact h.1
        cases o with
        | none => change (b : Int) = -1 at h3; omega
        | some b' =>
          have : b = b' := by change (b : Int) = (b' : Int) at h3; omega
          rw [this]
          rfl
      · cases h
  | _ => simp [Rp] at h
theorem Rp_mk (b : Nat) : Rp (.pointer (some ⟨b, 0, none⟩)) = some (.lit (.int .i64 (codeP (some b))), []) := by simp [Rp, codeP]
theorem codeP_inj {a b : Option Nat} (h : codeP a = codeP b) : a = b := by
  cases a <;> cases b <;> simp [codeP] at h ⊢
  all_goals omega
theorem Rp_some {v : Value} {y : DataW Unit × List MemPlace} (h : Rp v = some y) : ∃ o : Option Nat, v = .pointer (ptrP o) ∧ y.1 = .lit (.int .i64 (codeP o)) := by
  cases v with
  | pointer a =>
    cases a with
    | none => simp [Rp] at h; exact ⟨none, rfl, by rw [← h]; rfl⟩
    | some a =>
      obtain ⟨b, off, spot⟩ := a
      simp only [Rp] at h
      split at h
      · rename_i hc
        obtain ⟨h1, h2⟩ := hc
        subst h1 h2
        cases h
        exact ⟨some b, rfl, rfl⟩
      · cases h
  | _ => simp [Rp] at h
theorem qzero (w : World) : (zeroValue 65).run Try.prog w = .ok (.pointer none) w := by kernel_rfl
/-- Where the entry of a number lies. -/
def lkQ : List (Int × Nat) → Int → Option Nat
  | [], _ => none
  | b :: L, x => if b.1 = x then some b.2 else lkQ L x
theorem lkQ_none {L : List (Int × Nat)} {x : Int} : lkQ L x = none ↔ ∀ b ∈ L, b.1 ≠ x := by
  induction L with
  | nil => simp [lkQ]
  | cons m L ih => by_cases e : m.1 = x <;> simp [lkQ, e, ih]
theorem lkQ_some {L : List (Int × Nat)} {x : Int} {p : Nat} (h : lkQ L x = some p) : ∃ b ∈ L, b.1 = x ∧ b.2 = p := by
  induction L with
  | nil => simp [lkQ] at h
  | cons m L ih =>
    by_cases e : m.1 = x
    · simp [lkQ, e] at h
      exact ⟨m, by simp, e, h⟩
    · simp [lkQ, e] at h
      obtain ⟨m', h1, h2⟩ := ih h
      exact ⟨m', by simp [h1], h2⟩
/-- No number twice. -/
def NuQ (L : List (Int × Nat)) : Prop := (L.map fun q => q.1).Nodup
theorem num_one {L : List (Int × Nat)} (h : NuQ L) {a b : (Int × Nat)} (ha : a ∈ L) (hb : b ∈ L) (e : a.1 = b.1) : a = b := by
  unfold NuQ at h
  induction L with
  | nil => simp at ha
  | cons x L ih =>
    rw [List.map_cons, List.nodup_cons] at h
    rcases List.mem_cons.1 ha with rfl | ha' <;> rcases List.mem_cons.1 hb with rfl | hb'
    · rfl
    · exact absurd (List.mem_map.2 ⟨b, hb', e.symm⟩) h.1
    · exact absurd (List.mem_map.2 ⟨a, ha', e⟩) h.1
    · exact ih h.2 ha' hb'
theorem lkQ_mem {L : List (Int × Nat)} (h : NuQ L) {b : (Int × Nat)} (hb : b ∈ L) : lkQ L b.1 = some b.2 := by
  cases hl : lkQ L b.1 with
  | none => exact absurd rfl (lkQ_none.1 hl b hb)
  | some p =>
    obtain ⟨m', h1, h2, h3⟩ := lkQ_some hl
    rw [← h3, num_one h h1 hb h2]
theorem NuQ.filter {L : List (Int × Nat)} (h : NuQ L) (p : (Int × Nat) → Bool) : NuQ (L.filter p) := (List.filter_sublist.map _).nodup h
theorem NuQ.perm {ms ns : List (Int × Nat)} (h : NuQ ms) (hp : ns.Perm ms) : NuQ ns := (hp.map fun q : Int × Nat => q.1).nodup_iff.2 h
theorem lkQ_perm {L L' : List (Int × Nat)} (h : NuQ L) (hp : L'.Perm L) (x : Int) : lkQ L' x = lkQ L x := by
  cases hl : lkQ L x with
  | none => exact lkQ_none.2 fun b hb => lkQ_none.1 hl b (hp.mem_iff.1 hb)
  | some p =>
    obtain ⟨b, h1, rfl, rfl⟩ := lkQ_some hl
    exact lkQ_mem (h.perm hp) (hp.mem_iff.2 h1)
/-- The entries but one. -/
def butQ (L : List (Int × Nat)) (x : Int) : List (Int × Nat) := L.filter fun b => decide (b.1 ≠ x)
theorem but_lenQ {L : List (Int × Nat)} {x : Int} (h : NuQ L) : (butQ L x).length = L.length - (if (lkQ L x).isSome then 1 else 0) := by
  unfold NuQ at h
  induction L with
  | nil => simp [butQ]
  | cons m L ih =>
    rw [List.map_cons, List.nodup_cons] at h
    have ih := ih h.2
    unfold butQ at ih ⊢
    by_cases e : m.1 = x
    · rw [List.filter_cons_of_neg (by simp [e]), ih]
      have : lkQ L x = none := lkQ_none.2 fun b hb hb2 => h.1 (List.mem_map.2 ⟨b, hb, hb2.trans e.symm⟩)
      simp [lkQ, e, this]
    · rw [List.filter_cons_of_pos (by simp [e]), List.length_cons, ih]
      simp only [lkQ, if_neg e, List.length_cons]
      cases hl : lkQ L x with
      | none => simp
      | some b =>
        obtain ⟨y, hy, _⟩ := lkQ_some hl
        have := List.length_pos_of_mem hy
        simp
        omega
theorem lkQ_but {L : List (Int × Nat)} (h : NuQ L) (x y : Int) : lkQ (butQ L x) y = if y = x then none else lkQ L y := by
  by_cases e : y = x
  · subst e
    rw [if_pos rfl]
    exact lkQ_none.2 fun b hb => by have := (List.mem_filter.1 hb).2; simpa using this
  · rw [if_neg e]
    cases hl : lkQ L y with
    | none => exact lkQ_none.2 fun b hb => lkQ_none.1 hl b (List.mem_filter.1 hb).1
    | some p =>
      obtain ⟨b, h1, rfl, rfl⟩ := lkQ_some hl
      exact lkQ_mem (h.filter _) (List.mem_filter.2 ⟨h1, by simpa using e⟩)
/-- The map in block M has just the entries of L. -/
def MqAt (W : World) (M : Nat) (L : List (Int × Nat)) : Prop :=
  ∃ D : DataW Unit, W.ownsMap Try.prog 25 Rp M L.length D ∧ (∀ x, isU x → D.atKey (.int .u64 x) ((.lit (.int .i64 (-1)))) = .lit (.int .i64 (codeP (lkQ L x))) ∧ Maps.has D (.int .u64 x) = (lkQ L x).isSome) ∧ Maps.size D = L.length ∧ NuQ L ∧ ∀ b ∈ L, isU b.1
theorem MqAt.new (w : World) : MqAt (w.alloc (.map #[] 0)) w.heap.size [] := ⟨.map [], World.ownsMap_made _ _ _ _, fun v _ => ⟨rfl, rfl⟩, rfl, List.nodup_nil, by simp⟩
theorem MqAt.lt {W : World} {M : Nat} {L : List (Int × Nat)} (h : MqAt W M L) : M < W.heap.size := by obtain ⟨D, h1, _⟩ := h; exact h1.lt
theorem MqAt.blk {W : World} {M : Nat} {L : List (Int × Nat)} (h : MqAt W M L) : ∃ es clock, W.heap[M]? = some (.map es clock) := by
  obtain ⟨D, ⟨es, clock, h1, h2⟩, h3⟩ := h
  exact ⟨es, clock, h1⟩
theorem MqAt.nodup {W : World} {M : Nat} {L : List (Int × Nat)} (h : MqAt W M L) : NuQ L := by obtain ⟨D, _, _, _, h4, _⟩ := h; exact h4
theorem MqAt.oks {W : World} {M : Nat} {L : List (Int × Nat)} (h : MqAt W M L) : ∀ b ∈ L, isU b.1 := by obtain ⟨D, _, _, _, _, h5⟩ := h; exact h5
theorem MqAt.same {W W' : World} {M : Nat} {L : List (Int × Nat)} (h : MqAt W M L) (hb : W'.heap[M]? = W.heap[M]?) : MqAt W' M L := by
  obtain ⟨D, ⟨es, clock, h1, h2⟩, h3⟩ := h
  exact ⟨D, ⟨es, clock, hb.trans h1, h2⟩, h3⟩
theorem MqAt.fb {F : Nat → Prop} {W W' : World} {M : Nat} {L : List (Int × Nat)} (h : MqAt W M L) (hb : Fb F W W') (hF : ¬ F M) : MqAt W' M L := h.same (hb.block _ h.lt hF)
theorem MqAt.below {W W' : World} {M : Nat} {L : List (Int × Nat)} (h : MqAt W M L) (hb : Below W.heap.size W W') : MqAt W' M L := h.same (hb.block _ h.lt)
theorem MqAt.look {W : World} {M : Nat} {L : List (Int × Nat)} (h : MqAt W M L) {x : Int} (hx : isU x) : (Instr.lookup 59 (.map (some M)) (.int .u64 x) true).run Try.prog W = .ok (.tuple #[.pointer (ptrP (lkQ L x)), .bool (lkQ L x).isSome]) W := by
  obtain ⟨D, h1, h2, _⟩ := h
  obtain ⟨u, ps, hr, hu⟩ := h1.look_ok alaw Try.underlying59 (qzero W) (zd := (.lit (.int .i64 (-1)))) (zp := []) rfl (akey hx)
  rw [(h2 x hx).2] at hr
  rw [(h2 x hx).1] at hu
  rw [hr, Rp_inv hu]
theorem MqAt.look1 {W : World} {M : Nat} {L : List (Int × Nat)} (h : MqAt W M L) {x : Int} (hx : isU x) : (Instr.lookup 59 (.map (some M)) (.int .u64 x) false).run Try.prog W = .ok (.pointer (ptrP (lkQ L x))) W := by
  obtain ⟨D, h1, h2, _⟩ := h
  obtain ⟨u, ps, hr, hu⟩ := h1.lookup alaw Try.underlying59 (qzero W) (zd := (.lit (.int .i64 (-1)))) (zp := []) rfl (akey hx)
  rw [(h2 x hx).1] at hu
  rw [hr, Rp_inv hu]
theorem owns_tightP {W : World} {B n : Nat} {D : DataW Unit} (h : W.ownsMap Try.prog 25 Rp B n D) : W.ownsMap Try.prog 25 Rp B (Maps.size D) D := by
  obtain ⟨es, clock, h1, h2, h3, rfl⟩ := h
  refine ⟨es, clock, h1, h2, ?_, rfl⟩
  rw [size_eq, length_read]
  exact Nat.le_refl _
theorem MqAt.store {W : World} {M : Nat} {L : List (Int × Nat)} (h : MqAt W M L) (hn : L.length ≤ 100000) {x : Int} (hx : isU x) (p : Nat) :
    ∃ W', (Instr.mapUpdate 59 (.map (some M)) (.int .u64 x) (.pointer (some ⟨p, 0, none⟩))).run Try.prog W = .ok () W' ∧ (∀ L', NuQ L' → (∀ b ∈ L', isU b.1) → (∀ y, isU y → lkQ L' y = if y = x then some p else lkQ L y) → L'.length = L.length + (if (lkQ L x).isSome then 0 else 1) → MqAt W' M L') ∧ Fb (at1 M) W W' := by
  obtain ⟨D, h1, h2, h3, h4, h5⟩ := h
  obtain ⟨W', hr, ho, hg⟩ := h1.store alaw Try.underlying59 (by unfold maxLen; omega) (akey hx) (Rp_mk p)
  refine ⟨W', hr, fun L' a1 a2 a3 a4 => ?_, fb_map hg⟩
  have hs := size_put (k := Lit.int .u64 x) (d := .lit (.int .i64 (codeP (some p)))) (h1.tidy alaw)
  rw [(h2 x hx).2, h3] at hs
  have hs2 : Maps.size (D.put (.int .u64 x) (.lit (.int .i64 (codeP (some p))))) = L'.length := by rw [a4, hs]; cases (lkQ L x).isSome <;> simp
  refine ⟨_, hs2 ▸ owns_tightP ho, fun y hy => ?_, hs2, a1, a2⟩
  rw [a3 y hy]
  by_cases e : y = x
  · subst e
    rw [atKey_put_same h1.isMap (alaw.key (akey hx)), has_put_same h1.isMap (alaw.key (akey hx))]
    simp
  · have hne : Lit.int .u64 y ≠ Lit.int .u64 x := fun e2 => e (by cases e2; rfl)
    rw [atKey_put_other hne, has_put_other hne, if_neg e]
    exact h2 y hy
theorem MqAt.drop {W : World} {M : Nat} {L : List (Int × Nat)} (h : MqAt W M L) {x : Int} (hx : isU x) (ty : TypeId) :
    ∃ W', (Builtin.delete_ #[59, 25] ty #[.map (some M), .int .u64 x]).run Try.prog W = .ok (.tuple #[]) W' ∧ MqAt W' M (butQ L x) ∧ Fb (at1 M) W W' := by
  obtain ⟨D, h1, h2, h3, h4, h5⟩ := h
  obtain ⟨W', hr, ho, hg⟩ := h1.drop alaw Try.underlying59 (akey hx) ty
  have hs := size_del (k := Lit.int .u64 x) (h1.tidy alaw)
  rw [(h2 x hx).2, h3] at hs
  have hs2 : Maps.size (D.del (.int .u64 x)) = (butQ L x).length := by
    rw [but_lenQ h4]
    omega
  refine ⟨W', hr, ⟨_, hs2 ▸ owns_tightP ho, fun y hy => ?_, hs2, h4.filter _, fun b hb => h5 b (List.mem_filter.1 hb).1⟩, fb_map hg⟩
  rw [lkQ_but h4]
  by_cases e : y = x
  · subst e
    rw [atKey_del_same, has_del_same, if_pos rfl]
    exact ⟨rfl, rfl⟩
  · have hne : Lit.int .u64 y ≠ Lit.int .u64 x := fun e2 => e (by cases e2; rfl)
    rw [atKey_del_other hne, has_del_other hne, if_neg e]
    exact h2 y hy
theorem MqAt.len {W : World} {M : Nat} {L : List (Int × Nat)} (h : MqAt W M L) (ty : TypeId) : (Builtin.len_ #[59] ty #[.map (some M)]).run Try.prog W = .ok (.int .i64 L.length) W := by
  obtain ⟨D, h1, h2, h3, _⟩ := h
  have := h1.len Try.underlying59 ty
  rw [h3] at this
  exact this
/-- A range over the map in block M, its iterator in block r: it has just the entries of L now, those of which lf holds are still to come. -/
def RqAt (W : World) (M r n : Nat) (L : List (Int × Nat)) (lf : Int → Bool) (cnt : Nat) : Prop :=
  ∃ (D : DataW Unit) (left : Lit → Bool), W.ranges Try.prog 25 Rp M r n D left cnt ∧ (∀ x, isU x → D.atKey (.int .u64 x) ((.lit (.int .i64 (-1)))) = .lit (.int .i64 (codeP (lkQ L x))) ∧ Maps.has D (.int .u64 x) = (lkQ L x).isSome ∧ left (.int .u64 x) = lf x) ∧ Maps.size D = L.length ∧ NuQ L ∧ ∀ b ∈ L, isU b.1
theorem RqAt.map {W : World} {M r n : Nat} {L : List (Int × Nat)} {lf : Int → Bool} {cnt : Nat} (h : RqAt W M r n L lf cnt) : MqAt W M L := by
  obtain ⟨D, left, h1, h2, h3, h4, h5⟩ := h
  exact ⟨D, h3 ▸ owns_tightP h1.owns, fun x hx => ⟨(h2 x hx).1, (h2 x hx).2.1⟩, h3, h4, h5⟩
theorem RqAt.left {W : World} {M r n : Nat} {L : List (Int × Nat)} {lf : Int → Bool} {cnt : Nat} (h : RqAt W M r n L lf cnt) : W.rangeLeft M r = cnt := by
  obtain ⟨D, left, h1, h2⟩ := h
  exact h1.left_eq
theorem RqAt.ne {W : World} {M r n : Nat} {L : List (Int × Nat)} {lf : Int → Bool} {cnt : Nat} (h : RqAt W M r n L lf cnt) : r ≠ M := by
  obtain ⟨D, left, h1, h2⟩ := h
  exact h1.ne
theorem RqAt.lt {W : World} {M r n : Nat} {L : List (Int × Nat)} {lf : Int → Bool} {cnt : Nat} (h : RqAt W M r n L lf cnt) : r < W.heap.size := by
  obtain ⟨D, left, h1, h2⟩ := h
  exact h1.lt
theorem RqAt.same {W W' : World} {M r n : Nat} {L : List (Int × Nat)} {lf : Int → Bool} {cnt : Nat} (h : RqAt W M r n L lf cnt) (h1 : W'.heap[M]? = W.heap[M]?) (h2 : W'.heap[r]? = W.heap[r]?) : RqAt W' M r n L lf cnt := by
  obtain ⟨D, left, ⟨es, clock, since, seen, c0, hb, F, hs, hD, hr, rest⟩, h4⟩ := h
  exact ⟨D, left, ⟨es, clock, since, seen, c0, h1.trans hb, F, hs, hD, h2.trans hr, rest⟩, h4⟩
theorem RqAt.below {W W' : World} {M r n : Nat} {L : List (Int × Nat)} {lf : Int → Bool} {cnt : Nat} (h : RqAt W M r n L lf cnt) (hb : Below W.heap.size W W') : RqAt W' M r n L lf cnt := h.same (hb.block _ h.map.lt) (hb.block _ h.lt)
/-- Just those that hold of these sessions are meant. -/
theorem RqAt.to {W : World} {M r n : Nat} {L L' : List (Int × Nat)} {lf lg : Int → Bool} {cnt : Nat} (h : RqAt W M r n L lf cnt) (hL : L' = L) (hl : ∀ x, isU x → lg x = lf x) : RqAt W M r n L' lg cnt := by
  obtain ⟨D, left, h1, h2, h3⟩ := h
  subst hL
  exact ⟨D, left, h1, fun x hx => ⟨(h2 x hx).1, (h2 x hx).2.1, by rw [hl x hx]; exact (h2 x hx).2.2⟩, h3⟩
theorem MqAt.range {W : World} {M : Nat} {L : List (Int × Nat)} (h : MqAt W M L) :
    ∃ W' cnt, (Instr.range 59 (.map (some M))).run Try.prog W = .ok (.pointer (some ⟨W.heap.size, 0, none⟩)) W' ∧ RqAt W' M W.heap.size L.length L (fun x => (lkQ L x).isSome) cnt ∧ Below W.heap.size W W' ∧ W'.heap.size = W.heap.size + 1 := by
  obtain ⟨D, h1, h2, h3, h4, h5⟩ := h
  obtain ⟨W', hr, hg, hgr, hs⟩ := h1.range alaw Try.underlying59
  exact ⟨W', _, hr, ⟨D, _, hg, fun x hx => ⟨(h2 x hx).1, (h2 x hx).2, (h2 x hx).2⟩, h3, h4, h5⟩, ⟨hgr.os, hgr.tape, hgr.output, hgr.size, fun k hk => hgr.block k hk (by simp)⟩, hs⟩
/-- A step of it. -/
theorem RqAt.next {W : World} {M r n : Nat} {L : List (Int × Nat)} {lf : Int → Bool} {cnt : Nat} (h : RqAt W M r n L lf cnt) (ty : TypeId) :
    ((∀ x, isU x → lf x = false) ∧ (Instr.next (.pointer (some ⟨r, 0, none⟩)) false ty).run Try.prog W = .ok (.tuple #[.bool false]) W) ∨
    ∃ b W' cnt', b ∈ L ∧ isU b.1 ∧ lf b.1 = true ∧ (Instr.next (.pointer (some ⟨r, 0, none⟩)) false ty).run Try.prog W = .ok (.tuple #[.bool true, .int .u64 b.1, .pointer (some ⟨b.2, 0, none⟩)]) W' ∧
      RqAt W' M r n L (fun x => lf x && decide (x ≠ b.1)) cnt' ∧ cnt' < cnt ∧ Fb (at1 r) W W' ∧ W'.heap.size = W.heap.size ∧ (Instr.entry (.pointer (some ⟨r, 0, none⟩))).run Try.prog W' = .ok (.tuple #[.int .u64 b.1, .pointer (some ⟨b.2, 0, none⟩)]) W' := by
  obtain ⟨D, left, h1, h2, h3, h4, h5⟩ := h
  rcases h1.next alaw ty with ⟨h0, hl, hrun⟩ | ⟨key, u, kl, y, W', cnt', hkey, hlk, hu, hat, hrun, hrg, hlt, hgr, hsz, hen⟩
  · exact .inl ⟨fun x hx => by rw [← (h2 x hx).2.2]; exact hl _, hrun⟩
  · right
    obtain ⟨x, rfl, rfl, hx⟩ := akey_inv hkey
    obtain ⟨k1, k2, k3⟩ := h2 x hx
    rw [hat] at k1
    obtain ⟨p, rfl, hp⟩ := Rp_some hu
    rw [hp] at k1
    have hhas : Maps.has D (.int .u64 x) = true := by
      cases hh : Maps.has D (.int .u64 x) with
      | true => rfl
      | false =>
        exfalso
        have a1 := atKey_of_not_has hh (.lit (.int .i64 7))
        have a2 := atKey_of_not_has hh (.lit (.int .i64 8))
        rw [hat] at a1 a2
        rw [a1] at a2
        simp at a2
    rw [hhas] at k2
    cases hf : lkQ L x with
    | none => rw [hf] at k2; simp at k2
    | some q =>
      rw [hf] at k1
      have k1 : codeP p = codeP (some q) := by simpa using k1
      have k1 := codeP_inj k1
      subst k1
      obtain ⟨b, hb, rfl, hq⟩ := lkQ_some hf
      cases hq
      refine ⟨b, W', cnt', hb, hx, by rw [← k3]; exact hlk, hrun, ⟨D, _, hrg, fun v hv => ⟨(h2 v hv).1, (h2 v hv).2.1, ?_⟩, h3, h4, h5⟩, hlt, ⟨hgr.os, hgr.tape, hgr.output, hgr.size, fun k hk hn => hgr.block k hk fun e => hn (by cases e; rfl)⟩, hsz, hen⟩
      rw [(h2 v hv).2.2]
      by_cases e : v = b.1
      · subst e
        rw [WideAt.sameKey_self (alaw.key (akey hv))]
        simp
      · have hne : (Lit.int .u64 v) ≠ (Lit.int .u64 b.1) := fun e2 => e (by cases e2; rfl)
        have : (Lit.int .u64 v).sameKey (Lit.int .u64 b.1) = false := sameKey_ne hne
        rw [this]
        simp [e]
/-- The entry that has come is struck. -/
theorem RqAt.drop {W : World} {M r n : Nat} {L : List (Int × Nat)} {lf : Int → Bool} {cnt : Nat} (h : RqAt W M r n L lf cnt) {x : Int} (hx : isU x) (hl : lf x = false) (ty : TypeId) :
    ∃ W' cnt', (Builtin.delete_ #[59, 25] ty #[.map (some M), .int .u64 x]).run Try.prog W = .ok (.tuple #[]) W' ∧ RqAt W' M r n (butQ L x) lf cnt' ∧ cnt' ≤ cnt ∧ Fb (at1 M) W W' := by
  obtain ⟨D, left, h1, h2, h3, h4, h5⟩ := h
  obtain ⟨W', cnt', hr, hrg, hle, hg⟩ := h1.drop alaw Try.underlying59 (akey hx) ty
  have hs := size_del (k := Lit.int .u64 x) (h1.owns.tidy alaw)
  rw [(h2 x hx).2.1, h3] at hs
  have hs2 : Maps.size (D.del (.int .u64 x)) = (butQ L x).length := by
    rw [but_lenQ h4]
    omega
  refine ⟨W', cnt', hr, ⟨_, _, hrg, fun y hy => ?_, hs2, h4.filter _, fun b hb => h5 b (List.mem_filter.1 hb).1⟩, hle, fb_map hg⟩
  rw [lkQ_but h4, (h2 y hy).2.2]
  by_cases e : y = x
  · subst e
    rw [atKey_del_same, has_del_same, if_pos rfl, hl]
    exact ⟨rfl, rfl, rfl⟩
  · have hne : Lit.int .u64 y ≠ Lit.int .u64 x := fun e2 => e (by cases e2; rfl)
    have hsk : (Lit.int .u64 y).sameKey (Lit.int .u64 x) = false := sameKey_ne hne
    rw [atKey_del_other hne, has_del_other hne, if_neg e, hsk]
    exact ⟨(h2 y hy).1, (h2 y hy).2.1, by simp⟩
theorem MqAt.perm {W : World} {M : Nat} {L L' : List (Int × Nat)} (h : MqAt W M L) (hp : L'.Perm L) : MqAt W M L' := by
  obtain ⟨D, h1, h2, h3, h4, h5⟩ := h
  exact ⟨D, by rw [hp.length_eq]; exact h1, fun x hx => by rw [lkQ_perm h4 hp]; exact h2 x hx, by rw [hp.length_eq]; exact h3, h4.perm hp, fun b hb => h5 b (hp.mem_iff.1 hb)⟩
theorem RqAt.perm {W : World} {M r n : Nat} {L L' : List (Int × Nat)} {lf : Int → Bool} {cnt : Nat} (h : RqAt W M r n L lf cnt) (hp : L'.Perm L) : RqAt W M r n L' lf cnt := by
  obtain ⟨D, left, h1, h2, h3, h4, h5⟩ := h
  exact ⟨D, left, h1, fun x hx => ⟨by rw [lkQ_perm h4 hp]; exact (h2 x hx).1, by rw [lkQ_perm h4 hp]; exact (h2 x hx).2.1, (h2 x hx).2.2⟩, by rw [hp.length_eq]; exact h3, h4.perm hp, fun b hb => h5 b (hp.mem_iff.1 hb)⟩
end Go.Proofs.Ytlhhkgjolilpiaa
