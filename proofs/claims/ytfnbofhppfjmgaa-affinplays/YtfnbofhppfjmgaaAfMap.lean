/-
  The map of bindings by their sessions, as a list of bindings (BmAt): looked up, stored into, struck, counted; a range over it (RbAt).
-/
import Derived.Test.YtfnbofhppfjmgaaFrames
import Derived.Maps.Own
import Derived.Maps.OwnOps
import Derived.Maps.Views
import Derived.Maps.OwnSet
import Derived.Maps.RangeWalk
import Derived.DeepKeys4
import Derived.MapViews
namespace Go.Proofs.Ytfnbofhppfjmgaa
open Go.RowKit Go.Maps
set_option linter.unusedVariables false
set_option maxRecDepth 1000000

/-- A number of 64 bits. -/
def isU (x : Int) : Prop := 0 ≤ x ∧ x ≤ 18446744073709551615
/-- A number of 64 bits with a sign. -/
def isI (x : Int) : Prop := -9223372036854775808 ≤ x ∧ x ≤ 9223372036854775807
theorem isU.wf {x : Int} (h : isU x) : (Lit.int .u64 x).wf = true := WalkArith.wf_u64 h
theorem alaw : Keyed Try.prog 34 := int_keyed Try.underlying34
theorem akey {x : Int} (h : isU x) : keyOf Try.prog 34 (.int .u64 x) = some (.int .u64 x) := keyOf_int_mk Try.underlying34 h.wf
theorem akey_inv {key : Value} {kl : Lit} (h : keyOf Try.prog 34 key = some kl) : ∃ x : Int, key = .int .u64 x ∧ kl = .int .u64 x ∧ isU x := by
  cases key <;> simp [keyOf, Try.underlying34, mapKey] at h
  rename_i q a
  obtain ⟨⟨rfl, hw⟩, rfl⟩ := h
  refine ⟨a, rfl, rfl, ?_⟩
  have h1 : IntKind.u64.min = 0 := by decide
  have h2 : IntKind.u64.max = 18446744073709551615 := by decide
  simp [Lit.wf] at hw
  rw [h1, h2] at hw
  exact hw
theorem fb_map {W W' : World} {B : Nat} (h : W.mapTurned W' B) : Fb (at1 B) W W' := by
  have := h.grown
  exact ⟨this.os, this.tape, this.output, this.size, fun k hk hn => this.block k hk fun e => hn (by cases e; rfl)⟩
/-- A binding: its session, its replica, its end. -/
structure Bd where
  ses : Int
  rep : Int
  fin : Int
/-- How a binding reads. -/
def bdC (p : Int × Int) : DataW Unit := .agg [.lit (.int .u64 p.1), .lit (.int .i64 p.2)]
def bdV (p : Int × Int) : Value := .agg #[.int .u64 p.1, .int .i64 p.2]
def Rb : Value → Option (DataW Unit × List MemPlace)
  | .agg xs => match xs.toList with
    | [.int k a, .int q c] => if k = .u64 ∧ q = .i64 then some (bdC (a, c), []) else none
    | _ => none
  | _ => none
theorem bdC_inj {p q : Int × Int} (h : bdC p = bdC q) : p = q := by
  simp [bdC] at h
  exact Prod.ext h.1 h.2
theorem Rb_mk (p : Int × Int) : Rb (bdV p) = some (bdC p, []) := by simp [Rb, bdV]
theorem Rb_some {v : Value} {y : DataW Unit × List MemPlace} (h : Rb v = some y) : ∃ p, v = bdV p ∧ y.1 = bdC p := by
  cases v <;> simp only [Rb] at h
  case agg xs =>
    obtain ⟨l⟩ := xs
    match l, h with
    | [.int k a, .int q c], h =>
      simp only at h
      split at h
      · rename_i hc
        obtain ⟨rfl, rfl⟩ := hc
        cases h
        exact ⟨(a, c), rfl, rfl⟩
      · cases h
  all_goals cases h
theorem Rb_inv {v : Value} {p : Int × Int} {ps : List MemPlace} (h : Rb v = some (bdC p, ps)) : v = bdV p := by
  obtain ⟨q, rfl, h2⟩ := Rb_some h
  rw [bdC_inj h2]
theorem bzero (w : World) : (zeroValue 56).run Try.prog w = .ok (bdV (0, 0)) w := by kernel_rfl
/-- Where a session is bound, and until when. -/
def lk : List Bd → Int → Option (Int × Int)
  | [], _ => none
  | b :: L, x => if b.ses = x then some (b.rep, b.fin) else lk L x
theorem lk_none {L : List Bd} {x : Int} : lk L x = none ↔ ∀ b ∈ L, b.ses ≠ x := by
  induction L with
  | nil => simp [lk]
  | cons m L ih => by_cases e : m.ses = x <;> simp [lk, e, ih]
theorem lk_some {L : List Bd} {x : Int} {p : Int × Int} (h : lk L x = some p) : ∃ b ∈ L, b.ses = x ∧ (b.rep, b.fin) = p := by
  induction L with
  | nil => simp [lk] at h
  | cons m L ih =>
    by_cases e : m.ses = x
    · simp [lk, e] at h
      exact ⟨m, by simp, e, h⟩
    · simp [lk, e] at h
      obtain ⟨m', h1, h2⟩ := ih h
      exact ⟨m', by simp [h1], h2⟩
/-- No session twice. -/
def NdB (L : List Bd) : Prop := (L.map Bd.ses).Nodup
theorem ses_one {L : List Bd} (h : NdB L) {a b : Bd} (ha : a ∈ L) (hb : b ∈ L) (e : a.ses = b.ses) : a = b := by
  unfold NdB at h
  induction L with
  | nil => simp at ha
  | cons x L ih =>
    rw [List.map_cons, List.nodup_cons] at h
    rcases List.mem_cons.1 ha with rfl | ha' <;> rcases List.mem_cons.1 hb with rfl | hb'
    · rfl
    · exact absurd (List.mem_map.2 ⟨b, hb', e.symm⟩) h.1
    · exact absurd (List.mem_map.2 ⟨a, ha', e⟩) h.1
    · exact ih h.2 ha' hb'
theorem lk_mem {L : List Bd} (h : NdB L) {b : Bd} (hb : b ∈ L) : lk L b.ses = some (b.rep, b.fin) := by
  cases hl : lk L b.ses with
  | none => exact absurd rfl (lk_none.1 hl b hb)
  | some p =>
    obtain ⟨m', h1, h2, h3⟩ := lk_some hl
    rw [← h3, ses_one h h1 hb h2]
theorem NdB.filter {L : List Bd} (h : NdB L) (p : Bd → Bool) : NdB (L.filter p) := (List.filter_sublist.map _).nodup h
theorem lk_filter {L : List Bd} (h : NdB L) (p : Bd → Bool) (x : Int) : lk (L.filter p) x = match lk L x with | none => none | some q => if p ⟨x, q.1, q.2⟩ then some q else none := by
  cases hl : lk L x with
  | none => exact lk_none.2 fun b hb => lk_none.1 hl b (List.mem_filter.1 hb).1
  | some q =>
    obtain ⟨b, h1, rfl, rfl⟩ := lk_some hl
    by_cases hp : p b = true
    · have : b ∈ L.filter p := List.mem_filter.2 ⟨h1, hp⟩
      rw [lk_mem (h.filter p) this]
      simp [hp]
    · show lk (L.filter p) b.ses = if p b = true then some (b.rep, b.fin) else none
      rw [if_neg hp]
      exact lk_none.2 fun c hc e => by
        obtain ⟨c1, c2⟩ := List.mem_filter.1 hc
        rw [ses_one h c1 h1 e] at c2
        exact hp c2
/-- The bindings but one. -/
def butB (L : List Bd) (x : Int) : List Bd := L.filter fun b => decide (b.ses ≠ x)
theorem but_lenB {L : List Bd} {x : Int} (h : NdB L) : (butB L x).length = L.length - (if (lk L x).isSome then 1 else 0) := by
  unfold NdB at h
  induction L with
  | nil => simp [butB]
  | cons m L ih =>
    rw [List.map_cons, List.nodup_cons] at h
    have ih := ih h.2
    unfold butB at ih ⊢
    by_cases e : m.ses = x
    · rw [List.filter_cons_of_neg (by simp [e]), ih]
      have : lk L x = none := lk_none.2 fun b hb hb2 => h.1 (List.mem_map.2 ⟨b, hb, hb2.trans e.symm⟩)
      simp [lk, e, this]
    · rw [List.filter_cons_of_pos (by simp [e]), List.length_cons, ih]
      simp only [lk, if_neg e, List.length_cons]
      cases hl : lk L x with
      | none => simp
      | some b =>
        obtain ⟨y, hy, _⟩ := lk_some hl
        have := List.length_pos_of_mem hy
        simp
        omega
theorem lk_but {L : List Bd} (h : NdB L) (x y : Int) : lk (butB L x) y = if y = x then none else lk L y := by
  unfold butB
  rw [lk_filter h]
  by_cases e : y = x
  · cases lk L y <;> simp [e]
  · cases lk L y <;> simp [e]
/-- The map in block M has just the bindings of L. -/
def BmAt (W : World) (M : Nat) (L : List Bd) : Prop :=
  ∃ D : DataW Unit, W.ownsMap Try.prog 34 Rb M L.length D ∧ (∀ x, isU x → D.atKey (.int .u64 x) (bdC (0, 0)) = bdC ((lk L x).getD (0, 0)) ∧ Maps.has D (.int .u64 x) = (lk L x).isSome) ∧ Maps.size D = L.length ∧ NdB L ∧ ∀ b ∈ L, isU b.ses
theorem BmAt.new (w : World) : BmAt (w.alloc (.map #[] 0)) w.heap.size [] := ⟨.map [], World.ownsMap_made _ _ _ _, fun v _ => ⟨rfl, rfl⟩, rfl, List.nodup_nil, by simp⟩
theorem BmAt.lt {W : World} {M : Nat} {L : List Bd} (h : BmAt W M L) : M < W.heap.size := by obtain ⟨D, h1, _⟩ := h; exact h1.lt
theorem BmAt.blk {W : World} {M : Nat} {L : List Bd} (h : BmAt W M L) : ∃ es clock, W.heap[M]? = some (.map es clock) := by
  obtain ⟨D, ⟨es, clock, h1, h2⟩, h3⟩ := h
  exact ⟨es, clock, h1⟩
theorem BmAt.nodup {W : World} {M : Nat} {L : List Bd} (h : BmAt W M L) : NdB L := by obtain ⟨D, _, _, _, h4, _⟩ := h; exact h4
theorem BmAt.oks {W : World} {M : Nat} {L : List Bd} (h : BmAt W M L) : ∀ b ∈ L, isU b.ses := by obtain ⟨D, _, _, _, _, h5⟩ := h; exact h5
theorem BmAt.same {W W' : World} {M : Nat} {L : List Bd} (h : BmAt W M L) (hb : W'.heap[M]? = W.heap[M]?) : BmAt W' M L := by
  obtain ⟨D, ⟨es, clock, h1, h2⟩, h3⟩ := h
  exact ⟨D, ⟨es, clock, hb.trans h1, h2⟩, h3⟩
theorem BmAt.fb {F : Nat → Prop} {W W' : World} {M : Nat} {L : List Bd} (h : BmAt W M L) (hb : Fb F W W') (hF : ¬ F M) : BmAt W' M L := h.same (hb.block _ h.lt hF)
theorem BmAt.below {W W' : World} {M : Nat} {L : List Bd} (h : BmAt W M L) (hb : Below W.heap.size W W') : BmAt W' M L := h.same (hb.block _ h.lt)
theorem BmAt.look {W : World} {M : Nat} {L : List Bd} (h : BmAt W M L) {x : Int} (hx : isU x) : (Instr.lookup 49 (.map (some M)) (.int .u64 x) true).run Try.prog W = .ok (.tuple #[bdV ((lk L x).getD (0, 0)), .bool (lk L x).isSome]) W := by
  obtain ⟨D, h1, h2, _⟩ := h
  obtain ⟨u, ps, hr, hu⟩ := h1.look_ok alaw Try.underlying49 (bzero W) (zd := bdC (0, 0)) (zp := []) (Rb_mk (0, 0)) (akey hx)
  rw [(h2 x hx).2] at hr
  rw [(h2 x hx).1] at hu
  rw [hr, Rb_inv hu]
theorem owns_tightB {W : World} {B n : Nat} {D : DataW Unit} (h : W.ownsMap Try.prog 34 Rb B n D) : W.ownsMap Try.prog 34 Rb B (Maps.size D) D := by
  obtain ⟨es, clock, h1, h2, h3, rfl⟩ := h
  refine ⟨es, clock, h1, h2, ?_, rfl⟩
  rw [size_eq, length_read]
  exact Nat.le_refl _
theorem BmAt.store {W : World} {M : Nat} {L : List Bd} (h : BmAt W M L) (hn : L.length ≤ 100000) {x : Int} (hx : isU x) (p : Int × Int) :
    ∃ W', (Instr.mapUpdate 49 (.map (some M)) (.int .u64 x) (bdV p)).run Try.prog W = .ok () W' ∧ (∀ L', NdB L' → (∀ b ∈ L', isU b.ses) → (∀ y, isU y → lk L' y = if y = x then some p else lk L y) → L'.length = L.length + (if (lk L x).isSome then 0 else 1) → BmAt W' M L') ∧ Fb (at1 M) W W' := by
  obtain ⟨D, h1, h2, h3, h4, h5⟩ := h
  obtain ⟨W', hr, ho, hg⟩ := h1.store alaw Try.underlying49 (by unfold maxLen; omega) (akey hx) (Rb_mk p)
  refine ⟨W', hr, fun L' a1 a2 a3 a4 => ?_, fb_map hg⟩
  have hs := size_put (k := Lit.int .u64 x) (d := bdC p) (h1.tidy alaw)
  rw [(h2 x hx).2, h3] at hs
  have hs2 : Maps.size (D.put (.int .u64 x) (bdC p)) = L'.length := by rw [a4, hs]; cases (lk L x).isSome <;> simp
  refine ⟨_, hs2 ▸ owns_tightB ho, fun y hy => ?_, hs2, a1, a2⟩
  rw [a3 y hy]
  by_cases e : y = x
  · subst e
    rw [atKey_put_same h1.isMap (alaw.key (akey hx)), has_put_same h1.isMap (alaw.key (akey hx))]
    simp
  · have hne : Lit.int .u64 y ≠ Lit.int .u64 x := fun e2 => e (by cases e2; rfl)
    rw [atKey_put_other hne, has_put_other hne, if_neg e]
    exact h2 y hy
theorem BmAt.drop {W : World} {M : Nat} {L : List Bd} (h : BmAt W M L) {x : Int} (hx : isU x) (ty : TypeId) :
    ∃ W', (Builtin.delete_ #[49, 34] ty #[.map (some M), .int .u64 x]).run Try.prog W = .ok (.tuple #[]) W' ∧ BmAt W' M (butB L x) ∧ Fb (at1 M) W W' := by
  obtain ⟨D, h1, h2, h3, h4, h5⟩ := h
  obtain ⟨W', hr, ho, hg⟩ := h1.drop alaw Try.underlying49 (akey hx) ty
  have hs := size_del (k := Lit.int .u64 x) (h1.tidy alaw)
  rw [(h2 x hx).2, h3] at hs
  have hs2 : Maps.size (D.del (.int .u64 x)) = (butB L x).length := by
    rw [but_lenB h4]
    omega
  refine ⟨W', hr, ⟨_, hs2 ▸ owns_tightB ho, fun y hy => ?_, hs2, h4.filter _, fun b hb => h5 b (List.mem_filter.1 hb).1⟩, fb_map hg⟩
  rw [lk_but h4]
  by_cases e : y = x
  · subst e
    rw [atKey_del_same, has_del_same, if_pos rfl]
    exact ⟨rfl, rfl⟩
  · have hne : Lit.int .u64 y ≠ Lit.int .u64 x := fun e2 => e (by cases e2; rfl)
    rw [atKey_del_other hne, has_del_other hne, if_neg e]
    exact h2 y hy
theorem BmAt.len {W : World} {M : Nat} {L : List Bd} (h : BmAt W M L) (ty : TypeId) : (Builtin.len_ #[49] ty #[.map (some M)]).run Try.prog W = .ok (.int .i64 L.length) W := by
  obtain ⟨D, h1, h2, h3, _⟩ := h
  have := h1.len Try.underlying49 ty
  rw [h3] at this
  exact this
/-- A range over the map in block M, its iterator in block r: it has just the bindings of L now, those of which lf holds are still to come. -/
def RbAt (W : World) (M r n : Nat) (L : List Bd) (lf : Int → Bool) (cnt : Nat) : Prop :=
  ∃ (D : DataW Unit) (left : Lit → Bool), W.ranges Try.prog 34 Rb M r n D left cnt ∧ (∀ x, isU x → D.atKey (.int .u64 x) (bdC (0, 0)) = bdC ((lk L x).getD (0, 0)) ∧ Maps.has D (.int .u64 x) = (lk L x).isSome ∧ left (.int .u64 x) = lf x) ∧ Maps.size D = L.length ∧ NdB L ∧ ∀ b ∈ L, isU b.ses
theorem RbAt.map {W : World} {M r n : Nat} {L : List Bd} {lf : Int → Bool} {cnt : Nat} (h : RbAt W M r n L lf cnt) : BmAt W M L := by
  obtain ⟨D, left, h1, h2, h3, h4, h5⟩ := h
  exact ⟨D, h3 ▸ owns_tightB h1.owns, fun x hx => ⟨(h2 x hx).1, (h2 x hx).2.1⟩, h3, h4, h5⟩
theorem RbAt.left {W : World} {M r n : Nat} {L : List Bd} {lf : Int → Bool} {cnt : Nat} (h : RbAt W M r n L lf cnt) : W.rangeLeft M r = cnt := by
  obtain ⟨D, left, h1, h2⟩ := h
  exact h1.left_eq
theorem RbAt.ne {W : World} {M r n : Nat} {L : List Bd} {lf : Int → Bool} {cnt : Nat} (h : RbAt W M r n L lf cnt) : r ≠ M := by
  obtain ⟨D, left, h1, h2⟩ := h
  exact h1.ne
theorem RbAt.lt {W : World} {M r n : Nat} {L : List Bd} {lf : Int → Bool} {cnt : Nat} (h : RbAt W M r n L lf cnt) : r < W.heap.size := by
  obtain ⟨D, left, h1, h2⟩ := h
  exact h1.lt
theorem RbAt.same {W W' : World} {M r n : Nat} {L : List Bd} {lf : Int → Bool} {cnt : Nat} (h : RbAt W M r n L lf cnt) (h1 : W'.heap[M]? = W.heap[M]?) (h2 : W'.heap[r]? = W.heap[r]?) : RbAt W' M r n L lf cnt := by
  obtain ⟨D, left, ⟨es, clock, since, seen, c0, hb, F, hs, hD, hr, rest⟩, h4⟩ := h
  exact ⟨D, left, ⟨es, clock, since, seen, c0, h1.trans hb, F, hs, hD, h2.trans hr, rest⟩, h4⟩
theorem RbAt.below {W W' : World} {M r n : Nat} {L : List Bd} {lf : Int → Bool} {cnt : Nat} (h : RbAt W M r n L lf cnt) (hb : Below W.heap.size W W') : RbAt W' M r n L lf cnt := h.same (hb.block _ h.map.lt) (hb.block _ h.lt)
/-- Just those that hold of these sessions are meant. -/
theorem RbAt.to {W : World} {M r n : Nat} {L L' : List Bd} {lf lg : Int → Bool} {cnt : Nat} (h : RbAt W M r n L lf cnt) (hL : L' = L) (hl : ∀ x, isU x → lg x = lf x) : RbAt W M r n L' lg cnt := by
  obtain ⟨D, left, h1, h2, h3⟩ := h
  subst hL
  exact ⟨D, left, h1, fun x hx => ⟨(h2 x hx).1, (h2 x hx).2.1, by rw [hl x hx]; exact (h2 x hx).2.2⟩, h3⟩
theorem BmAt.range {W : World} {M : Nat} {L : List Bd} (h : BmAt W M L) :
    ∃ W' cnt, (Instr.range 49 (.map (some M))).run Try.prog W = .ok (.pointer (some ⟨W.heap.size, 0, none⟩)) W' ∧ RbAt W' M W.heap.size L.length L (fun x => (lk L x).isSome) cnt ∧ Below W.heap.size W W' ∧ W'.heap.size = W.heap.size + 1 := by
  obtain ⟨D, h1, h2, h3, h4, h5⟩ := h
  obtain ⟨W', hr, hg, hgr, hs⟩ := h1.range alaw Try.underlying49
  exact ⟨W', _, hr, ⟨D, _, hg, fun x hx => ⟨(h2 x hx).1, (h2 x hx).2, (h2 x hx).2⟩, h3, h4, h5⟩, ⟨hgr.os, hgr.tape, hgr.output, hgr.size, fun k hk => hgr.block k hk (by simp)⟩, hs⟩
/-- A step of it. -/
theorem RbAt.next {W : World} {M r n : Nat} {L : List Bd} {lf : Int → Bool} {cnt : Nat} (h : RbAt W M r n L lf cnt) (ty : TypeId) :
    ((∀ x, isU x → lf x = false) ∧ (Instr.next (.pointer (some ⟨r, 0, none⟩)) false ty).run Try.prog W = .ok (.tuple #[.bool false]) W) ∨
    ∃ b W' cnt', b ∈ L ∧ isU b.ses ∧ lf b.ses = true ∧ (Instr.next (.pointer (some ⟨r, 0, none⟩)) false ty).run Try.prog W = .ok (.tuple #[.bool true, .int .u64 b.ses, .agg #[.int .u64 b.rep, .int .i64 b.fin]]) W' ∧
      RbAt W' M r n L (fun x => lf x && decide (x ≠ b.ses)) cnt' ∧ cnt' < cnt ∧ Fb (at1 r) W W' ∧ W'.heap.size = W.heap.size ∧ (Instr.entry (.pointer (some ⟨r, 0, none⟩))).run Try.prog W' = .ok (.tuple #[.int .u64 b.ses, .agg #[.int .u64 b.rep, .int .i64 b.fin]]) W' := by
  obtain ⟨D, left, h1, h2, h3, h4, h5⟩ := h
  rcases h1.next alaw ty with ⟨h0, hl, hrun⟩ | ⟨key, u, kl, y, W', cnt', hkey, hlk, hu, hat, hrun, hrg, hlt, hgr, hsz, hen⟩
  · exact .inl ⟨fun x hx => by rw [← (h2 x hx).2.2]; exact hl _, hrun⟩
  · right
    obtain ⟨x, rfl, rfl, hx⟩ := akey_inv hkey
    obtain ⟨k1, k2, k3⟩ := h2 x hx
    rw [hat] at k1
    obtain ⟨p, rfl, hp⟩ := Rb_some hu
    rw [hp] at k1
    have hhas : Maps.has D (.int .u64 x) = true := by
      cases hh : Maps.has D (.int .u64 x) with
      | true => rfl
      | false =>
        exfalso
        have a1 := atKey_of_not_has hh (.lit (.int .i64 7))
        have a2 := atKey_of_not_has hh (.lit (.int .i64 8))
        rw [hat] at a1 a2
        rw [a1] at a2
        simp at a2
    rw [hhas] at k2
    cases hf : lk L x with
    | none => rw [hf] at k2; simp at k2
    | some q =>
      rw [hf] at k1
      have k1 := bdC_inj k1
      simp at k1
      subst k1
      obtain ⟨b, hb, rfl, hq⟩ := lk_some hf
      obtain ⟨q1, q2⟩ := p
      cases hq
      refine ⟨b, W', cnt', hb, hx, by rw [← k3]; exact hlk, hrun, ⟨D, _, hrg, fun v hv => ⟨(h2 v hv).1, (h2 v hv).2.1, ?_⟩, h3, h4, h5⟩, hlt, ⟨hgr.os, hgr.tape, hgr.output, hgr.size, fun k hk hn => hgr.block k hk fun e => hn (by cases e; rfl)⟩, hsz, hen⟩
      rw [(h2 v hv).2.2]
      by_cases e : v = b.ses
      · subst e
        rw [WideAt.sameKey_self (alaw.key (akey hv))]
        simp
      · have hne : (Lit.int .u64 v) ≠ (Lit.int .u64 b.ses) := fun e2 => e (by cases e2; rfl)
        have : (Lit.int .u64 v).sameKey (Lit.int .u64 b.ses) = false := sameKey_ne hne
        rw [this]
        simp [e]
/-- The entry that has come is struck. -/
theorem RbAt.drop {W : World} {M r n : Nat} {L : List Bd} {lf : Int → Bool} {cnt : Nat} (h : RbAt W M r n L lf cnt) {x : Int} (hx : isU x) (hl : lf x = false) (ty : TypeId) :
    ∃ W' cnt', (Builtin.delete_ #[49, 34] ty #[.map (some M), .int .u64 x]).run Try.prog W = .ok (.tuple #[]) W' ∧ RbAt W' M r n (butB L x) lf cnt' ∧ cnt' ≤ cnt ∧ Fb (at1 M) W W' := by
  obtain ⟨D, left, h1, h2, h3, h4, h5⟩ := h
  obtain ⟨W', cnt', hr, hrg, hle, hg⟩ := h1.drop alaw Try.underlying49 (akey hx) ty
  have hs := size_del (k := Lit.int .u64 x) (h1.owns.tidy alaw)
  rw [(h2 x hx).2.1, h3] at hs
  have hs2 : Maps.size (D.del (.int .u64 x)) = (butB L x).length := by
    rw [but_lenB h4]
    omega
  refine ⟨W', cnt', hr, ⟨_, _, hrg, fun y hy => ?_, hs2, h4.filter _, fun b hb => h5 b (List.mem_filter.1 hb).1⟩, hle, fb_map hg⟩
  rw [lk_but h4, (h2 y hy).2.2]
  by_cases e : y = x
  · subst e
    rw [atKey_del_same, has_del_same, if_pos rfl, hl]
    exact ⟨rfl, rfl, rfl⟩
  · have hne : Lit.int .u64 y ≠ Lit.int .u64 x := fun e2 => e (by cases e2; rfl)
    have hsk : (Lit.int .u64 y).sameKey (Lit.int .u64 x) = false := sameKey_ne hne
    rw [atKey_del_other hne, has_del_other hne, if_neg e, hsk]
    exact ⟨(h2 y hy).1, (h2 y hy).2.1, by simp⟩
end Go.Proofs.Ytfnbofhppfjmgaa
