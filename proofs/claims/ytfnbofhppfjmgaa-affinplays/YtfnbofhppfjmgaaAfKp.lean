/-
  What AffinKeeps keeps beside the table: the maps of replicas and of times (BoAt, UsAt), and what is true of them (KpS).
-/
import Derived.Test.YtfnbofhppfjmgaaAfArgs
namespace Go.Proofs.Ytfnbofhppfjmgaa
open Go.RowKit Go.Maps
set_option linter.unusedVariables false
set_option maxRecDepth 1000000

/-- How a number of the kind q reads. -/
def Rq (q : IntKind) : Value → Option (DataW Unit × List MemPlace)
  | .int k c => if k = q then some (.lit (.int q c), []) else none
  | _ => none
theorem Rq_mk (q : IntKind) (c : Int) : Rq q (.int q c) = some (.lit (.int q c), []) := by simp [Rq]
theorem Rq_inv {q : IntKind} {v : Value} {c : Int} {ps : List MemPlace} (h : Rq q v = some (.lit (.int q c), ps)) : v = .int q c := by
  cases v <;> simp [Rq] at h
  rename_i k a
  obtain ⟨rfl, rfl, _⟩ := h
  rfl
theorem uzero (w : World) : (zeroValue 34).run Try.prog w = .ok (.int .u64 0) w := by kernel_rfl
theorem jzero (w : World) : (zeroValue 2).run Try.prog w = .ok (.int .i64 0) w := by kernel_rfl
theorem owns_tightQ {q : IntKind} {W : World} {B n : Nat} {D : DataW Unit} (h : W.ownsMap Try.prog 34 (Rq q) B n D) : W.ownsMap Try.prog 34 (Rq q) B (Maps.size D) D := by
  obtain ⟨es, clock, h1, h2, h3, rfl⟩ := h
  refine ⟨es, clock, h1, h2, ?_, rfl⟩
  rw [size_eq, length_read]
  exact Nat.le_refl _
/-- A key's value, others as they were. -/
def upd (f : Int → Int) (x c : Int) (y : Int) : Int := if y = x then c else f y
/-- A key beside others. -/
def addK (K : List Int) (x : Int) : List Int := if x ∈ K then K else x :: K
def subK (K : List Int) (x : Int) : List Int := K.filter fun y => decide (y ≠ x)
theorem addK_mem {K : List Int} {x y : Int} : y ∈ addK K x ↔ y = x ∨ y ∈ K := by
  unfold addK
  split
  · constructor
    · exact .inr
    · rintro (rfl | h) <;> assumption
  · simp
theorem subK_mem {K : List Int} {x y : Int} : y ∈ subK K x ↔ y ∈ K ∧ y ≠ x := by unfold subK; simp
theorem addK_nd {K : List Int} (h : K.Nodup) (x : Int) : (addK K x).Nodup := by
  unfold addK
  split
  · exact h
  · exact List.nodup_cons.2 ⟨by assumption, h⟩
theorem addK_len (K : List Int) (x : Int) : (addK K x).length ≤ K.length + 1 := by unfold addK; split <;> simp
theorem subK_len {K : List Int} (h : K.Nodup) (x : Int) : (subK K x).length = K.length - (if x ∈ K then 1 else 0) := by
  unfold subK
  induction K with
  | nil => simp
  | cons y K ih =>
    rw [List.nodup_cons] at h
    have ih := ih h.2
    by_cases e : y = x
    · subst e
      rw [List.filter_cons_of_neg (by simp), ih, if_neg h.1]
      simp
    · rw [List.filter_cons_of_pos (by simp [e]), List.length_cons, ih]
      have e' : ¬ x = y := fun h => e h.symm
      simp only [List.mem_cons, e', false_or, List.length_cons]
      split
      · have := List.length_pos_of_mem (by assumption)
        omega
      · omega
/-- The map of replicas: of at most n entries. -/
def BoAt (W : World) (B n : Nat) (f : Int → Int) : Prop :=
  ∃ D : DataW Unit, W.ownsMap Try.prog 34 (Rq .u64) B n D ∧ ∀ x, isU x → D.atKey (.int .u64 x) (.lit (.int .u64 0)) = .lit (.int .u64 (f x))
theorem BoAt.new (w : World) : BoAt (w.alloc (.map #[] 0)) w.heap.size 0 (fun _ => 0) := ⟨.map [], World.ownsMap_made _ _ _ _, fun v _ => rfl⟩
theorem BoAt.lt {W : World} {B n : Nat} {f : Int → Int} (h : BoAt W B n f) : B < W.heap.size := by obtain ⟨D, h1, _⟩ := h; exact h1.lt
theorem BoAt.blk {W : World} {B n : Nat} {f : Int → Int} (h : BoAt W B n f) : ∃ es clock, W.heap[B]? = some (.map es clock) := by
  obtain ⟨D, ⟨es, clock, h1, h2⟩, h3⟩ := h
  exact ⟨es, clock, h1⟩
theorem BoAt.same {W W' : World} {B n : Nat} {f : Int → Int} (h : BoAt W B n f) (hb : W'.heap[B]? = W.heap[B]?) : BoAt W' B n f := by
  obtain ⟨D, ⟨es, clock, h1, h2⟩, h3⟩ := h
  exact ⟨D, ⟨es, clock, hb.trans h1, h2⟩, h3⟩
theorem BoAt.look {W : World} {B n : Nat} {f : Int → Int} (h : BoAt W B n f) {x : Int} (hx : isU x) : (Instr.lookup 45 (.map (some B)) (.int .u64 x) false).run Try.prog W = .ok (.int .u64 (f x)) W := by
  obtain ⟨D, h1, h2⟩ := h
  obtain ⟨u, ps, hr, hu⟩ := h1.lookup alaw Try.underlying45 (uzero W) (zd := .lit (.int .u64 0)) (zp := []) (Rq_mk .u64 0) (akey hx)
  rw [h2 x hx] at hu
  rw [hr, Rq_inv hu]
theorem BoAt.store {W : World} {B n : Nat} {f : Int → Int} (h : BoAt W B n f) (hn : n ≤ 1000) {x : Int} (hx : isU x) (c : Int) :
    ∃ W', (Instr.mapUpdate 45 (.map (some B)) (.int .u64 x) (.int .u64 c)).run Try.prog W = .ok () W' ∧ BoAt W' B (n + 1) (upd f x c) ∧ Fb (at1 B) W W' := by
  obtain ⟨D, h1, h2⟩ := h
  obtain ⟨W', hr, ho, hg⟩ := h1.store alaw Try.underlying45 (by unfold maxLen; omega) (akey hx) (Rq_mk .u64 c)
  refine ⟨W', hr, ⟨_, ho, fun u hu => ?_⟩, fb_map hg⟩
  unfold upd
  by_cases e : u = x
  · subst e
    rw [atKey_put_same h1.isMap (alaw.key (akey hx))]
    simp
  · have hne : Lit.int .u64 u ≠ Lit.int .u64 x := fun e2 => e (by cases e2; rfl)
    rw [atKey_put_other hne, h2 u hu]
    simp [e]
/-- The map of times: its keys are K. -/
def UsAt (W : World) (B : Nat) (K : List Int) (f : Int → Int) : Prop :=
  ∃ D : DataW Unit, W.ownsMap Try.prog 34 (Rq .i64) B K.length D ∧ (∀ x, isU x → D.atKey (.int .u64 x) (.lit (.int .i64 0)) = .lit (.int .i64 (if x ∈ K then f x else 0)) ∧ Maps.has D (.int .u64 x) = decide (x ∈ K)) ∧ Maps.size D = K.length ∧ K.Nodup
theorem UsAt.new (w : World) : UsAt (w.alloc (.map #[] 0)) w.heap.size [] (fun _ => 0) := ⟨.map [], World.ownsMap_made _ _ _ _, fun v _ => ⟨by simp; rfl, by simp; rfl⟩, rfl, List.nodup_nil⟩
theorem UsAt.lt {W : World} {B : Nat} {K : List Int} {f : Int → Int} (h : UsAt W B K f) : B < W.heap.size := by obtain ⟨D, h1, _⟩ := h; exact h1.lt
theorem UsAt.nodup {W : World} {B : Nat} {K : List Int} {f : Int → Int} (h : UsAt W B K f) : K.Nodup := by obtain ⟨D, _, _, _, h4⟩ := h; exact h4
theorem UsAt.same {W W' : World} {B : Nat} {K : List Int} {f : Int → Int} (h : UsAt W B K f) (hb : W'.heap[B]? = W.heap[B]?) : UsAt W' B K f := by
  obtain ⟨D, ⟨es, clock, h1, h2⟩, h3⟩ := h
  exact ⟨D, ⟨es, clock, hb.trans h1, h2⟩, h3⟩
theorem UsAt.look {W : World} {B : Nat} {K : List Int} {f : Int → Int} (h : UsAt W B K f) {x : Int} (hx : isU x) : (Instr.lookup 46 (.map (some B)) (.int .u64 x) true).run Try.prog W = .ok (.tuple #[.int .i64 (if x ∈ K then f x else 0), .bool (decide (x ∈ K))]) W := by
  obtain ⟨D, h1, h2, _⟩ := h
  obtain ⟨u, ps, hr, hu⟩ := h1.look_ok alaw Try.underlying46 (jzero W) (zd := .lit (.int .i64 0)) (zp := []) (Rq_mk .i64 0) (akey hx)
  rw [(h2 x hx).2] at hr
  rw [(h2 x hx).1] at hu
  rw [hr, Rq_inv hu]
theorem UsAt.store {W : World} {B : Nat} {K : List Int} {f : Int → Int} (h : UsAt W B K f) (hn : K.length ≤ 1000) {x : Int} (hx : isU x) (c : Int) :
    ∃ W', (Instr.mapUpdate 46 (.map (some B)) (.int .u64 x) (.int .i64 c)).run Try.prog W = .ok () W' ∧ UsAt W' B (addK K x) (upd f x c) ∧ Fb (at1 B) W W' := by
  obtain ⟨D, h1, h2, h3, h4⟩ := h
  obtain ⟨W', hr, ho, hg⟩ := h1.store alaw Try.underlying46 (by unfold maxLen; omega) (akey hx) (Rq_mk .i64 c)
  have hs := size_put (k := Lit.int .u64 x) (d := .lit (.int .i64 c)) (h1.tidy alaw)
  rw [(h2 x hx).2, h3] at hs
  have hs2 : Maps.size (D.put (.int .u64 x) (.lit (.int .i64 c))) = (addK K x).length := by
    rw [hs]
    unfold addK
    by_cases e : x ∈ K <;> simp [e]
  refine ⟨W', hr, ⟨_, hs2 ▸ owns_tightQ ho, fun u hu => ?_, hs2, addK_nd h4 x⟩, fb_map hg⟩
  unfold upd
  by_cases e : u = x
  · subst e
    rw [atKey_put_same h1.isMap (alaw.key (akey hx)), has_put_same h1.isMap (alaw.key (akey hx))]
    simp [addK_mem]
  · have hne : Lit.int .u64 u ≠ Lit.int .u64 x := fun e2 => e (by cases e2; rfl)
    rw [atKey_put_other hne, has_put_other hne, (h2 u hu).1, (h2 u hu).2]
    simp [e, addK_mem]
theorem UsAt.drop {W : World} {B : Nat} {K : List Int} {f : Int → Int} (h : UsAt W B K f) {x : Int} (hx : isU x) (ty : TypeId) :
    ∃ W', (Builtin.delete_ #[46, 34] ty #[.map (some B), .int .u64 x]).run Try.prog W = .ok (.tuple #[]) W' ∧ UsAt W' B (subK K x) f ∧ Fb (at1 B) W W' := by
  obtain ⟨D, h1, h2, h3, h4⟩ := h
  obtain ⟨W', hr, ho, hg⟩ := h1.drop alaw Try.underlying46 (akey hx) ty
  have hs := size_del (k := Lit.int .u64 x) (h1.tidy alaw)
  rw [(h2 x hx).2, h3] at hs
  have hs2 : Maps.size (D.del (.int .u64 x)) = (subK K x).length := by
    rw [subK_len h4]
    by_cases e : x ∈ K
    · simp [e] at hs ⊢; omega
    · simp [e] at hs ⊢; omega
  refine ⟨W', hr, ⟨_, hs2 ▸ owns_tightQ ho, fun y hy => ?_, hs2, h4.filter _⟩, fb_map hg⟩
  by_cases e : y = x
  · subst e
    rw [atKey_del_same, has_del_same]
    simp [subK_mem]
  · have hne : Lit.int .u64 y ≠ Lit.int .u64 x := fun e2 => e (by cases e2; rfl)
    rw [atKey_del_other hne, has_del_other hne, (h2 y hy).1, (h2 y hy).2]
    simp [subK_mem, e]
theorem UsAt.len {W : World} {B : Nat} {K : List Int} {f : Int → Int} (h : UsAt W B K f) (ty : TypeId) : (Builtin.len_ #[46] ty #[.map (some B)]).run Try.prog W = .ok (.int .i64 K.length) W := by
  obtain ⟨D, h1, h2, h3, _⟩ := h
  have := h1.len Try.underlying46 ty
  rw [h3] at this
  exact this
/-- What is true of them. -/
structure KpS (now : Int) (L : List Bd) (K : List Int) (u bf : Int → Int) : Prop where
  nd : NdB L
  a : ∀ b ∈ L, b.ses ∈ K ∧ b.fin = u b.ses + 100 ∧ b.rep = bf b.ses
  c : ∀ s ∈ K, now < u s + 100 → ∃ b ∈ L, b.ses = s
  ub : ∀ s ∈ K, 0 ≤ u s ∧ u s ≤ now
theorem KpS.zero : KpS 0 [] [] (fun _ => 0) (fun _ => 0) := ⟨List.nodup_nil, by simp, by simp, by simp⟩
theorem nodup_len : ∀ (l L : List Int), l.Nodup → (∀ x ∈ l, x ∈ L) → l.length ≤ L.length
  | [], L, _, _ => by simp
  | x :: l, L, hnd, hs => by
    rw [List.nodup_cons] at hnd
    have hx : x ∈ L := hs x (by simp)
    have hl := List.length_erase_of_mem hx
    have hpos : 0 < L.length := List.length_pos_of_mem hx
    have := nodup_len l (L.erase x) hnd.2 (fun z hz => (List.mem_erase_of_ne (fun e : z = x => hnd.1 (by rw [← e]; exact hz))).2 (hs z (by simp [hz])))
    simp
    omega
theorem KpS.len {now : Int} {L : List Bd} {K : List Int} {u bf : Int → Int} (h : KpS now L K u bf) : L.length ≤ K.length := by
  have h1 : (L.map Bd.ses).Nodup := h.nd
  have h2 : ∀ x ∈ L.map Bd.ses, x ∈ K := fun x hx => by
    obtain ⟨b, hb, rfl⟩ := List.mem_map.1 hx
    exact (h.a b hb).1
  have := nodup_len _ _ h1 h2
  simpa using this
theorem KpS.later {T now : Int} {L : List Bd} {K : List Int} {u bf : Int → Int} (h : KpS T L K u bf) (ht : T ≤ now) : KpS now (endL now L) K u bf := by
  refine ⟨h.nd.filter _, fun b hb => h.a b (endL_sub b hb), fun s hs hn => ?_, fun s hs => ⟨(h.ub s hs).1, Int.le_trans (h.ub s hs).2 ht⟩⟩
  obtain ⟨b, hb, e⟩ := h.c s hs (by omega)
  exact ⟨b, endL_mem.2 ⟨hb, by rw [(h.a b hb).2.1, e]; exact hn⟩, e⟩
/-- All that is there has not ended. -/
def Liv (now : Int) (L : List Bd) : Prop := ∀ b ∈ L, now < b.fin
theorem endL_liv (now : Int) (L : List Bd) : Liv now (endL now L) := fun b hb => (endL_mem.1 hb).2
theorem KpS.yes {now : Int} {L : List Bd} {K : List Int} {u bf : Int → Int} (h : KpS now L K u bf) {s : Int} (hs : s ∈ K) (hn : now < u s + 100) : lk L s = some (bf s, u s + 100) := by
  obtain ⟨b, hb, rfl⟩ := h.c s hs hn
  rw [lk_mem h.nd hb, (h.a b hb).2.1, (h.a b hb).2.2]
theorem KpS.no {now : Int} {L : List Bd} {K : List Int} {u bf : Int → Int} (h : KpS now L K u bf) (hl : Liv now L) {s : Int} (hs : ¬ (s ∈ K ∧ now < u s + 100)) : lk L s = none := lk_none.2 fun b hb e => by
  obtain ⟨h1, h2, _⟩ := h.a b hb
  have h3 := hl b hb
  rw [e] at h1 h2
  exact hs ⟨h1, by omega⟩
theorem KpS.use {now : Int} {L : List Bd} {K : List Int} {u bf : Int → Int} (h : KpS now L K u bf) (h0 : 0 ≤ now) {s : Int} (hs : s ∈ K) (hn0 : now < u s + 100) : KpS now (useB L s (now + 100)) (addK K s) (upd u s now) bf := by
  refine ⟨useB_nd h.nd _ _, fun b hb => ?_, fun x hx hn => ?_, fun x hx => ?_⟩
  · obtain ⟨c, hc, rfl⟩ := List.mem_map.1 hb
    obtain ⟨a1, a2, a3⟩ := h.a c hc
    unfold upd
    by_cases e : c.ses = s
    · simp [e, addK_mem]
      rw [a3, e]
    · simp [e, addK_mem, a1, a2, a3]
  · have hx' : x ∈ K := by rcases addK_mem.1 hx with rfl | hx; exact hs; exact hx
    have hmem : ∀ b ∈ L, b.ses = x → ∃ c ∈ useB L s (now + 100), c.ses = x := fun b hb e => ⟨_, List.mem_map.2 ⟨b, hb, rfl⟩, by split <;> exact e⟩
    unfold upd at hn
    by_cases e : x = s
    · obtain ⟨b, hb, e2⟩ := h.c x hx' (by rw [e]; exact hn0)
      exact hmem b hb e2
    · rw [if_neg e] at hn
      obtain ⟨b, hb, e2⟩ := h.c x hx' hn
      exact hmem b hb e2
  · have hx' : x ∈ K := by rcases addK_mem.1 hx with rfl | hx; exact hs; exact hx
    unfold upd
    split
    · omega
    · exact h.ub x hx'
theorem KpS.del {now : Int} {L : List Bd} {K : List Int} {u bf : Int → Int} (h : KpS now L K u bf) {s : Int} (hl : lk L s = none) : KpS now L (subK K s) u bf :=
  ⟨h.nd, fun b hb => ⟨subK_mem.2 ⟨(h.a b hb).1, lk_none.1 hl b hb⟩, (h.a b hb).2⟩, fun x hx hn => h.c x (subK_mem.1 hx).1 hn, fun x hx => h.ub x (subK_mem.1 hx).1⟩
theorem KpS.bind {now : Int} {L : List Bd} {K : List Int} {u bf : Int → Int} (h : KpS now L K u bf) (h0 : 0 ≤ now) {s r : Int} {L' : List Bd} (hp : BindP 1024 L ⟨s, r, now + 100⟩ L') (hlen : L.length < 1024) (hL : Liv now L) : KpS now L' (addK K s) (upd u s now) (upd bf s r) ∧ Liv now L' := by
  have old : ∀ b ∈ L, b.ses ≠ s → b.ses ∈ addK K s ∧ b.fin = upd u s now b.ses + 100 ∧ b.rep = upd bf s r b.ses := fun b hb e => by
    obtain ⟨a1, a2, a3⟩ := h.a b hb
    exact ⟨addK_mem.2 (.inr a1), by unfold upd; rw [if_neg e]; exact a2, by unfold upd; rw [if_neg e]; exact a3⟩
  have new : (⟨s, r, now + 100⟩ : Bd).ses ∈ addK K s ∧ (⟨s, r, now + 100⟩ : Bd).fin = upd u s now s + 100 ∧ (⟨s, r, now + 100⟩ : Bd).rep = upd bf s r s := ⟨addK_mem.2 (.inl rfl), by simp [upd], by simp [upd]⟩
  have ub : ∀ x ∈ addK K s, 0 ≤ upd u s now x ∧ upd u s now x ≤ now := fun x hx => by
    unfold upd
    split
    · omega
    · rcases addK_mem.1 hx with e | hx
      · contradiction
      · exact h.ub x hx
  rcases hp with ⟨h1, rfl⟩ | ⟨h1, _, rfl⟩ | ⟨h1, h2, _⟩
  · refine ⟨⟨repB_nd h.nd _, fun b hb => ?_, fun x hx hn => ?_, ub⟩, fun b hb => ?_⟩
    · obtain ⟨c, hc, rfl⟩ := List.mem_map.1 hb
      by_cases e : c.ses = s
      · rw [if_pos e]; exact new
      · rw [if_neg e]; exact old c hc e
    · have hmem : ∀ b ∈ L, b.ses = x → ∃ c ∈ repB L ⟨s, r, now + 100⟩, c.ses = x := fun b hb e => ⟨_, List.mem_map.2 ⟨b, hb, rfl⟩, by
        by_cases e3 : b.ses = (⟨s, r, now + 100⟩ : Bd).ses
        · rw [if_pos e3]; exact e3.symm.trans e
        · rw [if_neg e3]; exact e⟩
      by_cases e : x = s
      · subst e
        cases hl : lk L x with
        | none => exact absurd hl h1
        | some q =>
          obtain ⟨b, hb, e2, _⟩ := lk_some hl
          exact hmem b hb e2
      · unfold upd at hn
        rw [if_neg e] at hn
        rcases addK_mem.1 hx with e2 | hx
        · exact absurd e2 e
        · obtain ⟨b, hb, e2⟩ := h.c x hx hn
          exact hmem b hb e2
    · obtain ⟨c, hc, rfl⟩ := List.mem_map.1 hb
      split
      · show now < now + 100; omega
      · exact hL c hc
  · refine ⟨⟨app_nd h.nd h1, fun b hb => ?_, fun x hx hn => ?_, ub⟩, fun b hb => ?_⟩
    · rcases List.mem_append.1 hb with hb | hb
      · exact old b hb (lk_none.1 h1 b hb)
      · simp at hb
        rw [hb]; exact new
    · by_cases e : x = s
      · exact ⟨⟨s, r, now + 100⟩, by simp, e.symm⟩
      · unfold upd at hn
        rw [if_neg e] at hn
        rcases addK_mem.1 hx with e2 | hx
        · exact absurd e2 e
        · obtain ⟨b, hb, e2⟩ := h.c x hx hn
          exact ⟨b, List.mem_append_left _ hb, e2⟩
    · rcases List.mem_append.1 hb with hb | hb
      · exact hL b hb
      · simp at hb
        rw [hb]; show now < now + 100; omega
  · omega
/-- The table, both maps and a step's block. -/
structure KsM (w : World) (B M Mb Mu n : Nat) (T : Int) (L : List Bd) (K : List Int) (u bf : Int → Int) (sb : Nat) (s : Sp) (W : World) : Prop where
  af : AfS w B 1024 100 M T L W
  bo : BoAt W Mb n bf
  us : UsAt W Mu K u
  blk : W.heap[sb]? = some (.cells (SpV s) 36 (0, 0))
  ap : ¬ tbF B M Mb ∧ ¬ tbF B M Mu ∧ Mb ≠ Mu
  lo : w.heap.size ≤ Mb ∧ w.heap.size ≤ Mu
  sp : ¬ tbF B M sb ∧ sb ≠ Mb ∧ sb ≠ Mu
section
variable {w W W' : World} {B M Mb Mu n : Nat} {T T' : Int} {L L' : List Bd} {K K' : List Int} {u u' bf bf' : Int → Int} {sb : Nat} {s : Sp}
theorem KsM.below (h : KsM w B M Mb Mu n T L K u bf sb s W) (hb : Below W.heap.size W W') : KsM w B M Mb Mu n T L K u bf sb s W' :=
  ⟨h.af.below hb, h.bo.same (hb.block _ h.bo.lt), h.us.same (hb.block _ h.us.lt), block_bel h.blk hb, h.ap, h.lo, h.sp⟩
theorem KsM.tab (h : KsM w B M Mb Mu n T L K u bf sb s W) (ho : TbO W B 1024 100 M T' L' W') : KsM w B M Mb Mu n T' L' K u bf sb s W' :=
  ⟨h.af.step ho, h.bo.same (ho.2.block _ h.bo.lt h.ap.1), h.us.same (ho.2.block _ h.us.lt h.ap.2.1), ho.2.one h.blk h.sp.1, h.ap, h.lo, h.sp⟩
theorem AfS.fbs {F : Nat → Prop} (h : AfS w B 1024 100 M T L W) (hf : Fb F W W') (h1 : ∀ k, tbF B M k → ¬ F k) (h2 : ∀ k, F k → w.heap.size ≤ k) : AfS w B 1024 100 M T L W' := ⟨h.tb.fb hf h1, h.lo, h.bel.trans (hf.to h2 h.bel.size)⟩
theorem KsM.setU (h : KsM w B M Mb Mu n T L K u bf sb s W) (ho : UsAt W' Mu K' u') (hf : Fb (at1 Mu) W W') : KsM w B M Mb Mu n T L K' u' bf sb s W' :=
  ⟨h.af.fbs hf (fun k hk e => h.ap.2.1 (by have e' : k = Mu := e; rw [← e']; exact hk)) (fun k e => by have e' : k = Mu := e; rw [e']; exact h.lo.2), h.bo.same (hf.block _ h.bo.lt h.ap.2.2), ho, hf.one h.blk h.sp.2.2, h.ap, h.lo, h.sp⟩
theorem KsM.setB {n' : Nat} (h : KsM w B M Mb Mu n T L K u bf sb s W) (ho : BoAt W' Mb n' bf') (hf : Fb (at1 Mb) W W') : KsM w B M Mb Mu n' T L K u bf' sb s W' :=
  ⟨h.af.fbs hf (fun k hk e => h.ap.1 (by have e' : k = Mb := e; rw [← e']; exact hk)) (fun k e => by have e' : k = Mb := e; rw [e']; exact h.lo.1), ho, h.us.same (hf.block _ h.us.lt (fun e => h.ap.2.2 e.symm)), hf.one h.blk h.sp.2.1, h.ap, h.lo, h.sp⟩
theorem KsM.cells (h : KsM w B M Mb Mu n T L K u bf sb s W) : W.cell? ⟨sb, 0, none⟩ = some (.int .u8 s.kd) ∧ W.cell? ⟨sb, 1, none⟩ = some (.int .i64 s.later) ∧ W.cell? ⟨sb, 2, none⟩ = some (.int .u64 s.ses) ∧ W.cell? ⟨sb, 3, none⟩ = some (.int .u64 s.rep) :=
  ⟨by rw [cell_of_row _ _ _ _ _ _ h.blk]; rfl, by rw [cell_of_row _ _ _ _ _ _ h.blk]; rfl, by rw [cell_of_row _ _ _ _ _ _ h.blk]; rfl, by rw [cell_of_row _ _ _ _ _ _ h.blk]; rfl⟩
theorem KsM.next (h : KsM w B M Mb Mu n T L K u bf sb s W) (s' : Sp) (hW : W' = W.alloc (.cells #[.int .u8 s'.kd, .int .i64 s'.later, .int .u64 s'.ses, .int .u64 s'.rep] 36)) : KsM w B M Mb Mu n T L K u bf W.heap.size s' W' := by
  subst hW
  have hb : Below W.heap.size W (W.alloc (.cells #[.int .u8 s'.kd, .int .i64 s'.later, .int .u64 s'.ses, .int .u64 s'.rep] 36)) := (Below.refl _ _).alloc (Nat.le_refl _) _
  have h1 := h.bo.lt
  have h2 := h.us.lt
  exact ⟨h.af.below hb, h.bo.same (hb.block _ h1), h.us.same (hb.block _ h2), heap_alloc_new W _, h.ap, h.lo, fun hF => Nat.lt_irrefl _ (h.af.tb.lts hF), by omega, by omega⟩
end
/-- The table and both maps. -/
structure KsS (w : World) (B M Mb Mu n : Nat) (T : Int) (L : List Bd) (K : List Int) (u bf : Int → Int) (W : World) : Prop where
  af : AfS w B 1024 100 M T L W
  bo : BoAt W Mb n bf
  us : UsAt W Mu K u
  ap : ¬ tbF B M Mb ∧ ¬ tbF B M Mu ∧ Mb ≠ Mu
  lo : w.heap.size ≤ Mb ∧ w.heap.size ≤ Mu
theorem KsM.out {w W : World} {B M Mb Mu n : Nat} {T : Int} {L : List Bd} {K : List Int} {u bf : Int → Int} {sb : Nat} {s : Sp} (h : KsM w B M Mb Mu n T L K u bf sb s W) : KsS w B M Mb Mu n T L K u bf W := ⟨h.af, h.bo, h.us, h.ap, h.lo⟩
theorem KsS.next {w W W' : World} {B M Mb Mu n : Nat} {T : Int} {L : List Bd} {K : List Int} {u bf : Int → Int} (h : KsS w B M Mb Mu n T L K u bf W) (s' : Sp) (hW : W' = W.alloc (.cells #[.int .u8 s'.kd, .int .i64 s'.later, .int .u64 s'.ses, .int .u64 s'.rep] 36)) : KsM w B M Mb Mu n T L K u bf W.heap.size s' W' := by
  subst hW
  have hb : Below W.heap.size W (W.alloc (.cells #[.int .u8 s'.kd, .int .i64 s'.later, .int .u64 s'.ses, .int .u64 s'.rep] 36)) := (Below.refl _ _).alloc (Nat.le_refl _) _
  have h1 := h.bo.lt
  have h2 := h.us.lt
  exact ⟨h.af.below hb, h.bo.same (hb.block _ h1), h.us.same (hb.block _ h2), heap_alloc_new W _, h.ap, h.lo, fun hF => Nat.lt_irrefl _ (h.af.tb.lts hF), by omega, by omega⟩
theorem timeZ_now {T now : Int} (h : T ≤ now) (h2 : now ≤ 1099511627776) : timeZ T now = now := by unfold timeZ; split <;> omega
end Go.Proofs.Ytfnbofhppfjmgaa
