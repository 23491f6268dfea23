/-
  The map of marks by their names, as a list of marks (PmAt): looked up, stored into, struck, counted.
-/
import Derived.Test.YtdchoegaindnbaaPtStr
import Derived.Maps.Own
import Derived.Maps.OwnOps
import Derived.Maps.Views
import Derived.Maps.OwnSet
import Derived.Maps.RangeWalk
import Derived.StringKeys
import Derived.MapViews
namespace Go.Proofs.Ytdchoegaindnbaa
open Go.RowKit Go.Maps
set_option linter.unusedVariables false
set_option maxRecDepth 1000000

/-- How a pointer reads. -/
def Rp : Value → Option (DataW Unit × List MemPlace)
  | .pointer none => some (.lit (.int .i64 (-1)), [])
  | .pointer (some a) => if a.off = 0 ∧ a.spot = none then some (.lit (.int .i64 (a.block : Int)), []) else none
  | _ => none
def codeP : Option Nat → Int
  | none => -1
  | some b => b
def ptrP : Option Nat → Option Addr
  | none => none
  | some b => some ⟨b, 0, none⟩
theorem codeP_inj {a b : Option Nat} (h : codeP a = codeP b) : a = b := by
  cases a <;> cases b <;> simp [codeP] at h ⊢ <;> omega
theorem Rp_inv {v : Value} {o : Option Nat} {ps : List MemPlace} (h : Rp v = some (.lit (.int .i64 (codeP o)), ps)) : v = .pointer (ptrP o) := by
  cases v with
  | pointer a =>
    cases a with
    | none =>
      have h1 : codeP none = codeP o := by simp [Rp] at h; exact h.1
      rw [← codeP_inj h1]
      rfl
    | some a =>
      obtain ⟨b, off, spot⟩ := a
      simp only [Rp] at h
      split at h
      · rename_i hc
        obtain ⟨h1, h2⟩ := hc
        subst h1 h2
        have h3 : codeP (some b) = codeP o := by simp at h; exact h.1
        rw [← codeP_inj h3]
        rfl
      · cases h
  | _ => simp [Rp] at h
theorem Rp_mk (b : Nat) : Rp (.pointer (some ⟨b, 0, none⟩)) = some (.lit (.int .i64 (codeP (some b))), []) := by simp [Rp, codeP]
theorem slaw : Keyed Try.prog 9 := string_keyed Try.underlying9
theorem pzero (w : World) : (zeroValue 57).run Try.prog w = .ok (.pointer none) w := by kernel_rfl
/-- The key that bytes are. -/
def kz (zs : List Int) : Lit := .string (strOfNums zs).data.toList
theorem kz_inj {xs ys : List Int} (hx : IsBytes xs) (hy : IsBytes ys) (h : kz xs = kz ys) : xs = ys := by
  refine strN_inj hx hy (ByteArray.ext ?_)
  unfold kz at h
  have : (strOfNums xs).data.toList = (strOfNums ys).data.toList := by injection h
  exact Array.toList_inj.1 this
theorem kz_key {zs : List Int} (h : zs.length ≤ 1000000) : keyOf Try.prog 9 (.string (strOfNums zs)) = some (kz zs) :=
  WideMaps.keyOf_string_mk Try.underlying9 (by rw [strOfNums_size]; unfold maxLen; omega)
/-- Where the mark of this name lies. -/
def look : List Mk → List Int → Option Nat
  | [], _ => none
  | m :: L, zs => if m.nm = zs then some m.blk else look L zs
theorem Mk.bytes (m : Mk) : IsBytes m.nm := nmZ_bytes _ _
theorem look_none {L : List Mk} {zs : List Int} : look L zs = none ↔ ∀ m ∈ L, m.nm ≠ zs := by
  induction L with
  | nil => simp [look]
  | cons m L ih => by_cases e : m.nm = zs <;> simp [look, e, ih]
theorem look_some {L : List Mk} {zs : List Int} {b : Nat} (h : look L zs = some b) : ∃ m ∈ L, m.nm = zs ∧ m.blk = b := by
  induction L with
  | nil => simp [look] at h
  | cons m L ih =>
    by_cases e : m.nm = zs
    · simp [look, e] at h
      exact ⟨m, by simp, e, h⟩
    · simp [look, e] at h
      obtain ⟨m', h1, h2⟩ := ih h
      exact ⟨m', by simp [h1], h2⟩
theorem nm_one {L : List Mk} (h : (L.map Mk.nm).Nodup) {a b : Mk} (ha : a ∈ L) (hb : b ∈ L) (e : a.nm = b.nm) : a = b := by
  induction L with
  | nil => simp at ha
  | cons x L ih =>
    rw [List.map_cons, List.nodup_cons] at h
    rcases List.mem_cons.1 ha with rfl | ha' <;> rcases List.mem_cons.1 hb with rfl | hb'
    · rfl
    · exact absurd (List.mem_map.2 ⟨b, hb', e.symm⟩) h.1
    · exact absurd (List.mem_map.2 ⟨a, ha', e⟩) h.1
    · exact ih h.2 ha' hb'
theorem look_mem {L : List Mk} (h : (L.map Mk.nm).Nodup) {m : Mk} (hm : m ∈ L) : look L m.nm = some m.blk := by
  cases hl : look L m.nm with
  | none => exact absurd rfl (look_none.1 hl m hm)
  | some b =>
    obtain ⟨m', h1, h2, h3⟩ := look_some hl
    rw [← h3, nm_one h h1 hm h2]
theorem look_perm {L L' : List Mk} (h : (L.map Mk.nm).Nodup) (hp : L.Perm L') (zs : List Int) : look L zs = look L' zs := by
  cases hl : look L zs with
  | none => exact (look_none.2 fun m hm => look_none.1 hl m (hp.mem_iff.2 hm)).symm
  | some b =>
    obtain ⟨m, h1, rfl, rfl⟩ := look_some hl
    exact (look_mem ((hp.map _).nodup_iff.1 h) (hp.mem_iff.1 h1)).symm
/-- The map in block M has just the marks of L. -/
def PmAt (W : World) (M : Nat) (L : List Mk) : Prop :=
  ∃ D : DataW Unit, W.ownsMap Try.prog 9 Rp M L.length D ∧ (∀ zs, IsBytes zs → D.atKey (kz zs) (.lit (.int .i64 (-1))) = .lit (.int .i64 (codeP (look L zs))) ∧ Maps.has D (kz zs) = (look L zs).isSome) ∧ Maps.size D = L.length ∧ (L.map Mk.nm).Nodup ∧ ∀ m ∈ L, m.ok
theorem PmAt.new (w : World) : PmAt (w.alloc (.map #[] 0)) w.heap.size [] := ⟨.map [], World.ownsMap_made _ _ _ _, fun v _ => ⟨rfl, rfl⟩, rfl, List.nodup_nil, by simp⟩
theorem PmAt.lt {W : World} {M : Nat} {L : List Mk} (h : PmAt W M L) : M < W.heap.size := by obtain ⟨D, h1, _⟩ := h; exact h1.lt
theorem PmAt.blk {W : World} {M : Nat} {L : List Mk} (h : PmAt W M L) : ∃ es clock, W.heap[M]? = some (.map es clock) := by
  obtain ⟨D, ⟨es, clock, h1, h2⟩, h3⟩ := h
  exact ⟨es, clock, h1⟩
theorem PmAt.nodup {W : World} {M : Nat} {L : List Mk} (h : PmAt W M L) : (L.map Mk.nm).Nodup := by obtain ⟨D, _, _, _, h4, _⟩ := h; exact h4
theorem PmAt.oks {W : World} {M : Nat} {L : List Mk} (h : PmAt W M L) : ∀ m ∈ L, m.ok := by obtain ⟨D, _, _, _, _, h5⟩ := h; exact h5
theorem PmAt.same {W W' : World} {M : Nat} {L : List Mk} (h : PmAt W M L) (hb : W'.heap[M]? = W.heap[M]?) : PmAt W' M L := by
  obtain ⟨D, ⟨es, clock, h1, h2⟩, h3⟩ := h
  exact ⟨D, ⟨es, clock, hb.trans h1, h2⟩, h3⟩
theorem PmAt.fb {F : Nat → Prop} {W W' : World} {M : Nat} {L : List Mk} (h : PmAt W M L) (hb : Fb F W W') (hF : ¬ F M) : PmAt W' M L := h.same (hb.block _ h.lt hF)
theorem PmAt.below {W W' : World} {M : Nat} {L : List Mk} (h : PmAt W M L) (hb : Below W.heap.size W W') : PmAt W' M L := h.same (hb.block _ h.lt)
theorem PmAt.perm {W : World} {M : Nat} {L L' : List Mk} (h : PmAt W M L) (hp : L.Perm L') : PmAt W M L' := by
  obtain ⟨D, h1, h2, h3, h4, h5⟩ := h
  exact ⟨D, hp.length_eq ▸ h1, fun zs hz => by rw [← look_perm h4 hp zs]; exact h2 zs hz, h3.trans hp.length_eq, (hp.map _).nodup_iff.1 h4, fun m hm => h5 m (hp.mem_iff.2 hm)⟩
/-- The marks' uses may be others. -/
theorem look_uses : ∀ (L : List Mk) (f : Mk → Mk) (_ : ∀ m ∈ L, (f m).nm = m.nm ∧ (f m).blk = m.blk) (zs : List Int), look (L.map f) zs = look L zs
  | [], _, _, _ => rfl
  | m :: L, f, hf, zs => by
    simp only [List.map_cons, look, (hf m (by simp)).1, (hf m (by simp)).2, look_uses L f (fun x hx => hf x (by simp [hx])) zs]
theorem PmAt.uses {W : World} {M : Nat} {L : List Mk} (h : PmAt W M L) (f : Mk → Mk) (hf : ∀ m ∈ L, (f m).nm = m.nm ∧ (f m).blk = m.blk ∧ (f m).ok) : PmAt W M (L.map f) := by
  obtain ⟨D, h1, h2, h3, h4, h5⟩ := h
  refine ⟨D, by rw [List.length_map]; exact h1, fun zs hz => ?_, by rw [List.length_map]; exact h3, ?_, fun m hm => ?_⟩
  · rw [look_uses L f (fun m hm => ⟨(hf m hm).1, (hf m hm).2.1⟩)]
    exact h2 zs hz
  · rw [List.map_map, show L.map (Mk.nm ∘ f) = L.map Mk.nm from List.map_congr_left fun m hm => (hf m hm).1]
    exact h4
  · obtain ⟨x, hx, rfl⟩ := List.mem_map.1 hm
    exact (hf x hx).2.2
theorem PmAt.look_at {W : World} {M : Nat} {L : List Mk} (h : PmAt W M L) {zs : List Int} (hz : IsBytes zs) (hl : zs.length ≤ 1000000) : (Instr.lookup 50 (.map (some M)) (.string (strOfNums zs)) false).run Try.prog W = .ok (.pointer (ptrP (look L zs))) W := by
  obtain ⟨D, h1, h2, _⟩ := h
  obtain ⟨u, ps, hr, hu⟩ := h1.lookup slaw Try.underlying50 (pzero W) (zd := .lit (.int .i64 (-1))) (zp := []) rfl (kz_key hl)
  rw [(h2 zs hz).1] at hu
  rw [hr, Rp_inv hu]
theorem owns_tightP {W : World} {B n : Nat} {D : DataW Unit} (h : W.ownsMap Try.prog 9 Rp B n D) : W.ownsMap Try.prog 9 Rp B (Maps.size D) D := by
  obtain ⟨es, clock, h1, h2, h3, rfl⟩ := h
  refine ⟨es, clock, h1, h2, ?_, rfl⟩
  rw [size_eq, length_read]
  exact Nat.le_refl _
theorem fb_map {W W' : World} {B : Nat} (h : W.mapTurned W' B) : Fb (at1 B) W W' := by
  have := h.grown
  exact ⟨this.os, this.tape, this.output, this.size, fun k hk hn => this.block k hk fun e => hn (by cases e; rfl)⟩
theorem Mk.ok.len {m : Mk} (h : m.ok) : m.nm.length ≤ 1000000 := by
  have h1 := nmZ_len h.1 h.2.1
  have h2 := h.2.2.1
  change (nmZ m.rep m.toks).length ≤ _
  omega
theorem PmAt.store {W : World} {M : Nat} {L : List Mk} (h : PmAt W M L) (hn : L.length ≤ 100000) {m : Mk} (hm : m.ok) (hnew : look L m.nm = none) :
    ∃ W', (Instr.mapUpdate 50 (.map (some M)) (.string (strOfNums m.nm)) (.pointer (some ⟨m.blk, 0, none⟩))).run Try.prog W = .ok () W' ∧ PmAt W' M (m :: L) ∧ Fb (at1 M) W W' := by
  obtain ⟨D, h1, h2, h3, h4, h5⟩ := h
  obtain ⟨W', hr, ho, hg⟩ := h1.store slaw Try.underlying50 (by unfold maxLen; omega) (kz_key hm.len) (Rp_mk m.blk)
  refine ⟨W', hr, ⟨_, ho, fun zs hz => ?_, ?_, ?_, fun x hx => (List.mem_cons.1 hx).elim (fun e => e ▸ hm) (h5 x)⟩, fb_map hg⟩
  · by_cases e : m.nm = zs
    · subst e
      rw [atKey_put_same h1.isMap (slaw.key (kz_key hm.len)), has_put_same h1.isMap (slaw.key (kz_key hm.len))]
      simp [look]
    · have hne : kz zs ≠ kz m.nm := fun e2 => e (kz_inj hz m.bytes e2).symm
      rw [atKey_put_other hne, has_put_other hne]
      simp only [look, if_neg e]
      exact h2 zs hz
  · rw [size_put (h1.tidy slaw), (h2 m.nm m.bytes).2, hnew, h3]
    simp
  · rw [List.map_cons, List.nodup_cons]
    refine ⟨fun hx => ?_, h4⟩
    obtain ⟨x, hx, he⟩ := List.mem_map.1 hx
    exact look_none.1 hnew x hx he
/-- The marks but the one of this name. -/
def butN (L : List Mk) (zs : List Int) : List Mk := L.filter fun m => decide (m.nm ≠ zs)
theorem look_but (L : List Mk) (zs ys : List Int) : look (butN L zs) ys = if ys = zs then none else look L ys := by
  induction L with
  | nil => simp [butN, look]
  | cons m L ih =>
    unfold butN at ih ⊢
    by_cases e : m.nm = zs
    · rw [List.filter_cons_of_neg (by simp [e]), ih]
      by_cases e2 : ys = zs
      · simp [e2]
      · simp [e2, look, e, show ¬ zs = ys from fun h => e2 h.symm]
    · rw [List.filter_cons_of_pos (by simp [e])]
      by_cases e2 : ys = zs
      · subst e2
        simp only [look, if_neg e, ih]
      · simp only [look, ih, if_neg e2]
theorem but_len {L : List Mk} {zs : List Int} (h : (L.map Mk.nm).Nodup) : (butN L zs).length = L.length - (if (look L zs).isSome then 1 else 0) := by
  induction L with
  | nil => simp [butN]
  | cons m L ih =>
    rw [List.map_cons, List.nodup_cons] at h
    have ih := ih h.2
    unfold butN at ih ⊢
    by_cases e : m.nm = zs
    · rw [List.filter_cons_of_neg (by simp [e]), ih]
      have : look L zs = none := look_none.2 fun x hx hx2 => h.1 (List.mem_map.2 ⟨x, hx, hx2.trans e.symm⟩)
      simp [look, e, this]
    · rw [List.filter_cons_of_pos (by simp [e]), List.length_cons, ih]
      simp only [look, if_neg e, List.length_cons]
      cases hl : look L zs with
      | none => simp
      | some b =>
        obtain ⟨x, hx, _⟩ := look_some hl
        have := List.length_pos_of_mem hx
        simp
        omega
theorem PmAt.drop {W : World} {M : Nat} {L : List Mk} (h : PmAt W M L) {zs : List Int} (hz : IsBytes zs) (hl : zs.length ≤ 1000000) (ty : TypeId) :
    ∃ W', (Builtin.delete_ #[50, 9] ty #[.map (some M), .string (strOfNums zs)]).run Try.prog W = .ok (.tuple #[]) W' ∧ PmAt W' M (butN L zs) ∧ Fb (at1 M) W W' := by
  obtain ⟨D, h1, h2, h3, h4, h5⟩ := h
  obtain ⟨W', hr, ho, hg⟩ := h1.drop slaw Try.underlying50 (kz_key hl) ty
  have hs := size_del (k := kz zs) (h1.tidy slaw)
  rw [(h2 zs hz).2, h3] at hs
  have hs2 : Maps.size (D.del (kz zs)) = (butN L zs).length := by
    rw [but_len h4]
    omega
  refine ⟨W', hr, ⟨_, hs2 ▸ owns_tightP ho, fun ys hy => ?_, hs2, (List.filter_sublist.map _).nodup h4, fun m hm => h5 m (List.mem_filter.1 hm).1⟩, fb_map hg⟩
  rw [look_but]
  by_cases e : ys = zs
  · subst e
    rw [atKey_del_same, has_del_same, if_pos rfl]
    exact ⟨rfl, rfl⟩
  · have hne : kz ys ≠ kz zs := fun e2 => e (kz_inj hy hz e2)
    rw [atKey_del_other hne, has_del_other hne, if_neg e]
    exact h2 ys hy
theorem PmAt.len {W : World} {M : Nat} {L : List Mk} (h : PmAt W M L) (ty : TypeId) : (Builtin.len_ #[50] ty #[.map (some M)]).run Try.prog W = .ok (.int .i64 L.length) W := by
  obtain ⟨D, h1, h2, h3, _⟩ := h
  have := h1.len Try.underlying50 ty
  rw [h3] at this
  exact this
end Go.Proofs.Ytdchoegaindnbaa
