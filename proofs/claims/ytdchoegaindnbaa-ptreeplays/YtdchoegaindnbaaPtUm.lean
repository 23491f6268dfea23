/-
  A map of numbers by replicas (UmAt), and what Match lays into it (LgP).
-/
import Derived.Test.YtdchoegaindnbaaPtFor2
namespace Go.Proofs.Ytdchoegaindnbaa
open Go.RowKit Go.Maps Go.Shelf
set_option linter.unusedVariables false
set_option maxRecDepth 1000000

theorem isU.wf {x : Int} (h : isU x) : (Lit.int .u64 x).wf = true := WalkArith.wf_u64 h
theorem alaw : Keyed Try.prog 33 := int_keyed Try.underlying33
theorem akey {x : Int} (h : isU x) : keyOf Try.prog 33 (.int .u64 x) = some (.int .u64 x) := keyOf_int_mk Try.underlying33 h.wf
/-- How a number reads. -/
def Ri : Value → Option (DataW Unit × List MemPlace)
  | .int k c => if k = .i64 then some (.lit (.int .i64 c), []) else none
  | _ => none
theorem Ri_mk (c : Int) : Ri (.int .i64 c) = some (.lit (.int .i64 c), []) := by simp [Ri]
theorem Ri_inv {v : Value} {c : Int} {ps : List MemPlace} (h : Ri v = some (.lit (.int .i64 c), ps)) : v = .int .i64 c := by
  cases v <;> simp [Ri] at h
  rename_i k a
  obtain ⟨rfl, rfl, _⟩ := h
  rfl
theorem izero (w : World) : (zeroValue 3).run Try.prog w = .ok (.int .i64 0) w := by kernel_rfl
/-- The map in block b has the keys K, and leads x to f x. -/
def UmAt (W : World) (b : Nat) (K : List Int) (f : Int → Int) : Prop :=
  ∃ D : DataW Unit, W.ownsMap Try.prog 33 Ri b K.length D ∧ (∀ x, isU x → D.atKey (.int .u64 x) (.lit (.int .i64 0)) = .lit (.int .i64 (f x)) ∧ Maps.has D (.int .u64 x) = decide (x ∈ K)) ∧ Maps.size D = K.length ∧ K.Nodup ∧ ∀ x ∈ K, isU x
theorem UmAt.new (w : World) : UmAt (w.alloc (.map #[] 0)) w.heap.size [] (fun _ => 0) := ⟨.map [], World.ownsMap_made _ _ _ _, fun v _ => ⟨rfl, by simp; rfl⟩, rfl, List.nodup_nil, by simp⟩
theorem UmAt.lt {W : World} {b : Nat} {K : List Int} {f : Int → Int} (h : UmAt W b K f) : b < W.heap.size := by obtain ⟨D, h1, _⟩ := h; exact h1.lt
theorem UmAt.blk {W : World} {b : Nat} {K : List Int} {f : Int → Int} (h : UmAt W b K f) : ∃ es clock, W.heap[b]? = some (.map es clock) := by
  obtain ⟨D, ⟨es, clock, h1, h2⟩, h3⟩ := h
  exact ⟨es, clock, h1⟩
theorem UmAt.same {W W' : World} {b : Nat} {K : List Int} {f : Int → Int} (h : UmAt W b K f) (hb : W'.heap[b]? = W.heap[b]?) : UmAt W' b K f := by
  obtain ⟨D, ⟨es, clock, h1, h2⟩, h3⟩ := h
  exact ⟨D, ⟨es, clock, hb.trans h1, h2⟩, h3⟩
theorem UmAt.below {W W' : World} {b : Nat} {K : List Int} {f : Int → Int} (h : UmAt W b K f) (hb : Below W.heap.size W W') : UmAt W' b K f := h.same (hb.block _ h.lt)
theorem UmAt.look {W : World} {b : Nat} {K : List Int} {f : Int → Int} (h : UmAt W b K f) {x : Int} (hx : isU x) : (Instr.lookup 37 (.map (some b)) (.int .u64 x) false).run Try.prog W = .ok (.int .i64 (f x)) W := by
  obtain ⟨D, h1, h2, _⟩ := h
  obtain ⟨u, ps, hr, hu⟩ := h1.lookup alaw Try.underlying37 (izero W) (zd := .lit (.int .i64 0)) (zp := []) rfl (akey hx)
  rw [(h2 x hx).1] at hu
  rw [hr, Ri_inv hu]
theorem UmAt.look_ok {W : World} {b : Nat} {K : List Int} {f : Int → Int} (h : UmAt W b K f) {x : Int} (hx : isU x) : (Instr.lookup 37 (.map (some b)) (.int .u64 x) true).run Try.prog W = .ok (.tuple #[.int .i64 (f x), .bool (decide (x ∈ K))]) W := by
  obtain ⟨D, h1, h2, _⟩ := h
  obtain ⟨u, ps, hr, hu⟩ := h1.look_ok alaw Try.underlying37 (izero W) (zd := .lit (.int .i64 0)) (zp := []) rfl (akey hx)
  rw [(h2 x hx).1] at hu
  rw [hr, Ri_inv hu, (h2 x hx).2]
theorem UmAt.len {W : World} {b : Nat} {K : List Int} {f : Int → Int} (h : UmAt W b K f) (ty : TypeId) : (Builtin.len_ #[37] ty #[.map (some b)]).run Try.prog W = .ok (.int .i64 K.length) W := by
  obtain ⟨D, h1, h2, h3, _⟩ := h
  have := h1.len Try.underlying37 ty
  rw [h3] at this
  exact this
theorem UmAt.store {W : World} {b : Nat} {K : List Int} {f : Int → Int} (h : UmAt W b K f) (hn : K.length ≤ 100000) {x : Int} (hx : isU x) (c : Int) :
    ∃ W', (Instr.mapUpdate 37 (.map (some b)) (.int .u64 x) (.int .i64 c)).run Try.prog W = .ok () W' ∧ UmAt W' b (if x ∈ K then K else x :: K) (fun y => if y = x then c else f y) ∧ Fb (at1 b) W W' := by
  obtain ⟨D, h1, h2, h3, h4, h5⟩ := h
  obtain ⟨W', hr, ho, hg⟩ := h1.store alaw Try.underlying37 (by unfold maxLen; omega) (akey hx) (Ri_mk c)
  have hs : Maps.size (D.put (.int .u64 x) (.lit (.int .i64 c))) = (if x ∈ K then K else x :: K).length := by
    rw [size_put (h1.tidy alaw), (h2 x hx).2, h3]
    by_cases e : x ∈ K <;> simp [e]
  refine ⟨W', hr, ⟨_, ?_, fun u hu => ?_, hs, ?_, ?_⟩, fb_map hg⟩
  · obtain ⟨es, clock, k1, k2, k3, k4⟩ := ho
    refine ⟨es, clock, k1, k2, ?_, k4⟩
    rw [← hs, k4, size_eq, length_read]
    exact Nat.le_refl _
  · by_cases e : u = x
    · subst e
      rw [atKey_put_same h1.isMap (alaw.key (akey hx)), has_put_same h1.isMap (alaw.key (akey hx))]
      by_cases e2 : u ∈ K <;> simp [e2]
    · have hne : Lit.int .u64 u ≠ Lit.int .u64 x := fun e2 => e (by cases e2; rfl)
      rw [atKey_put_other hne, has_put_other hne, (h2 u hu).1, (h2 u hu).2]
      by_cases e2 : x ∈ K <;> simp [e2, e]
  · by_cases e : x ∈ K
    · rw [if_pos e]; exact h4
    · rw [if_neg e]; exact List.nodup_cons.2 ⟨e, h4⟩
  · intro y hy
    by_cases e : x ∈ K
    · rw [if_pos e] at hy; exact h5 y hy
    · rw [if_neg e] at hy
      exact (List.mem_cons.1 hy).elim (fun e => e ▸ hx) (h5 y)
/-- Of these marks: each replica's longest. -/
def LgP (pre : List Mk) (K : List Int) (f : Int → Int) : Prop :=
  ∀ r, (∀ m ∈ pre, m.rep = r → (m.toks.length : Int) ≤ f r) ∧ (f r = 0 ∧ (∀ m ∈ pre, m.rep = r → m.toks.length = 0) ∨ ∃ m ∈ pre, m.rep = r ∧ (m.toks.length : Int) = f r) ∧ (r ∈ K ↔ ∃ m ∈ pre, m.rep = r)
theorem LgP.nil : LgP [] [] (fun _ => 0) := fun r => ⟨by simp, .inl ⟨rfl, by simp⟩, by simp⟩
theorem LgP.nonneg {pre : List Mk} {K : List Int} {f : Int → Int} (h : LgP pre K f) (r : Int) : 0 ≤ f r := by
  rcases (h r).2.1 with h | ⟨m, _, _, h⟩ <;> omega
theorem LgP.perm {pre pre' : List Mk} {K : List Int} {f : Int → Int} (h : LgP pre K f) (hp : ∀ m, m ∈ pre ↔ m ∈ pre') : LgP pre' K f := fun r => by
  obtain ⟨h1, h2, h3⟩ := h r
  refine ⟨fun m hm => h1 m ((hp m).2 hm), ?_, ?_⟩
  · rcases h2 with ⟨e, h2⟩ | ⟨m, a, b⟩
    · exact .inl ⟨e, fun m hm => h2 m ((hp m).2 hm)⟩
    · exact .inr ⟨m, (hp m).1 a, b⟩
  · rw [h3]
    exact ⟨fun ⟨m, a, b⟩ => ⟨m, (hp m).1 a, b⟩, fun ⟨m, a, b⟩ => ⟨m, (hp m).2 a, b⟩⟩
theorem LgP.step {pre : List Mk} {K : List Int} {f : Int → Int} (h : LgP pre K f) (m : Mk) : LgP (pre ++ [m]) (if m.rep ∈ K then K else m.rep :: K) (fun y => if y = m.rep then max (f m.rep) m.toks.length else f y) := fun r => by
  obtain ⟨h1, h2, h3⟩ := h r
  have hn := h.nonneg r
  by_cases e : r = m.rep
  · subst e
    simp only [if_true]
    refine ⟨fun x hx hr => ?_, ?_, ?_⟩
    · rcases List.mem_append.1 hx with hx | hx
      · have := h1 x hx hr; omega
      · simp at hx; subst hx; omega
    · right
      rcases Int.le_total (f m.rep) m.toks.length with hle | hle
      · exact ⟨m, by simp, rfl, by omega⟩
      · rcases h2 with ⟨e2, h2⟩ | ⟨x, a, b, c⟩
        · exact ⟨m, by simp, rfl, by omega⟩
        · exact ⟨x, by simp [a], b, by omega⟩
    · by_cases e2 : m.rep ∈ K <;> simp [e2]
  · simp only [if_neg e]
    refine ⟨fun x hx hr => ?_, ?_, ?_⟩
    · rcases List.mem_append.1 hx with hx | hx
      · exact h1 x hx hr
      · simp at hx; subst hx; exact absurd hr.symm e
    · rcases h2 with ⟨e2, h2⟩ | ⟨x, a, b, c⟩
      · refine .inl ⟨e2, fun x hx hr => ?_⟩
        rcases List.mem_append.1 hx with hx | hx
        · exact h2 x hx hr
        · simp at hx; subst hx; exact absurd hr.symm e
      · exact .inr ⟨x, by simp [a], b, c⟩
    · have : (r ∈ if m.rep ∈ K then K else m.rep :: K) ↔ r ∈ K := by
        by_cases e2 : m.rep ∈ K <;> simp [e2, e]
      rw [this, h3]
      constructor
      · rintro ⟨x, a, b⟩; exact ⟨x, by simp [a], b⟩
      · rintro ⟨x, a, b⟩
        rcases List.mem_append.1 a with a | a
        · exact ⟨x, a, b⟩
        · simp at a; subst a; exact absurd b.symm e
end Go.Proofs.Ytdchoegaindnbaa
