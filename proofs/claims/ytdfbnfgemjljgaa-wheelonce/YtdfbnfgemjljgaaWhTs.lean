/-
  Timers in memory: lists that are read (TsAt), cut, appended; the document's wheel (RwAt).
-/
import Derived.Test.YtdfbnfgemjljgaaWhMath
import Derived.Laws.AppendOwnNone
import Derived.Deep.DeepCutAuto
namespace Go.Proofs.Ytdfbnfgemjljgaa
open Go.RowKit
set_option linter.unusedVariables false
set_option maxRecDepth 1000000

structure TmAt (W : World) (b o : Nat) (t : Tm) : Prop where
  c0 : W.cell? ⟨b, o, none⟩ = some (.int .i64 t.num)
  c1 : W.cell? ⟨b, o + 1, none⟩ = some (.int .i64 t.kind)
  c2 : W.cell? ⟨b, o + 2, none⟩ = some (.int .u64 t.label)
  c3 : W.cell? ⟨b, o + 3, none⟩ = some (.int .i64 t.due)
/-- The slice reads as these timers; its block is one of cells of type E. -/
structure TsAt (E : TypeId) (W : World) (a : Option Addr) (len cap : Nat) (l : List Tm) : Prop where
  size : l.length = len
  room : len ≤ cap
  most : cap ≤ 9223372036854775807
  bare : a = none → len = 0 ∧ cap = 0
  ty : ∀ ad, a = some ad → ad.spot = none ∧ ∃ cur fr, W.heap[ad.block]? = some (.cells cur E fr)
  cell : ∀ i, i < len → ∃ b off, a = some ⟨b, off, none⟩ ∧ TmAt W b (off + i * 4) (tk l i)
theorem TsAt.nil (E : TypeId) (W : World) : TsAt E W none 0 0 [] := ⟨rfl, Nat.le_refl _, by omega, fun _ => ⟨rfl, rfl⟩, (fun ad e => by cases e), (fun i hi => by omega)⟩
theorem cell_heap {W W' : World} {b : Nat} (h : W'.heap[b]? = W.heap[b]?) (o : Nat) : W'.cell? ⟨b, o, none⟩ = W.cell? ⟨b, o, none⟩ := by
  simp only [World.cell?]
  rw [h]
theorem TsAt.same {E : TypeId} {W W' : World} {a : Option Addr} {len cap : Nat} {l : List Tm} (h : TsAt E W a len cap l) (hb : ∀ ad, a = some ad → W'.heap[ad.block]? = W.heap[ad.block]?) : TsAt E W' a len cap l :=
  ⟨h.size, h.room, h.most, h.bare, fun ad e => by
    obtain ⟨s, cur, fr, hc⟩ := h.ty ad e
    exact ⟨s, cur, fr, (hb ad e).trans hc⟩, fun i hi => by
    obtain ⟨b, off, e, hc⟩ := h.cell i hi
    have hh := hb _ e
    exact ⟨b, off, e, (cell_heap hh _).trans hc.c0, (cell_heap hh _).trans hc.c1, (cell_heap hh _).trans hc.c2, (cell_heap hh _).trans hc.c3⟩⟩
theorem TsAt.below {E : TypeId} {W W' : World} {a : Option Addr} {len cap : Nat} {l : List Tm} (h : TsAt E W a len cap l) (hb : Below W.heap.size W W') : TsAt E W' a len cap l :=
  h.same fun ad e => by
    obtain ⟨_, cur, fr, hc⟩ := h.ty ad e
    exact hb.block _ (lt_of_block hc)
/-- Blocks of other types, or no cells, may be turned. -/
theorem TsAt.fb {E : TypeId} {F : Nat → Prop} {W W' : World} {a : Option Addr} {len cap : Nat} {l : List Tm} (h : TsAt E W a len cap l) (hf : Fb F W W') (hF : ∀ k cur fr, F k → W.heap[k]? ≠ some (.cells cur E fr)) : TsAt E W' a len cap l :=
  h.same fun ad e => by
    obtain ⟨_, cur, fr, hc⟩ := h.ty ad e
    exact hf.block _ (lt_of_block hc) fun hk => hF _ _ _ hk hc
theorem TsAt.take {E : TypeId} {W : World} {a : Option Addr} {len cap : Nat} {l : List Tm} (h : TsAt E W a len cap l) {m : Nat} (hm : m ≤ len) : TsAt E W a m cap (l.take m) := by
  have hs := h.size
  have hr := h.room
  refine ⟨by rw [List.length_take]; omega, by omega, h.most, fun e => ⟨by have := (h.bare e).1; omega, (h.bare e).2⟩, h.ty, fun i hi => ?_⟩
  have : tk (l.take m) i = tk l i := by unfold tk; rw [List.getElem?_take_of_lt hi]
  rw [this]
  exact h.cell i (by omega)
theorem TsAt.news {E : TypeId} {W : World} {a : Option Addr} {len cap : Nat} {l : List Tm} (h : TsAt E W a len cap l) {ad : Addr} (e : a = some ad) : ∀ j u, (flatT l)[j]? = some u → W.cell? (ad.add j) = some u := by
  intro j u hu
  have hj : j < l.length * 4 := by rw [← flatT_len]; exact (List.getElem?_eq_some_iff.1 hu).1
  have hs := h.size
  obtain ⟨b, off, ha, hc⟩ := h.cell (j / 4) (by omega)
  rw [ha] at e
  obtain rfl := Option.some.inj e
  obtain ⟨q0, q1, q2, q3⟩ := flatT_at l (j / 4) (by omega)
  rw [Addr.add_lit]
  have h4 : j % 4 = 0 ∨ j % 4 = 1 ∨ j % 4 = 2 ∨ j % 4 = 3 := by omega
  rcases h4 with h4 | h4 | h4 | h4
  · rw [show j / 4 * 4 = j by omega, hu] at q0
    rw [Option.some.inj q0, show off + j = off + j / 4 * 4 by omega]; exact hc.c0
  · rw [show j / 4 * 4 + 1 = j by omega, hu] at q1
    rw [Option.some.inj q1, show off + j = off + j / 4 * 4 + 1 by omega]; exact hc.c1
  · rw [show j / 4 * 4 + 2 = j by omega, hu] at q2
    rw [Option.some.inj q2, show off + j = off + j / 4 * 4 + 2 by omega]; exact hc.c2
  · rw [show j / 4 * 4 + 3 = j by omega, hu] at q3
    rw [Option.some.inj q3, show off + j = off + j / 4 * 4 + 3 by omega]; exact hc.c3
theorem TsAt.own {E : TypeId} {base : Nat} {W : World} {v : Value} {n : Nat} {l : List Tm} (h : W.ownsRow base E 4 v n (flatT l)) : ∃ a cap, v = .slice a n cap ∧ TsAt E W a n cap l ∧ ∀ ad, a = some ad → base ≤ ad.block := by
  have hl : l.length = n := by have := h.1; rw [flatT_len] at this; omega
  rcases id h.2 with ⟨hv, rfl⟩ | ⟨g, cap', cur, hv, hb, hg, hnc, hm, _⟩
  · obtain rfl : l = [] := List.eq_nil_of_length_eq_zero hl
    exact ⟨none, 0, hv, TsAt.nil E W, fun ad e => by cases e⟩
  · subst hv
    refine ⟨_, _, rfl, ⟨hl, hnc, by unfold maxLen at hm; omega, (fun e => by cases e), fun ad e => ?_, fun i hi => ⟨g, 0, rfl, ?_⟩⟩, fun ad e => by cases e; exact hb⟩
    · cases e; exact ⟨rfl, _, _, hg⟩
    · obtain ⟨q0, q1, q2, q3⟩ := flatT_at l i (by omega)
      rw [Nat.zero_add]
      exact ⟨by rw [World.ownsRow.cellAt h _ (by omega)]; exact q0, by rw [World.ownsRow.cellAt h _ (by omega)]; exact q1, by rw [World.ownsRow.cellAt h _ (by omega)]; exact q2, by rw [World.ownsRow.cellAt h _ (by omega)]; exact q3⟩
theorem Try.infoRt : (Try.prog.info? 49).map (fun i => (i.zero, i.size, i.bytes)) = some (some (.agg #[.int .i64 0, .int .i64 0, .int .u64 0, .int .i64 0]), 4, 32) := by kernel_rfl
/-- Some timers are appended to such a row of the call's own: an equation. -/
theorem appT {base : Nat} {w : World} {v : Value} {l m : List Tm} (h : w.ownsRow base 49 4 v l.length (flatT l)) (hb : base ≤ w.heap.size) {a : Option Addr} {n c : Nat} {E : TypeId} (hm : TsAt E w a n c m) (hl : l.length + n ≤ 100000) (ty : TypeId) :
    ∃ v' w', (Builtin.append_ #[25, 25] ty #[v, .slice a n c]).run Try.prog w = .ok v' w' ∧ w'.ownsRow base 49 4 v' (l ++ m).length (flatT (l ++ m)) ∧ Below base w w' ∧ (∀ k, k < w.heap.size → v.ownBlock ≠ some k → w'.heap[k]? = w.heap[k]?) ∧ w.heap.size ≤ w'.heap.size ∧ w'.os = w.os ∧ w'.tape = w.tape ∧ w'.output = w.output := by
  obtain ⟨j0, ji, jz0, jz1, jz2⟩ := Go.info_parts Try.infoRt
  have hs := hm.size
  cases a with
  | none =>
    obtain ⟨rfl, rfl⟩ := hm.bare rfl
    obtain rfl : m = [] := List.eq_nil_of_length_eq_zero hs
    refine ⟨v, w, run_append_owned_none (P := Try.prog) w base 25 ty 49 j0 4 Try.underlying25 ji v _ _ h, by simpa using h, Below.refl _ _, fun _ _ _ => rfl, Nat.le_refl _, rfl, rfl, rfl⟩
  | some ad =>
    obtain ⟨v', w', h1, h2, h3, _⟩ := run_append_own (P := Try.prog) w base 25 ty 49 j0 (.agg #[.int .i64 0, .int .i64 0, .int .u64 0, .int .i64 0]) 4 32 Try.underlying25 ji jz0 jz1 jz2 rfl (by decide) v l.length _ h ad n c (flatT m) (by rw [flatT_len, hs]) (hm.news rfl) (flatT_one m) (by unfold maxLen; omega) (by omega) hb
    refine ⟨v', w', h1, ?_, (Below.refl base w).grown h3 hb fun g hg => (h.lt g hg).1, fun k hk hne => h3.block k hk fun e => hne e.symm, h3.size, h3.os, h3.tape, h3.output⟩
    rw [List.length_append, flatT_app, hs]
    exact h2
theorem cutT_to {E : TypeId} {W0 : World} {a : Option Addr} {len cap : Nat} {l : List Tm} (h : TsAt E W0 a len cap l) {m : Nat} (hm : m ≤ len) (W : World) :
    (Instr.sliceAt 25 (.slice a len cap) none (some (.int .i64 (m : Int))) none).run Try.prog W = .ok (.slice a m cap) W := by
  obtain ⟨j0, ji, jz0, jz1, jz2⟩ := Go.info_parts Try.infoRt
  have hr := h.room
  have hms := h.most
  have h1 : (Instr.sliceBound (.int .i64 (m : Int)) cap .sliceAcap).run Try.prog W = .ok m W := by
    rw [run_sliceBound W .i64 (m : Int) cap _ (by omega) (by omega)]; simp
  cases a with
  | none =>
    obtain ⟨rfl, rfl⟩ := h.bare rfl
    obtain rfl : m = 0 := by omega
    simp [Instr.sliceAt, Instr.slice, run_underlying Try.underlying25, Instr.sliceBounds, h1, sizeOf, typeInfo, ji, Addr.add] at h1 ⊢
  | some ad =>
    obtain ⟨hs, _⟩ := h.ty ad rfl
    obtain ⟨b, off, sp⟩ := ad
    simp only at hs
    subst hs
    simp [Instr.sliceAt, Instr.slice, run_underlying Try.underlying25, Instr.sliceBounds, h1, sizeOf, typeInfo, ji, Addr.add]
theorem cutT_from {E : TypeId} {W0 : World} {a : Option Addr} {len cap : Nat} {l : List Tm} (h : TsAt E W0 a len cap l) {m : Nat} (hm : m ≤ len) : ∃ A : Option Addr,
    (∀ W : World, (Instr.sliceAt 25 (.slice a len cap) (some (.int .i64 (m : Int))) none none).run Try.prog W = .ok (.slice A (len - m) (cap - m)) W) ∧
    (∀ W : World, TsAt E W a len cap l → TsAt E W A (len - m) (cap - m) (l.drop m)) ∧ ∀ ad, A = some ad → ∃ b, a = some b ∧ ad.block = b.block := by
  obtain ⟨j0, ji, jz0, jz1, jz2⟩ := Go.info_parts Try.infoRt
  have hr := h.room
  have hms := h.most
  have h1 : ∀ W : World, (Instr.sliceBound (.int .i64 (m : Int)) len .sliceB).run Try.prog W = .ok m W := fun W => by
    rw [run_sliceBound W .i64 (m : Int) len _ (by omega) (by omega)]; congr 1
  cases a with
  | none =>
    obtain ⟨rfl, rfl⟩ := h.bare rfl
    obtain rfl : m = 0 := by omega
    refine ⟨none, fun W => ?_, fun W h' => by simpa using h', fun ad e => by cases e⟩
    have h1' := h1 W
    simp [Instr.sliceAt, Instr.slice, run_underlying Try.underlying25, Instr.sliceBounds, sizeOf, typeInfo, ji, Addr.add] at h1' ⊢
    simp [h1']
  | some ad =>
    obtain ⟨hs, _⟩ := h.ty ad rfl
    obtain ⟨b, off, sp⟩ := ad
    simp only at hs
    subst hs
    refine ⟨if cap = m then some ⟨b, off, none⟩ else some ⟨b, off + m * 4, none⟩, fun W => ?_, fun W h' => ?_, fun ad e => ?_⟩
    · by_cases c1 : cap = m
      · subst c1
        simp [Instr.sliceAt, Instr.slice, run_underlying Try.underlying25, Instr.sliceBounds, h1, sizeOf, typeInfo, ji, jz1, Addr.add]
      · simp [Instr.sliceAt, Instr.slice, run_underlying Try.underlying25, Instr.sliceBounds, h1, sizeOf, typeInfo, ji, jz1, Addr.add, c1]
        try (by_cases c2 : m = 0 <;> simp [c2])
    · refine ⟨by rw [List.length_drop, h'.size], by omega, by omega, (fun e => by split at e <;> cases e), fun ad e => ?_, fun i hi => ?_⟩
      · obtain ⟨_, cur, fr, hc⟩ := h'.ty _ rfl
        split at e <;> (cases e; exact ⟨rfl, cur, fr, hc⟩)
      · rw [if_neg (by omega)]
        obtain ⟨b', off', e, hc⟩ := h'.cell (m + i) (by omega)
        cases e
        refine ⟨b, off + m * 4, rfl, ?_⟩
        have : tk (l.drop m) i = tk l (m + i) := by unfold tk; rw [List.getElem?_drop]
        rw [this, show off + m * 4 + i * 4 = off + (m + i) * 4 by omega]
        exact hc
    · split at e <;> (cases e; exact ⟨_, rfl, rfl⟩)
/-- The rest of a list, from a place on, as the walk writes its address. -/
theorem TsAt.drop {E : TypeId} {W : World} {b off len cap : Nat} {l : List Tm} (h' : TsAt E W (some ⟨b, off, none⟩) len cap l) {m : Nat} (hm : m ≤ len) : TsAt E W (if cap = m then some ⟨b, off, none⟩ else some ⟨b, off + m * 4, none⟩) (len - m) (cap - m) (l.drop m) := by
  have hr := h'.room
  have hms := h'.most
  refine ⟨by rw [List.length_drop, h'.size], by omega, by omega, (fun e => by split at e <;> cases e), fun ad e => ?_, fun i hi => ?_⟩
  · obtain ⟨_, cur, fr, hc⟩ := h'.ty _ rfl
    split at e <;> (cases e; exact ⟨rfl, cur, fr, hc⟩)
  · rw [if_neg (by omega)]
    obtain ⟨b', off', e, hc⟩ := h'.cell (m + i) (by omega)
    cases e
    refine ⟨b, off + m * 4, rfl, ?_⟩
    have : tk (l.drop m) i = tk l (m + i) := by unfold tk; rw [List.getElem?_drop]
    rw [this, show off + m * 4 + i * 4 = off + (m + i) * 4 by omega]
    exact hc
/-- The document's wheel. -/
structure RwAt (W : World) (B : Nat) (T last : Int) (a : Option Addr) (len cap : Nat) (L : List Tm) : Prop where
  obj : W.heap[B]? = some (.cells #[.int .i64 T, .int .i64 last, .slice a len cap] 27 (0, 0))
  lst : TsAt 49 W a len cap L
  few : len ≤ 5000
theorem RwAt.below {W W' : World} {B : Nat} {T last : Int} {a : Option Addr} {len cap : Nat} {L : List Tm} (h : RwAt W B T last a len cap L) (hb : Below W.heap.size W W') : RwAt W' B T last a len cap L := ⟨block_bel h.obj hb, h.lst.below hb, h.few⟩
theorem RwAt.cells {W : World} {B : Nat} {T last : Int} {a : Option Addr} {len cap : Nat} {L : List Tm} (h : RwAt W B T last a len cap L) : W.cell? ⟨B, 0, none⟩ = some (.int .i64 T) ∧ W.cell? ⟨B, 1, none⟩ = some (.int .i64 last) ∧ W.cell? ⟨B, 2, none⟩ = some (.slice a len cap) :=
  ⟨by rw [cell_of_row _ _ _ _ _ _ h.obj]; rfl, by rw [cell_of_row _ _ _ _ _ _ h.obj]; rfl, by rw [cell_of_row _ _ _ _ _ _ h.obj]; rfl⟩
/-- What a call leaves: the wheel, and which blocks may have been turned. -/
def RwO (W : World) (B : Nat) (T last : Int) (L : List Tm) (W' : World) : Prop := (∃ a len cap, RwAt W' B T last a len cap L) ∧ Fb (at1 B) W W'
theorem RwAt.time {W : World} {B : Nat} {T last : Int} {a : Option Addr} {len cap : Nat} {L : List Tm} (h : RwAt W B T last a len cap L) (t : Int) : RwAt (W.setCell ⟨B, 0, none⟩ (.int .i64 t)) B t last a len cap L := by
  refine ⟨row_set h.obj, h.lst.fb (Fb.set (F := at1 B) (p := ⟨B, 0, none⟩) rfl _) fun k cur fr hk hc => ?_, h.few⟩
  have e : k = B := hk
  subst e
  rw [h.obj] at hc
  simp at hc
theorem RwAt.num {W : World} {B : Nat} {T last : Int} {a : Option Addr} {len cap : Nat} {L : List Tm} (h : RwAt W B T last a len cap L) (t : Int) : RwAt (W.setCell ⟨B, 1, none⟩ (.int .i64 t)) B T t a len cap L := by
  refine ⟨row_set h.obj, h.lst.fb (Fb.set (F := at1 B) (p := ⟨B, 1, none⟩) rfl _) fun k cur fr hk hc => ?_, h.few⟩
  have e : k = B := hk
  subst e
  rw [h.obj] at hc
  simp at hc
theorem RwAt.list {W W' : World} {B : Nat} {T last : Int} {a a' : Option Addr} {len cap len' cap' : Nat} {L L' : List Tm} (h : RwAt W B T last a len cap L) (hb : Below W.heap.size W W') (hl : TsAt 49 W' a' len' cap' L') (hf : len' ≤ 5000) : RwAt (W'.setCell ⟨B, 2, none⟩ (.slice a' len' cap')) B T last a' len' cap' L' := by
  have h' := h.below hb
  refine ⟨row_set h'.obj, hl.fb (Fb.set (F := at1 B) (p := ⟨B, 2, none⟩) rfl _) fun k cur fr hk hc => ?_, hf⟩
  have e : k = B := hk
  subst e
  rw [h'.obj] at hc
  simp at hc
end Go.Proofs.Ytdfbnfgemjljgaa
