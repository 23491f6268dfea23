/-
  A tree beside the statements' steps.
-/
import Derived.Test.YtdchoegaindnbaaPtLaw
namespace Go.Proofs.Ytdchoegaindnbaa
open Go.RowKit Go.Maps Go.Shelf
set_option linter.unusedVariables false
set_option maxRecDepth 1000000

/-- A tree that is newer than the statement's arguments. -/
structure PtS (w : World) (B room size M : Nat) (T : Int) (L : List Mk) (W : World) : Prop where
  tr : TrAt W B room size M T L
  lo : ∀ k, trF B M L k → w.heap.size ≤ k
  bel : Below w.heap.size w W
theorem PtS.below {w : World} {B room size M : Nat} {T : Int} {L : List Mk} {W W' : World} (h : PtS w B room size M T L W) (hb : Below W.heap.size W W') : PtS w B room size M T L W' := ⟨h.tr.below hb, h.lo, h.bel.trans (hb.mono h.bel.size)⟩
theorem PtS.step {w : World} {B room size M : Nat} {T T' : Int} {L L' : List Mk} {W W' : World} (h : PtS w B room size M T L W) (ho : TrO W B room size M L T' L' W') : PtS w B room size M T' L' W' := by
  refine ⟨ho.1, ?_, h.bel.trans (ho.2.1.to h.lo h.bel.size)⟩
  rintro k (rfl | rfl | ⟨m, hm, rfl⟩)
  · exact h.lo _ (.inl rfl)
  · exact h.lo _ (.inr (.inl rfl))
  · rcases ho.2.2 m hm with ⟨x, hx, e⟩ | h1
    · rw [← e]; exact h.lo _ (.inr (.inr ⟨x, hx, rfl⟩))
    · exact Nat.le_trans h.bel.size h1
/-- What lay there ahead lies apart from the tree. -/
theorem PtS.aft {w : World} {B room size M : Nat} {T : Int} {L : List Mk} {W : World} (h : PtS w B room size M T L W) {a : Option Addr} {len cap : Nat} {ts : List Int} (hr : Reads .i64 w a len cap ts) {n : Nat} (hn : n ≤ len) : Aft n a (trF B M L) := fun h0 ad e hF => by
  obtain ⟨b, off, e2, hc⟩ := hr.cell 0 (by omega)
  rw [e] at e2
  cases e2
  have h1 := World.block_lt_of_cell? _ _ hc
  have h2 := h.lo _ hF
  simp at h1 h2
  omega
/-- And a step's own block. -/
structure PtG (w : World) (B room size M : Nat) (T : Int) (L : List Mk) (sb : Nat) (kd : Int) (ap : Option Addr) (lp cp : Nat) (rp : Int) (W : World) : Prop where
  st : PtS w B room size M T L W
  blk : W.heap[sb]? = some (.cells #[.int .u8 kd, .slice ap lp cp, .int .u64 rp] 35 (0, 0))
  off : ¬ trF B M L sb
theorem PtG.below {w : World} {B room size M : Nat} {T : Int} {L : List Mk} {sb : Nat} {kd : Int} {ap : Option Addr} {lp cp : Nat} {rp : Int} {W W' : World} (h : PtG w B room size M T L sb kd ap lp cp rp W) (hb : Below W.heap.size W W') : PtG w B room size M T L sb kd ap lp cp rp W' :=
  ⟨h.st.below hb, (hb.block _ (lt_of_block h.blk)).trans h.blk, h.off⟩
theorem PtG.step {w : World} {B room size M : Nat} {T T' : Int} {L L' : List Mk} {sb : Nat} {kd : Int} {ap : Option Addr} {lp cp : Nat} {rp : Int} {W W' : World} (h : PtG w B room size M T L sb kd ap lp cp rp W) (ho : TrO W B room size M L T' L' W') : PtG w B room size M T' L' sb kd ap lp cp rp W' := by
  refine ⟨h.st.step ho, ho.2.1.one h.blk h.off, ?_⟩
  rintro (e | e | ⟨m, hm, e⟩)
  · exact h.off (.inl e)
  · exact h.off (.inr (.inl e))
  · rcases ho.2.2 m hm with ⟨x, hx, e2⟩ | h1
    · exact h.off (.inr (.inr ⟨x, hx, by rw [e2, e]⟩))
    · have := lt_of_block h.blk; omega
theorem PtG.new {w : World} {B room size M : Nat} {T : Int} {L : List Mk} {W W' : World} (h : PtS w B room size M T L W) {kd : Int} {ap : Option Addr} {lp cp : Nat} {rp : Int} (hW : W' = W.alloc (.cells #[.int .u8 kd, .slice ap lp cp, .int .u64 rp] 35)) : PtG w B room size M T L W.heap.size kd ap lp cp rp W' := by
  subst hW
  exact ⟨h.below ((Below.refl _ _).alloc (Nat.le_refl _) _), heap_alloc_new W _, fun hF => Nat.lt_irrefl _ (h.tr.lts hF)⟩
theorem PtG.cells {w : World} {B room size M : Nat} {T : Int} {L : List Mk} {sb : Nat} {kd : Int} {ap : Option Addr} {lp cp : Nat} {rp : Int} {W : World} (h : PtG w B room size M T L sb kd ap lp cp rp W) : W.cell? ⟨sb, 0, none⟩ = some (.int .u8 kd) ∧ W.cell? ⟨sb, 1, none⟩ = some (.slice ap lp cp) ∧ W.cell? ⟨sb, 2, none⟩ = some (.int .u64 rp) :=
  ⟨by rw [cell_of_row _ _ _ _ _ _ h.blk]; rfl, by rw [cell_of_row _ _ _ _ _ _ h.blk]; rfl, by rw [cell_of_row _ _ _ _ _ _ h.blk]; rfl⟩
theorem PtG.drew {w : World} {B room size M : Nat} {T : Int} {L : List Mk} {sb : Nat} {kd : Int} {ap : Option Addr} {lp cp : Nat} {rp : Int} {W : World} (h : PtG w B room size M T L sb kd ap lp cp rp W) : PtG w B room size M T L sb kd ap lp cp rp W.drew := h.below (Below.refl _ _).drew
/-- A step's text. -/
def Sp.txt (s : Sp) : List Int := s.ts.take (min s.lp 40)
theorem Sp.txt_len {w : World} {s : Sp} (h : SpIn w s) : s.txt.length = min s.lp 40 := by
  unfold Sp.txt
  rw [List.length_take, h.rd.size]
  omega
theorem SpIn.txt {w : World} {s : Sp} (h : SpIn w s) : Reads .i64 w s.ap (min s.lp 40) s.cp s.txt := h.rd.cut (by omega)
theorem SpIn.txtIs {w : World} {s : Sp} (h : SpIn w s) : isIs s.txt := fun y hy => h.is y (List.mem_of_mem_take hy)
/-- The step at a place. -/
theorem Lst.at {w : World} {a : Option Addr} {len cap : Nat} {xs : List Sp} (h : Lst w a len cap 3 xs SpV (fun s => SpIn w s)) {i : Nat} (hi : i < len) : ∃ b off s, a = some ⟨b, off, none⟩ ∧ xs[i]? = some s ∧ SpIn w s ∧ w.cell? ⟨b, off + i * 3, none⟩ = some (.int .u8 s.kd) ∧ w.cell? ⟨b, off + i * 3 + 1, none⟩ = some (.slice s.ap s.lp s.cp) ∧ w.cell? ⟨b, off + i * 3 + 2, none⟩ = some (.int .u64 s.rep) := by
  have hx : i < xs.length := by rw [h.size]; exact hi
  obtain ⟨b, off, e, hc⟩ := h.cell i hx
  exact ⟨b, off, xs[i], e, List.getElem?_eq_getElem hx, h.inn i hx, hc 0 (by omega), hc 1 (by omega), hc 2 (by omega)⟩
theorem mem_take_succ {α : Type} {xs : List α} {k : Nat} {s : α} (h : xs[k]? = some s) {x : α} : x ∈ xs.take (k + 1) ↔ x ∈ xs.take k ∨ x = s := by
  rw [List.take_add_one, h]
  simp
/-- Without letting go, a Put keeps all marks and puts in all beginnings. -/
theorem put_plain {L : List Mk} (hok : ∀ m ∈ L, m.ok) {x : Int} {ts : List Int} (hx : isU x) (hi : isIs ts) {room size : Nat} (hs : 1 ≤ size) {T : Int} {c : Nat} {L' : List Mk} (hl : ts.length ≤ room * size) (hlen : L.length + ts.length / size ≤ room) (h : PutS L x ts room size T c L') :
    L'.length ≤ L.length + ts.length / size ∧ (∀ m ∈ L, ∃ m' ∈ L', m'.rep = m.rep ∧ m'.toks = m.toks) ∧ ∀ j, (j + 1) * size ≤ ts.length → ∃ m' ∈ L', m'.rep = x ∧ m'.toks = ts.take ((j + 1) * size) := by
  obtain ⟨L2, Fr, h1, h2, h3, rfl⟩ := h
  rw [List.take_of_length_le hl, Nat.min_eq_left hl] at h1 h3
  have hc : c ≤ ts.length / size := by
    rw [← h2, ← List.length_map (f := Mk.toks), h1.tks, List.length_map]
    unfold frJ
    have := List.length_filter_le (fun j => !hasM L x (bgT ts size j)) (List.range (ts.length / size))
    simpa using this
  have e2 : L2 = useK L x ts size (ts.length / size) T := by
    have hz : L.length + c - room = 0 := by omega
    rw [hz] at h3
    rcases h3 with ⟨_, e⟩ | ⟨R, _, _, e⟩
    · exact e
    · rw [e]; rfl
  have hk : ∀ m ∈ L, ∃ m' ∈ L2, m'.rep = m.rep ∧ m'.toks = m.toks := fun m hm => by
    rw [e2]
    refine ⟨_, List.mem_map.2 ⟨m, hm, rfl⟩, ?_⟩
    split <;> exact ⟨rfl, rfl⟩
  refine ⟨?_, fun m hm => ?_, fun j hj => ?_⟩
  · rw [List.length_append, h2, e2, useK_len]; omega
  · obtain ⟨m', hm', e⟩ := hk m hm
    exact ⟨m', List.mem_append_left _ hm', e⟩
  · have hjK : j < ts.length / size := by
      rw [Nat.lt_iff_add_one_le, Nat.le_div_iff_mul_le (by omega)]
      exact hj
    by_cases hh : hasM L x (bgT ts size j) = true
    · obtain ⟨m, hm, e3, e4⟩ := (hasM_iff hok hx (fun y hy => hi y (List.mem_of_mem_take hy))).1 hh
      obtain ⟨m', hm', e5, e6⟩ := hk m hm
      exact ⟨m', List.mem_append_left _ hm', by rw [e5, e3], by rw [e6, e4]⟩
    · have hj2 : j ∈ frJ L x ts size (ts.length / size) := List.mem_filter.2 ⟨List.mem_range.2 hjK, by simpa using hh⟩
      have h5 : bgT ts size j ∈ Fr.map Mk.toks := by rw [h1.tks]; exact List.mem_map_of_mem hj2
      obtain ⟨m, hm, e3⟩ := List.mem_map.1 h5
      exact ⟨m, List.mem_append_right _ hm, h1.rep m hm, e3⟩
/-- All beginnings of these steps' texts are there. -/
def FgA (xs : List Sp) (L : List Mk) : Prop := ∀ s ∈ xs, ∀ j, (j + 1) * 2 ≤ s.txt.length → ∃ m ∈ L, m.rep = s.rep ∧ m.toks = s.txt.take ((j + 1) * 2)
theorem FgA.put {xs : List Sp} {k : Nat} {s : Sp} (hs : xs[k]? = some s) {L L' : List Mk} (h : FgA (xs.take k) L) (h1 : ∀ m ∈ L, ∃ m' ∈ L', m'.rep = m.rep ∧ m'.toks = m.toks) (h2 : ∀ j, (j + 1) * 2 ≤ s.txt.length → ∃ m' ∈ L', m'.rep = s.rep ∧ m'.toks = s.txt.take ((j + 1) * 2)) : FgA (xs.take (k + 1)) L' := fun x hx j hj => by
  rcases (mem_take_succ hs).1 hx with hx | rfl
  · obtain ⟨m, hm, e1, e2⟩ := h x hx j hj
    obtain ⟨m', hm', e3, e4⟩ := h1 m hm
    exact ⟨m', hm', by rw [e3, e1], by rw [e4, e2]⟩
  · exact h2 j hj
/-- Those of the other replicas, and none of this one. -/
def FgB (xs : List Sp) (x : Int) (L : List Mk) : Prop := (∀ s ∈ xs, s.rep ≠ x → ∀ j, (j + 1) * 2 ≤ s.txt.length → ∃ m ∈ L, m.rep = s.rep ∧ m.toks = s.txt.take ((j + 1) * 2)) ∧ ∀ m ∈ L, m.rep ≠ x
theorem FgA.forget {xs : List Sp} {L : List Mk} (h : FgA xs L) (x : Int) : FgB xs x (forL L x) := by
  refine ⟨fun s hs hx j hj => ?_, fun m hm => by simpa using (List.mem_filter.1 hm).2⟩
  obtain ⟨m, hm, e1, e2⟩ := h s hs j hj
  exact ⟨m, List.mem_filter.2 ⟨hm, by simpa [e1] using hx⟩, e1, e2⟩
theorem forL_two (L : List Mk) (x : Int) : forL (forL L x) x = forL L x := by
  unfold forL
  rw [List.filter_filter]
  simp
theorem forL_le (L : List Mk) (x : Int) : (forL L x).length ≤ L.length := List.length_filter_le _ _
theorem FgB.use {xs : List Sp} {x : Int} {L : List Mk} (h : FgB xs x L) (ts : List Int) (T : Int) : FgB xs x (useL L ts T) := by
  have hk : ∀ m ∈ L, ∃ m' ∈ useL L ts T, m'.rep = m.rep ∧ m'.toks = m.toks := fun m hm => by
    refine ⟨_, List.mem_map.2 ⟨m, hm, rfl⟩, ?_⟩
    split <;> exact ⟨rfl, rfl⟩
  refine ⟨fun s hs hx j hj => ?_, fun m hm => ?_⟩
  · obtain ⟨m, hm, e1, e2⟩ := h.1 s hs hx j hj
    obtain ⟨m', hm', e3, e4⟩ := hk m hm
    exact ⟨m', hm', by rw [e3, e1], by rw [e4, e2]⟩
  · obtain ⟨y, hy, rfl⟩ := List.mem_map.1 hm
    split
    · exact h.2 y hy
    · exact h.2 y hy
theorem FgB.has {xs : List Sp} {x : Int} {L : List Mk} (h : FgB xs x L) (hok : ∀ m ∈ L, m.ok) {w : World} {s : Sp} (hs : s ∈ xs) (hi : SpIn w s) {j : Nat} (hj : (j + 1) * 2 ≤ s.txt.length) : hasM L s.rep (s.txt.take ((j + 1) * 2)) = decide (s.rep ≠ x) := by
  have h1 := hasM_iff (L := L) hok hi.rep (ts := s.txt.take ((j + 1) * 2)) (fun y hy => hi.txtIs y (List.mem_of_mem_take hy))
  by_cases e : s.rep = x
  · have h2 : ¬ hasM L s.rep (s.txt.take ((j + 1) * 2)) = true := fun h3 => by
      obtain ⟨m, hm, e1, _⟩ := h1.1 h3
      exact h.2 m hm (by rw [e1, e])
    simp [e] at h2 ⊢
    exact h2
  · rw [h1.2 (h.1 s hs e j hj)]
    simp [e]
theorem FgB.not {xs : List Sp} {x : Int} {L : List Mk} (h : FgB xs x L) {ts : List Int} {K : List Int} {f : Int → Int} (hl : LgP (L.filter fun m => decide (m.toks <+: ts)) K f) : x ∉ K := fun hx => by
  obtain ⟨m, hm, e⟩ := (hl x).2.2.1 hx
  exact h.2 m (List.mem_filter.1 hm).1 e
end Go.Proofs.Ytdchoegaindnbaa
