/-
  Contracts: the queue's Push and Pop.
-/
import Derived.Test.YtdfbnfgemjljgaaWqDown
import Derived.Maps.AppendAt
namespace Go.Proofs.Ytdfbnfgemjljgaa
open Go.RowKit Go.Maps
set_option linter.unusedVariables false
set_option maxRecDepth 1000000

/-- A queue's slice (it may have no row yet), and the timers' blocks. -/
structure QvAt (v : Value) (ms : List Qe) (W : World) : Prop where
  own : W.ownsRow 0 62 1 v ms.length (ptsQ ms)
  els : ∀ i : Nat, i < ms.length → QbAt W (gq ms i) (i : Int)
  nd : NdQ ms
def frV (v : Value) (ms : List Qe) (k : Nat) : Prop := v.ownBlock = some k ∨ ∃ q ∈ ms, q.blk = k
theorem QrAt.v {g cap : Nat} {ms : List Qe} {W : World} (h : QrAt g cap ms W) : QvAt (.slice (some ⟨g, 0, none⟩) ms.length cap) ms W := ⟨h.own, h.els, h.nd⟩
theorem frV_fr {g n cap : Nat} {ms : List Qe} {k : Nat} : frV (.slice (some ⟨g, 0, none⟩) n cap) ms k ↔ frQ g ms k := by
  unfold frV frQ
  constructor
  · rintro (h | h)
    · cases h; exact .inl rfl
    · exact .inr h
  · rintro (h | h)
    · subst h; exact .inl rfl
    · exact .inr h
/-- Its form. -/
theorem QvAt.form {v : Value} {ms : List Qe} {W : World} (h : QvAt v ms W) : (v = .slice none 0 0 ∧ ms = []) ∨ ∃ g cap, v = .slice (some ⟨g, 0, none⟩) ms.length cap ∧ QrAt g cap ms W := by
  rcases id h.own.2 with ⟨hv, h'⟩ | ⟨g, cap, cur, hv, hB, hg, rest⟩
  · exact .inl ⟨hv, List.eq_nil_of_length_eq_zero h'⟩
  · exact .inr ⟨g, cap, hv, ⟨hv ▸ h.own, h.els, h.nd⟩⟩
theorem len_q (ty : TypeId) (a : Option Addr) (n c : Nat) (W : World) : (Builtin.len_ #[56] ty #[.slice a n c]).run Try.prog W = .ok (.int .i64 n) W := by
  simp [Builtin.len_, run_underlying Try.underlying56, goInt]
theorem QvAt.len {v : Value} {ms : List Qe} {W : World} (h : QvAt v ms W) (ty : TypeId) (W' : World) : (Builtin.len_ #[56] ty #[v]).run Try.prog W' = .ok (.int .i64 ms.length) W' := by
  rcases h.form with ⟨rfl, rfl⟩ | ⟨g, cap, rfl, _⟩
  · exact len_q ty none 0 0 W'
  · exact len_q ty _ _ _ W'
theorem QvAt.lts {v : Value} {ms : List Qe} {W : World} (h : QvAt v ms W) {k : Nat} (hk : frV v ms k) : k < W.heap.size := by
  rcases hk with e | ⟨q, hq, rfl⟩
  · obtain ⟨_, cur, hc⟩ := own_blkP h.own e; exact lt_of_block hc
  · obtain ⟨i, hi, rfl⟩ := mem_gq hq
    exact (h.els i hi).lt
theorem QvAt.same {v : Value} {ms : List Qe} {W W' : World} (h : QvAt v ms W) (hb : ∀ k, frV v ms k → W'.heap[k]? = W.heap[k]?) : QvAt v ms W' :=
  ⟨own_blk h.own fun b e => hb _ (.inl e), fun i hi => (h.els i hi).same (hb _ (.inr ⟨_, gq_mem hi, rfl⟩)), h.nd⟩
theorem QvAt.below {v : Value} {ms : List Qe} {W W' : World} (h : QvAt v ms W) (hb : Below W.heap.size W W') : QvAt v ms W' := h.same fun k hk => hb.block _ (h.lts hk)
theorem QvAt.fb {F : Nat → Prop} {v : Value} {ms : List Qe} {W W' : World} (h : QvAt v ms W) (hb : Fb F W W') (hF : ∀ k, frV v ms k → ¬ F k) : QvAt v ms W' := h.same fun k hk => hb.block _ (h.lts hk) (hF k hk)
theorem QvAt.nB {v : Value} {ms : List Qe} {W : World} (h : QvAt v ms W) {B : Nat} {T last : Int} {v' : Value} {M : Nat} (hB : WB W B T last v' M) : ¬ frV v ms B := by
  rintro (e | ⟨q, hq, e⟩)
  · obtain ⟨_, cur, hc⟩ := own_blkP h.own e
    exact hB.ty hc (by decide) rfl
  · obtain ⟨i, hi, rfl⟩ := mem_gq hq
    exact hB.ty (h.els i hi) (by decide) e
theorem QvAt.nq {v : Value} {ms : List Qe} {W : World} (h : QvAt v ms W) {q : Qe} {z : Int} (hq : QbAt W q z) : v.ownBlock ≠ some q.blk := fun e => by
  obtain ⟨_, cur, hc⟩ := own_blkP h.own e
  unfold QbAt at hq
  rw [hc] at hq
  simp at hq
theorem QbAt.nB {q : Qe} {z : Int} {W : World} (h : QbAt W q z) {B : Nat} {T last : Int} {v' : Value} {M : Nat} (hB : WB W B T last v' M) : q.blk ≠ B := hB.ty h (by decide)
/-- An element as a value of an interface. -/
abbrev ivq (b : Nat) : Value := .iface 62 (.pointer (some ⟨b, 0, none⟩))
theorem assert_q (b : Nat) (W : World) : (Instr.typeAssert (ivq b) 20 62 false).run Try.prog W = .ok (.pointer (some ⟨b, 0, none⟩)) W := by kernel_rfl
theorem Try.info62 : (Try.prog.info? 62).map (fun i => (i.zero, i.size, i.bytes)) = some (some (.pointer none), 1, 8) := by kernel_rfl
theorem ptsQ_app (ms : List Qe) (q : Qe) : ptsQ (ms ++ [q]) = ptsQ ms ++ [ptQ q.blk] := by simp [ptsQ]
/-- What Push leaves. -/
theorem wpush_end {B : Nat} {T last : Int} {M : Nat} {v v5 : Value} {ms : List Qe} {q : Qe} {z : Int} {W W1 W2 w5 : World} (hB : WB W B T last v M) (hv : QvAt v ms W) (hq : QbAt W q z) (hn : ∀ p ∈ ms, p.blk ≠ q.blk)
    (h1 : W1 = W.setCell ⟨q.blk, 4, none⟩ (.int .i64 (ms.length : Int))) (h2 : W2 = W1.alloc (.cells #[ptQ q.blk] 62))
    (how : w5.ownsRow 0 62 1 v5 (ms.length + 1) (ptsQ ms ++ [ptQ q.blk])) (hgr : W2.grownBy w5 v.ownBlock) (hat : v5.ownBlock = v.ownBlock ∨ v5.ownBlock = some W2.heap.size) :
    WB w5 B T last v M ∧ ∃ g cap, v5 = .slice (some ⟨g, 0, none⟩) (ms.length + 1) cap ∧ WqAt B T last M g cap (ms ++ [q]) (w5.setCell ⟨B, 2, none⟩ v5) ∧ Fb (fun k => k = B ∨ frV v (ms ++ [q]) k) W (w5.setCell ⟨B, 2, none⟩ v5) ∧ (v.ownBlock = some g ∨ W.heap.size ≤ g) := by
  have f1 : Fb (at1 q.blk) W W1 := by rw [h1]; exact Fb.set (F := at1 q.blk) (p := ⟨q.blk, 4, none⟩) rfl _
  have f2 : Fb (at1 q.blk) W W2 := by rw [h2]; exact f1.alloc _
  have hs : W.heap.size ≤ W2.heap.size := f2.size
  have fb0 : Fb (fun k => v.ownBlock = some k) W2 w5 := ⟨hgr.os, hgr.tape, hgr.output, hgr.size, fun k hk hn => hgr.block k hk fun e => hn (by first | exact e | exact e.symm)⟩
  have hnq := hv.nq hq
  have hB2 : WB W2 B T last v M := f2.one hB fun e => hq.nB hB e.symm
  have hB5 : WB w5 B T last v M := fb0.one hB2 fun e => hv.nB hB (.inl e)
  refine ⟨hB5, ?_⟩
  have hq1 : QbAt W1 q (ms.length : Int) := by rw [h1]; exact hq.place _
  have hq2 : QbAt W2 q (ms.length : Int) := by rw [h2]; exact block_bel hq1 ((Below.refl _ _).alloc (Nat.le_refl _) _)
  have hq5 : QbAt w5 q (ms.length : Int) := fb0.one hq2 hnq
  have he5 : ∀ i : Nat, i < ms.length → QbAt w5 (gq ms i) (i : Int) := fun i hi => fb0.one (f2.one (hv.els i hi) fun e => hn _ (gq_mem hi) e) (hv.nq (hv.els i hi))
  have hl : (ms ++ [q]).length = ms.length + 1 := by simp
  rcases id how.2 with ⟨e, e0⟩ | ⟨g, cap, cur, e, hBg, hg, rest⟩
  · exact absurd e0 (by omega)
  · refine ⟨g, cap, e, ⟨?_, ?_, fun i hi => ?_, ?_⟩, ?_, ?_⟩
    · rw [hl, ← e]; exact hB5.queue _
    · rw [hl, ptsQ_app, ← e]
      refine own_blk how fun b eb => Below.heap_setCell _ _ _ _ (show b ≠ B from ?_)
      rw [e] at eb
      cases eb
      exact hB5.ty hg (by decide)
    · rw [hl] at hi
      by_cases e1 : i = ms.length
      · subst e1
        rw [gq_last]
        exact hq5.same (Below.heap_setCell _ _ _ _ (by exact hq.nB hB))
      · rw [gq_app (by omega)]
        exact (he5 i (by omega)).same (Below.heap_setCell _ _ _ _ (by exact (hv.els i (by omega)).nB hB))
    · unfold NdQ
      rw [List.map_append, List.map_singleton]
      refine List.nodup_append.2 ⟨hv.nd, by simp, fun a ha b hb => ?_⟩
      rw [List.mem_singleton.1 hb]
      obtain ⟨p, hp, rfl⟩ := List.mem_map.1 ha
      exact hn p hp
    · refine ((f2.mono (G := fun k => k = B ∨ frV v (ms ++ [q]) k) fun k hk => .inr (.inr ⟨q, by simp, hk.symm⟩)).trans fb0 fun k hk => .inl (.inr (.inl hk))).trans (Fb.set (F := fun k => k = B ∨ frV v (ms ++ [q]) k) (p := ⟨B, 2, none⟩) (.inl rfl) _) fun k hk => .inl hk
    · rcases hat with h3 | h3
      · left; rw [← h3, e]; rfl
      · right
        rw [e] at h3
        cases h3
        exact hs
set_option maxHeartbeats 2000000 in
theorem wpush_any {B : Nat} {T last : Int} {M : Nat} {v : Value} {ms : List Qe} {q : Qe} {z : Int} {w : World} (hB : WB w B T last v M) (hv : QvAt v ms w) (hq : QbAt w q z) (hn : ∀ p ∈ ms, p.blk ≠ q.blk) (hl : ms.length ≤ 4500) :
    Calls Try.prog 55 #[.pointer (some ⟨B, 2, none⟩), ivq q.blk] w fun e w' => e = .returned (.tuple #[]) ∧ Hid (∃ g cap, WqAt B T last M g cap (ms ++ [q]) w' ∧ Fb (fun k => k = B ∨ frV v (ms ++ [q]) k) w w' ∧ (v.ownBlock = some g ∨ w.heap.size ≤ g)) := by
  have cv := hB.cells.2.2.1
  have c4 := hq.cells.2.2.2.2
  have f4 := hq.frozen 4
  have hta := assert_q q.blk
  obtain ⟨i0, hi, hz0, hz1, hz2⟩ := info_parts Try.info62
  obtain ⟨W1, hW1⟩ : ∃ W1, W1 = w.setCell ⟨q.blk, 4, none⟩ (.int .i64 (ms.length : Int)) := ⟨_, rfl⟩
  obtain ⟨W2, hW2⟩ : ∃ W2, W2 = W1.alloc (.cells #[ptQ q.blk] 62) := ⟨_, rfl⟩
  have f1 : Fb (at1 q.blk) w W1 := by rw [hW1]; exact Fb.set (F := at1 q.blk) (p := ⟨q.blk, 4, none⟩) rfl _
  have f2 : Fb (at1 q.blk) w W2 := by rw [hW2]; exact f1.alloc _
  have HO : Hid (W2.ownsRow 0 62 1 v ms.length (ptsQ ms)) := own_blk hv.own fun b e => by
    obtain ⟨_, cur, hc⟩ := own_blkP hv.own e
    exact f2.block b (lt_of_block hc) fun e2 => hv.nq hq (by rw [e]; exact congrArg some e2)
  have hs1 : W1.heap.size = w.heap.size := by rw [hW1]; simp [World.setCell]
  have HCC : Hid (W2.heap[w.heap.size]? = some (.cells #[ptQ q.blk] 62 (0, 0))) := by unfold Hid; rw [hW2, ← hs1]; exact heap_alloc_new W1 _
  have HE : Hid (∀ v5 w5, w5.ownsRow 0 62 1 v5 (ms.length + 1) (ptsQ ms ++ [ptQ q.blk]) → W2.grownBy w5 v.ownBlock → (v5.ownBlock = v.ownBlock ∨ v5.ownBlock = some W2.heap.size) → _) := fun v5 w5 a b c => wpush_end hB hv hq hn hW1 hW2 a b c
  have cB1 : W1.cell? ⟨B, 2, none⟩ = some v := f1.cell (p := ⟨B, 2, none⟩) cv fun e => hq.nB hB (show q.blk = B from (show B = q.blk from e).symm)
  have hlen := hv.len
  clear hB hv hq hn f1 f2 hs1
  unfold ptQ at *
  generalize q.blk = qb at *
  go_enter Try.func55, Try.ntmps55
  go_wp2_with (at_builtin; (first | rw [← hW1] | skip); (first | rw [← hW2] | skip); refine wpList_append_own_at _ rfl (.tmp 17) (.tmp 19) 56 rfl 0 62 i0 (.pointer none) 1 8 Try.underlying56 hi hz0 hz1 hz2 rfl (by decide) _ ms.length _ rfl HO.out ⟨w.heap.size, 0, none⟩ 1 1 [.pointer (some ⟨qb, 0, none⟩)] rfl rfl (World.news_of_block HCC.out) (by intro u hu; simp at hu; subst hu; rfl) (by unfold maxLen; omega) (by omega) (Nat.zero_le _) ?_; intro v5 w5 how hgr _ hat; obtain ⟨hB5, g, cap, hv5, h5, hf5, hg5⟩ := HE.out v5 w5 how hgr hat; have HX := hid (And.intro h5 (And.intro hf5 hg5)); have c5 := hB5.cells.2.2.1; have f5 := hB5.frozen 2; clear how hgr hat HE HO HCC h5 hf5 hg5 hB5 cv cB1 c4 f4 hta hlen; subst hv5)
  go_wp2
  go_end0
  exact ⟨rfl, g, cap, HX.out.1, HX.out.2.1, HX.out.2.2⟩
theorem own_take {e : TypeId} {g n cap : Nat} {xs : List Value} {w : World} (h : w.ownsRow 0 e 1 (.slice (some ⟨g, 0, none⟩) (n + 1) cap) (n + 1) xs) : w.ownsRow 0 e 1 (.slice (some ⟨g, 0, none⟩) n cap) n (xs.take n) := by
  have hl := h.1
  refine ⟨by rw [List.length_take]; omega, ?_⟩
  rcases id h.2 with ⟨h', _⟩ | ⟨g', c, cur, hv, hB, hg, hnc, hm, hs, ht⟩
  · cases h'
  · cases hv
    refine .inr ⟨g, cap, cur, rfl, hB, hg, by omega, hm, hs, ?_⟩
    have e3 : cur.toList.take (n * 1) = ((cur.toList).take ((n + 1) * 1)).take n := by rw [List.take_take]; congr 1; omega
    rw [e3, ht]
/-- What Pop leaves. -/
theorem wpop_end {B : Nat} {T last : Int} {M g cap n : Nat} {ms : List Qe} {W W1 W2 : World} (h : WqAt B T last M g cap ms W) (hn : ms.length = n + 1) (h1 : W1 = W.setCell ⟨g, n, none⟩ (.pointer none)) (h2 : W2 = W1.setCell ⟨B, 2, none⟩ (.slice (some ⟨g, 0, none⟩) n cap)) :
    WB W1 B T last (.slice (some ⟨g, 0, none⟩) (n + 1) cap) M ∧ WqAt B T last M g cap (ms.take n) W2 ∧ Fb (fun k => k = B ∨ k = g) W W2 := by
  have f1 : Fb (at1 g) W W1 := by rw [h1]; exact Fb.set (F := at1 g) (p := ⟨g, n, none⟩) rfl _
  have hgB : g ≠ B := by obtain ⟨cur, hc⟩ := h.row.blk; exact h.var.ty hc (by decide)
  have hv := h.var
  rw [hn] at hv
  have hB1 : WB W1 B T last (.slice (some ⟨g, 0, none⟩) (n + 1) cap) M := f1.one hv fun e => hgB e.symm
  have f2 : Fb (at1 B) W1 W2 := by rw [h2]; exact Fb.set (F := at1 B) (p := ⟨B, 2, none⟩) rfl _
  have ho := (World.ownsRow.stored h.row.own n (.pointer none)).1
  rw [hn, ← h1] at ho
  have hl : (ms.take n).length = n := by rw [List.length_take]; omega
  have hp : ((ptsQ ms).set n (.pointer none)).take n = ptsQ (ms.take n) := by
    rw [List.take_set_of_le (Nat.le_refl _)]
    unfold ptsQ
    rw [List.map_take]
  refine ⟨hB1, ⟨by rw [hl, h2]; exact hB1.queue _, ?_, fun i hi => ?_, ?_⟩, (f1.mono fun x hx => .inr hx).trans f2 fun x hx => .inl (.inl hx)⟩
  · rw [hl, ← hp]
    refine own_blk (own_take ho) fun b e => ?_
    cases e
    exact f2.block g (by have := h.row.glt; have := f1.size; omega) hgB
  · rw [hl] at hi
    rw [gq_take hi]
    have he := h.row.els i (by omega)
    exact f2.one (f1.one he (h.row.ne (by omega))) (he.nB h.var)
  · unfold NdQ
    rw [List.map_take]
    exact (List.take_sublist _ _).nodup h.row.nd
theorem wpop_any {B : Nat} {T last : Int} {M g cap n : Nat} {ms : List Qe} {w : World} (h : WqAt B T last M g cap ms w) (hn : ms.length = n + 1) (hl : n ≤ 5000) :
    Calls Try.prog 54 #[.pointer (some ⟨B, 2, none⟩)] w fun e w' => e = .returned (ivq (gq ms n).blk) ∧ Hid (WqAt B T last M g cap (ms.take n) w' ∧ Fb (fun k => k = B ∨ k = g) w w') := by
  obtain ⟨W1, hW1⟩ : ∃ W1, W1 = w.setCell ⟨g, n, none⟩ (.pointer none) := ⟨_, rfl⟩
  obtain ⟨W2, hW2⟩ : ∃ W2, W2 = W1.setCell ⟨B, 2, none⟩ (.slice (some ⟨g, 0, none⟩) n cap) := ⟨_, rfl⟩
  obtain ⟨e1, e2, e3⟩ := wpop_end h hn hW1 hW2
  have HE := hid (And.intro e2 e3)
  have cv := h.cell
  have cn := h.row.cell (i := n) (by omega)
  have fn := h.row.frozen n
  have hro := h.row.room
  have c5 := e1.cells.2.2.1
  have f5 := e1.frozen 2
  rw [hn] at cv hro
  unfold ptQ at cn
  rw [hW1] at c5 f5
  clear e1 e2 e3 h hn
  generalize (gq ms n).blk = x at *
  go_enter Try.func54, Try.ntmps54
  go_wp2
  rw [← hW1, ← hW2]
  go_ret
  exact ⟨rfl, HE⟩
end Go.Proofs.Ytdfbnfgemjljgaa
