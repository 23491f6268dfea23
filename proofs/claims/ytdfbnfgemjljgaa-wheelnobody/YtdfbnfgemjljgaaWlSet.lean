/-
  Contracts: the wheel's add, what New and Set leave.
-/
import Derived.Test.YtdfbnfgemjljgaaWlAdd
import Derived.Deep.RegionHeld3
namespace Go.Proofs.Ytdfbnfgemjljgaa
open Go.RowKit Go.Maps
set_option linter.unusedVariables false
set_option maxRecDepth 1000000

theorem lkQ_app {L : List Qe} (x : Qe) (y : Int) (hx : lkQ L x.tm.num = none) : lkQ (L ++ [x]) y = if y = x.tm.num then some x.blk else lkQ L y := by
  induction L with
  | nil => by_cases e : y = x.tm.num <;> simp [lkQ, e]; exact fun h => absurd h.symm e
  | cons m L ih =>
    have h1 : m.tm.num ≠ x.tm.num := fun e => by simp [lkQ, e] at hx
    have h2 : lkQ L x.tm.num = none := by simpa [lkQ, h1] using hx
    rw [List.cons_append]
    by_cases e : m.tm.num = y
    · have e2 : ¬ y = x.tm.num := fun h => h1 (e.trans h)
      simp [lkQ, e, e2]
    · simp only [lkQ, if_neg e]
      exact ih h2
theorem NuQ.app {L : List Qe} (h : NuQ L) {x : Qe} (hx : ∀ q ∈ L, q.tm.num ≠ x.tm.num) : NuQ (L ++ [x]) := by
  unfold NuQ at *
  rw [List.map_append, List.map_singleton]
  refine List.nodup_append.2 ⟨h, by simp, fun a ha b hb => ?_⟩
  rw [List.mem_singleton.1 hb]
  obtain ⟨p, hp, rfl⟩ := List.mem_map.1 ha
  exact hx p hp
/-- What add leaves. -/
def AddO (W : World) (B : Nat) (T last : Int) (M : Nat) (v : Value) (ms : List Qe) (t : Tm) (W' : World) : Prop :=
  ∃ g cap ns b, ns.Perm (ms ++ [⟨b, t⟩]) ∧ W.heap.size ≤ b ∧ HeapQ ns ns.length ∧ WqAt B T last M g cap ns W' ∧ MqAt W' M ns ∧ Fb (wlF B M v ms) W W' ∧ (v.ownBlock = some g ∨ W.heap.size ≤ g)
set_option maxHeartbeats 4000000 in
theorem wadd_any {W : World} {B : Nat} {T last : Int} {M : Nat} {v : Value} {ms : List Qe} (hB : WB W B T last v M) (hm : MqAt W M ms) (hv : QvAt v ms W) (hH : HeapQ ms ms.length) (hl : ms.length ≤ 4096) (t : Tm) (hn : ∀ q ∈ ms, q.tm.num ≠ t.num) (ht : isI t.num) :
    Calls Try.prog 27 #[.pointer (some ⟨B, 0, none⟩), .agg #[.int .i64 t.num, .int .i64 t.kind, .int .u64 t.label, .int .i64 t.due]] W fun e w' => e = .returned (.tuple #[]) ∧ Hid (AddO W B T last M v ms t w') := by
  obtain ⟨W1, hW1⟩ : ∃ W1, W1 = W.alloc (.cells #[.int .i64 t.num, .int .i64 t.kind, .int .u64 t.label, .int .i64 t.due] 54) := ⟨_, rfl⟩
  obtain ⟨W2, hW2⟩ : ∃ W2, W2 = W1.alloc (.cells #[.int .i64 t.num, .int .i64 t.kind, .int .u64 t.label, .int .i64 t.due, .int .i64 0] 67) := ⟨_, rfl⟩
  have hs1 : W1.heap.size = W.heap.size + 1 := by rw [hW1]; simp
  have hb1 : Below W.heap.size W W1 := by rw [hW1]; exact (Below.refl _ _).alloc (Nat.le_refl _) _
  have hb2' : Below W1.heap.size W1 W2 := by rw [hW2]; exact (Below.refl _ _).alloc (Nat.le_refl _) _
  have hb2 : Below W.heap.size W W2 := hb1.trans (hb2'.mono hb1.size)
  have hx1 : W2.heap[W.heap.size]? = some (.cells #[.int .i64 t.num, .int .i64 t.kind, .int .u64 t.label, .int .i64 t.due] 54 (0, 0)) := block_bel (by rw [hW1]; exact heap_alloc_new W _) hb2'
  obtain ⟨b, hb⟩ : ∃ b, W.heap.size + 1 = b := ⟨_, rfl⟩
  have hx2 : QbAt W2 ⟨b, t⟩ 0 := by
    have := heap_alloc_new W1 (.cells #[.int .i64 t.num, .int .i64 t.kind, .int .u64 t.label, .int .i64 t.due, .int .i64 0] 67)
    rw [hs1, ← hW2, hb] at this
    exact this
  have hM2 : MqAt W2.drew M ms := (hm.below hb2).same rfl
  obtain ⟨W3, hst, hst2, hf3'⟩ := hM2.store (Nat.le_trans hl (by omega)) ht b
  have hf3 : Fb (at1 M) W2 W3 := ((Fb.refl (at1 M) W2).drew).trans hf3' fun x hx => .inl hx
  have hnM : ¬ at1 M B := fun e => hm.nB hB (show B = M from e)
  have hB3 : WB W3 B T last v M := hf3.one (block_bel hB hb2) hnM
  have hv3 : QvAt v ms W3 := (hv.below hb2).fb hf3 fun k hk e => hv.nM hm ((show k = M from e) ▸ hk)
  have hMl := hm.lt
  have hq3 : QbAt W3 ⟨b, t⟩ 0 := hf3.one hx2 fun e => by have e' : b = M := e; omega
  have hnb : ∀ p ∈ ms, p.blk ≠ (⟨b, t⟩ : Qe).blk := fun p hp e => by
    have := hv.lts (.inr ⟨p, hp, rfl⟩)
    have e' : p.blk = b := e
    omega
  have hP := wqadd_any hB3 hv3 hq3 hnb (by omega) hH
  have hlk : lkQ ms t.num = none := lkQ_none.2 hn
  have HM3 : Hid (MqAt W3 M (ms ++ [⟨b, t⟩])) := hst2 _ (hm.nodup.app hn) (fun q hq => by
      rcases List.mem_append.1 hq with hq | hq
      · exact hm.oks q hq
      · rw [List.mem_singleton.1 hq]; exact ht) (fun y _ => by rw [lkQ_app ⟨b, t⟩ y hlk]) (by rw [hlk]; simp)
  have HE : Hid (∀ w4, (∃ g cap ns, ns.Perm (ms ++ [⟨b, t⟩]) ∧ HeapQ ns ns.length ∧ WqAt B T last M g cap ns w4 ∧ Fb (fun k => k = B ∨ frV v (ms ++ [⟨b, t⟩]) k) W3 w4 ∧ (v.ownBlock = some g ∨ W3.heap.size ≤ g)) → AddO W B T last M v ms t w4) := fun w4 ⟨g, cap, ns, a1, a2, a3, a4, a5⟩ => by
    have hnM4 : ¬ (M = B ∨ frV v (ms ++ [⟨b, t⟩]) M) := by
      rintro (e | e | ⟨q, hq, e⟩)
      · exact hnM e.symm
      · exact hv.nM hm (.inl e)
      · rcases List.mem_append.1 hq with hq | hq
        · exact hv.nM hm (.inr ⟨q, hq, e⟩)
        · rw [List.mem_singleton.1 hq] at e
          have e' : b = M := e
          omega
    refine ⟨g, cap, ns, b, a1, by omega, a2, a3, (HM3.out.fb a4 hnM4).perm a1, ((Fb.of hb2).trans hf3 fun x hx => .inl (.inr (.inl hx))).trans a4 fun x hx => ?_, ?_⟩
    · rcases hx with e | e | ⟨q, hq, e⟩
      · exact .inl (.inl e)
      · exact .inl (.inr (.inr (.inl e)))
      · rcases List.mem_append.1 hq with hq | hq
        · exact .inl (.inr (.inr (.inr ⟨q, hq, e⟩)))
        · rw [List.mem_singleton.1 hq] at e
          right
          have e' : b = x := e
          omega
    · rcases a5 with e | e
      · exact .inl e
      · right
        have := hf3.size
        have := hb2.size
        omega
  have c0 : W2.cell? ⟨W.heap.size, 0, none⟩ = some (.int .i64 t.num) := by rw [cell_of_row _ _ _ _ _ _ hx1]; rfl
  have hB2 : WB W2 B T last v M := block_bel hB hb2
  have c3 := hB2.cells.2.2.2
  rw [hW1] at hW2
  clear hB2 hx1 hx2 hM2 hst2 hf3' hf3 hnM hB3 hv3 hMl hq3 hnb hlk HM3 hB hm hv hH hl hn ht hb1 hb2' hb2 hs1 hW1
  obtain ⟨s, hs⟩ : ∃ s, W.heap.size = s := ⟨_, rfl⟩
  rw [hs] at c0 hb
  subst hb
  simp only at hP
  go_enter Try.func27, Try.ntmps27
  go_wp2_with fail
  rw [← hW2]
  clear hW2
  go_region
  go_wp2_with fail
  with_reducible refine hP.mono ?_
  rintro e w4 ⟨rfl, H4⟩
  have HF := hid (HE.out _ H4.out)
  clear hP H4 HE hst
  go_wp2
  go_end0
  exact ⟨rfl, HF⟩
end Go.Proofs.Ytdfbnfgemjljgaa
