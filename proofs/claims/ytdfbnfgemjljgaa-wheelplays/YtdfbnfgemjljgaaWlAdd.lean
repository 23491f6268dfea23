/-
  Contracts: the queue's add, remove and next; the wheel's add and stop.
-/
import Derived.Test.YtdfbnfgemjljgaaWlWh
namespace Go.Proofs.Ytdfbnfgemjljgaa
open Go.RowKit Go.Maps
set_option linter.unusedVariables false
set_option maxRecDepth 1000000

theorem wqadd_any {B : Nat} {T last : Int} {M : Nat} {v : Value} {ms : List Qe} {q : Qe} {z : Int} {w : World} (hB : WB w B T last v M) (hv : QvAt v ms w) (hqb : QbAt w q z) (hn : ∀ p ∈ ms, p.blk ≠ q.blk) (hl : ms.length ≤ 4500) (hH : HeapQ ms ms.length) :
    Calls Try.prog 30 #[.pointer (some ⟨B, 2, none⟩), .pointer (some ⟨q.blk, 0, none⟩)] w fun e w' => e = .returned (.tuple #[]) ∧ Hid (∃ g cap ns, ns.Perm (ms ++ [q]) ∧ HeapQ ns ns.length ∧ WqAt B T last M g cap ns w' ∧ Fb (fun k => k = B ∨ frV v (ms ++ [q]) k) w w' ∧ (v.ownBlock = some g ∨ w.heap.size ≤ g)) := by
  have hP := whpush_any hB hv hqb hn hl hH
  clear hB hv hqb hn hH
  go_enter Try.func30, Try.ntmps30
  go_wp2_with fail
  with_reducible refine hP.mono ?_
  rintro e w1 ⟨rfl, H1⟩
  clear hP
  go_wp2
  go_end0
  exact ⟨rfl, H1⟩
theorem wqrem_any {B : Nat} {T last : Int} {M g cap n i : Nat} {ms : List Qe} {w : World} (h : WqAt B T last M g cap ms w) (hH : HeapQ ms ms.length) (hn : ms.length = n + 1) (hi : i ≤ n) (hcap : n ≤ 4500) :
    Calls Try.prog 28 #[.pointer (some ⟨B, 2, none⟩), .pointer (some ⟨(gq ms i).blk, 0, none⟩)] w fun e w' => e = .returned (.tuple #[]) ∧ Hid (∃ ns, (gq ms i :: ns).Perm ms ∧ HeapQ ns ns.length ∧ WqAt B T last M g cap ns w' ∧ Fb (frW B g ms) w w') := by
  have hP := whrem_any h hH hn hi hcap
  have c4 := (h.row.els i (by omega)).cells.2.2.2.2
  clear h hH hn hi
  go_enter Try.func28, Try.ntmps28
  go_wp2_with fail
  with_reducible refine hP.mono ?_
  rintro e w1 ⟨rfl, H1⟩
  clear hP
  go_wp2
  go_end0
  exact ⟨rfl, H1⟩
/-- A timer as a value. -/
def tmV (t : Tm) : Value := .agg #[.int .i64 t.num, .int .i64 t.kind, .int .u64 t.label, .int .i64 t.due]
theorem wqnext_any {B : Nat} {T last : Int} {M g cap n : Nat} {ms : List Qe} {w : World} (h : WqAt B T last M g cap ms w) (hH : HeapQ ms ms.length) (hn : ms.length = n + 1) (hcap : n ≤ 4500) :
    Calls Try.prog 25 #[.pointer (some ⟨B, 2, none⟩)] w fun e w' => e = .returned (.agg #[.int .i64 (gq ms 0).tm.num, .int .i64 (gq ms 0).tm.kind, .int .u64 (gq ms 0).tm.label, .int .i64 (gq ms 0).tm.due]) ∧ Hid (∃ ns, (gq ms 0 :: ns).Perm ms ∧ HeapQ ns ns.length ∧ WqAt B T last M g cap ns w' ∧ Fb (frW B g ms) w w') := by
  obtain ⟨W1, hW1⟩ : ∃ W1, W1 = w.alloc (.cells #[.int .i64 0, .int .i64 0, .int .u64 0, .int .i64 0] 54) := ⟨_, rfl⟩
  have hb1 : Below w.heap.size w W1 := by rw [hW1]; exact (Below.refl _ _).alloc (Nat.le_refl _) _
  have hP := whpop_any (h.below hb1) hH hn hcap
  have HR : Hid (W1.heap[w.heap.size]? = some (.cells #[.int .i64 0, .int .i64 0, .int .u64 0, .int .i64 0] 54 (0, 0))) := by unfold Hid; rw [hW1]; exact heap_alloc_new w _
  have HN : Hid (¬ frW B g ms w.heap.size) := fun e => by
    rcases e with e | e
    · have := h.var.lt; omega
    · exact Nat.lt_irrefl _ (h.row.lts e)
  have HB1 := hid hb1
  have hta := assert_q (gq ms 0).blk
  clear h hH hn hb1
  go_enter Try.func25, Try.ntmps25
  go_wp2_with fail
  rw [← hW1]
  with_reducible refine hP.mono ?_
  rintro e w2 ⟨rfl, H2⟩
  obtain ⟨ns, p1, p2, p3, p4, p5⟩ := H2.out
  have hR2 : w2.heap[w.heap.size]? = some (.cells #[.int .i64 0, .int .i64 0, .int .u64 0, .int .i64 0] 54 (0, 0)) := p5.one HR.out HN.out
  obtain ⟨d0, d1, d2, d3, _⟩ := p4.cells
  have HE : Hid (∀ w3, w3.heap.size = w2.heap.size → w3.os = w2.os ∧ w3.tape = w2.tape ∧ w3.output = w2.output → (∀ k, k ≠ w.heap.size → w3.heap[k]? = w2.heap[k]?) → ∃ ns, (gq ms 0 :: ns).Perm ms ∧ HeapQ ns ns.length ∧ WqAt B T last M g cap ns w3 ∧ Fb (frW B g ms) w w3) := fun w3 a1 a2 a3 => by
    have hf3 : Fb (at1 w.heap.size) w2 w3 := ⟨a2.1, a2.2.1, a2.2.2, by omega, fun k _ hk => a3 k hk⟩
    have hn' : ∀ k, frW B g ns k → ¬ at1 w.heap.size k := fun k hk e => HN.out (by
      have e' : k = w.heap.size := e
      rw [← e']
      rcases hk with e | e | ⟨q, hq, e⟩
      · exact .inl e
      · exact .inr (.inl e)
      · exact .inr (.inr ⟨q, p1.mem_iff.1 (List.mem_cons_of_mem _ hq), e⟩))
    exact ⟨ns, p1, p2, ⟨p3.var.same (a3 _ fun e => hn' _ (.inl rfl) e), p3.row.fb hf3 fun k hk => hn' k (.inr hk)⟩, ((Fb.of HB1.out).trans p5 fun x hx => .inl hx).trans hf3 fun x hx => .inr (by rw [show x = w.heap.size from hx]; exact Nat.le_refl _)⟩
  have fr : ∀ k, w2.frozen? ⟨w.heap.size, k, none⟩ = false := fun k => frozen_of_row _ _ k _ _ hR2
  have cR0 : w2.cell? ⟨w.heap.size, 0, none⟩ = some (.int .i64 0) := by rw [cell_of_row _ _ _ _ _ _ hR2]; rfl
  have cR1 : w2.cell? ⟨w.heap.size, 1, none⟩ = some (.int .i64 0) := by rw [cell_of_row _ _ _ _ _ _ hR2]; rfl
  have cR2 : w2.cell? ⟨w.heap.size, 2, none⟩ = some (.int .u64 0) := by rw [cell_of_row _ _ _ _ _ _ hR2]; rfl
  have cR3 : w2.cell? ⟨w.heap.size, 3, none⟩ = some (.int .i64 0) := by rw [cell_of_row _ _ _ _ _ _ hR2]; rfl
  clear hP H2 p1 p2 p3 p4 p5 HR HN HB1 hW1
  generalize w.heap.size = s at *
  have hR3 := row_set (k := 3) (u := .int .i64 (gq ms 0).tm.due) (row_set (k := 2) (u := .int .u64 (gq ms 0).tm.label) (row_set (k := 1) (u := .int .i64 (gq ms 0).tm.kind) (row_set (k := 0) (u := .int .i64 (gq ms 0).tm.num) hR2)))
  have HE2 := hid (HE.out ((((w2.setCell ⟨s, 0, none⟩ (.int .i64 (gq ms 0).tm.num)).setCell ⟨s, 1, none⟩ (.int .i64 (gq ms 0).tm.kind)).setCell ⟨s, 2, none⟩ (.int .u64 (gq ms 0).tm.label)).setCell ⟨s, 3, none⟩ (.int .i64 (gq ms 0).tm.due)) (by simp [World.setCell]) ⟨rfl, rfl, rfl⟩ fun k hk => by
    rw [Below.heap_setCell _ _ _ _ hk, Below.heap_setCell _ _ _ _ hk, Below.heap_setCell _ _ _ _ hk, Below.heap_setCell _ _ _ _ hk])
  clear HE
  go_wp2
  clear cR0 cR1 cR2 cR3 fr d0 d1 d2 d3 hta hR2
  generalize (((w2.setCell ⟨s, 0, none⟩ (.int .i64 (gq ms 0).tm.num)).setCell ⟨s, 1, none⟩ (.int .i64 (gq ms 0).tm.kind)).setCell ⟨s, 2, none⟩ (.int .u64 (gq ms 0).tm.label)).setCell ⟨s, 3, none⟩ (.int .i64 (gq ms 0).tm.due) = w3 at *
  have e0 : w3.cell? ⟨s, 0, none⟩ = some (.int .i64 (gq ms 0).tm.num) := by rw [cell_of_row _ _ _ _ _ _ hR3]; rfl
  have e1 : w3.cell? ⟨s, 1, none⟩ = some (.int .i64 (gq ms 0).tm.kind) := by rw [cell_of_row _ _ _ _ _ _ hR3]; rfl
  have e2 : w3.cell? ⟨s, 2, none⟩ = some (.int .u64 (gq ms 0).tm.label) := by rw [cell_of_row _ _ _ _ _ _ hR3]; rfl
  have e3 : w3.cell? ⟨s, 3, none⟩ = some (.int .i64 (gq ms 0).tm.due) := by rw [cell_of_row _ _ _ _ _ _ hR3]; rfl
  refine bodyPost_ret (v := .agg #[.int .i64 (gq ms 0).tm.num, .int .i64 (gq ms 0).tm.kind, .int .u64 (gq ms 0).tm.label, .int .i64 (gq ms 0).tm.due]) (by simp [results, Try.results25, go_sem, e0, e1, e2, e3]) rfl ⟨rfl, HE2⟩
/-- What a call that takes one out leaves. -/
theorem wstop_any {B : Nat} {T last : Int} {M g cap n i : Nat} {ms : List Qe} {w : World} (h : WqAt B T last M g cap ms w) (hH : HeapQ ms ms.length) (hn : ms.length = n + 1) (hi : i ≤ n) (hcap : n ≤ 4500) (hM : w.heap[M]? ≠ none) (hMF : ¬ frW B g ms M)
    (Φ : World → Prop) (hd : ∃ W', (Builtin.delete_ #[57, 3] 0 #[.map (some M), .int .i64 (gq ms i).tm.num]).run Try.prog w.drew = .ok (.tuple #[]) W' ∧ Φ W' ∧ Fb (at1 M) w W') :
    Calls Try.prog 22 #[.pointer (some ⟨B, 0, none⟩), .pointer (some ⟨(gq ms i).blk, 0, none⟩)] w fun e w' => e = .returned (.tuple #[]) ∧ Hid (∃ W1 ns, Φ W1 ∧ Fb (at1 M) w W1 ∧ (gq ms i :: ns).Perm ms ∧ HeapQ ns ns.length ∧ WqAt B T last M g cap ns w' ∧ Fb (frW B g ms) W1 w') := by
  obtain ⟨W', hdr, hΦ, hf⟩ := hd
  have c3 := h.var.cells.2.2.2
  have c0 := (h.row.els i (by omega)).cells.1
  have h1 : WqAt B T last M g cap ms W' := ⟨h.var.same (hf.block _ h.var.lt fun e => hMF (.inl (show M = B from (show B = M from e).symm))), h.row.same fun k hk => hf.block _ (h.row.lts hk) fun e => hMF (.inr ((show k = M from e) ▸ hk))⟩
  have hP := wqrem_any h1 hH hn hi hcap
  have HX := hid (And.intro hΦ hf)
  clear h hH hn hi h1 hM hMF hΦ hf
  go_enter Try.func22, Try.ntmps22
  go_wp2_with fail
  go_region
  go_wp2_with fail
  with_reducible refine hP.mono ?_
  rintro e w2 ⟨rfl, H2⟩
  have HE : Hid (∃ W1 ns, Φ W1 ∧ Fb (at1 M) w W1 ∧ (gq ms i :: ns).Perm ms ∧ HeapQ ns ns.length ∧ WqAt B T last M g cap ns w2 ∧ Fb (frW B g ms) W1 w2) := by
    obtain ⟨ns, a1, a2, a3, a4⟩ := H2.out
    exact ⟨W', ns, HX.out.1, HX.out.2, a1, a2, a3, a4⟩
  clear hP H2 HX
  go_wp2
  go_end0
  exact ⟨rfl, HE⟩
end Go.Proofs.Ytdfbnfgemjljgaa
