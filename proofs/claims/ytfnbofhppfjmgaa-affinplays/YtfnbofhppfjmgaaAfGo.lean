/-
  Package affin: goOn, use, first.
-/
import Derived.Test.YtfnbofhppfjmgaaAfTab
import Derived.Deep.RegionHeld3
namespace Go.Proofs.Ytfnbofhppfjmgaa
open Go.RowKit Go.Maps
set_option linter.unusedVariables false
set_option maxRecDepth 1000000

theorem ended_any {g : Nat} {now : Int} {b : Bd} {W : World} (hc : W.cell? ⟨g, 0, none⟩ = some (.int .i64 now)) :
    Calls Try.prog 26 #[.agg #[.int .u64 b.rep, .int .i64 b.fin], .pointer (some ⟨g, 0, none⟩)] W fun e w' => e = .returned (.bool (decide (b.fin ≤ now))) ∧ Hid (Below W.heap.size W w') := by
  obtain ⟨w1, hw1⟩ : ∃ w1, w1 = W.alloc (.cells #[.int .u64 b.rep, .int .i64 b.fin] 56) := ⟨_, rfl⟩
  have hb1 : Below W.heap.size W w1 := by rw [hw1]; exact (Below.refl _ _).alloc (Nat.le_refl _) _
  have c1 : w1.cell? ⟨g, 0, none⟩ = some (.int .i64 now) := (hb1.cell (World.block_lt_of_cell? _ _ hc)).trans hc
  rw [hw1] at c1
  have HB := hid hb1
  rw [hw1] at HB
  clear hb1 hc hw1
  go_enter Try.func26, Try.ntmps26
  go_wp2
  go_ret
  exact ⟨rfl, HB⟩
theorem theirs_any {g : Nat} {x : Int} {b : Bd} {W : World} (hc : W.cell? ⟨g, 0, none⟩ = some (.int .u64 x)) :
    Calls Try.prog 24 #[.agg #[.int .u64 b.rep, .int .i64 b.fin], .pointer (some ⟨g, 0, none⟩)] W fun e w' => e = .returned (.bool (decide (b.rep = x))) ∧ Hid (Below W.heap.size W w') := by
  obtain ⟨w1, hw1⟩ : ∃ w1, w1 = W.alloc (.cells #[.int .u64 b.rep, .int .i64 b.fin] 56) := ⟨_, rfl⟩
  have hb1 : Below W.heap.size W w1 := by rw [hw1]; exact (Below.refl _ _).alloc (Nat.le_refl _) _
  have c1 : w1.cell? ⟨g, 0, none⟩ = some (.int .u64 x) := (hb1.cell (World.block_lt_of_cell? _ _ hc)).trans hc
  rw [hw1] at c1
  have HB := hid hb1
  rw [hw1] at HB
  clear hb1 hc hw1
  go_enter Try.func24, Try.ntmps24
  go_wp2
  go_ret
  exact ⟨rfl, HB⟩
theorem TbAt.less {W W' : World} {B room : Nat} {keep T T' : Int} {M : Nat} {L L' : List Bd} (h : TbAt W B room keep T M L) (ho : TbB W' B room keep T' M) (hm : BmAt W' M L') (ht : T ≤ T' ∧ T' ≤ 1099511627776) (hs : ∀ b ∈ L', b ∈ L ∧ T' < b.fin) (hl : L'.length ≤ L.length) : TbAt W' B room keep T' M L' :=
  ⟨ho, hm, h.rm, h.kp, by have := h.tm; omega, fun b hb => ⟨(hs b hb).2, by have := (h.ends b (hs b hb).1).2; omega⟩, fun b hb => h.reps b (hs b hb).1, Nat.le_trans hl h.len⟩
theorem Fb.drewN {F : Nat → Prop} {a b : World} (h : Fb F a b) (q : Nat) : Fb F a (b.drewN q) := ⟨h.os, h.tape, h.output, h.size, h.block⟩
set_option maxHeartbeats 4000000 in
theorem goOn_any {W : World} {B room : Nat} {keep T : Int} {M : Nat} {L : List Bd} (h : TbAt W B room keep T M L) (now : Int) :
    Calls Try.prog 19 #[.pointer (some ⟨B, 0, none⟩), .int .i64 now] W fun e w' => e = .returned (.tuple #[]) ∧ Hid (TbO W B room keep M (timeZ T now) (endL (timeZ T now) L) w') := by
  obtain ⟨w1, hw1⟩ : ∃ w1, w1 = W.alloc (.cells #[.int .i64 now] 2) := ⟨_, rfl⟩
  have hb1 : Below W.heap.size W w1 := by rw [hw1]; exact (Below.refl _ _).alloc (Nat.le_refl _) _
  have hn1 : w1.heap[W.heap.size]? = some (.cells #[.int .i64 now] 2 (0, 0)) := by rw [hw1]; exact heap_alloc_new W _
  have cn : w1.cell? ⟨W.heap.size, 0, none⟩ = some (.int .i64 now) := by rw [cell_of_row _ _ _ _ _ _ hn1]; rfl
  have h1 := h.below hb1
  have c2 := h1.obj.cells.2.2.1
  have hlt := h.obj.lt
  have hltM := h.map.lt
  by_cases hg : T < now ∧ now ≤ 1099511627776
  · have e1 : timeZ T now = now := if_pos hg
    rw [e1]
    obtain ⟨g1, g2⟩ := hg
    have d1 : decide (now ≤ T) = false := decide_eq_false (by omega)
    have d2 : decide (1099511627776 < now) = false := decide_eq_false (by omega)
    have fz := tb_frozen h1.obj 2
    have hne := h1.obj.ne h1.map
    have hcut : (L.filter fun b => !decide (b.fin ≤ now)) = endL now L := List.filter_congr fun b _ => by
      by_cases e : b.fin ≤ now
      · simp [e]
      · simp [e]; omega
    have HSt : Hid (∀ q, Fb (at1 B) w1 ((w1.drewN q).setCell ⟨B, 2, none⟩ (.int .i64 now)) ∧ TbB ((w1.drewN q).setCell ⟨B, 2, none⟩ (.int .i64 now)) B room keep now M) := fun q => ⟨((Fb.refl (at1 B) w1).drewN q).trans (Fb.set (F := at1 B) (p := ⟨B, 2, none⟩) rfl _) fun x hx => .inl hx, row_set (w := w1.drewN q) h1.obj⟩
    have HLG : Hid (∀ w2, Fb (at1 B) w1 w2 → TbB w2 B room keep now M → Calls Try.prog 23 #[.pointer (some ⟨B, 0, none⟩), .func (.func 26) #[] #[.pointer (some ⟨W.heap.size, 0, none⟩)]] w2 fun e w' => e = .returned (.int .i64 ((L.length : Int) - (endL now L).length)) ∧ Hid (TbO W B room keep M now (endL now L) w')) := fun w2 hf2 hB2 => by
      have hm2 : BmAt w2 M L := h1.map.fb hf2 fun e => hne e.symm
      have hn2 : w2.heap[W.heap.size]? = some (.cells #[.int .i64 now] 2 (0, 0)) := hf2.one hn1 (by show ¬ W.heap.size = B; omega)
      have hLG := letGo_any hB2 hm2 (Nat.le_trans h.len h.rm.2) 26 W.heap.size (fun b => decide (b.fin ≤ now)) (lt_of_block hn2) (by omega) (enters_of Try.func26 (by kernel_rfl) rfl)
        (fun W' b _ hgb => ended_any (by rw [cell_of_row _ _ _ _ _ _ (hgb.trans hn2)]; rfl))
      rw [hcut] at hLG
      refine hLG.mono fun e w3 ⟨he, H⟩ => ⟨he, ?_, ?_⟩
      · exact h1.less (hB2.same (H.out.2.block _ hB2.lt hne)) H.out.1 ⟨by omega, g2⟩ (fun b hb => endL_mem.1 hb) (endL_len _ _)
      · refine (Fb.of hb1).trans (G := tbF B M) ?_ fun x hx => .inl hx
        exact (hf2.mono fun x hx => .inl hx).trans H.out.2 fun x hx => .inl (.inr hx)
    clear h h1 hb1 hn1 hcut e1 hltM hne g1 g2
    obtain ⟨sz, hsz⟩ : ∃ sz, W.heap.size = sz := ⟨_, rfl⟩
    rw [hsz] at cn HLG
    go_enter Try.func19, Try.ntmps19
    go_wp2_with fail
    rw [← hw1]
    clear hw1
    go_quiet (fail)
    go_wp2_with fail
    obtain ⟨p1, p2⟩ := HSt.out ‹Nat›
    with_reducible refine (HLG.out _ p1 p2).mono ?_
    rintro r w3 ⟨rfl, H3⟩
    go_wp2_with fail
    go_end0
    exact ⟨rfl, H3⟩
  · have e1 : timeZ T now = T := if_neg hg
    rw [e1, endL_all fun b hb => (h.ends b hb).1]
    have HE : Hid (∀ q, TbO W B room keep M T L (w1.drewN q)) := fun q => ⟨h1.below ⟨rfl, rfl, rfl, Nat.le_refl _, fun _ _ => rfl⟩, (Fb.of hb1).drewN q⟩
    obtain ⟨sz, hsz⟩ : ∃ sz, W.heap.size = sz := ⟨_, rfl⟩
    rw [hsz] at cn
    have hd : now ≤ T ∨ ¬ now ≤ T ∧ 1099511627776 < now := by omega
    clear h h1 hb1 hn1 e1 hltM hg hlt
    rcases hd with g1 | ⟨g1, g2⟩
    · have d1 : decide (now ≤ T) = true := decide_eq_true g1
      clear g1
      go_enter Try.func19, Try.ntmps19
      go_wp2_with fail
      rw [← hw1]
      clear hw1
      go_quiet (fail)
      go_wp2_with fail
      refine bodyPost_ret (results_none rfl _ _ _) rfl ?_
      exact ⟨rfl, HE.out _⟩
    · have d1 : decide (now ≤ T) = false := decide_eq_false g1
      have d2 : decide (1099511627776 < now) = true := decide_eq_true g2
      clear g1 g2
      go_enter Try.func19, Try.ntmps19
      go_wp2_with fail
      rw [← hw1]
      clear hw1
      go_quiet (fail)
      go_wp2_with fail
      refine bodyPost_ret (results_none rfl _ _ _) rfl ?_
      exact ⟨rfl, HE.out _⟩
end Go.Proofs.Ytfnbofhppfjmgaa
