/-
  Contract: the document's nums hands back the numbers that stand for a field in a load, in memory of the call's own; nothing that was there turns.
-/
import Derived.Test.YtlcfjhlchpeedaaNumsOf
import Derived.Handy
import Derived.Deep.RegionHeldLaw
import Derived.Deep.AppendLies
namespace Go.Proofs.Ytlcfjhlchpeedaa
open Go.RowKit
open M
set_option linter.unusedVariables false
set_option maxRecDepth 1000000

set_option maxHeartbeats 4000000 in
theorem rnums_any (m : Mg) (p q : Sl) (c : Int) (hc : Letter c) (w : World) (hm : MsgIn w m p q) (hmay : mayC m c = true) :
    Calls Try.prog 28 #[.agg (MV m p q), .int .u8 c] w fun e w' => ∃ v', e = .returned v' ∧ w'.ownsRow w.heap.size 22 1 v' (numsC m c).length ((numsC m c).map (Value.int .u64)) ∧ Below w.heap.size w w' := by
  rcases hc with rfl | rfl | rfl | rfl | rfl | rfl | rfl | rfl | rfl
  · clear hm hmay
    have HO := hid (own_lit2 .u64 w (.cells (MV m p q) 27) [m.st] 22 (by simp))
    unfold MV at HO ⊢
    go_enter Try.func28, Try.ntmps28
    go_wp2
    go_ret
    exact ⟨_, rfl, HO.out, by go_grown⟩
  · clear hm hmay
    have HO := hid (own_lit2 .u64 w (.cells (MV m p q) 27) [m.se] 22 (by simp))
    unfold MV at HO ⊢
    go_enter Try.func28, Try.ntmps28
    go_wp2
    go_ret
    exact ⟨_, rfl, HO.out, by go_grown⟩
  · clear hm hmay
    have HO := hid (own_lit2 .u64 w (.cells (MV m p q) 27) [m.ate] 22 (by simp))
    unfold MV at HO ⊢
    go_enter Try.func28, Try.ntmps28
    go_wp2
    go_ret
    exact ⟨_, rfl, HO.out, by go_grown⟩
  · clear hm hmay
    have HO := hid (own_lit2 .u64 w (.cells (MV m p q) 27) [m.inc] 22 (by simp))
    unfold MV at HO ⊢
    go_enter Try.func28, Try.ntmps28
    go_wp2
    go_ret
    exact ⟨_, rfl, HO.out, by go_grown⟩
  · clear hm hmay
    have HO := hid (own_lit2 .u64 w (.cells (MV m p q) 27) [m.n] 22 (by simp))
    unfold MV at HO ⊢
    go_enter Try.func28, Try.ntmps28
    go_wp2
    go_ret
    exact ⟨_, rfl, HO.out, by go_grown⟩
  · clear hm hmay
    have HO := hid (own_lit2 .u64 w (.cells (MV m p q) 27) [m.cnt] 22 (by simp))
    unfold MV at HO ⊢
    go_enter Try.func28, Try.ntmps28
    go_wp2
    go_ret
    exact ⟨_, rfl, HO.out, by go_grown⟩
  · have h0 : 0 ≤ m.why ∧ m.why ≤ 255 := by unfold mayC at hmay; simpa using hmay
    obtain ⟨w0, w1⟩ := h0
    clear hm hmay
    have HO := hid (own_lit2 .u64 w (.cells (MV m p q) 27) [m.why] 22 (by simp))
    unfold MV at HO ⊢
    go_enter Try.func28, Try.ntmps28
    go_wp2
    go_ret
    exact ⟨_, rfl, HO.out, by go_grown⟩
  · have h0 : (0 ≤ m.most ∧ m.most ≤ 256) ∧ toksB m.pr = true := by unfold mayC at hmay; simpa using hmay
    obtain ⟨⟨w0, w1⟩, ht⟩ := h0
    have HR : Hid (∀ W, Below w.heap.size w W → Reads .i64 W p.a p.l p.c m.pr) := fun W hb => hm.pr.below hb
    have HT := hid ht
    have HL : Hid (m.pr.length = p.l) := hm.pr.size
    have hl := hm.hp
    obtain ⟨i0, hi, hz0, hz1, hz2⟩ := info_parts Try.info22
    have HW : Hid (IntKind.u64.wrap m.most = m.most) := by unfold Hid; rw [IntKind.wrap_u64]; omega
    clear hm hmay ht
    unfold MV
    go_enter Try.func28, Try.ntmps28
    go_wp2_with fail
    go_region_held_law (fun W : World => W.cell? ⟨w.heap.size, 8, none⟩ = some (.int .u64 m.seed) ∧ W.cell? ⟨w.heap.size, 9, none⟩ = some (.slice p.a p.l p.c) ∧ W.cell? ⟨w.heap.size, 10, none⟩ = some (.int .i64 m.most)) (first | assumption | (refine job_below hb2 ?_; assumption) | (refine job_below4 hb4 ?_; assumption) | (refine job_alloc _ ?_; assumption) | (simp; done)) (first | (go_at_call 48; refine (rlist_any _ _ _ _ _ (HR.out _ (by go_grown)) HT.out).mono ?_; rintro e w2 ⟨v2, rfl, how2, hb2⟩; have hs2 := hb2.size; have hlit := own_stays (own_lit2d .u64 w (.cells (MV m p q) 27) [m.seed, IntKind.u64.wrap m.most] 22 (by simp)) hb2; obtain ⟨a2, c2, rfl, hr2⟩ := Reads.own how2; obtain ⟨b2, o2, rfl, _⟩ := hr2.cell 0 (by omega)) | (go_at_call 48; refine (rlist_any _ _ _ _ _ (HR.out _ (by go_grown)) HT.out).mono ?_; rintro e w2 ⟨v2, rfl, how2, hb2⟩; have hs2 := hb2.size; have hlit := own_base (B := w.heap.size + 1) (own_litK .u64 w2 [m.seed, IntKind.u64.wrap m.most] 22 (by simp)) (by simp at hs2; omega); obtain ⟨a2, c2, rfl, hr2⟩ := Reads.own how2; obtain ⟨b2, o2, rfl, _⟩ := hr2.cell 0 (by omega)) | (refine step_append_reads (by rfl) 56 (by rfl) (.tmp 51) (.tmp 55) 50 (by rfl) (w.heap.size + 1) 22 i0 (.int .u64 0) 8 Try.underlying50 hi hz0 hz1 hz2 rfl .u64 _ 2 [m.seed, IntKind.u64.wrap m.most] (by rfl) hlit _ _ _ ((p.l : Int) :: m.pr) (by rfl) (by first | exact hr2 | exact hr2.below (by go_grown)) (by omega) (by omega) (by omega) (by simp at hs2 ⊢; omega) ?_; intro v4 w4 how4 hb4))
    all_goals
      go_wp2_with fail
      go_ret
      refine ⟨_, rfl, ?_, ?_⟩
      · unfold numsC
        have h3 := own_base (B := w.heap.size) how4 (by omega)
        rw [show 2 + (p.l + 1) = (m.seed :: m.most :: (m.pr.length : Int) :: m.pr).length by simp [HL.out]; omega] at h3
        rw [← HL.out, HW.out] at h3
        exact h3
      · first
          | exact ((by go_grown : Below w.heap.size w _).trans (hb2.mono (by go_size))).trans (hb4.mono (by omega))
          | exact (((by go_grown : Below w.heap.size w _).trans (hb2.mono (by go_size))).alloc (by simp at hs2; omega) _).trans (hb4.mono (by omega))
  · have ht : toksB m.li = true := by unfold mayC at hmay; simpa using hmay
    have hC := rlist_any _ _ _ _ _ (hm.alloc (.cells (MV m p q) 27)).li ht
    have HL : Hid (m.li.length = q.l) := hm.li.size
    clear hm hmay ht
    unfold MV at hC ⊢
    go_enter Try.func28, Try.ntmps28
    go_wp2_with fail
    refine hC.mono ?_
    rintro e w2 ⟨v2, rfl, how2, hb2⟩
    go_wp2
    go_ret
    refine ⟨_, rfl, ?_, ((Below.refl _ _).alloc (Nat.le_refl _) _).trans (hb2.mono (by simp))⟩
    have h3 := own_base (B := w.heap.size) how2 (by simp)
    rw [← HL.out] at h3
    exact h3

end Go.Proofs.Ytlcfjhlchpeedaa
