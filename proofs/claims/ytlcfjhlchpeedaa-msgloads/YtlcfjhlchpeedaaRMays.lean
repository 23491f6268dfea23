/-
  Contract: the document's May tells whether a message may be.
-/
import Derived.Test.YtlcfjhlchpeedaaKept
import Derived.Test.YtlcfjhlchpeedaaRSames
import Derived.Deep.RegionHeld
namespace Go.Proofs.Ytlcfjhlchpeedaa
open Go.RowKit
open M
set_option linter.unusedVariables false
set_option maxRecDepth 1000000

set_option maxHeartbeats 8000000 in
theorem rmay_any (m : Mg) (p q : Sl) (w : World) (hm : MsgIn w m p q) :
    Calls Try.prog 16 #[.agg (MV m p q)] w fun x w' => x = .returned (.bool (mayR m)) ∧ Below w.heap.size w w' := by
  have hA := hm.alloc (.cells (MV m p q) 27)
  have hT1 := tokens_any _ _ _ _ _ hA.pr (by have := hA.hp; omega)
  have hT2 := tokens_any _ _ _ _ _ hA.li (by have := hA.hq; omega)
  have HIN : Hid (∀ W, Below w.heap.size w W → MsgIn W m p q) := fun W hb => hm.below hb
  have HMR : Hid (∀ hh : ¬ ((1 ≤ m.kind ∧ m.kind ≤ 12) ∧ (0 ≤ m.why ∧ m.why ≤ 255) ∧ (0 ≤ m.most ∧ m.most ≤ 256) ∧ toksB m.pr = true ∧ toksB m.li = true), mayR m = false) := fun hh => by unfold mayR; rw [decide_eq_false hh]; rfl
  by_cases h : (1 ≤ m.kind ∧ m.kind ≤ 12) ∧ (0 ≤ m.why ∧ m.why ≤ 255) ∧ (0 ≤ m.most ∧ m.most ≤ 256) ∧ toksB m.pr = true ∧ toksB m.li = true
  · obtain ⟨⟨k1, k2⟩, ⟨y1, y2⟩, ⟨o1, o2⟩, t1, t2⟩ := id h
    have HM2 : Hid (mayR m = sameB (keptM m) m) := by unfold Hid mayR keptM; rw [decide_eq_true h, Bool.true_and]
    rw [t1] at hT1
    rw [t2] at hT2
    have d1 : decide (m.kind < 1) = false := by simp; omega
    have d2 : decide (12 < m.kind) = false := by simp; omega
    have d3 : decide (m.why < 0) = false := by simp; omega
    have d4 : decide (255 < m.why) = false := by simp; omega
    have d5 : decide (m.most < 0) = false := by simp; omega
    have d6 : decide (256 < m.most) = false := by simp; omega
    have HKP : Hid (∀ W, Below w.heap.size w W → Calls Try.prog 35 #[.agg (MV m p q)] W (KPost m W)) := fun W hb => kept_any m p q W (hm.below hb) k1 k2
    have HSM : Hid (∀ W p' q', MsgIn W (keptM m) p' q' → Below w.heap.size w W → Calls Try.prog 18 #[.agg (MV (keptM m) p' q'), .agg (MV m p q)] W fun e w' => e = .returned (.bool (sameB (keptM m) m)) ∧ Below W.heap.size W w') := fun W p' q' hi hb => rsame_any (keptM m) m p' q' p q W hi (HIN.out W hb)
    have HBW : Hid (Below w.heap.size w (w.alloc (.cells (MV m p q) 27))) := by unfold Hid; go_grown
    have HSS : Hid (∀ W, Below (w.alloc (.cells (MV m p q) 27)).heap.size (w.alloc (.cells (MV m p q) 27)) W → W.cell? ⟨w.heap.size, 0, none⟩ = some (.int .i64 m.kind) ∧ W.cell? ⟨w.heap.size, 1, none⟩ = some (.int .u64 m.st) ∧ W.cell? ⟨w.heap.size, 2, none⟩ = some (.int .u64 m.se) ∧ W.cell? ⟨w.heap.size, 3, none⟩ = some (.int .u64 m.ate) ∧ W.cell? ⟨w.heap.size, 4, none⟩ = some (.int .u64 m.inc) ∧ W.cell? ⟨w.heap.size, 5, none⟩ = some (.int .u64 m.n) ∧ W.cell? ⟨w.heap.size, 6, none⟩ = some (.int .u64 m.cnt) ∧ W.cell? ⟨w.heap.size, 7, none⟩ = some (.int .i64 m.why) ∧ W.cell? ⟨w.heap.size, 8, none⟩ = some (.int .u64 m.seed) ∧ W.cell? ⟨w.heap.size, 9, none⟩ = some (.slice p.a p.l p.c) ∧ W.cell? ⟨w.heap.size, 10, none⟩ = some (.int .i64 m.most) ∧ W.cell? ⟨w.heap.size, 11, none⟩ = some (.slice q.a q.l q.c)) := fun W hb => MV_cells (block_below (heap_alloc_new w (.cells (MV m p q) 27)) hb)
    have hcD : Below (w.alloc (.cells (MV m p q) 27)).heap.size (w.alloc (.cells (MV m p q) 27)) (w.alloc (.cells (MV m p q) 27)).drew := (Below.refl _ _).drew
    clear hm hA h HMR t1 t2 HIN
    unfold MV at hT1 hT2 HBW HSS hcD ⊢
    go_enter Try.func16, Try.ntmps16
    go_wp2_with fail
    refine hT1.mono ?_
    rintro x w1 ⟨rfl, rfl⟩
    go_wp2_with fail
    refine hT2.mono ?_
    rintro x w1 ⟨rfl, rfl⟩
    clear hT1 hT2
    go_wp2_with fail
    clear d1 d2 d3 d4 d5 d6
    go_region_held (fun W : World => W.cell? ⟨w.heap.size, 0, none⟩ = some (.int .i64 m.kind) ∧ W.cell? ⟨w.heap.size, 1, none⟩ = some (.int .u64 m.st) ∧ W.cell? ⟨w.heap.size, 2, none⟩ = some (.int .u64 m.se) ∧ W.cell? ⟨w.heap.size, 3, none⟩ = some (.int .u64 m.ate) ∧ W.cell? ⟨w.heap.size, 4, none⟩ = some (.int .u64 m.inc) ∧ W.cell? ⟨w.heap.size, 5, none⟩ = some (.int .u64 m.n) ∧ W.cell? ⟨w.heap.size, 6, none⟩ = some (.int .u64 m.cnt) ∧ W.cell? ⟨w.heap.size, 7, none⟩ = some (.int .i64 m.why) ∧ W.cell? ⟨w.heap.size, 8, none⟩ = some (.int .u64 m.seed) ∧ W.cell? ⟨w.heap.size, 9, none⟩ = some (.slice p.a p.l p.c) ∧ W.cell? ⟨w.heap.size, 10, none⟩ = some (.int .i64 m.most) ∧ W.cell? ⟨w.heap.size, 11, none⟩ = some (.slice q.a q.l q.c)) (first | (with_reducible exact HSS.out _ hcY) | (with_reducible exact HSS.out _ hcX) | (with_reducible exact HSS.out _ hcD)) (first | (go_at_call 35; refine (HKP.out _ (HBW.out.trans (hcD.mono HBW.out.size))).mono ?_; rintro x wX ⟨p', q', rfl, hin2, hbX⟩; have hcX := hcD.trans hbX) | (go_at_call 18; refine (HSM.out wX p' q' hin2 (HBW.out.trans (hcX.mono HBW.out.size))).mono ?_; rintro x wY ⟨rfl, hbY⟩; have hcY := hcX.trans (hbY.mono hcX.size)))
    all_goals
      go_wp2_with fail
      go_ret
      exact ⟨ret_bool HM2.out.symm, HBW.out.trans (hcY.mono HBW.out.size)⟩
  · have HF := hid (HMR.out h)
    have hcs : m.kind < 1 ∨ 12 < m.kind ∨ m.why < 0 ∨ 255 < m.why ∨ m.most < 0 ∨ 256 < m.most ∨ toksB m.pr = false ∨ toksB m.li = false := by
      rcases Bool.eq_false_or_eq_true (toksB m.pr) with t1 | t1
      · rcases Bool.eq_false_or_eq_true (toksB m.li) with t2 | t2
        · have : ¬ ((1 ≤ m.kind ∧ m.kind ≤ 12) ∧ (0 ≤ m.why ∧ m.why ≤ 255) ∧ (0 ≤ m.most ∧ m.most ≤ 256)) := fun hh => h ⟨hh.1, hh.2.1, hh.2.2, t1, t2⟩
          omega
        · simp [t2]
      · simp [t1]
    rw [HF.out]
    clear h HMR hm hA HIN HF
    unfold MV at hT1 hT2 ⊢
    by_cases e0 : m.kind < 1
    · clear hT1 hT2 hcs
      go_enter Try.func16, Try.ntmps16
      go_wp2_with fail
      go_ret
      exact ⟨rfl, by go_grown⟩
    have d0 : decide (m.kind < 1) = false := decide_eq_false e0
    by_cases e1 : 12 < m.kind
    · clear hT1 hT2 hcs
      go_enter Try.func16, Try.ntmps16
      go_wp2_with fail
      go_ret
      exact ⟨rfl, by go_grown⟩
    have d1 : decide (12 < m.kind) = false := decide_eq_false e1
    by_cases e2 : m.why < 0
    · clear hT1 hT2 hcs
      go_enter Try.func16, Try.ntmps16
      go_wp2_with fail
      go_ret
      exact ⟨rfl, by go_grown⟩
    have d2 : decide (m.why < 0) = false := decide_eq_false e2
    by_cases e3 : 255 < m.why
    · clear hT1 hT2 hcs
      go_enter Try.func16, Try.ntmps16
      go_wp2_with fail
      go_ret
      exact ⟨rfl, by go_grown⟩
    have d3 : decide (255 < m.why) = false := decide_eq_false e3
    by_cases e4 : m.most < 0
    · clear hT1 hT2 hcs
      go_enter Try.func16, Try.ntmps16
      go_wp2_with fail
      go_ret
      exact ⟨rfl, by go_grown⟩
    have d4 : decide (m.most < 0) = false := decide_eq_false e4
    by_cases e5 : 256 < m.most
    · clear hT1 hT2 hcs
      go_enter Try.func16, Try.ntmps16
      go_wp2_with fail
      go_ret
      exact ⟨rfl, by go_grown⟩
    have d5 : decide (256 < m.most) = false := decide_eq_false e5
    rcases Bool.eq_false_or_eq_true (toksB m.pr) with t1 | t1
    · rw [t1] at hT1
      have t2 : toksB m.li = false := by
        rcases hcs with h | h | h | h | h | h | h | h
        iterate 6 exact absurd h (by assumption)
        · rw [t1] at h; cases h
        · exact h
      rw [t2] at hT2
      clear hcs t1 t2
      go_enter Try.func16, Try.ntmps16
      go_wp2_with fail
      refine hT1.mono ?_
      rintro x w1 ⟨rfl, rfl⟩
      go_wp2_with fail
      refine hT2.mono ?_
      rintro x w1 ⟨rfl, rfl⟩
      clear hT1 hT2
      go_wp2_with fail
      go_ret
      exact ⟨rfl, by go_grown⟩
    · rw [t1] at hT1
      clear hcs t1 hT2
      go_enter Try.func16, Try.ntmps16
      go_wp2_with fail
      refine hT1.mono ?_
      rintro x w1 ⟨rfl, rfl⟩
      clear hT1
      go_wp2_with fail
      go_ret
      exact ⟨rfl, by go_grown⟩

end Go.Proofs.Ytlcfjhlchpeedaa
