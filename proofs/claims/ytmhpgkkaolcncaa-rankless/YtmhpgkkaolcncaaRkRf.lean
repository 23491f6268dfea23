/-
  The document's side of stage 19: in, Mark, better.
-/
import Derived.Test.YtmhpgkkaolcncaaRkCd
namespace Go.Proofs.Ytmhpgkkaolcncaa
open Go.RowKit
set_option linter.unusedVariables false
set_option maxRecDepth 1000000

theorem rin_any (n : Int) (W : World) : Calls Try.prog 25 #[.int .i64 n] W fun e w' => e = .returned (.int .i64 (inZ n)) ∧ w' = W := by
  obtain ⟨r, HE⟩ : ∃ r, Hid (inZ n = r) := ⟨_, rfl⟩
  rw [HE.out]
  by_cases h1 : n < 0
  · obtain rfl : 0 = r := by rw [← HE.out]; unfold inZ; omega
    have h2 : ¬ (1048576 : Int) < 0 := by omega
    clear HE
    go_enter Try.func25, Try.ntmps25
    go_wp2
    go_ret
    exact ⟨rfl, rfl⟩
  · by_cases h2 : 1048576 < n
    · obtain rfl : 1048576 = r := by rw [← HE.out]; unfold inZ; omega
      clear HE
      go_enter Try.func25, Try.ntmps25
      go_wp2
      go_ret
      exact ⟨rfl, rfl⟩
    · obtain rfl : n = r := by rw [← HE.out]; unfold inZ; omega
      clear HE
      go_enter Try.func25, Try.ntmps25
      go_wp2
      go_ret
      exact ⟨rfl, rfl⟩
set_option maxHeartbeats 4000000 in
theorem rmark_any (c : Cd) (q : Wt) (W : World) : Calls Try.prog 14 #[.agg (CdV c), .agg (WtV q)] W fun e w' => e = .returned (.int .i64 (markZ q c)) ∧ Hid (Below W.heap.size W w') := by
  have HI := hid fun (n : Int) (W : World) => rin_any n W
  have h1 := inZ_mul c.known q.kn
  have h2 := inZ_mul c.load q.ld
  have h3 := inZ_mul c.place q.pl
  have h4 := inZ_0 q.bd
  have h5 := inZ_1 q.bd
  obtain ⟨a1, ha1⟩ : ∃ a, inZ c.known = a := ⟨_, rfl⟩
  obtain ⟨a2, ha2⟩ : ∃ a, inZ q.kn = a := ⟨_, rfl⟩
  obtain ⟨a3, ha3⟩ : ∃ a, inZ c.load = a := ⟨_, rfl⟩
  obtain ⟨a4, ha4⟩ : ∃ a, inZ q.ld = a := ⟨_, rfl⟩
  obtain ⟨a5, ha5⟩ : ∃ a, inZ c.place = a := ⟨_, rfl⟩
  obtain ⟨a6, ha6⟩ : ∃ a, inZ q.pl = a := ⟨_, rfl⟩
  obtain ⟨a7, ha7⟩ : ∃ a, inZ q.bd = a := ⟨_, rfl⟩
  obtain ⟨m1, hm1⟩ : ∃ m, a1 * a2 = m := ⟨_, rfl⟩
  obtain ⟨m2, hm2⟩ : ∃ m, a3 * a4 = m := ⟨_, rfl⟩
  obtain ⟨m3, hm3⟩ : ∃ m, a5 * a6 = m := ⟨_, rfl⟩
  have HE : Hid (markZ q c = m1 + (if c.bnd = true then a7 else 0) - m2 - m3) := by unfold Hid markZ; rw [ha1, ha2, ha3, ha4, ha5, ha6, ha7, hm1, hm2, hm3]
  rw [ha1, ha2, hm1] at h1
  rw [ha3, ha4, hm2] at h2
  rw [ha5, ha6, hm3] at h3
  rw [ha7] at h4 h5
  have i1 := fun W : World => ha1 ▸ HI.out c.known W
  have i2 := fun W : World => ha2 ▸ HI.out q.kn W
  have i3 := fun W : World => ha3 ▸ HI.out c.load W
  have i4 := fun W : World => ha4 ▸ HI.out q.ld W
  have i5 := fun W : World => ha5 ▸ HI.out c.place W
  have i6 := fun W : World => ha6 ▸ HI.out q.pl W
  have i7 := fun W : World => ha7 ▸ HI.out q.bd W
  have I1 := hid i1
  have I2 := hid i2
  have I3 := hid i3
  have I4 := hid i4
  have I5 := hid i5
  have I6 := hid i6
  have I7 := hid i7
  clear i1 i2 i3 i4 i5 i6 i7 ha1 ha2 ha3 ha4 ha5 ha6 ha7 HI
  obtain ⟨rep, load, known, bnd, place, opn⟩ := c
  obtain ⟨kn, ld, bd, pl⟩ := q
  simp only at I1 I2 I3 I4 I5 I6 I7 HE
  unfold CdV WtV
  simp only
  obtain ⟨wA, hwA⟩ : ∃ wA, wA = (W.alloc (.cells #[.int .u64 rep, .int .i64 load, .int .i64 known, .bool bnd, .int .i64 place, .bool opn] 36)).alloc (.cells #[.int .i64 kn, .int .i64 ld, .int .i64 bd, .int .i64 pl] 24) := ⟨_, rfl⟩
  have hA : wA.heap[W.heap.size]? = some (.cells #[.int .u64 rep, .int .i64 load, .int .i64 known, .bool bnd, .int .i64 place, .bool opn] 36 (0, 0)) := by
    rw [hwA]; exact (Below.heap_alloc _ _ _ (by simp)).trans (heap_alloc_new W _)
  have hA2 : wA.heap[W.heap.size + 1]? = some (.cells #[.int .i64 kn, .int .i64 ld, .int .i64 bd, .int .i64 pl] 24 (0, 0)) := by
    rw [hwA]
    have := heap_alloc_new (W.alloc (.cells #[.int .u64 rep, .int .i64 load, .int .i64 known, .bool bnd, .int .i64 place, .bool opn] 36)) (.cells #[.int .i64 kn, .int .i64 ld, .int .i64 bd, .int .i64 pl] 24)
    rwa [World.size_alloc] at this
  have HB : Hid (∀ n : Nat, Below W.heap.size W (wA.drewN n)) := fun n => by
    have := ((Below.refl W.heap.size W).alloc (Nat.le_refl _) (.cells #[.int .u64 rep, .int .i64 load, .int .i64 known, .bool bnd, .int .i64 place, .bool opn] 36)).alloc (by simp) (.cells #[.int .i64 kn, .int .i64 ld, .int .i64 bd, .int .i64 pl] 24)
    rw [hwA]
    exact ⟨this.os, this.tape, this.output, this.size, this.block⟩
  obtain ⟨g, hg⟩ : ∃ g, W.heap.size = g := ⟨_, rfl⟩
  have k0 : wA.cell? ⟨g, 1, none⟩ = some (.int .i64 load) := by rw [← hg, cell_of_row _ _ _ _ _ _ hA]; rfl
  have k1 : wA.cell? ⟨g, 2, none⟩ = some (.int .i64 known) := by rw [← hg, cell_of_row _ _ _ _ _ _ hA]; rfl
  have k2 : wA.cell? ⟨g, 3, none⟩ = some (.bool bnd) := by rw [← hg, cell_of_row _ _ _ _ _ _ hA]; rfl
  have k3 : wA.cell? ⟨g, 4, none⟩ = some (.int .i64 place) := by rw [← hg, cell_of_row _ _ _ _ _ _ hA]; rfl
  have k4 : wA.cell? ⟨g + 1, 0, none⟩ = some (.int .i64 kn) := by rw [← hg, cell_of_row _ _ _ _ _ _ hA2]; rfl
  have k5 : wA.cell? ⟨g + 1, 1, none⟩ = some (.int .i64 ld) := by rw [← hg, cell_of_row _ _ _ _ _ _ hA2]; rfl
  have k6 : wA.cell? ⟨g + 1, 2, none⟩ = some (.int .i64 bd) := by rw [← hg, cell_of_row _ _ _ _ _ _ hA2]; rfl
  have k7 : wA.cell? ⟨g + 1, 3, none⟩ = some (.int .i64 pl) := by rw [← hg, cell_of_row _ _ _ _ _ _ hA2]; rfl
  rw [hg] at HB
  clear hA hA2
  go_enter Try.func14, Try.ntmps14
  go_wp2_with fail
  rw [← hwA]
  have HG := hid hg
  clear hwA hg
  go_quiet ((go_at_call 25; first | (with_reducible exact Calls.quiet_of_same (I1.out _)) | (with_reducible exact Calls.quiet_of_same (I2.out _))))
  have k0 : (wA.drewN nq).cell? ⟨g, 1, none⟩ = some (.int .i64 load) := k0
  have k1 : (wA.drewN nq).cell? ⟨g, 2, none⟩ = some (.int .i64 known) := k1
  have k2 : (wA.drewN nq).cell? ⟨g, 3, none⟩ = some (.bool bnd) := k2
  have k3 : (wA.drewN nq).cell? ⟨g, 4, none⟩ = some (.int .i64 place) := k3
  have k4 : (wA.drewN nq).cell? ⟨g + 1, 0, none⟩ = some (.int .i64 kn) := k4
  have k5 : (wA.drewN nq).cell? ⟨g + 1, 1, none⟩ = some (.int .i64 ld) := k5
  have k6 : (wA.drewN nq).cell? ⟨g + 1, 2, none⟩ = some (.int .i64 bd) := k6
  have k7 : (wA.drewN nq).cell? ⟨g + 1, 3, none⟩ = some (.int .i64 pl) := k7
  have HB2 : Hid (∀ m, Below g W ((wA.drewN nq).drewN m)) := fun m => by rw [World.drewN_drewN]; exact HB.out _
  clear HB
  generalize wA.drewN nq = wB at *
  cases bnd with
  | true =>
    have HE2 : Hid (markZ ⟨kn, ld, bd, pl⟩ ⟨rep, load, known, true, place, opn⟩ = m1 + a7 - m2 - m3) := by rw [Hid, HE.out]; simp
    go_wp2_with (go_at_call 25; with_reducible refine (I7.out _).mono ?_; rintro e w' ⟨rfl, rfl⟩)
    go_quiet ((go_at_call 25; first | (with_reducible exact Calls.quiet_of_same (I3.out _)) | (with_reducible exact Calls.quiet_of_same (I4.out _)) | (with_reducible exact Calls.quiet_of_same (I5.out _)) | (with_reducible exact Calls.quiet_of_same (I6.out _))))
    go_wp2
    go_ret
    exact ⟨by rw [HE2.out]; rfl, by first | exact HB2.out _ | (rw [HG.out]; exact HB2.out _)⟩
  | false =>
    have HE2 : Hid (markZ ⟨kn, ld, bd, pl⟩ ⟨rep, load, known, false, place, opn⟩ = m1 - m2 - m3) := by rw [Hid, HE.out]; simp
    go_wp2_with fail
    go_quiet ((go_at_call 25; first | (with_reducible exact Calls.quiet_of_same (I3.out _)) | (with_reducible exact Calls.quiet_of_same (I4.out _)) | (with_reducible exact Calls.quiet_of_same (I5.out _)) | (with_reducible exact Calls.quiet_of_same (I6.out _))))
    go_wp2
    go_ret
    exact ⟨by rw [HE2.out]; rfl, by first | exact HB2.out _ | (rw [HG.out]; exact HB2.out _)⟩
set_option maxHeartbeats 4000000 in
theorem rbetter_any (c d : Cd) (q : Wt) (W : World) : Calls Try.prog 20 #[.agg (CdV c), .agg (CdV d), .agg (WtV q)] W fun e w' => e = .returned (.bool (bet q c d)) ∧ Hid (Below W.heap.size W w') := by
  have m1 := fun W : World => rmark_any c q W
  have m2 := fun W : World => rmark_any d q W
  obtain ⟨a, ha⟩ : ∃ a, markZ q c = a := ⟨_, rfl⟩
  obtain ⟨b, hb⟩ : ∃ b, markZ q d = b := ⟨_, rfl⟩
  have HE : Hid (bet q c d = if a ≠ b then decide (b < a) else if c.place ≠ d.place then decide (c.place < d.place) else decide (c.rep < d.rep)) := by unfold Hid bet; rw [ha, hb]
  rw [ha] at m1
  rw [hb] at m2
  clear ha hb
  generalize bet q c d = r at *
  obtain ⟨r1, l1, kn1, b1, p1, o1⟩ := c
  obtain ⟨r2, l2, kn2, b2, p2, o2⟩ := d
  obtain ⟨kn, ld, bd, pl⟩ := q
  unfold CdV WtV at *
  simp only at m1 m2 HE ⊢
  have M1 := hid m1
  have M2 := hid m2
  clear m1 m2
  obtain ⟨wA, hwA⟩ : ∃ wA, wA = ((W.alloc (.cells #[.int .u64 r1, .int .i64 l1, .int .i64 kn1, .bool b1, .int .i64 p1, .bool o1] 36)).alloc (.cells #[.int .u64 r2, .int .i64 l2, .int .i64 kn2, .bool b2, .int .i64 p2, .bool o2] 36)).alloc (.cells #[.int .i64 kn, .int .i64 ld, .int .i64 bd, .int .i64 pl] 24) := ⟨_, rfl⟩
  obtain ⟨wB, hwB⟩ : ∃ wB, wB = W.alloc (.cells #[.int .u64 r1, .int .i64 l1, .int .i64 kn1, .bool b1, .int .i64 p1, .bool o1] 36) := ⟨_, rfl⟩
  obtain ⟨wC, hwC⟩ : ∃ wC, wC = wB.alloc (.cells #[.int .u64 r2, .int .i64 l2, .int .i64 kn2, .bool b2, .int .i64 p2, .bool o2] 36) := ⟨_, rfl⟩
  have hB : wB.heap[W.heap.size]? = some (.cells #[.int .u64 r1, .int .i64 l1, .int .i64 kn1, .bool b1, .int .i64 p1, .bool o1] 36 (0, 0)) := by rw [hwB]; exact heap_alloc_new W _
  have hC : wC.heap[wB.heap.size]? = some (.cells #[.int .u64 r2, .int .i64 l2, .int .i64 kn2, .bool b2, .int .i64 p2, .bool o2] 36 (0, 0)) := by rw [hwC]; exact heap_alloc_new wB _
  have hA : wA.heap[wC.heap.size]? = some (.cells #[.int .i64 kn, .int .i64 ld, .int .i64 bd, .int .i64 pl] 24 (0, 0)) := by rw [hwA, ← hwB, ← hwC]; exact heap_alloc_new wC _
  have eB : wB.heap.size = W.heap.size + 1 := by rw [hwB, World.size_alloc]
  have eC : wC.heap.size = W.heap.size + 1 + 1 := by rw [hwC, World.size_alloc, eB]
  have hWA : wA = wC.alloc (.cells #[.int .i64 kn, .int .i64 ld, .int .i64 bd, .int .i64 pl] 24) := by rw [hwA, ← hwB, ← hwC]
  have bC : Below wC.heap.size wC wA := by rw [hWA]; exact (Below.refl _ _).alloc (Nat.le_refl _) _
  have bB : Below wB.heap.size wB wC := by rw [hwC]; exact (Below.refl _ _).alloc (Nat.le_refl _) _
  have bA : Below W.heap.size W wB := by rw [hwB]; exact (Below.refl _ _).alloc (Nat.le_refl _) _
  have HB : Hid (Below W.heap.size W wA) := (bA.trans (bB.mono (by omega))).trans (bC.mono (by omega))
  have hB2 := block_bel (block_bel hB bB) bC
  have hC2 := block_bel hC bC
  rw [eB] at hC2
  rw [eC] at hA
  clear hB hC bC bB bA hWA eB eC hwB hwC wB wC
  obtain ⟨g, hg⟩ : ∃ g, W.heap.size = g := ⟨_, rfl⟩
  rw [hg] at hB2 hC2 hA HB
  have HK : Hid (∀ W' : World, Below wA.heap.size wA W' → W'.cell? ⟨g, 0, none⟩ = some (.int .u64 r1) ∧ W'.cell? ⟨g, 1, none⟩ = some (.int .i64 l1) ∧ W'.cell? ⟨g, 2, none⟩ = some (.int .i64 kn1) ∧ W'.cell? ⟨g, 3, none⟩ = some (.bool b1) ∧ W'.cell? ⟨g, 4, none⟩ = some (.int .i64 p1) ∧ W'.cell? ⟨g, 5, none⟩ = some (.bool o1) ∧ W'.cell? ⟨g + 1, 0, none⟩ = some (.int .u64 r2) ∧ W'.cell? ⟨g + 1, 1, none⟩ = some (.int .i64 l2) ∧ W'.cell? ⟨g + 1, 2, none⟩ = some (.int .i64 kn2) ∧ W'.cell? ⟨g + 1, 3, none⟩ = some (.bool b2) ∧ W'.cell? ⟨g + 1, 4, none⟩ = some (.int .i64 p2) ∧ W'.cell? ⟨g + 1, 5, none⟩ = some (.bool o2) ∧ W'.cell? ⟨g + 2, 0, none⟩ = some (.int .i64 kn) ∧ W'.cell? ⟨g + 2, 1, none⟩ = some (.int .i64 ld) ∧ W'.cell? ⟨g + 2, 2, none⟩ = some (.int .i64 bd) ∧ W'.cell? ⟨g + 2, 3, none⟩ = some (.int .i64 pl)) := fun W' hb => by
    have e1 := block_bel hB2 hb
    have e2 := block_bel hC2 hb
    have e3 := block_bel hA hb
    refine ⟨?_, ?_, ?_, ?_, ?_, ?_, ?_, ?_, ?_, ?_, ?_, ?_, ?_, ?_, ?_, ?_⟩ <;> first | (rw [cell_of_row _ _ _ _ _ _ e1]; rfl) | (rw [cell_of_row _ _ _ _ _ _ e2]; rfl) | (rw [cell_of_row _ _ _ _ _ _ e3]; rfl)
  clear hB2 hC2 hA
  by_cases e1 : a = b
  · by_cases e2 : p1 = p2
    · obtain rfl : r = decide (r1 < r2) := by rw [HE.out, if_neg (by simp [e1]), if_neg (by simp [e2])]
      clear HE
      have n1 : (a != b) = false := by simp [e1]
      have n2 : (p1 != p2) = false := by simp [e2]
      clear e1 e2
      go_enter Try.func20, Try.ntmps20
      go_wp2_with fail
      rw [← hwA]
      have HG := hid hg
      clear hwA hg
      have HV : Hid (Below wA.heap.size wA wA.drew) := (Below.refl _ _).drew
      go_region_held3 (fun W' : World => W'.cell? ⟨g, 0, none⟩ = some (.int .u64 r1) ∧ W'.cell? ⟨g, 1, none⟩ = some (.int .i64 l1) ∧ W'.cell? ⟨g, 2, none⟩ = some (.int .i64 kn1) ∧ W'.cell? ⟨g, 3, none⟩ = some (.bool b1) ∧ W'.cell? ⟨g, 4, none⟩ = some (.int .i64 p1) ∧ W'.cell? ⟨g, 5, none⟩ = some (.bool o1) ∧ W'.cell? ⟨g + 1, 0, none⟩ = some (.int .u64 r2) ∧ W'.cell? ⟨g + 1, 1, none⟩ = some (.int .i64 l2) ∧ W'.cell? ⟨g + 1, 2, none⟩ = some (.int .i64 kn2) ∧ W'.cell? ⟨g + 1, 3, none⟩ = some (.bool b2) ∧ W'.cell? ⟨g + 1, 4, none⟩ = some (.int .i64 p2) ∧ W'.cell? ⟨g + 1, 5, none⟩ = some (.bool o2) ∧ W'.cell? ⟨g + 2, 0, none⟩ = some (.int .i64 kn) ∧ W'.cell? ⟨g + 2, 1, none⟩ = some (.int .i64 ld) ∧ W'.cell? ⟨g + 2, 2, none⟩ = some (.int .i64 bd) ∧ W'.cell? ⟨g + 2, 3, none⟩ = some (.int .i64 pl)) (first | (with_reducible exact HK.out _ (Below.refl _ _)) | (with_reducible exact HK.out _ HV.out))
        (first
          | (go_at_call 14; (with_reducible refine (M1.out _).mono ?_); rintro e y1 ⟨rfl, hb⟩; replace HV := hid (HV.out.trans (hb.out.mono HV.out.size)); clear hb)
          | (go_at_call 14; (with_reducible refine (M2.out _).mono ?_); rintro e y2 ⟨rfl, hb⟩; replace HV := hid (HV.out.trans (hb.out.mono HV.out.size)); clear hb))
      all_goals
        obtain ⟨k0, k1, k2, k3, k4, k5, j0, j1, j2, j3, j4, j5, _⟩ := HK.out _ HV.out
        have HBe : Hid (Below W.heap.size W _) := (by rw [HG.out]; exact HB.out : Below W.heap.size W wA).trans (HV.out.mono HB.out.size)
        clear HK HB HG HV
        go_wp2_with fail
      all_goals
        go_ret
        exact ⟨rfl, HBe⟩
    · obtain rfl : r = decide (p1 < p2) := by rw [HE.out, if_neg (by simp [e1]), if_pos e2]
      clear HE
      have n1 : (a != b) = false := by simp [e1]
      have n2 : (p1 != p2) = true := by simp [e2]
      clear e1 e2
      go_enter Try.func20, Try.ntmps20
      go_wp2_with fail
      rw [← hwA]
      have HG := hid hg
      clear hwA hg
      have HV : Hid (Below wA.heap.size wA wA.drew) := (Below.refl _ _).drew
      go_region_held3 (fun W' : World => W'.cell? ⟨g, 0, none⟩ = some (.int .u64 r1) ∧ W'.cell? ⟨g, 1, none⟩ = some (.int .i64 l1) ∧ W'.cell? ⟨g, 2, none⟩ = some (.int .i64 kn1) ∧ W'.cell? ⟨g, 3, none⟩ = some (.bool b1) ∧ W'.cell? ⟨g, 4, none⟩ = some (.int .i64 p1) ∧ W'.cell? ⟨g, 5, none⟩ = some (.bool o1) ∧ W'.cell? ⟨g + 1, 0, none⟩ = some (.int .u64 r2) ∧ W'.cell? ⟨g + 1, 1, none⟩ = some (.int .i64 l2) ∧ W'.cell? ⟨g + 1, 2, none⟩ = some (.int .i64 kn2) ∧ W'.cell? ⟨g + 1, 3, none⟩ = some (.bool b2) ∧ W'.cell? ⟨g + 1, 4, none⟩ = some (.int .i64 p2) ∧ W'.cell? ⟨g + 1, 5, none⟩ = some (.bool o2) ∧ W'.cell? ⟨g + 2, 0, none⟩ = some (.int .i64 kn) ∧ W'.cell? ⟨g + 2, 1, none⟩ = some (.int .i64 ld) ∧ W'.cell? ⟨g + 2, 2, none⟩ = some (.int .i64 bd) ∧ W'.cell? ⟨g + 2, 3, none⟩ = some (.int .i64 pl)) (first | (with_reducible exact HK.out _ (Below.refl _ _)) | (with_reducible exact HK.out _ HV.out))
        (first
          | (go_at_call 14; (with_reducible refine (M1.out _).mono ?_); rintro e y1 ⟨rfl, hb⟩; replace HV := hid (HV.out.trans (hb.out.mono HV.out.size)); clear hb)
          | (go_at_call 14; (with_reducible refine (M2.out _).mono ?_); rintro e y2 ⟨rfl, hb⟩; replace HV := hid (HV.out.trans (hb.out.mono HV.out.size)); clear hb))
      all_goals
        obtain ⟨k0, k1, k2, k3, k4, k5, j0, j1, j2, j3, j4, j5, _⟩ := HK.out _ HV.out
        have HBe : Hid (Below W.heap.size W _) := (by rw [HG.out]; exact HB.out : Below W.heap.size W wA).trans (HV.out.mono HB.out.size)
        clear HK HB HG HV
        go_wp2_with fail
      all_goals
        go_ret
        exact ⟨rfl, HBe⟩
  · obtain rfl : r = decide (b < a) := by rw [HE.out, if_pos e1]
    clear HE
    have n1 : (a != b) = true := by simp [e1]
    clear e1
    go_enter Try.func20, Try.ntmps20
    go_wp2_with fail
    rw [← hwA]
    have HG := hid hg
    clear hwA hg
    have HV : Hid (Below wA.heap.size wA wA.drew) := (Below.refl _ _).drew
    go_region_held3 (fun W' : World => W'.cell? ⟨g, 0, none⟩ = some (.int .u64 r1) ∧ W'.cell? ⟨g, 1, none⟩ = some (.int .i64 l1) ∧ W'.cell? ⟨g, 2, none⟩ = some (.int .i64 kn1) ∧ W'.cell? ⟨g, 3, none⟩ = some (.bool b1) ∧ W'.cell? ⟨g, 4, none⟩ = some (.int .i64 p1) ∧ W'.cell? ⟨g, 5, none⟩ = some (.bool o1) ∧ W'.cell? ⟨g + 1, 0, none⟩ = some (.int .u64 r2) ∧ W'.cell? ⟨g + 1, 1, none⟩ = some (.int .i64 l2) ∧ W'.cell? ⟨g + 1, 2, none⟩ = some (.int .i64 kn2) ∧ W'.cell? ⟨g + 1, 3, none⟩ = some (.bool b2) ∧ W'.cell? ⟨g + 1, 4, none⟩ = some (.int .i64 p2) ∧ W'.cell? ⟨g + 1, 5, none⟩ = some (.bool o2) ∧ W'.cell? ⟨g + 2, 0, none⟩ = some (.int .i64 kn) ∧ W'.cell? ⟨g + 2, 1, none⟩ = some (.int .i64 ld) ∧ W'.cell? ⟨g + 2, 2, none⟩ = some (.int .i64 bd) ∧ W'.cell? ⟨g + 2, 3, none⟩ = some (.int .i64 pl)) (first | (with_reducible exact HK.out _ (Below.refl _ _)) | (with_reducible exact HK.out _ HV.out))
      (first
        | (go_at_call 14; (with_reducible refine (M1.out _).mono ?_); rintro e y1 ⟨rfl, hb⟩; replace HV := hid (HV.out.trans (hb.out.mono HV.out.size)); clear hb)
        | (go_at_call 14; (with_reducible refine (M2.out _).mono ?_); rintro e y2 ⟨rfl, hb⟩; replace HV := hid (HV.out.trans (hb.out.mono HV.out.size)); clear hb))
    all_goals
      obtain ⟨k0, k1, k2, k3, k4, k5, j0, j1, j2, j3, j4, j5, _⟩ := HK.out _ HV.out
      have HBe : Hid (Below W.heap.size W _) := (by rw [HG.out]; exact HB.out : Below W.heap.size W wA).trans (HV.out.mono HB.out.size)
      clear HK HB HG HV
      go_wp2_with fail
    all_goals
      go_ret
      exact ⟨rfl, HBe⟩
end Go.Proofs.Ytmhpgkkaolcncaa
