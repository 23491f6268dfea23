/-
  MemberNobody.
-/
import Derived.Test.YtlhhkgjolilpiaaMbAl
namespace Go.Proofs.Ytlhhkgjolilpiaa
open Go.RowKit
set_option linter.unusedVariables false
set_option maxRecDepth 1000000

/-- A step's cells. -/
structure SpCs (W : World) (q : Nat) (s : Sp) : Prop where
  kd : W.cell? ⟨q, 0, none⟩ = some (.int .u8 s.kd)
  later : W.cell? ⟨q, 1, none⟩ = some (.int .i64 s.later)
  n : W.cell? ⟨q, 2, none⟩ = some (.int .u64 s.n)
  inc : W.cell? ⟨q, 3, none⟩ = some (.int .u64 s.inc)
  wt : W.cell? ⟨q, 4, none⟩ = some (.int .i64 s.wt)
  bv : W.cell? ⟨q, 5, none⟩ = some (.int .i64 s.bv)
theorem sp_cs {W : World} {q : Nat} {s : Sp} {T : TypeId} (h : W.heap[q]? = some (.cells (SpV s) T (0, 0))) : SpCs W q s := by
  constructor <;> (rw [cell_of_row _ _ _ _ _ _ h]; rfl)
set_option maxHeartbeats 16000000 in
theorem nobody_any (s : Sp) (w : World) : Calls Try.prog 5 #[.agg (SpV s)] w fun e w' => e = .returned (.bool true) ∧ Hid (Below w.heap.size w w') := by
  obtain ⟨W1, hW1⟩ : ∃ W1, W1 = w.alloc (.cells (SpV s) 31) := ⟨_, rfl⟩
  obtain ⟨W2, hW2⟩ : ∃ W2, W2 = W1.alloc (.cells #[.int .i64 0, .int .u64 0, .map none] 61) := ⟨_, rfl⟩
  obtain ⟨W3, hW3⟩ : ∃ W3, W3 = W2.alloc (.cells #[.pointer none, .pointer (some ⟨w.heap.size + 1, 0, none⟩)] 23) := ⟨_, rfl⟩
  have e1 : W1.heap.size = w.heap.size + 1 := by rw [hW1]; simp
  have e2 : W2.heap.size = w.heap.size + 1 + 1 := by rw [hW2]; simp [e1]
  have b1 : Below w.heap.size w W1 := by rw [hW1]; exact (Below.refl _ _).alloc (Nat.le_refl _) _
  have b2 : Below W1.heap.size W1 W2 := by rw [hW2]; exact (Below.refl _ _).alloc (Nat.le_refl _) _
  have b3 : Below W2.heap.size W2 W3 := by rw [hW3]; exact (Below.refl _ _).alloc (Nat.le_refl _) _
  have b13 : Below W1.heap.size W1 W3 := b2.trans (b3.mono b2.size)
  have HB : Hid (Below w.heap.size w W3) := b1.trans (b13.mono b1.size)
  have v1 : W3.heap[w.heap.size]? = some (.cells (SpV s) 31 (0, 0)) := block_bel (by rw [hW1]; exact heap_alloc_new w _) b13
  have v2 : W3.heap[W1.heap.size]? = some (.cells #[.int .i64 0, .int .u64 0, .map none] 61 (0, 0)) := block_bel (by rw [hW2]; exact heap_alloc_new W1 _) b3
  have v3 : W3.heap[W2.heap.size]? = some (.cells #[.pointer none, .pointer (some ⟨w.heap.size + 1, 0, none⟩)] 23 (0, 0)) := by rw [hW3]; exact heap_alloc_new W2 _
  rw [e1] at v2
  rw [e2] at v3
  have HS := hid fun (W : World) (hb : Below W3.heap.size W3 W) => sp_cs (block_bel v1 hb)
  have HP := hid fun (W : World) (hb : Below W3.heap.size W3 W) => cells_two (block_bel v3 hb)
  have HN0 : Hid (MlNo W3 none) := .inl rfl
  have HN1 : Hid (MlNo W3 (some ⟨w.heap.size + 1, 0, none⟩)) := .inr ⟨_, rfl, by rw [cell_of_row _ _ _ _ _ _ v2]; rfl⟩
  have HA := hid fun W : World => alive24_any W
  have HV0 := hid (Below.refl W3.heap.size W3)
  obtain ⟨q, hq⟩ : ∃ q, w.heap.size = q := ⟨_, rfl⟩
  have HQ := hid hq
  rw [hq] at HS HP HN1 hW3
  clear b1 b2 b3 b13 v1 v2 v3 e1 e2 hq
  unfold SpV at hW1 ⊢
  go_enter Try.func5, Try.ntmps5
  go_wp2_with fail
  rw [HQ.out, ← hW1, ← hW2, ← hW3]
  clear hW1 hW2 hW3
  go_loopw [15] (fun z W' => ∃ k : Nat, k ≤ 2 ∧ z = .int .i64 k ∧ Hid (Below W3.heap.size W3 W')) (fun z _ => 2 - (intOf z).toNat)
  case atStart => exact ⟨0, by omega, rfl, HV0⟩
  case round =>
  obtain ⟨k, hk, rfl, HV⟩ := hrel
  rename World => wr
  clear HV0
  by_cases hlt : k < 2
  · obtain ⟨p, hp, HNp⟩ : ∃ p, wr.cell? ⟨q + 1 + 1, k, none⟩ = some (.pointer p) ∧ Hid (MlNo W3 p) := by
      rcases (by omega : k = 0 ∨ k = 1) with rfl | rfl
      · exact ⟨none, (HP.out _ HV.out).1, HN0⟩
      · exact ⟨_, (HP.out _ HV.out).2, HN1⟩
    have HM := hid fun (W : World) (hb : Below W3.heap.size W3 W) => HNp.out.below hb
    obtain ⟨_, s1, s2, s3, s4, s5⟩ := HS.out _ HV.out
    have h1 := nadd (HM.out _ HV.out) s.later
    have h2 := nup (HM.out _ HV.out) s.later s.n s.inc
    have h3 := nget (HM.out _ HV.out) s.n
    clear HP HN0 HN1 HNp
    have g1 : (k : Int) < 2 := by omega
    go_wp2_with (first
      | (go_at_call 8; (with_reducible refine h1.mono ?_); rintro e w' ⟨rfl, rfl⟩)
      | (go_at_call 18; (with_reducible refine h2.mono ?_); rintro e w' ⟨rfl, rfl⟩))
    refine h3.mono ?_
    rintro e w5 ⟨rfl, H5⟩
    obtain ⟨w6, hw6⟩ : ∃ w6, w6 = w5.alloc (.cells #[.int .u64 0, .int .i64 0, .int .u64 0, .int .i64 0, .int .i64 0] 55) := ⟨_, rfl⟩
    have hb5 : Below W3.heap.size W3 w5 := HV.out.trans (H5.out.mono HV.out.size)
    have HV6 : Hid (Below W3.heap.size W3 w6) := by unfold Hid; rw [hw6]; exact hb5.alloc hb5.size _
    have hx6 : w6.heap[w5.heap.size]? = some (.cells (MrC Mr.zero) 55 (0, 0)) := by rw [hw6]; exact heap_alloc_new w5 _
    have y0 := (mr_cs hx6).n
    have y1 := (mr_cs hx6).st
    have y2 := (mr_cs hx6).inc
    have y3 := (mr_cs hx6).bd
    have y4 := (mr_cs hx6).si
    simp only [Mr.zero] at y0 y1 y2 y3 y4
    clear h1 h2 h3 H5 hb5 hx6 HV s1 s2 s3 s4 s5 hp
    obtain ⟨_, s1, s2, s3, s4, s5⟩ := HS.out _ HV6.out
    have hM := HM.out _ HV6.out
    have h1 := nlost hM s.later s.n
    have h2 := ndrain hM s.later s.n
    have h3 := nremove hM s.later s.n s.wt
    have h4 := nbind hM s.n s.bv
    have h5 := nall hM
    have h6 := nlive hM
    have h7 := nnow hM
    clear hM HM
    go_upto_region 7 with fail
    rw [← hw6]
    generalize w5.heap.size = xb at *
    clear hw6
    go_wp2_with (first
      | (go_at_call 10; (with_reducible refine h1.mono ?_); rintro e w' ⟨rfl, rfl⟩)
      | (go_at_call 12; (with_reducible refine h2.mono ?_); rintro e w' ⟨rfl, rfl⟩)
      | (go_at_call 14; (with_reducible refine h3.mono ?_); rintro e w' ⟨rfl, rfl⟩)
      | (go_at_call 16; (with_reducible refine h4.mono ?_); rintro e w' ⟨rfl, rfl⟩)
      | (go_at_call 21; (with_reducible refine h5.mono ?_); rintro e w' ⟨rfl, rfl⟩)
      | (go_at_call 22; (with_reducible refine h6.mono ?_); rintro e w' ⟨rfl, rfl⟩)
      | (go_at_call 24; (with_reducible refine h7.mono ?_); rintro e w' ⟨rfl, rfl⟩))
    go_round
    case rel => exact ⟨k + 1, by omega, by go_num, HV6⟩
    case measure => simp [intOf]; omega
  · obtain rfl : k = 2 := by omega
    have hA := HA.out wr
    clear HA HN0 HN1 HP HS
    go_wp2_with fail
    refine hA.mono ?_
    rintro e w4 ⟨rfl, H⟩
    have HE : Hid (Below w.heap.size w w4) := (HB.out.trans (HV.out.mono HB.out.size)).trans (H.out.mono (Nat.le_trans HB.out.size HV.out.size))
    clear hA H
    go_wp2_with fail
    go_ret
    exact ⟨rfl, HE⟩
end Go.Proofs.Ytlhhkgjolilpiaa
