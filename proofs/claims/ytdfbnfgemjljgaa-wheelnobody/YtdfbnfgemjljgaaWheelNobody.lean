/-
  Proved: a wheel that nobody made answers an error, and has nothing: WheelNobody hands back true for whatever step.
-/
import Derived.Test.YtdfbnfgemjljgaaRows
import Derived.Test.YtdfbnfgemjljgaaWlNo
import Derived.Test.YtdfbnfgemjljgaaWhAl
import Derived.WalkKit
import Derived.ProofKit
import Derived.OpenShut
import Derived.ShutString
import Derived.ChangeOld
import Derived.Below
namespace Go.Proofs.Ytdfbnfgemjljgaa.wheelNobody
open Go.ChangeShapes Go.WideShapes Go.ChangeAt Go.RowKit
open Go.ChangeMaps (open_string shut_string)
set_option linter.unusedVariables false

theorem own : ownKnob Try.prog.godebug = none := by kernel_rfl
theorem laidOut : laidOutB Try.prog = true := by kernel_rfl

/-! ### The walk -/
set_option maxRecDepth 1000000 in
set_option maxHeartbeats 8000000 in
theorem walk (s0 : Sp) (w : World) (gs0 : SpIn s0) :
    Calls Try.prog 5 #[.agg (SpV s0)] w fun e w' => e = .returned (.bool true) ∧ Below w.heap.size w w' := by
  obtain ⟨kd, la, af, lb, nm⟩ := s0
  clear gs0
  change Calls Try.prog 5 #[.agg #[.int .u8 kd, .int .i64 la, .int .i64 af, .int .u64 lb, .int .i64 nm]] w _
  obtain ⟨wA, hwA⟩ : ∃ wA, wA = w.alloc (.cells #[.int .u8 kd, .int .i64 la, .int .i64 af, .int .u64 lb, .int .i64 nm] 31) := ⟨_, rfl⟩
  have hA : wA.heap[w.heap.size]? = some (.cells #[.int .u8 kd, .int .i64 la, .int .i64 af, .int .u64 lb, .int .i64 nm] 31 (0, 0)) := by rw [hwA]; exact heap_alloc_new w _
  have hbA : Below w.heap.size w wA := by rw [hwA]; exact (Below.refl _ _).alloc (Nat.le_refl _) _
  obtain ⟨wB, hwB⟩ : ∃ wB, wB = wA.alloc (.cells #[.int .i64 0, .int .i64 0, .slice none 0 0, .map none] 59) := ⟨_, rfl⟩
  have hB : wB.heap[wA.heap.size]? = some (.cells #[.int .i64 0, .int .i64 0, .slice none 0 0, .map none] 59 (0, 0)) := by rw [hwB]; exact heap_alloc_new wA _
  have hbB : Below wA.heap.size wA wB := by rw [hwB]; exact (Below.refl _ _).alloc (Nat.le_refl _) _
  have hsA : wA.heap.size = w.heap.size + 1 := by rw [hwA]; simp
  have hsB : wB.heap.size = w.heap.size + 1 + 1 := by rw [hwB, ← hsA]; simp
  obtain ⟨wC, hwC⟩ : ∃ wC, wC = wB.alloc (.cells #[.pointer none, .pointer (some ⟨w.heap.size + 1, 0, none⟩)] 23) := ⟨_, rfl⟩
  have hC : wC.heap[wB.heap.size]? = some (.cells #[.pointer none, .pointer (some ⟨w.heap.size + 1, 0, none⟩)] 23 (0, 0)) := by rw [hwC]; exact heap_alloc_new wB _
  have hbC : Below wB.heap.size wB wC := by rw [hwC]; exact (Below.refl _ _).alloc (Nat.le_refl _) _
  have HBC := hid ((hbA.trans (hbB.mono hbA.size)).trans (hbC.mono (hbA.trans (hbB.mono hbA.size)).size))
  have HP : Hid (∀ k, k < 2 → ∃ p, wC.cell? ⟨w.heap.size + 1 + 1, k, none⟩ = some (.pointer p) ∧ WlNo wC p) := by
    intro k hk
    have h1 := block_bel hB hbC
    have h2 := hC
    rw [hsB] at h2
    rw [hsA] at h1
    obtain rfl | rfl : k = 0 ∨ k = 1 := by omega
    · exact ⟨none, by rw [cell_of_row _ _ _ _ _ _ h2]; rfl, .inl rfl⟩
    · exact ⟨some ⟨w.heap.size + 1, 0, none⟩, by rw [cell_of_row _ _ _ _ _ _ h2]; rfl, .inr ⟨_, rfl, by rw [cell_of_row _ _ _ _ _ _ h1]; rfl⟩⟩
  have HSt : Hid (wC.cell? ⟨w.heap.size, 1, none⟩ = some (.int .i64 la) ∧ wC.cell? ⟨w.heap.size, 2, none⟩ = some (.int .i64 af) ∧ wC.cell? ⟨w.heap.size, 3, none⟩ = some (.int .u64 lb) ∧ wC.cell? ⟨w.heap.size, 4, none⟩ = some (.int .i64 nm)) := by
    have h1 := block_bel (block_bel hA hbB) hbC
    exact ⟨by rw [cell_of_row _ _ _ _ _ _ h1]; rfl, by rw [cell_of_row _ _ _ _ _ _ h1]; rfl, by rw [cell_of_row _ _ _ _ _ _ h1]; rfl, by rw [cell_of_row _ _ _ _ _ _ h1]; rfl⟩
  clear hA hB hC hbA hbB hbC hsA hsB
  go_enter Try.func5, Try.ntmps5
  go_wp2_with fail
  rw [← hwA, ← hwB, ← hwC]
  clear hwA hwB hwC
  obtain ⟨gt, Hgt⟩ : ∃ gt, Hid (w.heap.size + 1 + 1 = gt) := ⟨_, rfl⟩
  rw [Hgt.out] at HP
  rw [Hgt.out]
  obtain ⟨gs, Hgs⟩ : ∃ gs, Hid (w.heap.size = gs) := ⟨_, rfl⟩
  rw [Hgs.out] at HSt
  rw [Hgs.out]
  go_loopw [13] (fun z W' => ∃ k : Nat, k ≤ 2 ∧ z = .int .i64 k ∧ Hid (W' = wC)) (fun z _ => 2 - (intOf z).toNat)
  case atStart => exact ⟨0, by omega, rfl, rfl⟩
  case round =>
  obtain ⟨k, hk, rfl, HV⟩ := hrel
  have hv := HV.out
  subst hv
  by_cases hk2 : k < 2
  · have g1 : (k : Int) < 2 := by omega
    obtain ⟨p, cp0, hno⟩ := HP.out k hk2
    obtain ⟨s1, s2, s3, s4⟩ := HSt.out
    have h1 := wno_set hno la af nm lb
    have h2 := wno_next hno
    have h3 := wno_stop hno nm
    have h4 := wno_stopall hno lb
    have h5 := wno_due hno la
    have h6 := wno_len hno
    have h7 := wno_now hno
    clear hno HP HSt
    go_wp2_with fail
    with_reducible refine h1.mono ?_
    rintro r w2 ⟨rfl, hw⟩
    subst w2
    go_wp2_with fail
    with_reducible refine h2.mono ?_
    rintro r w2 ⟨rfl, hw⟩
    subst w2
    go_wp2_with fail
    with_reducible refine h3.mono ?_
    rintro r w2 ⟨rfl, hw⟩
    subst w2
    go_wp2_with fail
    with_reducible refine h4.mono ?_
    rintro r w2 ⟨rfl, hw⟩
    subst w2
    go_wp2_with fail
    with_reducible refine h5.mono ?_
    rintro r w2 ⟨rfl, hw⟩
    subst w2
    go_wp2_with fail
    with_reducible refine h6.mono ?_
    rintro r w2 ⟨rfl, hw⟩
    subst w2
    go_wp2_with fail
    with_reducible refine h7.mono ?_
    rintro r w2 ⟨rfl, hw⟩
    subst w2
    clear h1 h2 h3 h4 h5 h6 h7 s1 s2 s3 s4 cp0
    go_wp2_with fail
    go_round
    case rel => exact ⟨k + 1, by omega, by go_num, trivial⟩
    case measure => simp [intOf]; omega
  · have g1 : ¬ (k : Int) < 2 := by omega
    clear HP HSt
    go_wp2_with fail
    with_reducible refine (alive20_any (hid whl) _).mono ?_
    rintro e wz ⟨rfl, HZ0⟩
    have HZ := hid (HBC.out.trans (HZ0.out.mono HBC.out.size))
    clear HZ0
    go_wp2_with fail
    go_ret
    exact ⟨rfl, HZ.out⟩

/-! ### The row's step -/
set_option maxRecDepth 1000000 in
theorem lifted (os : Os) (started : os.Started) (H : Type) (enc : TypeId × Value → H) :
    ReturnsInHanded {} Try.checked os 5 .any (Rows.wheelNobodySpec.pre6 enc Try.prog Try.f5 Rows.wheelNobodyRow.domain false) (Rows.wheelNobodySpec.post enc Try.prog Try.f5 false true false false) := by
  refine returnsInHanded_of_change (C := Try.checked) own started (by kernel_rfl) Try.func5
    (ChangeSpec.witness6 (enc := enc) (C := Try.checked) false ⟨#[], #[.agg #[.int .u8 0, .int .i64 0, .int .i64 0, .int .u64 0, .int .i64 0]], []⟩ 8 (by kernel_rfl) (by kernel_rfl) (by kernel_rfl) (by kernel_rfl)) ?_
  intro W base args ds gs before hval0 hW hcnd _
  have hval : ∀ (j : Nat) t v, Try.f5.params[j]? = some t → args[j]? = some v → Value.okWide Try.prog W .any base t v := hval0
  have hW' := hW
  obtain ⟨p, q, hA0, hV, rfl, hfz, hnd⟩ := hW
  have hA : DataW.TrodAll enc Try.prog W 0 (fun _ => true) true Try.f5.params.toList args.toList ds p := hA0
  rw [Try.params5] at hA hval
  obtain ⟨v0, vs0, d0, ds0, p0, q0, hargs, rfl, rfl, h0, r0⟩ := trodAll_cons hA
  obtain ⟨rfl, rfl, rfl⟩ := trodAll_nil r0
  obtain rfl : args = #[v0] := by cases args; simp_all
  obtain ⟨rfl, rfl⟩ := trodVars_none hV
  have k0 := h0
  have lt0 : ∀ x ∈ p0, x.block < W.heap.size := by obtain ⟨m, hm⟩ := k0; exact DataW.trod_lt m _ _ _ hm
  obtain ⟨s0, rfl, gs0⟩ := step_open (hval 0 31 v0 rfl rfl) h0
  clear hA0 hval0
  refine (walk s0 W gs0).mono fun e W' ⟨he, bel⟩ => ?_
  subst he
  exact ⟨_, rfl, _, _, _, [], _, [], hW', trodAll_mk1 (shut_bool Try.underlying4 _), (trodAll_cons_mk (Below.trod laidOut (by kernel_rfl) (of_decide_eq_true (by kernel_rfl)) k0 bel lt0) trodAll_mk0), rfl, bel.frame _, fun h => by cases h⟩

theorem over : Rows.wheelNobodyRow.holds Try.pinned (OpenSpec.ofChange Rows.wheelNobodySpec) :=
  OpenClaim.holds_of_wide 5 Try.f5 rfl rfl rfl rfl rfl rfl rfl ⟨rfl, rfl, rfl, rfl, rfl⟩ rfl rfl rfl rfl rfl (by kernel_rfl) Try.func5 (by kernel_rfl)
    (of_decide_eq_true (by kernel_rfl)) (by unfold Func.isWrapper; first | (rw [if_pos (by decide +kernel)]; kernel_rfl) | (rw [if_neg (by decide +kernel)]; exact ⟨rfl, rfl⟩))
    (fun os started H enc _ => lifted os started H enc)

/-- The statement. -/
theorem proved : Rows.WheelNobodySaid := over
#print axioms proved
end Go.Proofs.Ytdfbnfgemjljgaa.wheelNobody
