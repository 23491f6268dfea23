/-
  Proved: a pool that nobody made answers an error, and has nothing: PageNobody hands back true for whatever number.
-/
import Derived.Test.YtdmakboapchhnaaRows
import Derived.Test.YtdmakboapchhnaaPgLaw
import Derived.WalkKit
import Derived.ProofKit
import Derived.OpenShut
import Derived.ShutString
import Derived.ChangeOld
import Derived.Below
namespace Go.Proofs.Ytdmakboapchhnaa.pageNobody
open Go.ChangeShapes Go.WideShapes Go.ChangeAt Go.RowKit
open Go.ChangeMaps (open_string shut_string)
set_option linter.unusedVariables false

theorem own : ownKnob Try.prog.godebug = none := by kernel_rfl
theorem laidOut : laidOutB Try.prog = true := by kernel_rfl

/-! ### The walk -/
set_option maxRecDepth 1000000 in
set_option maxHeartbeats 8000000 in
theorem walk (n0 : Int) (w : World) (gn0 : -9223372036854775808 ≤ n0 ∧ n0 ≤ 9223372036854775807) :
    Calls Try.prog 5 #[.int .i64 n0] w fun e w' => e = .returned (.bool true) ∧ Below w.heap.size w w' := by
  obtain ⟨wA, hwA⟩ : ∃ wA, wA = (w.alloc (.cells zeroP 53)).alloc (.cells #[.pointer none, .pointer (some ⟨w.heap.size, 0, none⟩)] 23) := ⟨_, rfl⟩
  have HB0 : Hid (Below w.heap.size w wA) := by unfold Hid; rw [hwA]; exact ((Below.refl _ _).alloc (Nat.le_refl _) _).alloc (by simp) _
  have HX : Hid (∀ W : World, Below wA.heap.size wA W → Below w.heap.size w W) := fun W hW => HB0.out.trans (hW.mono HB0.out.size)
  have HK : Hid (∀ (W : World) (k : Nat), Below wA.heap.size wA W → k < 2 → ∃ p, W.cell? ⟨w.heap.size + 1, k, none⟩ = some (.pointer p) ∧ ∀ W' : World, Below W.heap.size W W' → PgNo W' p) := by
    intro W k hb hk
    have e1 : wA.heap[w.heap.size]? = some (.cells zeroP 53 (0, 0)) := by rw [hwA, Below.heap_alloc _ _ _ (by simp)]; exact heap_alloc_new w _
    have e2 : wA.heap[w.heap.size + 1]? = some (.cells #[.pointer none, .pointer (some ⟨w.heap.size, 0, none⟩)] 23 (0, 0)) := by
      have := heap_alloc_new (w.alloc (.cells zeroP 53)) (.cells #[.pointer none, .pointer (some ⟨w.heap.size, 0, none⟩)] 23)
      rw [hwA]
      simpa using this
    have e3 : W.heap[w.heap.size + 1]? = some (.cells #[.pointer none, .pointer (some ⟨w.heap.size, 0, none⟩)] 23 (0, 0)) := (hb.block _ (lt_of_block e2)).trans e2
    have e4 : W.heap[w.heap.size]? = some (.cells zeroP 53 (0, 0)) := (hb.block _ (lt_of_block e1)).trans e1
    rcases (by omega : k = 0 ∨ k = 1) with rfl | rfl
    · exact ⟨none, by rw [cell_of_row _ _ _ _ _ _ e3]; rfl, fun _ _ => .inl rfl⟩
    · exact ⟨some ⟨w.heap.size, 0, none⟩, by rw [cell_of_row _ _ _ _ _ _ e3]; rfl, fun W' hb' => .inr ⟨_, rfl, (hb'.block _ (lt_of_block e4)).trans e4⟩⟩
  unfold zeroP at hwA
  go_enter Try.func5, Try.ntmps5
  go_wp2_with fail
  rw [← hwA]
  clear hwA
  go_loopw [13] (fun i W => ∃ k : Nat, k ≤ 2 ∧ i = .int .i64 k ∧ Hid (Below wA.heap.size wA W)) (fun i _ => 2 - (intOf i).toNat)
  case atStart => exact ⟨0, by omega, rfl, Below.refl _ _⟩
  case round =>
  obtain ⟨k, hk, rfl, HW⟩ := hrel
  rename World => wr
  by_cases hlt : k < 2
  · obtain ⟨p, cp, hp⟩ := HK.out wr k HW.out hlt
    have q1 : (k : Int) < 2 := by omega
    have HP := hid hp
    clear hp HK
    go_wp2_with fail
    refine (pno_take p _ (HP.out _ (Below.refl _ _))).mono ?_
    rintro e w1 ⟨rfl, hb⟩
    have HV := hid hb
    clear hb cp
    go_wp2_with fail
    refine (pno_drop p n0 _ (HP.out _ HV.out)).mono ?_
    rintro e w2 ⟨rfl, hb⟩
    replace HV := hid (HV.out.trans (hb.mono HV.out.size))
    clear hb
    go_wp2_with fail
    refine (pno_hold p n0 _ (HP.out _ HV.out)).mono ?_
    rintro e w3 ⟨rfl, hb⟩
    replace HV := hid (HV.out.trans (hb.mono HV.out.size))
    clear hb
    go_wp2_with fail
    refine (pno_held p n0 _ (HP.out _ HV.out)).mono ?_
    rintro e w4 ⟨rfl, hb⟩
    replace HV := hid (HV.out.trans (hb.mono HV.out.size))
    clear hb
    go_wp2_with fail
    refine (pno_free p _ (HP.out _ HV.out)).mono ?_
    rintro e w5 ⟨rfl, hb⟩
    replace HV := hid (HV.out.trans (hb.mono HV.out.size))
    clear hb
    go_wp2_with fail
    refine (pno_used p _ (HP.out _ HV.out)).mono ?_
    rintro e w6 ⟨a6, c6, rfl, hc6, hb⟩
    replace HV := hid (HV.out.trans (hb.mono HV.out.size))
    have HW2 := hid (HW.out.trans (HV.out.mono HW.out.size))
    clear hb HV HP HW
    go_wp2_with fail
    go_round
    case rel => exact ⟨k + 1, by omega, by go_num, HW2⟩
    case measure => simp [intOf]; omega
  · obtain rfl : k = 2 := by omega
    have HW0 := hid (HX.out _ HW.out)
    clear HK HX HW HB0
    go_wp2_with fail
    refine (alive13_any _).mono ?_
    rintro e wz ⟨rfl, hb⟩
    have HZ := hid (HW0.out.trans (hb.mono HW0.out.size))
    clear hb
    go_wp2
    go_ret
    exact ⟨rfl, HZ.out⟩

/-! ### The row's step -/
set_option maxRecDepth 1000000 in
theorem lifted (os : Os) (started : os.Started) (H : Type) (enc : TypeId × Value → H) :
    ReturnsInHanded {} Try.checked os 5 .any (Rows.pageNobodySpec.pre6 enc Try.prog Try.f5 Rows.pageNobodyRow.domain false) (Rows.pageNobodySpec.post enc Try.prog Try.f5 false true false false) := by
  refine returnsInHanded_of_change (C := Try.checked) own started (by kernel_rfl) Try.func5
    (ChangeSpec.witness6 (enc := enc) (C := Try.checked) false ⟨#[], #[.int .i64 0], []⟩ 8 (by kernel_rfl) (by kernel_rfl) (by kernel_rfl) (by kernel_rfl)) ?_
  intro W base args ds gs before hval0 hW hcnd _
  have hval : ∀ (j : Nat) t v, Try.f5.params[j]? = some t → args[j]? = some v → Value.okWide Try.prog W .any base t v := hval0
  have hW' := hW
  obtain ⟨p, q, hA0, hV, rfl, hfz, hnd⟩ := hW
  have hA : DataW.TrodAll enc Try.prog W 0 (fun _ => true) true Try.f5.params.toList args.toList ds p := hA0
  rw [Try.params5] at hA hval
  obtain ⟨v0, vs0, d0, ds0, p0, q0, hargs, rfl, rfl, h0, r0⟩ := trodAll_cons hA
  obtain ⟨rfl, rfl, rfl⟩ := trodAll_nil r0
  obtain rfl : args = #[v0] := by cases args; simp_all
  obtain ⟨rfl, rfl⟩ := trodVars_none hV
  have k0 := h0
  have lt0 : ∀ x ∈ p0, x.block < W.heap.size := by obtain ⟨m, hm⟩ := k0; exact DataW.trod_lt m _ _ _ hm
  obtain ⟨n0, rfl, gn0⟩ := pint_open (hval 0 3 v0 rfl rfl) h0
  clear hA0 hval0
  refine (walk n0 W gn0).mono fun e W' ⟨he, bel⟩ => ?_
  subst he
  exact ⟨_, rfl, _, _, _, [], _, [], hW', trodAll_mk1 (shut_bool Try.underlying4 _), (trodAll_cons_mk (Below.trod laidOut (by kernel_rfl) (of_decide_eq_true (by kernel_rfl)) k0 bel lt0) trodAll_mk0), rfl, bel.frame _, fun h => by cases h⟩

theorem over : Rows.pageNobodyRow.holds Try.pinned (OpenSpec.ofChange Rows.pageNobodySpec) :=
  OpenClaim.holds_of_wide 5 Try.f5 rfl rfl rfl rfl rfl rfl rfl ⟨rfl, rfl, rfl, rfl, rfl⟩ rfl rfl rfl rfl rfl (by kernel_rfl) Try.func5 (by kernel_rfl)
    (of_decide_eq_true (by kernel_rfl)) (by unfold Func.isWrapper; first | (rw [if_pos (by decide +kernel)]; kernel_rfl) | (rw [if_neg (by decide +kernel)]; exact ⟨rfl, rfl⟩))
    (fun os started H enc _ => lifted os started H enc)

/-- The statement. -/
theorem proved : Rows.PageNobodySaid := over
#print axioms proved
end Go.Proofs.Ytdmakboapchhnaa.pageNobody
