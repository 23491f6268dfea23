/-
  RingNobody: a ring that nobody made answers an error, and has nothing.
-/
import Derived.Test.YtaiojhigomdocaaRows
import Derived.Test.YtaiojhigomdocaaRnNo
import Derived.WalkKit
import Derived.ProofKit
import Derived.OpenShut
import Derived.ShutString
import Derived.ChangeOld
import Derived.Below
namespace Go.Proofs.Ytaiojhigomdocaa.ringNobody
open Go.ChangeShapes Go.WideShapes Go.ChangeAt Go.RowKit
open Go.ChangeMaps (open_string shut_string)
set_option linter.unusedVariables false

theorem own : ownKnob Try.prog.godebug = none := by kernel_rfl
theorem laidOut : laidOutB Try.prog = true := by kernel_rfl

/-! ### The walk -/
set_option maxRecDepth 1000000 in
set_option maxHeartbeats 8000000 in
theorem walk (a0 : Int) (a1 : Option Addr) (l1 c1 : Nat) (ks1 ns1 : List Int) (a2 : Int) (w : World) (ga0 : isU a0) (ga1 : Lds w a1 l1 c1 ks1 ns1) (ga2 : isI a2) :
    Calls Try.prog 6 #[.int .u64 a0, .slice a1 l1 c1, .int .i64 a2] w fun e w' => e = .returned (.bool true) ∧ Below w.heap.size w w' := by
  have HLo := hid fun (W' : World) (hb : Below w.heap.size w W') => loads_any a1 l1 c1 ks1 ns1 W' (ga1.below hb)
  obtain ⟨wA, hwA⟩ : ∃ wA, wA = w.alloc (.cells #[.int .u64 0, .int .i64 0, .map none, .slice none 0 0] 58) := ⟨_, rfl⟩
  have hA : wA.heap[w.heap.size]? = some (.cells #[.int .u64 0, .int .i64 0, .map none, .slice none 0 0] 58 (0, 0)) := by rw [hwA]; exact heap_alloc_new w _
  have hbA : Below w.heap.size w wA := by rw [hwA]; exact (Below.refl _ _).alloc (Nat.le_refl _) _
  obtain ⟨wB, hwB⟩ : ∃ wB, wB = wA.alloc (.cells #[.pointer none, .pointer (some ⟨w.heap.size, 0, none⟩)] 27) := ⟨_, rfl⟩
  have hB : wB.heap[wA.heap.size]? = some (.cells #[.pointer none, .pointer (some ⟨w.heap.size, 0, none⟩)] 27 (0, 0)) := by rw [hwB]; exact heap_alloc_new wA _
  have hbB : Below wA.heap.size wA wB := by rw [hwB]; exact (Below.refl _ _).alloc (Nat.le_refl _) _
  have hsA : wA.heap.size = w.heap.size + 1 := by rw [hwA]; simp
  have HBB := hid (hbA.trans (hbB.mono hbA.size))
  have HP : Hid (∀ (W' : World), Below wB.heap.size wB W' → ∀ k, k < 2 → ∃ p, W'.cell? ⟨w.heap.size + 1, k, none⟩ = some (.pointer p) ∧ RnNo W' p) := by
    intro W' hb k hk
    have h1 := block_bel (block_bel hA hbB) hb
    have h2 := block_bel hB hb
    rw [hsA] at h2
    obtain rfl | rfl : k = 0 ∨ k = 1 := by omega
    · exact ⟨none, by rw [cell_of_row _ _ _ _ _ _ h2]; rfl, .inl rfl⟩
    · exact ⟨some ⟨w.heap.size, 0, none⟩, by rw [cell_of_row _ _ _ _ _ _ h2]; rfl, .inr ⟨_, rfl, by rw [cell_of_row _ _ _ _ _ _ h1]; rfl⟩⟩
  have HE : Hid (∀ W' : World, Below wB.heap.size wB W' → Below w.heap.size w W') := fun W' hb => HBB.out.trans (hb.mono HBB.out.size)
  clear hA hB hbA hbB ga1
  go_enter Try.func6, Try.ntmps6
  go_wp2_with fail
  rw [← hwA, ← hwB]
  have HV0 := hid (Below.refl wB.heap.size wB)
  clear hwA hwB
  obtain ⟨gs, Hgs⟩ : ∃ gs, Hid (w.heap.size + 1 = gs) := ⟨_, rfl⟩
  rw [Hgs.out] at HP
  rw [Hgs.out]
  go_loopw [15] (fun z W' => ∃ k : Nat, k ≤ 2 ∧ z = .int .i64 k ∧ Hid (Below wB.heap.size wB W')) (fun z _ => 2 - (intOf z).toNat)
  case atStart => exact ⟨0, by omega, rfl, HV0⟩
  case round =>
  obtain ⟨k, hk, rfl, HV⟩ := hrel
  rename World => w1
  clear HV0
  by_cases hk2 : k < 2
  · have g1 : (k : Int) < 2 := by omega
    obtain ⟨p, cp, hno⟩ := HP.out _ HV.out k hk2
    have hL1 := HLo.out _ (HE.out _ HV.out)
    have HNo := hid hno
    clear hno
    go_wp2_with fail
    refine hL1.mono ?_
    rintro r w2 ⟨rfl, H2⟩
    have HV2 : Hid (Below wB.heap.size wB w2) := HV.out.trans (H2.out.2.mono HV.out.size)
    have HN2 := hid (HNo.out.below H2.out.2)
    clear hL1 H2 HNo HV cp
    go_wp2_with fail
    refine (no_pick HN2.out a0 a2 _).mono ?_
    rintro r w3 ⟨rfl, rfl⟩
    go_wp2_with fail
    refine (no_add HN2.out a0).mono ?_
    rintro r w4 ⟨rfl, rfl⟩
    go_wp2_with fail
    refine (no_drop HN2.out a0).mono ?_
    rintro r w5 ⟨rfl, rfl⟩
    go_wp2_with fail
    refine (no_nodes HN2.out).mono ?_
    rintro r w6 ⟨rfl, rfl⟩
    go_wp2_with fail
    refine (no_order HN2.out a0).mono ?_
    rintro r w7 ⟨rfl, rfl⟩
    have hL2 := HLo.out _ (HE.out _ HV2.out)
    go_wp2_with fail
    refine hL2.mono ?_
    rintro r w8 ⟨rfl, H8⟩
    have HV8 : Hid (Below wB.heap.size wB w8) := HV2.out.trans (H8.out.2.mono HV2.out.size)
    have HN8 := hid (HN2.out.below H8.out.2)
    clear hL2 H8 HN2 HV2
    go_wp2_with fail
    refine (no_bound HN8.out _ a2).mono ?_
    rintro r w9 ⟨rfl, rfl⟩
    go_wp2_with fail
    go_round
    case rel => exact ⟨k + 1, by omega, by go_num, HV8⟩
    case measure => simp [intOf]; omega
  · have g1 : ¬ (k : Int) < 2 := by omega
    have HVE := hid (HE.out _ HV.out)
    clear HV HP HLo
    go_wp2_with fail
    refine (alive16_any _).mono ?_
    rintro e wz ⟨rfl, HZ0⟩
    have HZ := hid (HVE.out.trans (HZ0.out.mono HVE.out.size))
    clear HZ0
    go_wp2
    go_ret
    exact ⟨rfl, HZ.out⟩

/-! ### The row's step -/
set_option maxRecDepth 1000000 in
theorem lifted (os : Os) (started : os.Started) (H : Type) (enc : TypeId × Value → H) :
    ReturnsInHanded {} Try.checked os 6 .any (Rows.ringNobodySpec.pre6 enc Try.prog Try.f6 Rows.ringNobodyRow.domain false) (Rows.ringNobodySpec.post enc Try.prog Try.f6 false true false false) := by
  refine returnsInHanded_of_change (C := Try.checked) own started (by kernel_rfl) Try.func6
    (ChangeSpec.witness6 (enc := enc) (C := Try.checked) false ⟨#[], #[.int .u64 0, .slice none 0 0, .int .i64 0], []⟩ 8 (by kernel_rfl) (by kernel_rfl) (by kernel_rfl) (by kernel_rfl)) ?_
  intro W base args ds gs before hval0 hW hcnd _
  have hval : ∀ (j : Nat) t v, Try.f6.params[j]? = some t → args[j]? = some v → Value.okWide Try.prog W .any base t v := hval0
  have hW' := hW
  obtain ⟨p, q, hA0, hV, rfl, hfz, hnd⟩ := hW
  have hA : DataW.TrodAll enc Try.prog W 0 (fun _ => true) true Try.f6.params.toList args.toList ds p := hA0
  rw [Try.params6] at hA hval
  obtain ⟨v0, vs0, d0, ds0, p0, q0, hargs, rfl, rfl, h0, r0⟩ := trodAll_cons hA
  obtain ⟨v1, vs1, d1, ds1, p1, q1, rfl, rfl, rfl, h1, r1⟩ := trodAll_cons r0
  obtain ⟨v2, vs2, d2, ds2, p2, q2, rfl, rfl, rfl, h2, r2⟩ := trodAll_cons r1
  obtain ⟨rfl, rfl, rfl⟩ := trodAll_nil r2
  obtain rfl : args = #[v0, v1, v2] := by cases args; simp_all
  obtain ⟨rfl, rfl⟩ := trodVars_none hV
  have k0 := h0
  have lt0 : ∀ x ∈ p0, x.block < W.heap.size := by obtain ⟨m, hm⟩ := k0; exact DataW.trod_lt m _ _ _ hm
  obtain ⟨a0, rfl, ga0⟩ := unum_open (hval 0 22 v0 rfl rfl) h0
  have k1 := h1
  have lt1 : ∀ x ∈ p1, x.block < W.heap.size := by obtain ⟨m, hm⟩ := k1; exact DataW.trod_lt m _ _ _ hm
  obtain ⟨a1, l1, c1, ks1, ns1, rfl, ga1⟩ := loads_open (hval 1 26 v1 rfl rfl) h1
  have k2 := h2
  have lt2 : ∀ x ∈ p2, x.block < W.heap.size := by obtain ⟨m, hm⟩ := k2; exact DataW.trod_lt m _ _ _ hm
  obtain ⟨a2, rfl, ga2⟩ := inum_open (hval 2 3 v2 rfl rfl) h2
  clear hA0 hval0
  refine (walk a0 a1 l1 c1 ks1 ns1 a2 W ga0 ga1 ga2).mono fun e W' ⟨he, bel⟩ => ?_
  subst he
  exact ⟨_, rfl, _, _, _, [], _, [], hW', trodAll_mk1 (shut_bool Try.underlying4 _), (trodAll_cons_mk (Below.trod laidOut (by kernel_rfl) (of_decide_eq_true (by kernel_rfl)) k0 bel lt0) (trodAll_cons_mk (Below.trod laidOut (by kernel_rfl) (of_decide_eq_true (by kernel_rfl)) k1 bel lt1) (trodAll_cons_mk (Below.trod laidOut (by kernel_rfl) (of_decide_eq_true (by kernel_rfl)) k2 bel lt2) trodAll_mk0))), rfl, bel.frame _, fun h => by cases h⟩

theorem over : Rows.ringNobodyRow.holds Try.pinned (OpenSpec.ofChange Rows.ringNobodySpec) :=
  OpenClaim.holds_of_wide 6 Try.f6 rfl rfl rfl rfl rfl rfl rfl ⟨rfl, rfl, rfl, rfl, rfl⟩ rfl rfl rfl rfl rfl (by kernel_rfl) Try.func6 (by kernel_rfl)
    (of_decide_eq_true (by kernel_rfl)) (by unfold Func.isWrapper; first | (rw [if_pos (by decide +kernel)]; kernel_rfl) | (rw [if_neg (by decide +kernel)]; exact ⟨rfl, rfl⟩))
    (fun os started H enc _ => lifted os started H enc)

/-- The statement. -/
theorem proved : Rows.RingNobodySaid := over
#print axioms proved
end Go.Proofs.Ytaiojhigomdocaa.ringNobody
