/-
  RingBounds: there is always a node whose load is below the bound, and it is picked.
-/
import Derived.Test.YtaiojhigomdocaaRows
import Derived.Test.YtaiojhigomdocaaRnBd
import Derived.WalkKit
import Derived.ProofKit
import Derived.OpenShut
import Derived.ShutString
import Derived.ChangeOld
import Derived.Below
namespace Go.Proofs.Ytaiojhigomdocaa.ringBounds
open Go.ChangeShapes Go.WideShapes Go.ChangeAt Go.RowKit
open Go.ChangeMaps (open_string shut_string)
set_option linter.unusedVariables false

theorem own : ownKnob Try.prog.godebug = none := by kernel_rfl
theorem laidOut : laidOutB Try.prog = true := by kernel_rfl

/-! ### The walk -/
set_option maxRecDepth 1000000 in
set_option maxHeartbeats 8000000 in
theorem walk (s0 p0 f0 : Int) (a1 : Option Addr) (l1 c1 : Nat) (zs1 : List Int) (a2 : Option Addr) (l2 c2 : Nat) (ks2 ns2 : List Int) (w : World) (gs0 : isU s0 ∧ isI p0 ∧ isI f0) (ga1 : Reads .u64 w a1 l1 c1 zs1 ∧ ∀ x ∈ zs1, isU x) (ga2 : Lds w a2 l2 c2 ks2 ns2) :
    Calls Try.prog 5 #[.agg #[.int .u64 s0, .int .i64 p0, .int .i64 f0], .slice a1 l1 c1, .slice a2 l2 c2] w fun e w' => e = .returned (.bool true) ∧ Below w.heap.size w w' := by
  obtain ⟨hs, hp, hf⟩ := gs0
  obtain ⟨hrd, hU⟩ := ga1
  have HLo := hid fun (W' : World) (hb : Below w.heap.size w W') => loads_any a2 l2 c2 ks2 ns2 W' (ga2.below hb)
  have HRd := hid fun (W' : World) (hb : Below w.heap.size w W') => hrd.below hb
  have HU := hid hU
  have HL1 : Hid (zs1.length = l1) := hrd.size
  obtain ⟨wA, hwA⟩ : ∃ wA, wA = w.alloc (.cells #[.int .u64 s0, .int .i64 p0, .int .i64 f0] 24) := ⟨_, rfl⟩
  have hA : wA.heap[w.heap.size]? = some (.cells #[.int .u64 s0, .int .i64 p0, .int .i64 f0] 24 (0, 0)) := by rw [hwA]; exact heap_alloc_new w _
  have hbA : Below w.heap.size w wA := by rw [hwA]; exact (Below.refl _ _).alloc (Nat.le_refl _) _
  have HC : Hid (∀ W' : World, Below wA.heap.size wA W' → W'.cell? ⟨w.heap.size, 0, none⟩ = some (.int .u64 s0) ∧ W'.cell? ⟨w.heap.size, 1, none⟩ = some (.int .i64 p0) ∧ W'.cell? ⟨w.heap.size, 2, none⟩ = some (.int .i64 f0)) := fun W' hb => by
    have h1 := block_bel hA hb
    exact ⟨by rw [cell_of_row _ _ _ _ _ _ h1]; rfl, by rw [cell_of_row _ _ _ _ _ _ h1]; rfl, by rw [cell_of_row _ _ _ _ _ _ h1]; rfl⟩
  have HE : Hid (∀ W' : World, Below wA.heap.size wA W' → Below w.heap.size w W') := fun W' hb => hbA.trans (hb.mono hbA.size)
  have HV0 := hid (Below.refl wA.heap.size wA)
  obtain ⟨c0, c1, c2'⟩ := HC.out _ HV0.out
  by_cases hpp : p0 < 1 ∨ 64 < p0
  · have hN := rnew_no s0 p0 wA hpp
    have HVE := hid (HE.out _ HV0.out)
    clear hpp hA hbA hrd hU
    go_enter Try.func5, Try.ntmps5
    go_wp2_with fail
    rw [← hwA]
    refine hN.mono ?_
    rintro r w1 ⟨rfl, rfl⟩
    clear hwA
    go_wp2_with fail
    refine (alive16_any _).mono ?_
    rintro e wz ⟨rfl, HZ0⟩
    have HZ := hid (HVE.out.trans (HZ0.out.mono HVE.out.size))
    clear HZ0
    go_wp2
    go_ret
    exact ⟨rfl, HZ.out⟩
  · obtain ⟨e, rfl⟩ : ∃ e : Nat, (e : Int) = p0 := ⟨p0.toNat, by omega⟩
    have hN := rnew_yes s0 e wA hs (by omega)
    clear hpp hA hbA hrd hU
    go_enter Try.func5, Try.ntmps5
    go_wp2_with fail
    rw [← hwA]
    refine hN.mono ?_
    rintro r w1 ⟨rfl, H1⟩
    clear hwA hN c0 c1 c2'
    obtain ⟨gs, Hgs⟩ : ∃ gs, Hid (w.heap.size = gs) := ⟨_, rfl⟩
    rw [Hgs.out] at HC ⊢
    obtain ⟨M, HMm⟩ : ∃ M, Hid (wA.heap.size = M) := ⟨_, rfl⟩
    rw [HMm.out] at H1 ⊢
    obtain ⟨B, HBb⟩ : ∃ B, Hid (M + 1 = B) := ⟨_, rfl⟩
    rw [HBb.out] at H1 ⊢
    have HI0 : Hid (RnAt w1 B s0 e M (.slice none 0 0) [] [] ∧ (∀ k, rnF B M (.slice none 0 0) k → wA.heap.size ≤ k) ∧ Below wA.heap.size wA w1) := by
      refine ⟨H1.out.1, ?_, by rw [HMm.out]; exact H1.out.2⟩
      rintro k (rfl | rfl | h)
      · rw [HMm.out, ← HBb.out]; omega
      · rw [HMm.out]; exact Nat.le_refl _
      · cases h
    by_cases h64 : 64 < l1
    · have g1 : (64 : Int) < (l1 : Int) := by omega
      have HVE := hid (HE.out _ HI0.out.2.2)
      clear HI0 H1
      go_wp2_with fail
      refine (alive16_any _).mono ?_
      rintro e wz ⟨rfl, HZ0⟩
      have HZ := hid (HVE.out.trans (HZ0.out.mono HVE.out.size))
      clear HZ0
      go_wp2
      go_ret
      exact ⟨rfl, HZ.out⟩
    · have g1 : ¬ (64 : Int) < (l1 : Int) := by omega
      clear H1
      go_wp2_with fail
      go_loopw [39] (fun z W' => ∃ (k : Nat) (v : Value) (L : List Int) (P : List (Int × Int)), k ≤ l1 ∧ z = .int .i64 k ∧ Hid (RnAt W' B s0 e M v L P ∧ (∀ k, rnF B M v k → wA.heap.size ≤ k) ∧ Below wA.heap.size wA W') ∧ Hid (L.length ≤ k ∧ (0 < k → 0 < L.length))) (fun z _ => l1 - (intOf z).toNat)
      case atStart => exact ⟨0, _, _, _, by omega, rfl, HI0, ⟨by simp, fun h => by omega⟩⟩
      case round =>
      obtain ⟨k, v, L, P, hk, rfl, HI, HLn⟩ := hrel
      rename World => w2
      clear HI0
      by_cases hkl : k < l1
      · have g2 : (k : Int) < (l1 : Int) := by omega
        obtain ⟨b, off, rfl, hc⟩ := (HRd.out _ (HE.out _ HI.out.2.2)).cell k hkl
        obtain ⟨x, Hx⟩ : ∃ x, Hid (zs1[k]? = some x) := ⟨zs1[k]'(by rw [HL1.out]; exact hkl), List.getElem?_eq_getElem _⟩
        rw [Hx.out] at hc
        have hc' : w2.cell? ⟨b, off + k, none⟩ = some (.int .u64 x) := hc
        have hA1 := add_any HI.out.1 (x := x) (HU.out x (List.mem_of_getElem? Hx.out))
        obtain ⟨Z, HZ⟩ : ∃ Z, Hid (radd L x = Z ∧ 0 < Z.2.length ∧ Z.2.length ≤ k + 1) := ⟨_, rfl, radd_len HLn.out.1 (by omega)⟩
        rw [HZ.out.1] at hA1
        clear hc
        go_wp2_with fail
        refine hA1.mono ?_
        rintro r w3 ⟨rfl, H3⟩
        obtain ⟨v', P', q1, q2, q3⟩ := H3.out.step HI.out.2.1 HI.out.2.2.size
        have HN : Hid (RnAt w3 B s0 e M v' Z.2 P' ∧ (∀ k, rnF B M v' k → wA.heap.size ≤ k) ∧ Below wA.heap.size wA w3) := ⟨q1, q2, HI.out.2.2.trans q3⟩
        clear q1 q2 q3 H3 hA1 HI hc' Hx
        go_wp2_with fail
        go_round
        case rel => exact ⟨k + 1, v', Z.2, P', by omega, by go_num, HN, ⟨HZ.out.2.2, fun _ => HZ.out.2.1⟩⟩
        case measure => simp [intOf]; omega
      · have g2 : ¬ (k : Int) < (l1 : Int) := by omega
        obtain rfl : k = l1 := by omega
        have hL := HLo.out _ (HE.out _ HI.out.2.2)
        go_wp2_with fail
        refine hL.mono ?_
        rintro r w3 ⟨rfl, H3⟩
        clear hL HLo
        obtain ⟨⟨f, hld⟩, hb3⟩ := H3.out
        obtain ⟨m, Hmb⟩ : ∃ m, Hid (w2.heap.size = m) := ⟨_, rfl⟩
        rw [Hmb.out] at hld ⊢
        have HB3 : Hid (Below wA.heap.size wA w3) := HI.out.2.2.trans (hb3.mono HI.out.2.2.size)
        have HR3 := hid (HI.out.1.below hb3)
        have HD3 := hid hld
        have hP := pick_any HR3.out hld s0 f0
        obtain ⟨c0, c1, c2'⟩ := HC.out _ HB3.out
        clear H3 hb3 hld HI
        by_cases hk0 : k = 0
        · subst hk0
          obtain rfl : L = [] := List.eq_nil_of_length_eq_zero (by have := HLn.out.1; omega)
          have ho : ordL s0 P s0 = [] := List.Perm.eq_nil (ordL_perm HR3.out s0)
          rw [ho, pick_none] at hP
          clear ho
          go_wp2_with fail
          refine hP.mono ?_
          rintro r w4 ⟨rfl, H4⟩
          have HVE := hid (HE.out _ (HB3.out.trans (H4.out.mono HB3.out.size)))
          clear hP H4 HB3 HR3 HD3 c0 c1 c2'
          go_wp2_with fail
          refine (alive16_any _).mono ?_
          rintro e wz ⟨rfl, HZ0⟩
          have HZ := hid (HVE.out.trans (HZ0.out.mono HVE.out.size))
          clear HZ0
          go_wp2
          go_ret
          exact ⟨rfl, HZ.out⟩
        · have g3 : ¬ (k : Int) = 0 := by omega
          obtain ⟨y, hyL, hpz, hlt⟩ := pick_some (f := f) (fac := f0) (ordL_perm HR3.out s0) (HLn.out.2 (by omega))
          rw [hpz] at hP
          obtain ⟨_, _, _, _, _, hLU⟩ := id HR3.out.map
          have hyU : isU y := hLU y hyL
          obtain ⟨b, Hb⟩ : ∃ b, Hid (bndZ f f0 L = b ∧ cntZ (f y) < b) := ⟨_, rfl, hlt⟩
          clear hLU hpz hlt hyL
          go_wp2_with fail
          refine hP.mono ?_
          rintro r w4 ⟨rfl, H4⟩
          have HB4 : Hid (Below wA.heap.size wA w4) := HB3.out.trans (H4.out.mono HB3.out.size)
          have HR4 := hid (HR3.out.below H4.out)
          have HD4 := hid (HD3.out.below H4.out)
          clear hP H4 HB3 HR3 HD3 c0 c1 c2'
          have HBd := hid fun (W' : World) (hb : Below w4.heap.size w4 W') => bound_any (HR4.out.below hb) (HD4.out.below hb) f0
          rw [Hb.out.1] at HBd
          have HK : Hid (∀ W' : World, Below w4.heap.size w4 W' → W'.cell? ⟨gs, 2, none⟩ = some (.int .i64 f0)) := fun W' hb => (HC.out _ (HB4.out.trans (hb.mono HB4.out.size))).2.2
          have lk1 := HD4.out.look hyU
          have HLk := hid fun (W' : World) (hb : Below w4.heap.size w4 W') => (HD4.out.below hb).look hyU
          obtain ⟨q, Hq⟩ : ∃ q, Hid (cntZ (f y) = q) := ⟨_, rfl⟩
          have hqb : q < b := by rw [← Hq.out]; exact Hb.out.2
          have hq1 : min (max (f y) 0) 1048576 = q := Hq.out
          have HV := hid (Below.refl w4.heap.size w4)
          have HVd : Hid (Below w4.heap.size w4 w4.drew) := HV.out.drew
          have lkd := HLk.out _ HVd.out
          clear HR4 HD4 Hq Hb HC
          go_wp2_with fail
          go_region_held3 (fun W' : World => W'.cell? ⟨gs, 2, none⟩ = some (.int .i64 f0))
            (first | (with_reducible exact HK.out _ HV.out) | (with_reducible exact HK.out _ HVd.out) | (with_reducible exact HK.out _ HV5.out) | (with_reducible exact HK.out _ HV6.out))
            (first
              | (go_at_call 22; (with_reducible refine (HBd.out _ HVd.out).mono ?_); rintro r w5 ⟨rfl, H5⟩; have HV5 : Hid (Below w4.heap.size w4 w5) := HVd.out.trans (H5.out.mono HVd.out.size); have lk5 := HLk.out _ HV5.out; clear H5)
              | (go_at_call 9; (with_reducible refine (alive16_any _).mono ?_); rintro r w6 ⟨rfl, H6⟩; have HV6 : Hid (Below w4.heap.size w4 w6) := HV5.out.trans (H6.out.mono HV5.out.size); clear H6))
          all_goals
            have HVE := hid (HE.out _ (HB4.out.trans (HV6.out.mono HB4.out.size)))
            clear HK HBd HLk HV HVd
            go_wp2_with fail
            go_ret
            exact ⟨rfl, HVE.out⟩

/-! ### The row's step -/
set_option maxRecDepth 1000000 in
theorem lifted (os : Os) (started : os.Started) (H : Type) (enc : TypeId × Value → H) :
    ReturnsInHanded {} Try.checked os 5 .any (Rows.ringBoundsSpec.pre6 enc Try.prog Try.f5 Rows.ringBoundsRow.domain false) (Rows.ringBoundsSpec.post enc Try.prog Try.f5 false true false false) := by
  refine returnsInHanded_of_change (C := Try.checked) own started (by kernel_rfl) Try.func5
    (ChangeSpec.witness6 (enc := enc) (C := Try.checked) false ⟨#[], #[.agg #[.int .u64 0, .int .i64 0, .int .i64 0], .slice none 0 0, .slice none 0 0], []⟩ 8 (by kernel_rfl) (by kernel_rfl) (by kernel_rfl) (by kernel_rfl)) ?_
  intro W base args ds gs before hval0 hW hcnd _
  have hval : ∀ (j : Nat) t v, Try.f5.params[j]? = some t → args[j]? = some v → Value.okWide Try.prog W .any base t v := hval0
  have hW' := hW
  obtain ⟨p, q, hA0, hV, rfl, hfz, hnd⟩ := hW
  have hA : DataW.TrodAll enc Try.prog W 0 (fun _ => true) true Try.f5.params.toList args.toList ds p := hA0
  rw [Try.params5] at hA hval
  obtain ⟨v0, vs0, d0, ds0, p0, q0, hargs, rfl, rfl, h0, r0⟩ := trodAll_cons hA
  obtain ⟨v1, vs1, d1, ds1, p1, q1, rfl, rfl, rfl, h1, r1⟩ := trodAll_cons r0
  obtain ⟨v2, vs2, d2, ds2, p2, q2, rfl, rfl, rfl, h2, r2⟩ := trodAll_cons r1
  obtain ⟨rfl, rfl, rfl⟩ := trodAll_nil r2
  obtain rfl : args = #[v0, v1, v2] := by cases args; simp_all
  obtain ⟨rfl, rfl⟩ := trodVars_none hV
  have k0 := h0
  have lt0 : ∀ x ∈ p0, x.block < W.heap.size := by obtain ⟨m, hm⟩ := k0; exact DataW.trod_lt m _ _ _ hm
  obtain ⟨s0, p0, f0, rfl, gs0⟩ := set_open (hval 0 24 v0 rfl rfl) h0
  have k1 := h1
  have lt1 : ∀ x ∈ p1, x.block < W.heap.size := by obtain ⟨m, hm⟩ := k1; exact DataW.trod_lt m _ _ _ hm
  obtain ⟨a1, l1, c1, zs1, rfl, ga1⟩ := uints_open (hval 1 31 v1 rfl rfl) h1
  have k2 := h2
  have lt2 : ∀ x ∈ p2, x.block < W.heap.size := by obtain ⟨m, hm⟩ := k2; exact DataW.trod_lt m _ _ _ hm
  obtain ⟨a2, l2, c2, ks2, ns2, rfl, ga2⟩ := loads_open (hval 2 26 v2 rfl rfl) h2
  clear hA0 hval0
  refine (walk s0 p0 f0 a1 l1 c1 zs1 a2 l2 c2 ks2 ns2 W gs0 ga1 ga2).mono fun e W' ⟨he, bel⟩ => ?_
  subst he
  exact ⟨_, rfl, _, _, _, [], _, [], hW', trodAll_mk1 (shut_bool Try.underlying4 _), (trodAll_cons_mk (Below.trod laidOut (by kernel_rfl) (of_decide_eq_true (by kernel_rfl)) k0 bel lt0) (trodAll_cons_mk (Below.trod laidOut (by kernel_rfl) (of_decide_eq_true (by kernel_rfl)) k1 bel lt1) (trodAll_cons_mk (Below.trod laidOut (by kernel_rfl) (of_decide_eq_true (by kernel_rfl)) k2 bel lt2) trodAll_mk0))), rfl, bel.frame _, fun h => by cases h⟩

theorem over : Rows.ringBoundsRow.holds Try.pinned (OpenSpec.ofChange Rows.ringBoundsSpec) :=
  OpenClaim.holds_of_wide 5 Try.f5 rfl rfl rfl rfl rfl rfl rfl ⟨rfl, rfl, rfl, rfl, rfl⟩ rfl rfl rfl rfl rfl (by kernel_rfl) Try.func5 (by kernel_rfl)
    (of_decide_eq_true (by kernel_rfl)) (by unfold Func.isWrapper; first | (rw [if_pos (by decide +kernel)]; kernel_rfl) | (rw [if_neg (by decide +kernel)]; exact ⟨rfl, rfl⟩))
    (fun os started H enc _ => lifted os started H enc)

/-- The statement. -/
theorem proved : Rows.RingBoundsSaid := over
#print axioms proved
end Go.Proofs.Ytaiojhigomdocaa.ringBounds
