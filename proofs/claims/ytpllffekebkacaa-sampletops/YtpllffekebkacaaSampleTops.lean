/-
  Proved: what is drawn is one of the top greatest ones, of one, or without heat, it is the likeliest: SampleTops hands back true for whatever marks, top, heat, seed and place.
-/
import Derived.Test.YtpllffekebkacaaRows
import Derived.Test.YtpllffekebkacaaSaArgs
import Derived.WalkKit
import Derived.ProofKit
import Derived.OpenShut
import Derived.ShutString
import Derived.ChangeOld
import Derived.Below
namespace Go.Proofs.Ytpllffekebkacaa.sampleTops
open Go.ChangeShapes Go.WideShapes Go.ChangeAt Go.RowKit
open Go.ChangeMaps (open_string shut_string)
set_option linter.unusedVariables false

theorem own : ownKnob Try.prog.godebug = none := by kernel_rfl
theorem laidOut : laidOutB Try.prog = true := by kernel_rfl

/-! ### The walk -/
set_option maxRecDepth 1000000 in
set_option maxHeartbeats 8000000 in
theorem walk (a0 : Option Addr) (l0 c0 : Nat) (z0 : List Int) (d1 : Dr) (w : World) (ga0 : Reads .i64 w a0 l0 c0 z0) :
    Calls Try.prog 5 #[.slice a0 l0 c0, .agg (DrV d1)] w fun e w' => e = .returned (.bool true) ∧ Below w.heap.size w w' := by
  obtain ⟨wA, hwA⟩ : ∃ wA, wA = w.alloc (.cells (DrV d1) 25) := ⟨_, rfl⟩
  have HB0 : Hid (Below w.heap.size w wA) := by unfold Hid; rw [hwA]; exact (Below.refl _ _).alloc (Nat.le_refl _) _
  have HK : Hid (∀ W : World, Below wA.heap.size wA W → W.cell? ⟨w.heap.size, 0, none⟩ = some (.int .i64 d1.top) ∧ W.cell? ⟨w.heap.size, 1, none⟩ = some (.int .i64 d1.heat) ∧ W.cell? ⟨w.heap.size, 2, none⟩ = some (.int .u64 d1.seed) ∧ W.cell? ⟨w.heap.size, 3, none⟩ = some (.int .u64 d1.place)) := by
    intro W hb
    have e1 : wA.heap[w.heap.size]? = some (.cells (DrV d1) 25 (0, 0)) := by rw [hwA]; exact heap_alloc_new w _
    exact Dr_cells (block_below e1 hb)
  have HR : Hid (∀ W : World, Below wA.heap.size wA W → Reads .i64 W a0 l0 c0 z0) := fun W hb => (ga0.below HB0.out).below hb
  have hF := far11_any a0 l0 c0 z0 wA (ga0.below HB0.out)
  obtain ⟨tt, h, s, p⟩ := d1
  unfold DrV at hwA
  simp only at HK hwA
  unfold DrV
  simp only
  have hz := ga0.size
  have r1 := ga0.room
  have m1 := ga0.most
  clear ga0
  go_enter Try.func5, Try.ntmps5
  go_wp2_with fail
  rw [← hwA]
  refine hF.mono ?_
  rintro e w' ⟨rfl, rfl⟩
  rename World => wA
  clear hwA hF
  by_cases hl : 200 < l0
  · rw [decide_eq_true hl]
    have HW0 := HB0
    clear HK HR
    go_wp2_with fail
    refine (alive11_any _).mono ?_
    rintro e wz ⟨rfl, hb⟩
    have HZ := hid (HW0.out.trans (hb.mono HW0.out.size))
    clear hb
    go_wp2
    go_ret
    exact ⟨rfl, HZ.out⟩
  rw [decide_eq_false hl]
  have HBe := hid fun W (hb : Below wA.heap.size wA W) => best_any a0 l0 c0 z0 W (HR.out W hb) (by omega)
  have HDr := hid fun t0 h0 W (hb : Below wA.heap.size wA W) => draw_of a0 l0 c0 z0 t0 h0 s p W (HR.out W hb) (by omega)
  have HX : Hid (∀ W : World, Below wA.heap.size wA W → Below w.heap.size w W) := fun W hW => HB0.out.trans (hW.mono HB0.out.size)
  have HV : Hid (Below wA.heap.size wA wA) := Below.refl _ _
  clear HB0
  obtain ⟨x0, x1, x2, x3⟩ := HK.out _ HV.out
  go_wp2_with fail
  refine (HDr.out tt h _ HV.out).mono ?_
  rintro e w2 ⟨t, rfl, hD, hb⟩
  have HD := hid hD
  replace HV := hid (HV.out.trans (hb.mono HV.out.size))
  clear hb x0 x1 x2 x3 hD
  by_cases h0 : l0 = 0
  · subst h0
    have hz : z0 = [] := List.eq_nil_of_length_eq_zero hz
    subst hz
    obtain rfl := HD.out.nil
    have HW0 := hid (HX.out _ HV.out)
    clear HK HR HBe HDr HX HV HD
    go_wp2_with fail
    refine (alive11_any _).mono ?_
    rintro e wz ⟨rfl, hb⟩
    have HZ := hid (HW0.out.trans (hb.mono HW0.out.size))
    clear hb
    go_wp2
    go_ret
    exact ⟨rfl, HZ.out⟩
  have q0 : ¬ (l0 : Int) = 0 := by omega
  obtain ⟨K, hK, hKl⟩ := kof_any (mx1 tt) l0
  have HKo := hid hK
  have hT := top_any a0 l0 c0 K (mx1 tt) z0 w2 (HR.out _ HV.out) (by omega) hK hKl
  have hmx : (if tt < 1 then 1 else tt) = mx1 tt := by unfold mx1; split <;> omega
  have HMem : Hid (1 ≤ h → ∀ ps, TopOf z0 l0 K ps → ∃ k, k < K ∧ t = ps[k]?.getD 0) := fun h1 ps hp => HD.out.mem (by omega) h1 (by rw [hz]; exact hK) (by rw [hz]; exact hp)
  have HB1 : Hid (h < 1 → t = bestZ z0) := fun h1 => (HD.out.best (.inr h1)).eq.symm
  clear hK HD HKo
  obtain ⟨x0, x1, x2, x3⟩ := HK.out _ HV.out
  generalize mx1 tt = T at *
  go_wp2_with fail
  refine hT.mono ?_
  rintro e w3 ⟨g, ps, rfl, hO, hP, hb⟩
  replace HMem := hid fun h1 => HMem.out h1 ps hP
  have HO := hid hO
  replace HV := hid (HV.out.trans (hb.mono HV.out.size))
  clear hb x0 x1 x2 x3 hT hO hP hmx
  go_wp2_with fail
  go_loopw [6, 38] (fun u i W => ∃ (k : Nat) (b : Bool), k ≤ K ∧ u = .bool b ∧ i = .int .i64 k ∧ Hid (W = w3) ∧ Hid (∀ i, i < k → t = ps[i]?.getD 0 → b = true)) (fun _ i _ => K - (intOf i).toNat)
  case atStart => exact ⟨0, false, Nat.zero_le _, rfl, rfl, rfl, fun i hi => absurd hi (by omega)⟩
  case round =>
  obtain ⟨k, b, hk, rfl, rfl, hW, HF⟩ := hrel
  have hW := hW.out
  subst hW
  rename World => wr
  by_cases hlt : k < K
  · have ck := HO.out.cell hlt
    have q1 : (k : Int) < (K : Int) := by omega
    cases b with
    | true =>
      clear HF HMem HB1 HX HV HBe HDr HR HK
      go_wp2_with fail
      go_round
      case rel => exact ⟨k + 1, true, by omega, rfl, by go_num, trivial, fun _ _ _ => rfl⟩
      case measure => simp [intOf]; omega
    | false =>
      by_cases hx : t = ps[k]?.getD 0
      · clear HF HMem HB1 HX HV HBe HDr HR HK HO
        rw [← hx] at ck
        clear hx
        go_wp2_with fail
        go_round
        case rel => exact ⟨k + 1, true, by omega, rfl, by go_num, trivial, fun _ _ _ => rfl⟩
        case measure => simp [intOf]; omega
      · have HF2 : Hid (∀ i, i < k + 1 → t = ps[i]?.getD 0 → false = true) := fun i hi hti => by
          rcases (by omega : i < k ∨ i = k) with h' | rfl
          · exact HF.out i h' hti
          · exact absurd hti hx
        have hx2 : ¬ ps[k]?.getD 0 = t := fun e => hx e.symm
        clear HF HMem HB1 HX HV HBe HDr HR HK HO hx
        generalize ps[k]?.getD 0 = x at *
        go_wp2_with fail
        go_round
        case rel => exact ⟨k + 1, false, by omega, by simp [hx2], by go_num, trivial, HF2⟩
        case measure => simp [intOf]; omega
  · obtain rfl : k = K := by omega
    have HFo : Hid (b = false → h < 1 ∧ t = bestZ z0) := fun hbf => by
      by_cases h1 : h < 1
      · exact ⟨h1, HB1.out h1⟩
      · obtain ⟨i, hi, e⟩ := HMem.out (by omega)
        have := HF.out i hi e
        rw [hbf] at this
        cases this
    clear HF HMem HB1 HO hlt hk
    obtain ⟨x0, x1, x2, x3⟩ := HK.out _ HV.out
    go_wp2_with fail
    refine (HDr.out 1 h _ HV.out).mono ?_
    rintro e w4 ⟨t1, rfl, hD, hb⟩
    obtain rfl := (hD.best (.inl (by omega))).eq
    replace HV := hid (HV.out.trans (hb.mono HV.out.size))
    clear hb x0 x1 x2 x3 hD
    obtain ⟨x0, x1, x2, x3⟩ := HK.out _ HV.out
    obtain ⟨mn, hmn⟩ : ∃ mn : Int, (if h < 0 then h else 0) = mn := ⟨_, rfl⟩
    have hmn2 : (if 0 < h then 0 else h) = mn := by rw [← hmn]; split <;> split <;> omega
    have hm0 : mn < 1 := by rw [← hmn]; split <;> omega
    go_wp2_with fail
    refine (HDr.out tt mn _ HV.out).mono ?_
    rintro e w5 ⟨t2, rfl, hD, hb⟩
    obtain rfl := (hD.best (.inr hm0)).eq
    replace HV := hid (HV.out.trans (hb.mono HV.out.size))
    clear hb x0 x1 x2 x3 hD HDr HR hm0 hmn hmn2
    obtain ⟨x0, x1, x2, x3⟩ := HK.out _ HV.out
    generalize bestZ z0 = tb at *
    cases b with
    | true =>
      clear HFo x0 x1 x2 x3 HK
      go_wp2_with fail
      refine (HBe.out _ HV.out).mono ?_
      rintro e w6 ⟨rfl, hb⟩
      replace HV := hid (HV.out.trans (hb.mono HV.out.size))
      clear hb
      go_wp2_with fail
      refine (HBe.out _ HV.out).mono ?_
      rintro e w7 ⟨rfl, hb⟩
      have HW0 := hid (HX.out _ (HV.out.trans (hb.mono HV.out.size)))
      clear hb HBe HV HX
      go_wp2_with fail
      refine (alive11_any _).mono ?_
      rintro e wz ⟨rfl, hb⟩
      have HZ := hid (HW0.out.trans (hb.mono HW0.out.size))
      clear hb
      go_wp2
      go_ret
      exact ⟨rfl, HZ.out⟩
    | false =>
      obtain ⟨hh, rfl⟩ := HFo.out rfl
      clear HFo HK
      go_wp2_with fail
      refine (HBe.out _ HV.out).mono ?_
      rintro e w6 ⟨rfl, hb⟩
      replace HV := hid (HV.out.trans (hb.mono HV.out.size))
      clear hb x0 x1 x2 x3
      go_wp2_with fail
      refine (HBe.out _ HV.out).mono ?_
      rintro e w7 ⟨rfl, hb⟩
      replace HV := hid (HV.out.trans (hb.mono HV.out.size))
      clear hb
      go_wp2_with fail
      refine (HBe.out _ HV.out).mono ?_
      rintro e w8 ⟨rfl, hb⟩
      have HW0 := hid (HX.out _ (HV.out.trans (hb.mono HV.out.size)))
      clear hb HBe HV HX
      go_wp2_with fail
      refine (alive11_any _).mono ?_
      rintro e wz ⟨rfl, hb⟩
      have HZ := hid (HW0.out.trans (hb.mono HW0.out.size))
      clear hb
      go_wp2
      go_ret
      exact ⟨rfl, HZ.out⟩

/-! ### The row's step -/
set_option maxRecDepth 1000000 in
theorem lifted (os : Os) (started : os.Started) (H : Type) (enc : TypeId × Value → H) :
    ReturnsInHanded {} Try.checked os 5 .any (Rows.sampleTopsSpec.pre6 enc Try.prog Try.f5 Rows.sampleTopsRow.domain false) (Rows.sampleTopsSpec.post enc Try.prog Try.f5 false true false false) := by
  refine returnsInHanded_of_change (C := Try.checked) own started (by kernel_rfl) Try.func5
    (ChangeSpec.witness6 (enc := enc) (C := Try.checked) false ⟨#[], #[.slice none 0 0, .agg #[.int .i64 0, .int .i64 0, .int .u64 0, .int .u64 0]], []⟩ 8 (by kernel_rfl) (by kernel_rfl) (by kernel_rfl) (by kernel_rfl)) ?_
  intro W base args ds gs before hval0 hW hcnd _
  have hval : ∀ (j : Nat) t v, Try.f5.params[j]? = some t → args[j]? = some v → Value.okWide Try.prog W .any base t v := hval0
  have hW' := hW
  obtain ⟨p, q, hA0, hV, rfl, hfz, hnd⟩ := hW
  have hA : DataW.TrodAll enc Try.prog W 0 (fun _ => true) true Try.f5.params.toList args.toList ds p := hA0
  rw [Try.params5] at hA hval
  obtain ⟨v0, vs0, d0, ds0, p0, q0, hargs, rfl, rfl, h0, r0⟩ := trodAll_cons hA
  obtain ⟨v1, vs1, d1, ds1, p1, q1, rfl, rfl, rfl, h1, r1⟩ := trodAll_cons r0
  obtain ⟨rfl, rfl, rfl⟩ := trodAll_nil r1
  obtain rfl : args = #[v0, v1] := by cases args; simp_all
  obtain ⟨rfl, rfl⟩ := trodVars_none hV
  have k0 := h0
  have lt0 : ∀ x ∈ p0, x.block < W.heap.size := by obtain ⟨m, hm⟩ := k0; exact DataW.trod_lt m _ _ _ hm
  obtain ⟨a0, l0, c0, z0, rfl, ga0⟩ := ints_open (hval 0 22 v0 rfl rfl) h0
  have k1 := h1
  have lt1 : ∀ x ∈ p1, x.block < W.heap.size := by obtain ⟨m, hm⟩ := k1; exact DataW.trod_lt m _ _ _ hm
  obtain ⟨d1, rfl⟩ := draws_open (hval 1 25 v1 rfl rfl) h1
  clear hA0 hval0
  refine (walk a0 l0 c0 z0 d1 W ga0).mono fun e W' ⟨he, bel⟩ => ?_
  subst he
  exact ⟨_, rfl, _, _, _, [], _, [], hW', trodAll_mk1 (shut_bool Try.underlying4 _), (trodAll_cons_mk (Below.trod laidOut (by kernel_rfl) (of_decide_eq_true (by kernel_rfl)) k0 bel lt0) (trodAll_cons_mk (Below.trod laidOut (by kernel_rfl) (of_decide_eq_true (by kernel_rfl)) k1 bel lt1) trodAll_mk0)), rfl, bel.frame _, fun h => by cases h⟩

theorem over : Rows.sampleTopsRow.holds Try.pinned (OpenSpec.ofChange Rows.sampleTopsSpec) :=
  OpenClaim.holds_of_wide 5 Try.f5 rfl rfl rfl rfl rfl rfl rfl ⟨rfl, rfl, rfl, rfl, rfl⟩ rfl rfl rfl rfl rfl (by kernel_rfl) Try.func5 (by kernel_rfl)
    (of_decide_eq_true (by kernel_rfl)) (by unfold Func.isWrapper; first | (rw [if_pos (by decide +kernel)]; kernel_rfl) | (rw [if_neg (by decide +kernel)]; exact ⟨rfl, rfl⟩))
    (fun os started H enc _ => lifted os started H enc)

/-- The statement. -/
theorem proved : Rows.SampleTopsSaid := over
#print axioms proved
end Go.Proofs.Ytpllffekebkacaa.sampleTops
