/-
  Proved: what a text is cut to, and fed with again, is the same: DecodeCuts hands back true for whatever configuration, job and number.
-/
import Derived.Test.YtahpilgbabjebaaGreatRows
import Derived.Test.YtahpilgbabjebaaGreatPk17
import Derived.Deep.RegionHeld3
import Derived.WalkKit
import Derived.ProofKit
import Derived.OpenShut
import Derived.ShutString
import Derived.ChangeOld
import Derived.Below
namespace Go.Proofs.YtahpilgbabjebaaGreat.decodeCuts
open Go.ChangeShapes Go.WideShapes Go.ChangeAt Go.RowKit
open Go.ChangeMaps (open_string shut_string)
set_option linter.unusedVariables false

theorem own : ownKnob Tryz.prog.godebug = none := by kernel_rfl
theorem laidOut : laidOutB Tryz.prog = true := by kernel_rfl

/-! ### The walk -/
set_option maxRecDepth 1000000 in
set_option maxHeartbeats 8000000 in
theorem walk (c0 : Cf) (j1 : Jb) (n2 : Int) (w : World) (gj1 : JbIn w j1) :
    Calls Tryz.prog 6 #[.agg (CfV c0), .agg (JbV j1), .int .i64 n2] w fun e w' => e = .returned (.bool true) ∧ Below w.heap.size w w' := by
  obtain ⟨wA, hwA⟩ : ∃ wA, wA = (w.alloc (.cells (CfV c0) 24)).alloc (.cells (JbV j1) 27) := ⟨_, rfl⟩
  have HB0 : Hid (Below w.heap.size w wA) := by unfold Hid; rw [hwA]; exact ((Below.refl _ _).alloc (Nat.le_refl _) _).alloc (by simp) _
  have HK : Hid (∀ W : World, Below wA.heap.size wA W → (W.cell? ⟨w.heap.size, 0, none⟩ = some (.int .u64 c0.seed) ∧ W.cell? ⟨w.heap.size, 1, none⟩ = some (.int .i64 c0.vocab) ∧ W.cell? ⟨w.heap.size, 2, none⟩ = some (.int .i64 c0.dim) ∧ W.cell? ⟨w.heap.size, 3, none⟩ = some (.int .i64 c0.layers) ∧ W.cell? ⟨w.heap.size, 4, none⟩ = some (.int .i64 c0.top) ∧ W.cell? ⟨w.heap.size, 5, none⟩ = some (.int .i64 c0.heat)) ∧ W.cell? ⟨w.heap.size + 1, 0, none⟩ = some (.int .u64 j1.seed) ∧ W.cell? ⟨w.heap.size + 1, 1, none⟩ = some (.slice j1.ap j1.lp j1.cp) ∧ W.cell? ⟨w.heap.size + 1, 2, none⟩ = some (.int .i64 j1.most)) := by
    intro W hb
    have e1 : wA.heap[w.heap.size]? = some (.cells (CfV c0) 24 (0, 0)) := by rw [hwA, Below.heap_alloc _ _ _ (by simp)]; exact heap_alloc_new w _
    have e2 : wA.heap[w.heap.size + 1]? = some (.cells (JbV j1) 27 (0, 0)) := by
      have := heap_alloc_new (w.alloc (.cells (CfV c0) 24)) (.cells (JbV j1) 27)
      rw [hwA]
      simpa using this
    exact ⟨Cf_cells (block_below e1 hb), Jb_cells (block_below e2 hb)⟩
  have HJ : Hid (∀ W : World, Below wA.heap.size wA W → JbIn W j1) := fun W hb => Reads.below (Reads.below gj1 HB0.out) hb
  have HX : Hid (∀ W : World, Below wA.heap.size wA W → Below w.heap.size w W) := fun W hW => HB0.out.trans (hW.mono HB0.out.size)
  have hz := gj1.size
  have hNy := fun (h : mayB c0 = true) => new_yes c0 wA h
  have hNn := fun (h : mayB c0 = false) => new_no c0 wA h
  have HF := hid fun W (hb : Below wA.heap.size wA W) => far12_any j1 W (HJ.out W hb)
  have HSt := hid fun (hc : mayB c0 = true) (hm : mayJ c0.vocab j1.most j1.ts = true) (h0 : (0 : Int) ≤ j1.most) (h1 : j1.lp ≤ 255) p W (hp : MdAt W p c0) (hb : Below wA.heap.size wA W) => dstart_yes p c0 j1 none 0 0 [] W hp hc (HJ.out W hb) (Reads.nil _ _) hm (by omega) (by omega) (fun i hi => absurd hi (by omega))
  have HFy := hid fun (hc : mayB c0 = true) p ts t F W (hs : StAt W p c0 ts F) => dfeed_yes p c0 ts t W hs hc
  have HNy := hid fun (hc : mayB c0 = true) p ts F W (hs : StAt W p c0 ts F) => dnext_yes p c0 ts j1.seed W hs hc
  have HNf := hid fun (hc : mayB c0 = true) p ts F W (hs : StAt W p c0 ts F) => dnext_full p c0 ts j1.seed W hs hc
  have HCu := hid fun (hc : mayB c0 = true) p ts n F W (hs : StAt W p c0 ts F) => dcut_any p c0 ts n W hs hc
  have HV2 : Hid (mayB c0 = true → 2 ≤ c0.vocab) := fun hc => (may_parts hc).1
  unfold JbV at HSt
  simp only [List.append_nil] at HSt
  have HMa := hid fun W (hb : Below wA.heap.size wA W) => dmay_any c0 j1 W (HJ.out W hb)
  obtain ⟨mj, hmj⟩ : ∃ mj, mayJ c0.vocab j1.most j1.ts = mj := ⟨_, rfl⟩
  rw [hmj] at HMa
  have hMJ := hid fun (h : mj = true) => mayJ_iff.1 (hmj.trans h)
  have hmj' := hid hmj
  clear hmj gj1 HB0
  obtain ⟨s, v, d, l, tt, h⟩ := c0
  obtain ⟨sd, ap, lp, cp, ts, mo⟩ := j1
  unfold CfV at hNy hNn hwA HMa
  unfold JbV at hwA HF HMa
  simp only at HK hNy hNn hwA HF HMa hz hMJ hmj'
  unfold CfV JbV
  simp only
  cases hc : mayB ⟨s, v, d, l, tt, h⟩ with
  | false =>
    have hN := hNn hc
    clear hNy hNn HMa hMJ hmj' hc HF HSt HFy HNy HNf HCu HV2
    go_enter Tryz.func6, Tryz.ntmps6
    go_wp2_with fail
    rw [← hwA]
    refine hN.mono ?_
    rintro e w1 ⟨rfl, hb⟩
    have HW0 := hid (HX.out _ hb)
    clear hN hb hwA HK HX
    go_wp2_with fail
    refine (alive12_any _).mono ?_
    rintro e wz ⟨rfl, hb⟩
    have HZ := hid (HW0.out.trans (hb.mono HW0.out.size))
    clear hb
    go_wp2
    go_ret
    exact ⟨rfl, HZ.out⟩
  | true =>
  have hN := hNy hc
  replace hc := hid hc
  clear hNy hNn
  go_enter Tryz.func6, Tryz.ntmps6
  go_wp2_with fail
  rw [← hwA]
  refine hN.mono ?_
  rintro e w1 ⟨g, rfl, hg, hM, hb⟩
  have HMM : Hid (∀ W : World, Below w1.heap.size w1 W → MdAt W (some ⟨g, 0, none⟩) ⟨s, v, d, l, tt, h⟩) := fun W hW => .inr ⟨g, rfl, block_below hM hW⟩
  have HU : Hid (∀ W : World, Below w1.heap.size w1 W → Below wA.heap.size wA W) := fun W hW => hb.trans (hW.mono hb.size)
  have HV : Hid (Below w1.heap.size w1 w1) := Below.refl _ _
  have hFa := HF.out w1 hb
  obtain ⟨⟨x0, x1, x2, x3, x4, x5⟩, x6, x7, x8⟩ := HK.out _ hb
  clear hN hb hwA HF hg hM
  go_wp2_with fail
  refine hFa.mono ?_
  rintro e w2 ⟨b, rfl, hfar, hb⟩
  replace HV := hid (HV.out.trans (hb.mono HV.out.size))
  clear hFa hb x0 x1 x2 x3 x4 x5 x6 x7 x8
  cases b with
  | true =>
    have HW0 := hid (HX.out _ (HU.out _ HV.out))
    clear HMa hMJ hmj' hfar HK HX HMM HU HV HSt HFy HNy HNf HCu HV2
    go_wp2_with fail
    refine (alive12_any _).mono ?_
    rintro e wz ⟨rfl, hb⟩
    have HZ := hid (HW0.out.trans (hb.mono HW0.out.size))
    clear hb
    go_wp2
    go_ret
    exact ⟨rfl, HZ.out⟩
  | false =>
  have hFr := hid (hfar rfl)
  obtain ⟨⟨x0, x1, x2, x3, x4, x5⟩, x6, x7, x8⟩ := HK.out _ (HU.out _ HV.out)
  clear hfar
  go_wp2_with fail
  refine (HMa.out _ (HU.out _ HV.out)).mono ?_
  rintro e w3 ⟨rfl, hb⟩
  replace HV := hid (HV.out.trans (hb.mono HV.out.size))
  clear hb x0 x1 x2 x3 x4 x5 x6 x7 x8 HMa
  cases mj with
  | false =>
    have HW0 := hid (HX.out _ (HU.out _ HV.out))
    clear hMJ hmj' hFr HK HX HMM HU HV HSt HFy HNy HNf HCu HV2
    go_wp2_with fail
    refine (alive12_any _).mono ?_
    rintro e wz ⟨rfl, hb⟩
    have HZ := hid (HW0.out.trans (hb.mono HW0.out.size))
    clear hb
    go_wp2
    go_ret
    exact ⟨rfl, HZ.out⟩
  | true =>
  obtain ⟨hm0, hm1, hm2, hmt⟩ := hMJ.out rfl
  have HMt := hid hmt
  have hfr := hFr.out
  have hmo12 : mo ≤ 12 := by omega
  have hlp : lp ≤ 10 ∨ lp = 255 := by omega
  clear hMJ hFr hfr hmt
  obtain ⟨M, hM⟩ : ∃ M : Nat, mo = (M : Int) := ⟨mo.toNat, by omega⟩
  subst hM
  have hlM : M ≤ 12 := by omega
  have hv2 := HV2.out hc.out
  replace HSt := hid (HSt.out hc.out hmj'.out (by omega) (by omega))
  replace HFy := hid (HFy.out hc.out)
  replace HNy := hid (HNy.out hc.out)
  replace HNf := hid (HNf.out hc.out)
  replace HCu := hid (HCu.out hc.out)
  clear hc hmj' HV2
  obtain ⟨TS, hTS⟩ : ∃ TS, 0 :: ts = TS := ⟨_, rfl⟩
  have hTl : TS.length = lp + 1 := by rw [← hTS]; simp; omega
  have HVal : Hid (∀ i, i < TS.length → 0 ≤ TS[i]?.getD 0 ∧ TS[i]?.getD 0 < v) := fun i hi => by
    rw [← hTS]
    cases i with
    | zero => simp; omega
    | succ i => have := HMt.out i (by omega); simpa using this
  rw [hTS] at HSt
  clear hTS HMt
  obtain ⟨N, hN⟩ : ∃ N, TS.length = N := ⟨_, rfl⟩
  have hN1 : 1 ≤ N := by omega
  have hN2 : N ≤ 256 := by omega
  have hN3 : Hid (N ≤ 11 ∨ N = 256) := by unfold Hid; omega
  have HN := hid hN
  rw [hN] at HVal
  clear hTl hN
  obtain ⟨⟨x0, x1, x2, x3, x4, x5⟩, x6, x7, x8⟩ := HK.out _ (HU.out _ HV.out)
  go_wp2_with fail
  refine (HSt.out _ _ (HMM.out _ HV.out) (HU.out _ HV.out)).mono ?_
  rintro e w4 ⟨g4, F4, rfl, hS, _, hb⟩
  have HS := hid hS
  replace HV := hid (HV.out.trans (hb.mono HV.out.size))
  clear hb hS x0 x1 x2 x3 x4 x5 x6 x7 x8 HSt HMM
  have hTk := dtok_any _ _ _ _ HS.out
  rw [HN.out] at hTk
  go_wp2_with fail
  refine hTk.mono ?_
  rintro e w5 ⟨a5, c5, rfl, hr5, hb⟩
  have HR5 := hid hr5
  have r5 := hr5.room
  have m5 := hr5.most
  replace HS := hid (HS.out.below hb)
  replace HV := hid (HV.out.trans (hb.mono HV.out.size))
  clear hb hr5 hTk
  have hCu := HCu.out _ _ n2 _ _ HS.out
  rw [HN.out] at hCu
  obtain ⟨n, hn⟩ : ∃ n, cutT n2 N = n := ⟨_, rfl⟩
  have hn1 : 1 ≤ n := by unfold cutT at hn; omega
  have hnN : n ≤ N := by unfold cutT at hn; omega
  obtain ⟨x, hx⟩ : ∃ x : Int, (if n2 < 1 then 1 else n2) = x := ⟨_, rfl⟩
  have hA : (if (N : Int) < x then (N : Int) else x) = (n : Int) := by unfold cutT at hn; rw [← hx]; split <;> split at * <;> omega
  have hB : (if x < (N : Int) then x else (N : Int)) = (n : Int) := by unfold cutT at hn; rw [← hx]; split <;> split at * <;> omega
  rw [hn] at hCu
  clear hn
  go_wp2_with fail
  refine hCu.mono ?_
  rintro e w6 ⟨g6, F6, rfl, hS6, _, hb⟩
  have HS6 := hid hS6
  replace HR5 := hid (HR5.out.below hb)
  replace HS := hid (HS.out.below hb)
  replace HV := hid (HV.out.trans (hb.mono HV.out.size))
  clear hb hS6 hCu HCu
  have HTn : Hid ((TS.take n).length = n) := by unfold Hid; rw [List.length_take, HN.out]; omega
  obtain ⟨b5, o5, rfl, _⟩ := HR5.out.cell 0 (by omega)
  have HLe := hid fun W (hb : Below w6.heap.size w6 W) => dlen_any _ _ _ W (HS6.out.below hb)
  have HTk := hid fun W (hb : Below w6.heap.size w6 W) => dtok_any _ _ _ W (HS6.out.below hb)
  rw [HTn.out] at HLe HTk
  have HRc := hid fun W (hb : Below w6.heap.size w6 W) => (HR5.out.cut hnN).below hb
  have HZ : Hid (Below w6.heap.size w6 w6.drew) := (Below.refl _ _).drew
  clear HTn
  have i1 : (0 : Int) ≤ (n : Int) := by omega
  have i2 : (n : Int) ≤ (c5 : Int) := by omega
  have i3 : (n : Int) ≤ (N : Int) := by omega
  have i4 : n ≤ c5 := by omega
  go_wp2_with fail
  go_region_held3 (fun W : World => True) (trivial)
    (first
      | (go_at_call 18; (with_reducible refine (HLe.out _ HZ.out).mono ?_); rintro e q1 ⟨rfl, hb⟩; replace HZ := hid (HZ.out.trans (hb.mono HZ.out.size)); clear hb)
      | (go_at_call 20; (with_reducible refine (HTk.out _ HZ.out).mono ?_); rintro e q2 ⟨a7, c7, rfl, hr7, hb⟩; have HR7 := hid hr7; replace HZ := hid (HZ.out.trans (hb.mono HZ.out.size)); clear hb hr7)
      | (go_at_call 15; (with_reducible refine (same_yes _ _ _ _ _ (TS.take n) _ HR7.out (HRc.out _ HZ.out) (by omega)).mono ?_); rintro e q3 ⟨rfl, hb⟩; replace HZ := hid (HZ.out.trans (hb.mono HZ.out.size)); clear hb HR7))
  replace HS := hid (HS.out.below HZ.out)
  replace HS6 := hid (HS6.out.below HZ.out)
  replace HR5 := hid (HR5.out.below HZ.out)
  replace HV := hid (HV.out.trans (HZ.out.mono HV.out.size))
  clear HZ HRc HLe HTk hx hA hB
  by_cases hcn : n = N
  · subst hcn
    rw [List.take_of_length_le (Nat.le_of_eq HN.out)] at HS6
    clear HFy HVal
    by_cases hc5 : c5 = n
    · subst hc5
      go_wp2_with fail
      go_loopw [12, 75] (fun u i W => u = .pointer (some ⟨g6, 0, none⟩) ∧ i = .int .i64 0 ∧ Hid (W = q3)) (fun _ _ _ => 0)
      case atStart => exact ⟨rfl, rfl, rfl⟩
      case round =>
      obtain ⟨rfl, rfl, hW⟩ := hrel
      have hW := hW.out
      subst hW
      rename World => wr
      rcases hN3.out with h11 | h256
      · clear hN3 HNf
        obtain ⟨⟨x0, x1, x2, x3, x4, x5⟩, x6, x7, x8⟩ := HK.out _ (HU.out _ HV.out)
        go_wp2_with fail
        refine (HNy.out _ _ _ _ HS.out (by rw [HN.out]; omega)).mono ?_
        rintro e f1 ⟨rfl, hb⟩
        replace HS := hid (HS.out.below hb)
        replace HS6 := hid (HS6.out.below hb)
        replace HR5 := hid (HR5.out.below hb)
        replace HV := hid (HV.out.trans (hb.mono HV.out.size))
        clear hb x0 x1 x2 x3 x4 x5 x6 x7 x8
        obtain ⟨⟨x0, x1, x2, x3, x4, x5⟩, x6, x7, x8⟩ := HK.out _ (HU.out _ HV.out)
        go_wp2_with fail
        refine (HNy.out _ _ _ _ HS6.out (by rw [HN.out]; omega)).mono ?_
        rintro e f2 ⟨rfl, hb⟩
        replace HS := hid (HS.out.below hb)
        replace HS6 := hid (HS6.out.below hb)
        replace HR5 := hid (HR5.out.below hb)
        replace HV := hid (HV.out.trans (hb.mono HV.out.size))
        clear hb x0 x1 x2 x3 x4 x5 x6 x7 x8 HK
        have hTk := dtok_any _ _ _ _ HS6.out
        rw [HN.out] at hTk
        go_wp2_with fail
        refine hTk.mono ?_
        rintro e f3 ⟨af, cf, rfl, hrf, hb⟩
        have HRf := hid hrf
        replace HS := hid (HS.out.below hb)
        replace HR5 := hid (HR5.out.below hb)
        replace HV := hid (HV.out.trans (hb.mono HV.out.size))
        clear hb hrf hTk
        go_wp2_with fail
        with_reducible refine (same_yes _ _ _ _ _ TS _ HRf.out HR5.out (by omega)).mono ?_
        rintro e f4 ⟨rfl, hb⟩
        replace HS := hid (HS.out.below hb)
        replace HV := hid (HV.out.trans (hb.mono HV.out.size))
        clear hb HRf HR5 HS6
        have hLe := dlen_any _ _ _ _ HS.out
        rw [HN.out] at hLe
        go_wp2_with fail
        refine hLe.mono ?_
        rintro e f5 ⟨rfl, hb⟩
        have HW0 := hid (HX.out _ (HU.out _ (HV.out.trans (hb.mono HV.out.size))))
        clear hb HS HV HU HX hLe HN
        go_wp2_with fail
        refine (alive12_any _).mono ?_
        rintro e wz ⟨rfl, hb⟩
        have HZ := hid (HW0.out.trans (hb.mono HW0.out.size))
        clear hb
        go_wp2
        go_ret
        exact ⟨rfl, HZ.out⟩
      · clear hN3 HNy
        replace h256 := hid h256
        obtain ⟨⟨x0, x1, x2, x3, x4, x5⟩, x6, x7, x8⟩ := HK.out _ (HU.out _ HV.out)
        go_wp2_with fail
        refine (HNf.out _ _ _ _ HS.out (HN.out.trans h256.out)).mono ?_
        rintro e f1 ⟨rfl, hb⟩
        replace HS := hid (HS.out.below hb)
        replace HS6 := hid (HS6.out.below hb)
        replace HR5 := hid (HR5.out.below hb)
        replace HV := hid (HV.out.trans (hb.mono HV.out.size))
        clear hb x0 x1 x2 x3 x4 x5 x6 x7 x8
        obtain ⟨⟨x0, x1, x2, x3, x4, x5⟩, x6, x7, x8⟩ := HK.out _ (HU.out _ HV.out)
        go_wp2_with fail
        refine (HNf.out _ _ _ _ HS6.out (HN.out.trans h256.out)).mono ?_
        rintro e f2 ⟨rfl, hb⟩
        replace HS := hid (HS.out.below hb)
        replace HS6 := hid (HS6.out.below hb)
        replace HR5 := hid (HR5.out.below hb)
        replace HV := hid (HV.out.trans (hb.mono HV.out.size))
        clear hb x0 x1 x2 x3 x4 x5 x6 x7 x8 HK
        have hTk := dtok_any _ _ _ _ HS6.out
        rw [HN.out] at hTk
        go_wp2_with fail
        refine hTk.mono ?_
        rintro e f3 ⟨af, cf, rfl, hrf, hb⟩
        have HRf := hid hrf
        replace HS := hid (HS.out.below hb)
        replace HR5 := hid (HR5.out.below hb)
        replace HV := hid (HV.out.trans (hb.mono HV.out.size))
        clear hb hrf hTk
        go_wp2_with fail
        with_reducible refine (same_yes _ _ _ _ _ TS _ HRf.out HR5.out (by omega)).mono ?_
        rintro e f4 ⟨rfl, hb⟩
        replace HS := hid (HS.out.below hb)
        replace HV := hid (HV.out.trans (hb.mono HV.out.size))
        clear hb HRf HR5 HS6
        have hLe := dlen_any _ _ _ _ HS.out
        rw [HN.out] at hLe
        go_wp2_with fail
        refine hLe.mono ?_
        rintro e f5 ⟨rfl, hb⟩
        have HW0 := hid (HX.out _ (HU.out _ (HV.out.trans (hb.mono HV.out.size))))
        clear hb HS HV HU HX hLe HN
        go_wp2_with fail
        refine (alive12_any _).mono ?_
        rintro e wz ⟨rfl, hb⟩
        have HZ := hid (HW0.out.trans (hb.mono HW0.out.size))
        clear hb
        go_wp2
        go_ret
        exact ⟨rfl, HZ.out⟩
    · skip
      go_wp2_with fail
      go_loopw [12, 75] (fun u i W => u = .pointer (some ⟨g6, 0, none⟩) ∧ i = .int .i64 0 ∧ Hid (W = q3)) (fun _ _ _ => 0)
      case atStart => exact ⟨rfl, rfl, rfl⟩
      case round =>
      obtain ⟨rfl, rfl, hW⟩ := hrel
      have hW := hW.out
      subst hW
      rename World => wr
      rcases hN3.out with h11 | h256
      · clear hN3 HNf
        obtain ⟨⟨x0, x1, x2, x3, x4, x5⟩, x6, x7, x8⟩ := HK.out _ (HU.out _ HV.out)
        go_wp2_with fail
        refine (HNy.out _ _ _ _ HS.out (by rw [HN.out]; omega)).mono ?_
        rintro e f1 ⟨rfl, hb⟩
        replace HS := hid (HS.out.below hb)
        replace HS6 := hid (HS6.out.below hb)
        replace HR5 := hid (HR5.out.below hb)
        replace HV := hid (HV.out.trans (hb.mono HV.out.size))
        clear hb x0 x1 x2 x3 x4 x5 x6 x7 x8
        obtain ⟨⟨x0, x1, x2, x3, x4, x5⟩, x6, x7, x8⟩ := HK.out _ (HU.out _ HV.out)
        go_wp2_with fail
        refine (HNy.out _ _ _ _ HS6.out (by rw [HN.out]; omega)).mono ?_
        rintro e f2 ⟨rfl, hb⟩
        replace HS := hid (HS.out.below hb)
        replace HS6 := hid (HS6.out.below hb)
        replace HR5 := hid (HR5.out.below hb)
        replace HV := hid (HV.out.trans (hb.mono HV.out.size))
        clear hb x0 x1 x2 x3 x4 x5 x6 x7 x8 HK
        have hTk := dtok_any _ _ _ _ HS6.out
        rw [HN.out] at hTk
        go_wp2_with fail
        refine hTk.mono ?_
        rintro e f3 ⟨af, cf, rfl, hrf, hb⟩
        have HRf := hid hrf
        replace HS := hid (HS.out.below hb)
        replace HR5 := hid (HR5.out.below hb)
        replace HV := hid (HV.out.trans (hb.mono HV.out.size))
        clear hb hrf hTk
        go_wp2_with fail
        with_reducible refine (same_yes _ _ _ _ _ TS _ HRf.out HR5.out (by omega)).mono ?_
        rintro e f4 ⟨rfl, hb⟩
        replace HS := hid (HS.out.below hb)
        replace HV := hid (HV.out.trans (hb.mono HV.out.size))
        clear hb HRf HR5 HS6
        have hLe := dlen_any _ _ _ _ HS.out
        rw [HN.out] at hLe
        go_wp2_with fail
        refine hLe.mono ?_
        rintro e f5 ⟨rfl, hb⟩
        have HW0 := hid (HX.out _ (HU.out _ (HV.out.trans (hb.mono HV.out.size))))
        clear hb HS HV HU HX hLe HN
        go_wp2_with fail
        refine (alive12_any _).mono ?_
        rintro e wz ⟨rfl, hb⟩
        have HZ := hid (HW0.out.trans (hb.mono HW0.out.size))
        clear hb
        go_wp2
        go_ret
        exact ⟨rfl, HZ.out⟩
      · clear hN3 HNy
        replace h256 := hid h256
        obtain ⟨⟨x0, x1, x2, x3, x4, x5⟩, x6, x7, x8⟩ := HK.out _ (HU.out _ HV.out)
        go_wp2_with fail
        refine (HNf.out _ _ _ _ HS.out (HN.out.trans h256.out)).mono ?_
        rintro e f1 ⟨rfl, hb⟩
        replace HS := hid (HS.out.below hb)
        replace HS6 := hid (HS6.out.below hb)
        replace HR5 := hid (HR5.out.below hb)
        replace HV := hid (HV.out.trans (hb.mono HV.out.size))
        clear hb x0 x1 x2 x3 x4 x5 x6 x7 x8
        obtain ⟨⟨x0, x1, x2, x3, x4, x5⟩, x6, x7, x8⟩ := HK.out _ (HU.out _ HV.out)
        go_wp2_with fail
        refine (HNf.out _ _ _ _ HS6.out (HN.out.trans h256.out)).mono ?_
        rintro e f2 ⟨rfl, hb⟩
        replace HS := hid (HS.out.below hb)
        replace HS6 := hid (HS6.out.below hb)
        replace HR5 := hid (HR5.out.below hb)
        replace HV := hid (HV.out.trans (hb.mono HV.out.size))
        clear hb x0 x1 x2 x3 x4 x5 x6 x7 x8 HK
        have hTk := dtok_any _ _ _ _ HS6.out
        rw [HN.out] at hTk
        go_wp2_with fail
        refine hTk.mono ?_
        rintro e f3 ⟨af, cf, rfl, hrf, hb⟩
        have HRf := hid hrf
        replace HS := hid (HS.out.below hb)
        replace HR5 := hid (HR5.out.below hb)
        replace HV := hid (HV.out.trans (hb.mono HV.out.size))
        clear hb hrf hTk
        go_wp2_with fail
        with_reducible refine (same_yes _ _ _ _ _ TS _ HRf.out HR5.out (by omega)).mono ?_
        rintro e f4 ⟨rfl, hb⟩
        replace HS := hid (HS.out.below hb)
        replace HV := hid (HV.out.trans (hb.mono HV.out.size))
        clear hb HRf HR5 HS6
        have hLe := dlen_any _ _ _ _ HS.out
        rw [HN.out] at hLe
        go_wp2_with fail
        refine hLe.mono ?_
        rintro e f5 ⟨rfl, hb⟩
        have HW0 := hid (HX.out _ (HU.out _ (HV.out.trans (hb.mono HV.out.size))))
        clear hb HS HV HU HX hLe HN
        go_wp2_with fail
        refine (alive12_any _).mono ?_
        rintro e wz ⟨rfl, hb⟩
        have HZ := hid (HW0.out.trans (hb.mono HW0.out.size))
        clear hb
        go_wp2
        go_ret
        exact ⟨rfl, HZ.out⟩
  · have hc5 : ¬ c5 = n := by omega
    have HS60 : Hid (StAt q3 (some ⟨g6, 0, none⟩) ⟨s, v, d, l, tt, h⟩ (TS.take (n + 0)) F6) := HS6
    clear HS6
    go_wp2_with fail
    go_loopw [12, 75] (fun u i W => ∃ (k g9 : Nat) (F : Nat → Prop), n + k ≤ N ∧ u = .pointer (some ⟨g9, 0, none⟩) ∧ i = .int .i64 k ∧ Hid (StAt W (some ⟨g9, 0, none⟩) ⟨s, v, d, l, tt, h⟩ (TS.take (n + k)) F) ∧ Hid (Below q3.heap.size q3 W)) (fun _ i _ => N - (intOf i).toNat)
    case atStart => exact ⟨0, g6, F6, by omega, rfl, rfl, HS60, Below.refl _ _⟩
    case round =>
    obtain ⟨k, g9, F, hk, rfl, rfl, HSx, HW⟩ := hrel
    rename World => wr
    clear HS60
    by_cases hlt : n + k < N
    · have ct := ((HR5.out.tail (p := n) (by omega)).below HW.out).at (i := k) (by omega)
      rw [List.getElem?_drop] at ct
      obtain ⟨v0, v1⟩ := HVal.out (n + k) hlt
      have hF := HFy.out _ _ (TS[n + k]?.getD 0) _ _ HSx.out v0 v1 (by rw [List.length_take, HN.out]; omega)
      have HTs : Hid (TS.take (n + k) ++ [TS[n + k]?.getD 0] = TS.take (n + (k + 1))) := (take_snoc (by rw [HN.out]; exact hlt)).symm
      rw [HTs.out] at hF
      have q1 : (k : Int) < ((N - n : Nat) : Int) := by omega
      have q2 : (k : Int) < (N : Int) - (n : Int) := by omega
      have q4 : k < N - n := by omega
      have q5 : (n : Int) + (k : Int) < (N : Int) := by omega
      clear HVal HFy HNy HNf HS HK HU HX HTs
      generalize TS[n + k]?.getD 0 = tk at *
      go_wp2_with fail
      refine hF.mono ?_
      rintro e w8 ⟨g8, F8, rfl, hS8, _, hb⟩
      have HS8 := hid hS8
      have HW8 := hid (HW.out.trans (hb.mono HW.out.size))
      clear hF hS8 hb HSx HW ct
      go_wp2_with fail
      go_round
      case rel => exact ⟨k + 1, g8, F8, by omega, rfl, by go_num, HS8, HW8⟩
      case measure => simp [intOf]; omega
    · have hke : n + k = N := by omega
      have HSy := HSx.out
      rw [hke, List.take_of_length_le (Nat.le_of_eq HN.out)] at HSy
      have HS6 := hid HSy
      replace HS := hid (HS.out.below HW.out)
      replace HR5 := hid (HR5.out.below HW.out)
      replace HV := hid (HV.out.trans (HW.out.mono HV.out.size))
      have q1 : ¬ (k : Int) < ((N - n : Nat) : Int) := by omega
      have q2 : ¬ (k : Int) < (N : Int) - (n : Int) := by omega
      have q4 : ¬ k < N - n := by omega
      clear HVal HFy HSx HW HSy hke
      rcases hN3.out with h11 | h256
      · clear hN3 HNf
        obtain ⟨⟨x0, x1, x2, x3, x4, x5⟩, x6, x7, x8⟩ := HK.out _ (HU.out _ HV.out)
        go_wp2_with fail
        refine (HNy.out _ _ _ _ HS.out (by rw [HN.out]; omega)).mono ?_
        rintro e f1 ⟨rfl, hb⟩
        replace HS := hid (HS.out.below hb)
        replace HS6 := hid (HS6.out.below hb)
        replace HR5 := hid (HR5.out.below hb)
        replace HV := hid (HV.out.trans (hb.mono HV.out.size))
        clear hb x0 x1 x2 x3 x4 x5 x6 x7 x8
        obtain ⟨⟨x0, x1, x2, x3, x4, x5⟩, x6, x7, x8⟩ := HK.out _ (HU.out _ HV.out)
        go_wp2_with fail
        refine (HNy.out _ _ _ _ HS6.out (by rw [HN.out]; omega)).mono ?_
        rintro e f2 ⟨rfl, hb⟩
        replace HS := hid (HS.out.below hb)
        replace HS6 := hid (HS6.out.below hb)
        replace HR5 := hid (HR5.out.below hb)
        replace HV := hid (HV.out.trans (hb.mono HV.out.size))
        clear hb x0 x1 x2 x3 x4 x5 x6 x7 x8 HK
        have hTk := dtok_any _ _ _ _ HS6.out
        rw [HN.out] at hTk
        go_wp2_with fail
        refine hTk.mono ?_
        rintro e f3 ⟨af, cf, rfl, hrf, hb⟩
        have HRf := hid hrf
        replace HS := hid (HS.out.below hb)
        replace HR5 := hid (HR5.out.below hb)
        replace HV := hid (HV.out.trans (hb.mono HV.out.size))
        clear hb hrf hTk
        go_wp2_with fail
        with_reducible refine (same_yes _ _ _ _ _ TS _ HRf.out HR5.out (by omega)).mono ?_
        rintro e f4 ⟨rfl, hb⟩
        replace HS := hid (HS.out.below hb)
        replace HV := hid (HV.out.trans (hb.mono HV.out.size))
        clear hb HRf HR5 HS6
        have hLe := dlen_any _ _ _ _ HS.out
        rw [HN.out] at hLe
        go_wp2_with fail
        refine hLe.mono ?_
        rintro e f5 ⟨rfl, hb⟩
        have HW0 := hid (HX.out _ (HU.out _ (HV.out.trans (hb.mono HV.out.size))))
        clear hb HS HV HU HX hLe HN
        go_wp2_with fail
        refine (alive12_any _).mono ?_
        rintro e wz ⟨rfl, hb⟩
        have HZ := hid (HW0.out.trans (hb.mono HW0.out.size))
        clear hb
        go_wp2
        go_ret
        exact ⟨rfl, HZ.out⟩
      · clear hN3 HNy
        replace h256 := hid h256
        obtain ⟨⟨x0, x1, x2, x3, x4, x5⟩, x6, x7, x8⟩ := HK.out _ (HU.out _ HV.out)
        go_wp2_with fail
        refine (HNf.out _ _ _ _ HS.out (HN.out.trans h256.out)).mono ?_
        rintro e f1 ⟨rfl, hb⟩
        replace HS := hid (HS.out.below hb)
        replace HS6 := hid (HS6.out.below hb)
        replace HR5 := hid (HR5.out.below hb)
        replace HV := hid (HV.out.trans (hb.mono HV.out.size))
        clear hb x0 x1 x2 x3 x4 x5 x6 x7 x8
        obtain ⟨⟨x0, x1, x2, x3, x4, x5⟩, x6, x7, x8⟩ := HK.out _ (HU.out _ HV.out)
        go_wp2_with fail
        refine (HNf.out _ _ _ _ HS6.out (HN.out.trans h256.out)).mono ?_
        rintro e f2 ⟨rfl, hb⟩
        replace HS := hid (HS.out.below hb)
        replace HS6 := hid (HS6.out.below hb)
        replace HR5 := hid (HR5.out.below hb)
        replace HV := hid (HV.out.trans (hb.mono HV.out.size))
        clear hb x0 x1 x2 x3 x4 x5 x6 x7 x8 HK
        have hTk := dtok_any _ _ _ _ HS6.out
        rw [HN.out] at hTk
        go_wp2_with fail
        refine hTk.mono ?_
        rintro e f3 ⟨af, cf, rfl, hrf, hb⟩
        have HRf := hid hrf
        replace HS := hid (HS.out.below hb)
        replace HR5 := hid (HR5.out.below hb)
        replace HV := hid (HV.out.trans (hb.mono HV.out.size))
        clear hb hrf hTk
        go_wp2_with fail
        with_reducible refine (same_yes _ _ _ _ _ TS _ HRf.out HR5.out (by omega)).mono ?_
        rintro e f4 ⟨rfl, hb⟩
        replace HS := hid (HS.out.below hb)
        replace HV := hid (HV.out.trans (hb.mono HV.out.size))
        clear hb HRf HR5 HS6
        have hLe := dlen_any _ _ _ _ HS.out
        rw [HN.out] at hLe
        go_wp2_with fail
        refine hLe.mono ?_
        rintro e f5 ⟨rfl, hb⟩
        have HW0 := hid (HX.out _ (HU.out _ (HV.out.trans (hb.mono HV.out.size))))
        clear hb HS HV HU HX hLe HN
        go_wp2_with fail
        refine (alive12_any _).mono ?_
        rintro e wz ⟨rfl, hb⟩
        have HZ := hid (HW0.out.trans (hb.mono HW0.out.size))
        clear hb
        go_wp2
        go_ret
        exact ⟨rfl, HZ.out⟩

/-! ### The row's step -/
set_option maxRecDepth 1000000 in
theorem lifted (os : Os) (started : os.Started) (H : Type) (enc : TypeId × Value → H) :
    ReturnsInHanded {} Tryz.checked os 6 .any (Rows.decodeCutsSpec.pre6 enc Tryz.prog Tryz.f6 Rows.decodeCutsRow.domain false) (Rows.decodeCutsSpec.post enc Tryz.prog Tryz.f6 false true false false) := by
  refine returnsInHanded_of_change (C := Tryz.checked) own started (by kernel_rfl) Tryz.func6
    (ChangeSpec.witness6 (enc := enc) (C := Tryz.checked) false ⟨#[], #[.agg #[.int .u64 0, .int .i64 0, .int .i64 0, .int .i64 0, .int .i64 0, .int .i64 0], .agg #[.int .u64 0, .slice none 0 0, .int .i64 0], .int .i64 0], []⟩ 8 (by kernel_rfl) (by kernel_rfl) (by kernel_rfl) (by kernel_rfl)) ?_
  intro W base args ds gs before hval0 hW hcnd _
  have hval : ∀ (j : Nat) t v, Tryz.f6.params[j]? = some t → args[j]? = some v → Value.okWide Tryz.prog W .any base t v := hval0
  have hW' := hW
  obtain ⟨p, q, hA0, hV, rfl, hfz, hnd⟩ := hW
  have hA : DataW.TrodAll enc Tryz.prog W 0 (fun _ => true) true Tryz.f6.params.toList args.toList ds p := hA0
  rw [Tryz.params6] at hA hval
  obtain ⟨v0, vs0, d0, ds0, p0, q0, hargs, rfl, rfl, h0, r0⟩ := trodAll_cons hA
  obtain ⟨v1, vs1, d1, ds1, p1, q1, rfl, rfl, rfl, h1, r1⟩ := trodAll_cons r0
  obtain ⟨v2, vs2, d2, ds2, p2, q2, rfl, rfl, rfl, h2, r2⟩ := trodAll_cons r1
  obtain ⟨rfl, rfl, rfl⟩ := trodAll_nil r2
  obtain rfl : args = #[v0, v1, v2] := by cases args; simp_all
  obtain ⟨rfl, rfl⟩ := trodVars_none hV
  have k0 := h0
  have lt0 : ∀ x ∈ p0, x.block < W.heap.size := by obtain ⟨m, hm⟩ := k0; exact DataW.trod_lt m _ _ _ hm
  obtain ⟨c0, rfl⟩ := conf_open (hval 0 24 v0 rfl rfl) h0
  have k1 := h1
  have lt1 : ∀ x ∈ p1, x.block < W.heap.size := by obtain ⟨m, hm⟩ := k1; exact DataW.trod_lt m _ _ _ hm
  obtain ⟨j1, rfl, gj1⟩ := job_open (hval 1 27 v1 rfl rfl) h1
  have k2 := h2
  have lt2 : ∀ x ∈ p2, x.block < W.heap.size := by obtain ⟨m, hm⟩ := k2; exact DataW.trod_lt m _ _ _ hm
  obtain ⟨n2, rfl⟩ := num_open (hval 2 3 v2 rfl rfl) h2
  clear hA0 hval0
  refine (walk c0 j1 n2 W gj1).mono fun e W' ⟨he, bel⟩ => ?_
  subst he
  exact ⟨_, rfl, _, _, _, [], _, [], hW', trodAll_mk1 (shut_bool Tryz.underlying4 _), (trodAll_cons_mk (Below.trod laidOut (by kernel_rfl) (of_decide_eq_true (by kernel_rfl)) k0 bel lt0) (trodAll_cons_mk (Below.trod laidOut (by kernel_rfl) (of_decide_eq_true (by kernel_rfl)) k1 bel lt1) (trodAll_cons_mk (Below.trod laidOut (by kernel_rfl) (of_decide_eq_true (by kernel_rfl)) k2 bel lt2) trodAll_mk0))), rfl, bel.frame _, fun h => by cases h⟩

theorem over : Rows.decodeCutsRow.holds Tryz.pinned (OpenSpec.ofChange Rows.decodeCutsSpec) :=
  OpenClaim.holds_of_wide 6 Tryz.f6 rfl rfl rfl rfl rfl rfl rfl ⟨rfl, rfl, rfl, rfl, rfl⟩ rfl rfl rfl rfl rfl (by kernel_rfl) Tryz.func6 (by kernel_rfl)
    (of_decide_eq_true (by kernel_rfl)) (by unfold Func.isWrapper; first | (rw [if_pos (by decide +kernel)]; kernel_rfl) | (rw [if_neg (by decide +kernel)]; exact ⟨rfl, rfl⟩))
    (fun os started H enc _ => lifted os started H enc)

/-- The statement. -/
theorem proved : Rows.DecodeCutsSaid := over
#print axioms proved
end Go.Proofs.YtahpilgbabjebaaGreat.decodeCuts
