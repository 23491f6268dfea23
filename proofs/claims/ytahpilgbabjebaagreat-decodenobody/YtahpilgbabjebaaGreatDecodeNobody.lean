/-
  Proved: a nil state has nothing, and a start that may not be is refused: DecodeNobody hands back true for whatever configuration, job and list.
-/
import Derived.Test.YtahpilgbabjebaaGreatRows
import Derived.Test.YtahpilgbabjebaaGreatPk17
import Derived.Deep.RegionHeld3
import Derived.WalkKit
import Derived.ProofKit
import Derived.OpenShut
import Derived.ShutString
import Derived.ChangeOld
import Derived.Below
namespace Go.Proofs.YtahpilgbabjebaaGreat.decodeNobody
open Go.ChangeShapes Go.WideShapes Go.ChangeAt Go.RowKit
open Go.ChangeMaps (open_string shut_string)
set_option linter.unusedVariables false

theorem own : ownKnob Tryz.prog.godebug = none := by kernel_rfl
theorem laidOut : laidOutB Tryz.prog = true := by kernel_rfl

/-! ### The walk -/
set_option maxRecDepth 1000000 in
set_option maxHeartbeats 8000000 in
theorem walk (c0 : Cf) (j1 : Jb) (a2 : Option Addr) (l2 c2 : Nat) (z2 : List Int) (w : World) (gj1 : JbIn w j1) (ga2 : Reads .i64 w a2 l2 c2 z2) :
    Calls Tryz.prog 8 #[.agg (CfV c0), .agg (JbV j1), .slice a2 l2 c2] w fun e w' => e = .returned (.bool true) ∧ Below w.heap.size w w' := by
  obtain ⟨wA, hwA⟩ : ∃ wA, wA = (w.alloc (.cells (CfV c0) 24)).alloc (.cells (JbV j1) 27) := ⟨_, rfl⟩
  have HB0 : Hid (Below w.heap.size w wA) := by unfold Hid; rw [hwA]; exact ((Below.refl _ _).alloc (Nat.le_refl _) _).alloc (by simp) _
  have HK : Hid (∀ W : World, Below wA.heap.size wA W → (W.cell? ⟨w.heap.size, 0, none⟩ = some (.int .u64 c0.seed) ∧ W.cell? ⟨w.heap.size, 1, none⟩ = some (.int .i64 c0.vocab) ∧ W.cell? ⟨w.heap.size, 2, none⟩ = some (.int .i64 c0.dim) ∧ W.cell? ⟨w.heap.size, 3, none⟩ = some (.int .i64 c0.layers) ∧ W.cell? ⟨w.heap.size, 4, none⟩ = some (.int .i64 c0.top) ∧ W.cell? ⟨w.heap.size, 5, none⟩ = some (.int .i64 c0.heat)) ∧ W.cell? ⟨w.heap.size + 1, 0, none⟩ = some (.int .u64 j1.seed) ∧ W.cell? ⟨w.heap.size + 1, 1, none⟩ = some (.slice j1.ap j1.lp j1.cp) ∧ W.cell? ⟨w.heap.size + 1, 2, none⟩ = some (.int .i64 j1.most)) := by
    intro W hb
    have e1 : wA.heap[w.heap.size]? = some (.cells (CfV c0) 24 (0, 0)) := by rw [hwA, Below.heap_alloc _ _ _ (by simp)]; exact heap_alloc_new w _
    have e2 : wA.heap[w.heap.size + 1]? = some (.cells (JbV j1) 27 (0, 0)) := by
      have := heap_alloc_new (w.alloc (.cells (CfV c0) 24)) (.cells (JbV j1) 27)
      rw [hwA]
      simpa using this
    exact ⟨Cf_cells (block_below e1 hb), Jb_cells (block_below e2 hb)⟩
  have HJ : Hid (∀ W : World, Below wA.heap.size wA W → JbIn W j1) := fun W hb => Reads.below (Reads.below gj1 HB0.out) hb
  have HX : Hid (∀ W : World, Below wA.heap.size wA W → Below w.heap.size w W) := fun W hW => HB0.out.trans (hW.mono HB0.out.size)
  have hz := gj1.size
  have hNy := fun (h : mayB c0 = true) => new_yes c0 wA h
  have hNn := fun (h : mayB c0 = false) => new_no c0 wA h
  have HF := hid fun W (hb : Below wA.heap.size wA W) => far12_any j1 W (HJ.out W hb)
  have HFi := hid fun W (hb : Below wA.heap.size wA W) => dfrom_nil none j1 5 W (HJ.out W hb)
  have HMa := hid fun W (hb : Below wA.heap.size wA W) => dmay_any c0 j1 W (HJ.out W hb)
  have HT : Hid (∀ W : World, Below wA.heap.size wA W → Reads .i64 W a2 l2 c2 z2) := fun W hb => (ga2.below HB0.out).below hb
  have r1 := ga2.room
  have m1 := ga2.most
  have hz2 := ga2.size
  have HS0 := hid fun (hc : mayB c0 = true) (hm : mayJ c0.vocab j1.most j1.ts = false) p W (hp : MdAt W p c0) (hb : Below wA.heap.size wA W) => dstart_no p c0 j1 a2 l2 c2 z2 W hp hc (HJ.out W hb) (HT.out W hb) hm
  have HS5 := hid fun (hc : mayB c0 = true) (hm : mayJ c0.vocab j1.most j1.ts = true) (hn : j1.most < l2 ∨ 255 < j1.lp + l2) p W (hp : MdAt W p c0) (hb : Below wA.heap.size wA W) => dstart_many p c0 j1 a2 l2 c2 z2 W hp hc (HJ.out W hb) (HT.out W hb) hm hn
  have HS1 := hid fun (hc : mayB c0 = true) (hm : mayJ c0.vocab j1.most j1.ts = true) (hn : (l2 : Int) ≤ j1.most) (hn2 : j1.lp + l2 ≤ 255) (hb : ∃ i, i < l2 ∧ (z2[i]?.getD 0 < 0 ∨ c0.vocab ≤ z2[i]?.getD 0)) p W (hp : MdAt W p c0) (hbw : Below wA.heap.size wA W) => dstart_arg p c0 j1 a2 l2 c2 z2 W hp hc (HJ.out W hbw) (HT.out W hbw) hm hn hn2 hb
  have HSy := hid fun (hc : mayB c0 = true) (hm : mayJ c0.vocab j1.most j1.ts = true) (hn : (l2 : Int) ≤ j1.most) (hn2 : j1.lp + l2 ≤ 255) (hb : ∀ i, i < l2 → 0 ≤ z2[i]?.getD 0 ∧ z2[i]?.getD 0 < c0.vocab) p W (hp : MdAt W p c0) (hbw : Below wA.heap.size wA W) => dstart_yes p c0 j1 a2 l2 c2 z2 W hp hc (HJ.out W hbw) (HT.out W hbw) hm hn hn2 hb
  obtain ⟨mj, hmj⟩ : ∃ mj, mayJ c0.vocab j1.most j1.ts = mj := ⟨_, rfl⟩
  rw [hmj] at HMa HS0 HS5 HS1 HSy
  have hMJ := hid fun (h : mj = true) => mayJ_iff.1 (hmj.trans h)
  replace hNy := hid fun W (h : mayB c0 = true) => new_yes c0 W h
  replace hNn := hid fun W (h : mayB c0 = false) => new_no c0 W h
  clear hmj gj1 HB0 ga2
  obtain ⟨s, v, d, l, tt, h⟩ := c0
  obtain ⟨sd, ap, lp, cp, ts, mo⟩ := j1
  unfold CfV at hNy hNn hwA HMa
  unfold JbV at hwA HF HMa HFi HS0 HS5 HS1 HSy
  simp only at HK hNy hNn hwA HF HMa hz hMJ HFi HS0 HS5 HS1 HSy
  have HV : Hid (Below wA.heap.size wA wA) := Below.refl _ _
  obtain ⟨⟨x0, x1, x2, x3, x4, x5⟩, x6, x7, x8⟩ := HK.out _ HV.out
  rw [hwA] at x0 x1 x2 x3 x4 x5 x6 x7 x8
  unfold CfV JbV
  simp only
  go_enter Tryz.func8, Tryz.ntmps8
  go_wp2_with fail
  rw [← hwA]
  rw [← hwA] at x0 x1 x2 x3 x4 x5 x6 x7 x8
  refine (dfeed_nil 1 _).mono ?_
  rintro e y1 ⟨rfl, hb⟩
  replace HV := hid (HV.out.trans (hb.mono HV.out.size))
  clear hb hwA x0 x1 x2 x3 x4 x5 x6 x7 x8
  go_wp2_with fail
  refine (dnext_nil 1 _).mono ?_
  rintro e y2 ⟨rfl, hb⟩
  replace HV := hid (HV.out.trans (hb.mono HV.out.size))
  clear hb
  obtain ⟨⟨x0, x1, x2, x3, x4, x5⟩, x6, x7, x8⟩ := HK.out _ HV.out
  go_wp2_with fail
  refine (HFi.out _ HV.out).mono ?_
  rintro e y3 ⟨a3, c3, rfl, hb⟩
  replace HV := hid (HV.out.trans (hb.mono HV.out.size))
  clear hb
  clear x0 x1 x2 x3 x4 x5 x6 x7 x8 HFi
  go_wp2_with fail
  refine (dlen_nil _).mono ?_
  rintro e y4 ⟨rfl, hb⟩
  replace HV := hid (HV.out.trans (hb.mono HV.out.size))
  clear hb
  go_wp2_with fail
  refine (dtok_nil _).mono ?_
  rintro e y5 ⟨a5, c5, rfl, hb⟩
  replace HV := hid (HV.out.trans (hb.mono HV.out.size))
  clear hb
  go_wp2_with fail
  refine (dcut_nil 3 _).mono ?_
  rintro e y6 ⟨rfl, hb⟩
  replace HV := hid (HV.out.trans (hb.mono HV.out.size))
  clear hb
  obtain ⟨⟨x0, x1, x2, x3, x4, x5⟩, x6, x7, x8⟩ := HK.out _ HV.out
  cases hc : mayB ⟨s, v, d, l, tt, h⟩ with
  | false =>
    have hN := hNn.out y6 hc
    clear hNy hNn HMa hMJ hc HF HS0 HS5 HS1 HSy HT HK
    go_wp2_with fail
    refine hN.mono ?_
    rintro e w1 ⟨rfl, hb⟩
    have HW0 := hid (HX.out _ (HV.out.trans (hb.mono HV.out.size)))
    clear hN hb HV HX x0 x1 x2 x3 x4 x5 x6 x7 x8
    go_wp2_with fail
    refine (alive12_any _).mono ?_
    rintro e wz ⟨rfl, hb⟩
    have HZ := hid (HW0.out.trans (hb.mono HW0.out.size))
    clear hb
    go_wp2
    go_ret
    exact ⟨rfl, HZ.out⟩
  | true =>
  have hN := hNy.out y6 hc
  replace HS0 := hid (HS0.out hc)
  replace HS5 := hid (HS5.out hc)
  replace HS1 := hid (HS1.out hc)
  replace HSy := hid (HSy.out hc)
  clear hNy hNn hc
  go_wp2_with fail
  refine hN.mono ?_
  rintro e w1 ⟨g, rfl, hg, hM, hb⟩
  have HMM : Hid (∀ W : World, Below w1.heap.size w1 W → MdAt W (some ⟨g, 0, none⟩) ⟨s, v, d, l, tt, h⟩) := fun W hW => .inr ⟨g, rfl, block_below hM hW⟩
  have HU : Hid (∀ W : World, Below w1.heap.size w1 W → Below wA.heap.size wA W) := fun W hW => (HV.out.trans (hb.mono HV.out.size)).trans (hW.mono (HV.out.trans (hb.mono HV.out.size)).size)
  replace HV : Hid (Below w1.heap.size w1 w1) := Below.refl _ _
  have hFa := HF.out w1 (HU.out _ HV.out)
  clear hN hb HF hg hM x0 x1 x2 x3 x4 x5 x6 x7 x8
  obtain ⟨⟨x0, x1, x2, x3, x4, x5⟩, x6, x7, x8⟩ := HK.out _ (HU.out _ HV.out)
  go_wp2_with fail
  refine hFa.mono ?_
  rintro e w2 ⟨b, rfl, hfar, hb⟩
  replace HV := hid (HV.out.trans (hb.mono HV.out.size))
  clear hFa hb x0 x1 x2 x3 x4 x5 x6 x7 x8
  cases b with
  | true =>
    have HW0 := hid (HX.out _ (HU.out _ HV.out))
    clear HMa hMJ hfar HK HX HMM HU HV HS0 HS5 HS1 HSy HT
    go_wp2_with fail
    refine (alive12_any _).mono ?_
    rintro e wz ⟨rfl, hb⟩
    have HZ := hid (HW0.out.trans (hb.mono HW0.out.size))
    clear hb
    go_wp2
    go_ret
    exact ⟨rfl, HZ.out⟩
  | false =>
  have hfr := hfar rfl
  clear hfar
  by_cases hq1 : 20 < l2 ∧ l2 < 250
  · have p1 : (20 : Int) < (l2 : Int) := by omega
    have p2 : (l2 : Int) < 250 := by omega
    have HW0 := hid (HX.out _ (HU.out _ HV.out))
    clear HMa hMJ hfr HK HX HMM HU HV HS0 HS5 HS1 HSy HT
    go_wp2_with fail
    refine (alive12_any _).mono ?_
    rintro e wz ⟨rfl, hb⟩
    have HZ := hid (HW0.out.trans (hb.mono HW0.out.size))
    clear hb
    go_wp2
    go_ret
    exact ⟨rfl, HZ.out⟩
  have HPass : Hid (¬ (20 : Int) < (l2 : Int) ∨ ((20 : Int) < (l2 : Int) ∧ ¬ (l2 : Int) < 250)) := by unfold Hid; omega
  obtain ⟨⟨x0, x1, x2, x3, x4, x5⟩, x6, x7, x8⟩ := HK.out _ (HU.out _ HV.out)
  cases mj with
  | false =>
    have hS := HS0.out rfl _ _ (HMM.out _ HV.out) (HU.out _ HV.out)
    clear HS0 HS5 HS1 HSy HT hMJ
    rcases HPass.out with p1 | ⟨p1, p2⟩
    all_goals
      go_wp2_with fail
      refine hS.mono ?_
      rintro e w3 ⟨rfl, hb⟩
      replace HV := hid (HV.out.trans (hb.mono HV.out.size))
      clear hb x0 x1 x2 x3 x4 x5 x6 x7 x8
      obtain ⟨⟨x0, x1, x2, x3, x4, x5⟩, x6, x7, x8⟩ := HK.out _ (HU.out _ HV.out)
      go_wp2_with fail
      refine (HMa.out _ (HU.out _ HV.out)).mono ?_
      rintro e w4 ⟨rfl, hb⟩
      have HW0 := hid (HX.out _ (HU.out _ (HV.out.trans (hb.mono HV.out.size))))
      clear hb x0 x1 x2 x3 x4 x5 x6 x7 x8 HMa HV HU HX HK HMM
      go_wp2_with fail
      refine (alive12_any _).mono ?_
      rintro e wz ⟨rfl, hb⟩
      have HZ := hid (HW0.out.trans (hb.mono HW0.out.size))
      clear hb
      go_wp2
      go_ret
      exact ⟨rfl, HZ.out⟩
  | true =>
  obtain ⟨hm0, hm1, hm2, hmt⟩ := hMJ.out rfl
  clear hMJ hmt
  have hmo12 : mo ≤ 12 := by omega
  replace HS5 := hid (HS5.out rfl)
  replace HS1 := hid (HS1.out rfl)
  replace HSy := hid (HSy.out rfl)
  clear HS0
  by_cases hmany : mo < l2 ∨ 255 < lp + l2
  · have hS := HS5.out hmany _ _ (HMM.out _ HV.out) (HU.out _ HV.out)
    clear HS5 HS1 HSy HT
    have HMany : Hid ((¬ (20 : Int) < (l2 : Int) ∧ mo < (l2 : Int)) ∨ (¬ (20 : Int) < (l2 : Int) ∧ ¬ mo < (l2 : Int) ∧ 255 - (lp : Int) < (l2 : Int)) ∨ ((20 : Int) < (l2 : Int) ∧ ¬ (l2 : Int) < 250 ∧ mo < (l2 : Int))) := by
      have := HPass.out
      unfold Hid
      omega
    clear hmany
    rcases HMany.out with ⟨p1, p3⟩ | ⟨p1, p3, p4⟩ | ⟨p1, p2, p3⟩
    all_goals
      go_wp2_with fail
      refine hS.mono ?_
      rintro e w3 ⟨rfl, hb⟩
      replace HV := hid (HV.out.trans (hb.mono HV.out.size))
      clear hb x0 x1 x2 x3 x4 x5 x6 x7 x8
      obtain ⟨⟨x0, x1, x2, x3, x4, x5⟩, x6, x7, x8⟩ := HK.out _ (HU.out _ HV.out)
      go_wp2_with fail
      refine (HMa.out _ (HU.out _ HV.out)).mono ?_
      rintro e w4 ⟨rfl, hb⟩
      replace HV := hid (HV.out.trans (hb.mono HV.out.size))
      clear hb x0 x1 x2 x3 x4 x5 x6 x7 x8
      obtain ⟨⟨x0, x1, x2, x3, x4, x5⟩, x6, x7, x8⟩ := HK.out _ (HU.out _ HV.out)
      have HW0 := hid (HX.out _ (HU.out _ HV.out))
      clear HMa HV HU HX HK HMM HMany HPass
      go_wp2_with fail
      refine (alive12_any _).mono ?_
      rintro e wz ⟨rfl, hb⟩
      have HZ := hid (HW0.out.trans (hb.mono HW0.out.size))
      clear hb
      go_wp2
      go_ret
      exact ⟨rfl, HZ.out⟩
  have p3 : ¬ mo < (l2 : Int) := by omega
  have p4 : ¬ 255 - (lp : Int) < (l2 : Int) := by omega
  have p1 : ¬ (20 : Int) < (l2 : Int) := by omega
  clear HPass HS5 hmany hq1
  by_cases hall : ∃ i, i < l2 ∧ (z2[i]?.getD 0 < 0 ∨ v ≤ z2[i]?.getD 0)
  · have hS := HS1.out (by omega) (by omega) hall _ _ (HMM.out _ HV.out) (HU.out _ HV.out)
    have HEx := hid hall
    clear HS1 HSy hall
    go_wp2_with fail
    refine hS.mono ?_
    rintro e w3 ⟨rfl, hb⟩
    replace HV := hid (HV.out.trans (hb.mono HV.out.size))
    clear hb x0 x1 x2 x3 x4 x5 x6 x7 x8
    obtain ⟨⟨x0, x1, x2, x3, x4, x5⟩, x6, x7, x8⟩ := HK.out _ (HU.out _ HV.out)
    go_wp2_with fail
    refine (HMa.out _ (HU.out _ HV.out)).mono ?_
    rintro e w4 ⟨rfl, hb⟩
    replace HV := hid (HV.out.trans (hb.mono HV.out.size))
    clear hb x0 x1 x2 x3 x4 x5 x6 x7 x8 HMa HMM
    obtain ⟨⟨x0, x1, x2, x3, x4, x5⟩, x6, x7, x8⟩ := HK.out _ (HU.out _ HV.out)
    go_wp2_with fail
    go_loopw [145] (fun i W => ∃ k : Nat, k ≤ l2 ∧ i = .int .i64 k ∧ Hid (∀ i, i < k → 0 ≤ z2[i]?.getD 0 ∧ z2[i]?.getD 0 < v) ∧ Hid (W = w4)) (fun i _ => l2 - (intOf i).toNat)
    case atStart => exact ⟨0, Nat.zero_le _, rfl, fun i hi => absurd hi (by omega), rfl⟩
    case round =>
    obtain ⟨k, hk, rfl, HL, hW⟩ := hrel
    have hW := hW.out
    subst hW
    rename World => wr
    by_cases hlt : k < l2
    · obtain ⟨b1, o1, rfl, ct⟩ := (HT.out _ (HU.out _ HV.out)).cell k hlt
      have q1 : (k : Int) < (l2 : Int) := by omega
      have HW0 := hid (HX.out _ (HU.out _ HV.out))
      by_cases ht : z2[k]?.getD 0 < 0
      · clear HL HEx HT HX HU HK HV
        generalize z2[k]?.getD 0 = t at *
        clear x0 x2 x3 x4 x5 x6 x7 x8
        go_wp2_with fail
        refine (alive12_any _).mono ?_
        rintro e wz ⟨rfl, hb⟩
        have HZ := hid (HW0.out.trans (hb.mono HW0.out.size))
        clear hb
        go_wp2
        go_ret
        exact ⟨rfl, HZ.out⟩
      by_cases ht2 : v ≤ z2[k]?.getD 0
      · clear HL HEx HT HX HU HK HV
        generalize z2[k]?.getD 0 = t at *
        clear x0 x2 x3 x4 x5 x6 x7 x8
        go_wp2_with fail
        refine (alive12_any _).mono ?_
        rintro e wz ⟨rfl, hb⟩
        have HZ := hid (HW0.out.trans (hb.mono HW0.out.size))
        clear hb
        go_wp2
        go_ret
        exact ⟨rfl, HZ.out⟩
      have HL2 : Hid (∀ i, i < k + 1 → 0 ≤ z2[i]?.getD 0 ∧ z2[i]?.getD 0 < v) := fun i hi => by
        rcases (by omega : i < k ∨ i = k) with h' | rfl
        · exact HL.out i h'
        · omega
      clear HL HEx HT HX HU HK HV HW0
      generalize z2[k]?.getD 0 = t at *
      go_wp2_with fail
      go_round
      case rel => exact ⟨k + 1, by omega, by go_num, HL2, trivial⟩
      case measure => simp [intOf]; omega
    · obtain ⟨i, hi, hbad⟩ := HEx.out
      have := HL.out i (by omega)
      omega
  · have hgood : ∀ i, i < l2 → 0 ≤ z2[i]?.getD 0 ∧ z2[i]?.getD 0 < v := fun i hi => by
      refine ⟨?_, ?_⟩
      · rcases Int.lt_or_le (z2[i]?.getD 0) 0 with h' | h'
        · exact absurd ⟨i, hi, .inl h'⟩ hall
        · exact h'
      · rcases Int.lt_or_le (z2[i]?.getD 0) v with h' | h'
        · exact h'
        · exact absurd ⟨i, hi, .inr h'⟩ hall
    have hS := HSy.out (by omega) (by omega) hgood _ _ (HMM.out _ HV.out) (HU.out _ HV.out)
    have HGd := hid hgood
    clear HS1 HSy hall hgood
    go_wp2_with fail
    refine hS.mono ?_
    rintro e w3 ⟨g3, F3, rfl, hS3, _, hb⟩
    have HS3 := hid hS3
    replace HV := hid (HV.out.trans (hb.mono HV.out.size))
    clear hb x0 x1 x2 x3 x4 x5 x6 x7 x8 hS3 hS
    obtain ⟨⟨x0, x1, x2, x3, x4, x5⟩, x6, x7, x8⟩ := HK.out _ (HU.out _ HV.out)
    go_wp2_with fail
    refine (HMa.out _ (HU.out _ HV.out)).mono ?_
    rintro e w4 ⟨rfl, hb⟩
    replace HS3 := hid (HS3.out.below hb)
    replace HV := hid (HV.out.trans (hb.mono HV.out.size))
    clear hb x0 x1 x2 x3 x4 x5 x6 x7 x8 HMa HMM
    obtain ⟨⟨x0, x1, x2, x3, x4, x5⟩, x6, x7, x8⟩ := HK.out _ (HU.out _ HV.out)
    have HLt : Hid (((0 :: ts ++ z2).length : Int) = 1 + (lp : Int) + (l2 : Int)) := by unfold Hid; simp; omega
    have HLe := hid fun W (hb : Below w4.heap.size w4 W) => dlen_any _ _ _ W (HS3.out.below hb)
    rw [HLt.out] at HLe
    clear HLt HS3
    go_wp2_with fail
    go_loopw [145] (fun i W => ∃ k : Nat, k ≤ l2 ∧ i = .int .i64 k ∧ Hid (W = w4)) (fun i _ => l2 - (intOf i).toNat)
    case atStart => exact ⟨0, Nat.zero_le _, rfl, rfl⟩
    case round =>
    obtain ⟨k, hk, rfl, hW⟩ := hrel
    have hW := hW.out
    subst hW
    rename World => wr
    by_cases hlt : k < l2
    · obtain ⟨b1, o1, rfl, ct⟩ := (HT.out _ (HU.out _ HV.out)).cell k hlt
      have q1 : (k : Int) < (l2 : Int) := by omega
      obtain ⟨ht0, ht1⟩ := HGd.out k hlt
      have ht0' : ¬ z2[k]?.getD 0 < 0 := by omega
      have ht1' : ¬ v ≤ z2[k]?.getD 0 := by omega
      clear HGd HT HX HU HK HV HLe
      generalize z2[k]?.getD 0 = t at *
      go_wp2_with fail
      go_round
      case rel => exact ⟨k + 1, by omega, by go_num, trivial⟩
      case measure => simp [intOf]; omega
    · obtain rfl : k = l2 := by omega
      have HZ : Hid (Below wr.heap.size wr wr.drew) := (Below.refl _ _).drew
      have b1 : (lp : Int) ≤ 255 := by omega
      have b2 : (k : Int) ≤ 20 := by omega
      have hw : 1 + (lp : Int) + (k : Int) = IntKind.i64.wrap (IntKind.i64.wrap (1 + (lp : Int)) + (k : Int)) := by
        rw [wrap_in (n := 1 + (lp : Int)) (by omega) (by omega), wrap_in (by omega) (by omega)]
      have HKr : Hid (∀ W : World, Below wr.heap.size wr W → W.cell? ⟨w.heap.size + 1, 1, none⟩ = some (.slice ap lp cp)) := fun W hW => (HK.out W (HU.out W (HV.out.trans (hW.mono HV.out.size)))).2.2.1
      have HXr : Hid (∀ W : World, Below wr.heap.size wr W → Below w.heap.size w W) := fun W hW => HX.out W (HU.out W (HV.out.trans (hW.mono HV.out.size)))
      clear HGd HT HX HU HK HV x0 x1 x2 x3 x4 x5 x6 x7 x8 hlt hk
      go_wp2_with fail
      go_region_held3 (fun W : World => W.cell? ⟨w.heap.size + 1, 1, none⟩ = some (.slice ap lp cp)) (first | (with_reducible exact HKr.out _ (Below.refl _ _)) | (with_reducible exact HKr.out _ HZ.out))
        (first
          | (go_at_call 18; (with_reducible refine (HLe.out _ HZ.out).mono ?_); rintro e q1 ⟨rfl, hb⟩; replace HZ := hid (HZ.out.trans (hb.mono HZ.out.size)); clear hb)
          | (go_at_call 12; (with_reducible refine (alive12_any _).mono ?_); rintro e q2 ⟨rfl, hb⟩; replace HZ := hid (HZ.out.trans (hb.mono HZ.out.size)); clear hb))
      all_goals
        go_wp2_with fail
        go_ret
        exact ⟨rfl, HXr.out _ HZ.out⟩

/-! ### The row's step -/
set_option maxRecDepth 1000000 in
theorem lifted (os : Os) (started : os.Started) (H : Type) (enc : TypeId × Value → H) :
    ReturnsInHanded {} Tryz.checked os 8 .any (Rows.decodeNobodySpec.pre6 enc Tryz.prog Tryz.f8 Rows.decodeNobodyRow.domain false) (Rows.decodeNobodySpec.post enc Tryz.prog Tryz.f8 false true false false) := by
  refine returnsInHanded_of_change (C := Tryz.checked) own started (by kernel_rfl) Tryz.func8
    (ChangeSpec.witness6 (enc := enc) (C := Tryz.checked) false ⟨#[], #[.agg #[.int .u64 0, .int .i64 0, .int .i64 0, .int .i64 0, .int .i64 0, .int .i64 0], .agg #[.int .u64 0, .slice none 0 0, .int .i64 0], .slice none 0 0], []⟩ 8 (by kernel_rfl) (by kernel_rfl) (by kernel_rfl) (by kernel_rfl)) ?_
  intro W base args ds gs before hval0 hW hcnd _
  have hval : ∀ (j : Nat) t v, Tryz.f8.params[j]? = some t → args[j]? = some v → Value.okWide Tryz.prog W .any base t v := hval0
  have hW' := hW
  obtain ⟨p, q, hA0, hV, rfl, hfz, hnd⟩ := hW
  have hA : DataW.TrodAll enc Tryz.prog W 0 (fun _ => true) true Tryz.f8.params.toList args.toList ds p := hA0
  rw [Tryz.params8] at hA hval
  obtain ⟨v0, vs0, d0, ds0, p0, q0, hargs, rfl, rfl, h0, r0⟩ := trodAll_cons hA
  obtain ⟨v1, vs1, d1, ds1, p1, q1, rfl, rfl, rfl, h1, r1⟩ := trodAll_cons r0
  obtain ⟨v2, vs2, d2, ds2, p2, q2, rfl, rfl, rfl, h2, r2⟩ := trodAll_cons r1
  obtain ⟨rfl, rfl, rfl⟩ := trodAll_nil r2
  obtain rfl : args = #[v0, v1, v2] := by cases args; simp_all
  obtain ⟨rfl, rfl⟩ := trodVars_none hV
  have k0 := h0
  have lt0 : ∀ x ∈ p0, x.block < W.heap.size := by obtain ⟨m, hm⟩ := k0; exact DataW.trod_lt m _ _ _ hm
  obtain ⟨c0, rfl⟩ := conf_open (hval 0 24 v0 rfl rfl) h0
  have k1 := h1
  have lt1 : ∀ x ∈ p1, x.block < W.heap.size := by obtain ⟨m, hm⟩ := k1; exact DataW.trod_lt m _ _ _ hm
  obtain ⟨j1, rfl, gj1⟩ := job_open (hval 1 27 v1 rfl rfl) h1
  have k2 := h2
  have lt2 : ∀ x ∈ p2, x.block < W.heap.size := by obtain ⟨m, hm⟩ := k2; exact DataW.trod_lt m _ _ _ hm
  obtain ⟨a2, l2, c2, z2, rfl, ga2⟩ := nums_open (hval 2 25 v2 rfl rfl) h2
  clear hA0 hval0
  refine (walk c0 j1 a2 l2 c2 z2 W gj1 ga2).mono fun e W' ⟨he, bel⟩ => ?_
  subst he
  exact ⟨_, rfl, _, _, _, [], _, [], hW', trodAll_mk1 (shut_bool Tryz.underlying4 _), (trodAll_cons_mk (Below.trod laidOut (by kernel_rfl) (of_decide_eq_true (by kernel_rfl)) k0 bel lt0) (trodAll_cons_mk (Below.trod laidOut (by kernel_rfl) (of_decide_eq_true (by kernel_rfl)) k1 bel lt1) (trodAll_cons_mk (Below.trod laidOut (by kernel_rfl) (of_decide_eq_true (by kernel_rfl)) k2 bel lt2) trodAll_mk0))), rfl, bel.frame _, fun h => by cases h⟩

theorem over : Rows.decodeNobodyRow.holds Tryz.pinned (OpenSpec.ofChange Rows.decodeNobodySpec) :=
  OpenClaim.holds_of_wide 8 Tryz.f8 rfl rfl rfl rfl rfl rfl rfl ⟨rfl, rfl, rfl, rfl, rfl⟩ rfl rfl rfl rfl rfl (by kernel_rfl) Tryz.func8 (by kernel_rfl)
    (of_decide_eq_true (by kernel_rfl)) (by unfold Func.isWrapper; first | (rw [if_pos (by decide +kernel)]; kernel_rfl) | (rw [if_neg (by decide +kernel)]; exact ⟨rfl, rfl⟩))
    (fun os started H enc _ => lifted os started H enc)

/-- The statement. -/
theorem proved : Rows.DecodeNobodySaid := over
#print axioms proved
end Go.Proofs.YtahpilgbabjebaaGreat.decodeNobody
