/-
  Proved: from any place on the same follows as if all had been told at once, however many are told at a time: DecodeRests hands back true for whatever configuration, job and numbers.
-/
import Derived.Test.YtahpilgbabjebaaGreatRows
import Derived.Test.YtahpilgbabjebaaGreatPk17
import Derived.Test.YtahpilgbabjebaaGreatPk14
import Derived.Deep.RegionHeld3
import Derived.WalkKit
import Derived.ProofKit
import Derived.OpenShut
import Derived.ShutString
import Derived.ChangeOld
import Derived.Below
namespace Go.Proofs.YtahpilgbabjebaaGreat.decodeRests
open Go.ChangeShapes Go.WideShapes Go.ChangeAt Go.RowKit
open Go.ChangeMaps (open_string shut_string)
set_option linter.unusedVariables false

theorem own : ownKnob Tryz.prog.godebug = none := by kernel_rfl
theorem laidOut : laidOutB Tryz.prog = true := by kernel_rfl

/-! ### The walk -/
set_option maxRecDepth 1000000 in
set_option maxHeartbeats 8000000 in
theorem walk (c0 : Cf) (j1 : Jb) (a2 b2 : Int) (w : World) (gj1 : JbIn w j1) :
    Calls Tryz.prog 5 #[.agg (CfV c0), .agg (JbV j1), .agg #[.int .i64 a2, .int .i64 b2]] w fun e w' => e = .returned (.bool true) ∧ Below w.heap.size w w' := by
  obtain ⟨wA, hwA⟩ : ∃ wA, wA = ((w.alloc (.cells (CfV c0) 24)).alloc (.cells (JbV j1) 27)).alloc (.cells #[.int .i64 a2, .int .i64 b2] 49) := ⟨_, rfl⟩
  have HB0 : Hid (Below w.heap.size w wA) := by unfold Hid; rw [hwA]; exact (((Below.refl _ _).alloc (Nat.le_refl _) _).alloc (by simp) _).alloc (by simp; omega) _
  have HK : Hid (∀ W : World, Below wA.heap.size wA W → (W.cell? ⟨w.heap.size, 0, none⟩ = some (.int .u64 c0.seed) ∧ W.cell? ⟨w.heap.size, 1, none⟩ = some (.int .i64 c0.vocab) ∧ W.cell? ⟨w.heap.size, 2, none⟩ = some (.int .i64 c0.dim) ∧ W.cell? ⟨w.heap.size, 3, none⟩ = some (.int .i64 c0.layers) ∧ W.cell? ⟨w.heap.size, 4, none⟩ = some (.int .i64 c0.top) ∧ W.cell? ⟨w.heap.size, 5, none⟩ = some (.int .i64 c0.heat)) ∧ W.cell? ⟨w.heap.size + 1, 0, none⟩ = some (.int .u64 j1.seed) ∧ W.cell? ⟨w.heap.size + 1, 1, none⟩ = some (.slice j1.ap j1.lp j1.cp) ∧ W.cell? ⟨w.heap.size + 1, 2, none⟩ = some (.int .i64 j1.most)) := by
    intro W hb
    have e1 : wA.heap[w.heap.size]? = some (.cells (CfV c0) 24 (0, 0)) := by rw [hwA, Below.heap_alloc _ _ _ (by simp; omega), Below.heap_alloc _ _ _ (by simp)]; exact heap_alloc_new w _
    have e2 : wA.heap[w.heap.size + 1]? = some (.cells (JbV j1) 27 (0, 0)) := by
      have := heap_alloc_new (w.alloc (.cells (CfV c0) 24)) (.cells (JbV j1) 27)
      rw [hwA, Below.heap_alloc _ _ _ (by simp)]
      simpa using this
    exact ⟨Cf_cells (block_below e1 hb), Jb_cells (block_below e2 hb)⟩
  have HJ : Hid (∀ W : World, Below wA.heap.size wA W → JbIn W j1) := fun W hb => Reads.below (Reads.below gj1 HB0.out) hb
  have HX : Hid (∀ W : World, Below wA.heap.size wA W → Below w.heap.size w W) := fun W hW => HB0.out.trans (hW.mono HB0.out.size)
  have hz := gj1.size
  have hNy := fun (h : mayB c0 = true) => new_yes c0 wA h
  have hNn := fun (h : mayB c0 = false) => new_no c0 wA h
  have HF := hid fun W (hb : Below wA.heap.size wA W) => far12_any j1 W (HJ.out W hb)
  have HK3 : Hid (∀ W : World, Below wA.heap.size wA W → W.cell? ⟨w.heap.size + 1 + 1, 0, none⟩ = some (.int .i64 a2) ∧ W.cell? ⟨w.heap.size + 1 + 1, 1, none⟩ = some (.int .i64 b2)) := by
    intro W hb
    have e3 : wA.heap[w.heap.size + 1 + 1]? = some (.cells #[.int .i64 a2, .int .i64 b2] 49 (0, 0)) := by
      have := heap_alloc_new ((w.alloc (.cells (CfV c0) 24)).alloc (.cells (JbV j1) 27)) (.cells #[.int .i64 a2, .int .i64 b2] 49)
      rw [hwA]
      simpa using this
    exact two_cells (block_below e3 hb)
  have HRf := hid fun (hc : mayB c0 = true) (hm : mayJ c0.vocab j1.most j1.ts = true) p W (hp : MdAt W p c0) (hb : Below wA.heap.size wA W) => dref_yes p c0 j1 W hp hc (HJ.out W hb) hm
  have HSy := hid fun (hc : mayB c0 = true) (hm : mayJ c0.vocab j1.most j1.ts = true) a n cap us p W (hp : MdAt W p c0) (hb : Below wA.heap.size wA W) (hu : Reads .i64 W a n cap us) => dstart_yes p c0 j1 a n cap us W hp hc (HJ.out W hb) hu hm
  have HFg := hid fun (hc : mayB c0 = true) p q ts F n k m W (hp : MdAt W p c0) (hb : Below wA.heap.size wA W) (hs : StAt W q c0 ts F) => dfrom_go p q c0 j1 ts n k m W hp hc (HJ.out W hb) hs
  have HFe := hid fun (hc : mayB c0 = true) p q ts F n most W (hp : MdAt W p c0) (hb : Below wA.heap.size wA W) (hs : StAt W q c0 ts F) => dfrom_end p q c0 j1 ts n most W hp hc (HJ.out W hb) hs
  have HIn := hid fun (hc : mayB c0 = true) => refL_in hc j1.seed j1.most.toNat (0 :: j1.ts)
  unfold JbV at HRf HSy HFg HFe
  have HMa := hid fun W (hb : Below wA.heap.size wA W) => dmay_any c0 j1 W (HJ.out W hb)
  obtain ⟨mj, hmj⟩ : ∃ mj, mayJ c0.vocab j1.most j1.ts = mj := ⟨_, rfl⟩
  rw [hmj] at HMa
  have hMJ := hid fun (h : mj = true) => mayJ_iff.1 (hmj.trans h)
  have hmj' := hid hmj
  clear hmj gj1 HB0
  obtain ⟨s, v, d, l, tt, h⟩ := c0
  obtain ⟨sd, ap, lp, cp, ts, mo⟩ := j1
  unfold CfV at hNy hNn hwA HMa
  unfold JbV at hwA HF HMa
  simp only at HK hNy hNn hwA HF HMa hz hMJ hmj'
  unfold CfV JbV
  simp only
  cases hc : mayB ⟨s, v, d, l, tt, h⟩ with
  | false =>
    have hN := hNn hc
    clear hNy hNn HMa hMJ hmj' hc HF HRf HSy HFg HFe HIn HK3
    go_enter Tryz.func5, Tryz.ntmps5
    go_wp2_with fail
    rw [← hwA]
    refine hN.mono ?_
    rintro e w1 ⟨rfl, hb⟩
    have HW0 := hid (HX.out _ hb)
    clear hN hb hwA HK HX
    go_wp2_with fail
    refine (alive12_any _).mono ?_
    rintro e wz ⟨rfl, hb⟩
    have HZ := hid (HW0.out.trans (hb.mono HW0.out.size))
    clear hb
    go_wp2
    go_ret
    exact ⟨rfl, HZ.out⟩
  | true =>
  have hN := hNy hc
  replace hc := hid hc
  clear hNy hNn
  go_enter Tryz.func5, Tryz.ntmps5
  go_wp2_with fail
  rw [← hwA]
  refine hN.mono ?_
  rintro e w1 ⟨g, rfl, hg, hM, hb⟩
  have HMM : Hid (∀ W : World, Below w1.heap.size w1 W → MdAt W (some ⟨g, 0, none⟩) ⟨s, v, d, l, tt, h⟩) := fun W hW => .inr ⟨g, rfl, block_below hM hW⟩
  have HU : Hid (∀ W : World, Below w1.heap.size w1 W → Below wA.heap.size wA W) := fun W hW => hb.trans (hW.mono hb.size)
  have HV : Hid (Below w1.heap.size w1 w1) := Below.refl _ _
  have hFa := HF.out w1 hb
  obtain ⟨⟨x0, x1, x2, x3, x4, x5⟩, x6, x7, x8⟩ := HK.out _ hb
  clear hN hb hwA HF hg hM
  go_wp2_with fail
  refine hFa.mono ?_
  rintro e w2 ⟨b, rfl, hfar, hb⟩
  replace HV := hid (HV.out.trans (hb.mono HV.out.size))
  clear hFa hb x0 x1 x2 x3 x4 x5 x6 x7 x8
  cases b with
  | true =>
    have HW0 := hid (HX.out _ (HU.out _ HV.out))
    clear HMa hMJ hmj' hfar HK HX HMM HU HV HRf HSy HFg HFe HIn HK3
    go_wp2_with fail
    refine (alive12_any _).mono ?_
    rintro e wz ⟨rfl, hb⟩
    have HZ := hid (HW0.out.trans (hb.mono HW0.out.size))
    clear hb
    go_wp2
    go_ret
    exact ⟨rfl, HZ.out⟩
  | false =>
  have hFr := hid (hfar rfl)
  obtain ⟨⟨x0, x1, x2, x3, x4, x5⟩, x6, x7, x8⟩ := HK.out _ (HU.out _ HV.out)
  clear hfar
  go_wp2_with fail
  refine (HMa.out _ (HU.out _ HV.out)).mono ?_
  rintro e w3 ⟨rfl, hb⟩
  replace HV := hid (HV.out.trans (hb.mono HV.out.size))
  clear hb x0 x1 x2 x3 x4 x5 x6 x7 x8 HMa
  cases mj with
  | false =>
    have HW0 := hid (HX.out _ (HU.out _ HV.out))
    clear hMJ hmj' hFr HK HX HMM HU HV HRf HSy HFg HFe HIn HK3
    go_wp2_with fail
    refine (alive12_any _).mono ?_
    rintro e wz ⟨rfl, hb⟩
    have HZ := hid (HW0.out.trans (hb.mono HW0.out.size))
    clear hb
    go_wp2
    go_ret
    exact ⟨rfl, HZ.out⟩
  | true =>
  obtain ⟨hm0, hm1, hm2, hmt⟩ := hMJ.out rfl
  have HMt := hid hmt
  have hfr := hFr.out
  have hmo12 : mo ≤ 12 := by omega
  have hlp : lp ≤ 10 ∨ lp = 255 := by omega
  clear hMJ hFr hfr hmt
  obtain ⟨M, hM⟩ : ∃ M : Nat, mo = (M : Int) := ⟨mo.toNat, by omega⟩
  subst hM
  have hlM : M ≤ 12 := by omega
  replace HRf := hid (HRf.out hc.out hmj'.out)
  replace HSy := hid (HSy.out hc.out hmj'.out)
  replace HFg := hid (HFg.out hc.out)
  replace HFe := hid (HFe.out hc.out)
  replace HIn := hid (HIn.out hc.out)
  simp only [Int.toNat_natCast] at HRf HIn
  clear hc hmj' HMt
  obtain ⟨TS, hTS⟩ : ∃ TS, 0 :: ts = TS := ⟨_, rfl⟩
  have HTl : Hid (TS.length = lp + 1) := by unfold Hid; rw [← hTS]; simp; omega
  have HTc : Hid (∀ us, 0 :: ts ++ us = TS ++ us) := fun us => by rw [← hTS]
  rw [hTS] at HRf HIn
  clear hTS
  have HLn := hid (refL_len ⟨s, v, d, l, tt, h⟩ sd M TS)
  have HMo := hid (refL_most ⟨s, v, d, l, tt, h⟩ sd M TS (by rw [HTl.out]; omega))
  have HRe := hid (refL_rest ⟨s, v, d, l, tt, h⟩ sd)
  obtain ⟨R, hR⟩ : ∃ R : List Int → Nat → List Int, R = refL ⟨s, v, d, l, tt, h⟩ sd := ⟨_, rfl⟩
  have HR := hid hR
  rw [← hR] at HRf HIn HLn HMo HRe
  clear hR
  obtain ⟨rs, hrs⟩ : ∃ rs, R TS M = rs := ⟨_, rfl⟩
  rw [hrs] at HRf HIn HLn HMo
  have HRs := hid hrs
  clear hrs
  obtain ⟨rl, hrl⟩ : ∃ rl, rs.length = rl := ⟨_, rfl⟩
  have HRl := hid hrl
  have hrl12 : rl ≤ M := by have := HLn.out; omega
  have hrl255 : lp + rl ≤ 255 := by have := HMo.out; have := HTl.out; omega
  rw [hrl] at HRf HIn
  clear hrl HLn HMo
  obtain ⟨⟨x0, x1, x2, x3, x4, x5⟩, x6, x7, x8⟩ := HK.out _ (HU.out _ HV.out)
  go_wp2_with fail
  refine (HRf.out _ _ (HMM.out _ HV.out) (HU.out _ HV.out)).mono ?_
  rintro e w4 ⟨a4, c4, rfl, hr4, hb⟩
  have HR4 := hid hr4
  have r4 := hr4.room
  have m4 := hr4.most
  replace HV := hid (HV.out.trans (hb.mono HV.out.size))
  clear hb hr4 x0 x1 x2 x3 x4 x5 x6 x7 x8 HRf
  obtain ⟨k, hk⟩ : ∃ k, cutN a2 rl = k := ⟨_, rfl⟩
  have hkr : k ≤ rl := by unfold cutN at hk; omega
  obtain ⟨x, hx⟩ : ∃ x : Int, (if a2 < 0 then 0 else a2) = x := ⟨_, rfl⟩
  have hx2 : (if 0 < a2 then a2 else 0) = x := by rw [← hx]; split <;> split <;> omega
  have hA : (if (rl : Int) < x then (rl : Int) else x) = (k : Int) := by unfold cutN at hk; rw [← hx]; split <;> split at * <;> omega
  have hB : (if x < (rl : Int) then x else (rl : Int)) = (k : Int) := by unfold cutN at hk; rw [← hx]; split <;> split at * <;> omega
  clear hk
  have i1 : (0 : Int) ≤ (k : Int) := by omega
  have i2 : (k : Int) ≤ (c4 : Int) := by omega
  have i3 : (k : Int) ≤ (rl : Int) := by omega
  have HIk : Hid (∀ i, i < k → 0 ≤ (rs.take k)[i]?.getD 0 ∧ (rs.take k)[i]?.getD 0 < v) := fun i hi => by
    rw [List.getElem?_take_of_lt hi]; exact HIn.out i (by omega)
  obtain ⟨⟨x0, x1, x2, x3, x4, x5⟩, x6, x7, x8⟩ := HK.out _ (HU.out _ HV.out)
  obtain ⟨z0, z1⟩ := HK3.out _ (HU.out _ HV.out)
  have HSt := hid fun W (hb : Below w4.heap.size w4 W) => HSy.out a4 k c4 (rs.take k) _ W (HMM.out _ (HV.out.trans (hb.mono HV.out.size))) (HU.out _ (HV.out.trans (hb.mono HV.out.size))) ((HR4.out.cut hkr).below hb) (by omega) (by omega) HIk.out
  rw [HTc.out] at HSt
  have HKx : Hid (∀ W : World, Below w4.heap.size w4 W → W.cell? ⟨w.heap.size + 1, 0, none⟩ = some (.int .u64 sd) ∧ W.cell? ⟨w.heap.size + 1, 1, none⟩ = some (.slice ap lp cp) ∧ W.cell? ⟨w.heap.size + 1, 2, none⟩ = some (.int .i64 (M : Int))) := fun W hb => (HK.out W (HU.out _ (HV.out.trans (hb.mono HV.out.size)))).2
  have HZ : Hid (Below w4.heap.size w4 w4.drew) := (Below.refl _ _).drew
  clear HSy HIn HIk
  go_wp2_with fail
  go_region_held3 (fun W : World => W.cell? ⟨w.heap.size + 1, 0, none⟩ = some (.int .u64 sd) ∧ W.cell? ⟨w.heap.size + 1, 1, none⟩ = some (.slice ap lp cp) ∧ W.cell? ⟨w.heap.size + 1, 2, none⟩ = some (.int .i64 (M : Int))) (first | (with_reducible exact HKx.out _ (Below.refl _ _)) | (with_reducible exact HKx.out _ HZ.out))
    (first
      | (go_at_call 23; (with_reducible refine (HSt.out _ HZ.out).mono ?_); rintro e w5 ⟨g5, F5, rfl, hS5, hF5, hb⟩; have HS5 := hid hS5; have HF5 := hid hF5; replace HZ := hid (HZ.out.trans (hb.mono HZ.out.size)); clear hb hS5 hF5))
  replace HR4 := hid (HR4.out.below HZ.out)
  replace HV := hid (HV.out.trans (HZ.out.mono HV.out.size))
  clear HZ HKx HSt x0 x1 x2 x3 x4 x5 x6 x7 x8 z0 z1 hx hx2 hA hB HF5
  have HGl : Hid (g < w5.heap.size) := by
    rcases HMM.out _ HV.out with ⟨h', _⟩ | ⟨g', h', hb'⟩
    · cases h'
    · cases h'; exact lt_of_block hb'
  have HV5 : Hid (∀ W : World, Below w5.heap.size w5 W → Below w1.heap.size w1 W) := fun W hb => HV.out.trans (hb.mono HV.out.size)
  have HRt := hid fun W (hb : Below w5.heap.size w5 W) => HR4.out.below hb
  have HRk := hid (HR4.out.cut hkr)
  obtain ⟨st, hst⟩ : ∃ st, (min (max b2 1) 20).toNat = st := ⟨_, rfl⟩
  have hs1 : 1 ≤ st := by omega
  have hs20 : st ≤ 20 := by omega
  obtain ⟨y, hy⟩ : ∃ y : Int, (if b2 < 1 then 1 else b2) = y := ⟨_, rfl⟩
  have hA : (if (20 : Int) < y then 20 else y) = (st : Int) := by rw [← hy]; split <;> split at * <;> omega
  have hB : (if y < (20 : Int) then y else 20) = (st : Int) := by rw [← hy]; split <;> split at * <;> omega
  obtain ⟨i0, hi, hz0, hz1, hz2⟩ := info_parts Tryz.info3
  clear hst HV HR4
  go_wp2_with (at_builtin; refine append_ints2 _ rfl (.const (.slice none 0 0)) (.tmp 67) 25 rfl w5.heap.size 3 i0 (.int .i64 0) 8 Tryz.underlying25 hi hz0 hz1 hz2 rfl (by omega) .i64 _ 0 [] rfl (World.ownsRow_nil _ _ _ _) a4 k c4 (rs.take k) rfl HRk.out (by omega) (Nat.le_refl _) ?_; intro v6 w6 hO6 hg6 hm6; have hb6 := below_grown hg6; obtain ⟨z0, z1⟩ := HK3.out _ (HU.out _ (HV5.out _ hb6)))
  have HTk : Hid ((rs.take k).length = k) := by unfold Hid; rw [List.length_take, HRl.out]; omega
  have HR0 : Hid (rs = rs.take k ++ R (TS ++ rs.take k) (M - (rs.take k).length)) := by
    unfold Hid
    have h2 := HRe.out k M TS (by rw [HRs.out, HRl.out]; exact hkr)
    rw [HRs.out] at h2
    rw [HTk.out, ← h2, List.take_append_drop]
  have HS0 := hid (HS5.out.below hb6)
  have HA0 : Hid (∀ b, v6.ownBlock = some b → ¬ F5 b) := fun b hb' hF => by
    have hlt := HS5.out.old b hF
    rcases hm6 with h' | ⟨o, h', hle⟩
    · have h2 : v6.ownBlock = none := h'
      rw [h2] at hb'
      cases hb'
    · rw [h'] at hb'; cases hb'; omega
  have HO0 : Hid (w6.ownsRow w5.heap.size 3 1 v6 (rs.take k).length ((rs.take k).map (Value.int .i64))) := by
    unfold Hid
    rw [HTk.out]
    simpa using hO6
  have HW0' := hid hb6
  clear hO6 hg6 hm6 hb6 z0 z1 hy hA hB HRk HS5 HRe
  go_loopw [12, 14, 73] (fun u12 u14 u73 W => ∃ (i g9 : Nat) (us : List Int) (F : Nat → Prop), i ≤ 20 ∧ i ≤ us.length ∧ us.length ≤ M ∧ u12 = .pointer (some ⟨g9, 0, none⟩) ∧ u73 = .int .i64 i ∧ Hid (rs = us ++ R (TS ++ us) (M - us.length)) ∧ Hid (StAt W (some ⟨g9, 0, none⟩) ⟨s, v, d, l, tt, h⟩ (TS ++ us) F) ∧ Hid (∀ b, u14.ownBlock = some b → ¬ F b) ∧ Hid (W.ownsRow w5.heap.size 3 1 u14 us.length (us.map (Value.int .i64))) ∧ Hid (Below w5.heap.size w5 W)) (fun _ _ i _ => 20 - (intOf i).toNat)
  case atStart => exact ⟨0, g5, rs.take k, F5, by omega, by omega, by rw [HTk.out]; omega, rfl, rfl, HR0, HS0, HA0, HO0, HW0'⟩
  case round =>
  obtain ⟨i, g9, us, F, hi20, hius, husM, rfl, rfl, HRu, HS, HA, HO, HW⟩ := hrel
  rename World => wr
  clear HR0 HS0 HA0 HO0 HW0' HTk
  obtain ⟨a14, c14, rfl, hr14⟩ := Reads.own (k := .i64) HO.out
  have r14 := hr14.room
  have m14 := hr14.most
  clear hr14
  have hi12 : i < 20 := by omega
  have hi12' : (i : Int) < 20 := by omega
  obtain ⟨⟨x0, x1, x2, x3, x4, x5⟩, x6, x7, x8⟩ := HK.out _ (HU.out _ (HV5.out _ HW.out))
  have HLa : Hid ((TS ++ us).length = lp + 1 + us.length) := by unfold Hid; rw [List.length_append, HTl.out]
  have HL256 := HS.out.most
  by_cases hlast : us.length < M
  · have hFr := HFg.out _ _ _ _ us.length st (M - us.length) wr (HMM.out _ (HV5.out _ HW.out)) (HU.out _ (HV5.out _ HW.out)) HS.out (by omega) (by omega) (by omega) (by omega)
    have HStp := hid (refL_step ⟨s, v, d, l, tt, h⟩ sd (TS ++ us) (M - us.length) st)
    have HLx := hid (refL_len ⟨s, v, d, l, tt, h⟩ sd (min (M - us.length) st) (TS ++ us))
    go_wp2_with fail
    refine hFr.mono ?_
    rintro e w7 ⟨a7, c7, g7, b7, F7, rfl, hr7, hS7, hF7, hT7, hB7, hb⟩
    generalize refL ⟨s, v, d, l, tt, h⟩ sd (TS ++ us) (min (M - us.length) st) = xs at *
    rw [← HR.out] at hT7 HStp
    have HR7 := hid hr7
    have HS7 := hid hS7
    have HT7 := hid hT7
    have HB7 := hid hB7
    have hx1 : xs.length ≤ st := by have := HLx.out; omega
    have hx2 : xs.length ≤ M - us.length := by have := HLx.out; omega
    have r7 := hr7.room
    have m7 := hr7.most
    have HA7 : Hid (∀ b, (Value.slice a14 us.length c14).ownBlock = some b → ¬ F7 b) := fun b hb' hF => by
      have h' := HO.out.lt b hb'
      rcases hF7 b hF with (h2 | ⟨a, h2, h3⟩) | h2 | h2
      · exact HA.out b hb' h2
      · cases h2
        have := HGl.out
        simp only at h3
        omega
      · omega
      · exact NotInt.own HO.out hb' h2
    replace HS := hid (HS.out.below hb)
    replace HO := hid (own_below HO.out hb)
    replace HW := hid (HW.out.trans (hb.mono HW.out.size))
    clear hFr hb hr7 hS7 hF7 hT7 hB7 HA x0 x1 x2 x3 x4 x5 x6 x7 x8 HLx
    have hLn := dlen_any _ _ _ _ HS7.out
    rw [List.length_append] at hLn
    obtain ⟨La, hLa⟩ : ∃ La, (TS ++ us).length = La := ⟨_, rfl⟩
    have HLo := hid fun W (hb : Below w7.heap.size w7 W) => dlen_any _ _ _ W (HS.out.below hb)
    rw [hLa] at hLn HLo
    have hLaB : La ≤ 256 := by rw [← hLa]; exact HL256
    clear HLa hLa HL256
    have q1 : ¬ (st : Int) < (xs.length : Int) := by omega
    have hcst : ((La + xs.length : Nat) : Int) = (La : Int) + (xs.length : Int) := by omega
    rw [hcst] at hLn
    clear hcst
    have hw : IntKind.i64.wrap ((La : Int) + (xs.length : Int)) = (La : Int) + (xs.length : Int) := wrap_in (by omega) (by omega)
    go_wp2_with fail
    refine hLn.mono ?_
    rintro e w8 ⟨rfl, hb⟩
    have hb78 := hid hb
    replace HS7 := hid (HS7.out.below hb)
    replace HR7 := hid (HR7.out.below hb)
    replace HO := hid (own_below HO.out hb)
    replace HW := hid (HW.out.trans (hb.mono HW.out.size))
    clear hLn hb
    go_wp2_with fail
    refine (HLo.out _ hb78.out).mono ?_
    rintro e w9 ⟨rfl, hb⟩
    replace HS7 := hid (HS7.out.below hb)
    replace HR7 := hid (HR7.out.below hb)
    replace HO := hid (own_below HO.out hb)
    replace HW := hid (HW.out.trans (hb.mono HW.out.size))
    clear hb hb78 HLo HS
    have HSz : Hid (w5.heap.size ≤ w9.heap.size) := HW.out.size
    have HStp2 : Hid (rs = (us ++ xs) ++ R (TS ++ (us ++ xs)) (M - (us.length + xs.length))) := by
      unfold Hid
      rw [Nat.sub_add_eq, ← List.append_assoc TS us xs, List.append_assoc us xs, ← HStp.out]
      exact HRu.out
    clear HStp HRu
    cases b7 with
    | false =>
      have hxs := HB7.out rfl
      have hius2 : i + 1 ≤ us.length + xs.length := by omega
      have husM2 : us.length + xs.length ≤ M := by omega
      clear hxs HB7 HT7 hius husM
      go_wp2_with (at_builtin; refine append_ints2 _ rfl (.tmp 100) (.tmp 101) 25 rfl w5.heap.size 3 i0 (.int .i64 0) 8 Tryz.underlying25 hi hz0 hz1 hz2 rfl (by omega) .i64 _ us.length us rfl HO.out a7 xs.length c7 xs rfl HR7.out (by omega) HSz.out ?_; intro v10 w10 hO10 hg10 hm10)
      obtain ⟨hS10, hA10⟩ := HS7.out.grown (Below.refl _ _) hg10 hm10 HA7.out
      have HSn : Hid (StAt w10 (some ⟨g7, 0, none⟩) ⟨s, v, d, l, tt, h⟩ (TS ++ (us ++ xs)) F7) := by unfold Hid; rw [← List.append_assoc]; exact hS10
      have HAn := hid hA10
      have HOn : Hid (w10.ownsRow w5.heap.size 3 1 v10 (us ++ xs).length ((us ++ xs).map (Value.int .i64))) := by unfold Hid; rw [List.length_append]; exact hO10
      have HWn : Hid (Below w5.heap.size w5 w10) := HW.out.grown hg10 HSz.out fun b hb' => (HO.out.lt b hb').1
      have HNn : Hid (rs = (us ++ xs) ++ R (TS ++ (us ++ xs)) (M - (us ++ xs).length)) := by unfold Hid; rw [List.length_append]; exact HStp2.out
      clear hO10 hg10 hm10 hS10 hA10 HA7 HS7 HR7 HO HW HSz q1 hw HStp2
      go_wp2_with fail
      go_round
      case rel => exact ⟨i + 1, g7, us ++ xs, F7, by omega, by rw [List.length_append]; exact hius2, by rw [List.length_append]; exact husM2, rfl, by go_num, HNn, HSn, HAn, HOn, HWn⟩
      case measure => simp [intOf]; omega
    | true =>
      have HEnd0 := hid (HT7.out rfl)
      have HE : Hid (rs = us ++ xs) := by
        unfold Hid
        have h1 := HStp2.out
        have h2 := HEnd0.out
        rw [Nat.sub_add_eq, ← List.append_assoc TS us xs, h2, List.append_nil] at h1
        exact h1
      have HLr : Hid (us.length + xs.length = rl) := by unfold Hid; rw [← List.length_append, ← HE.out]; exact HRl.out
      have HEnd : Hid (R ((TS ++ us) ++ xs) (M - rl) = []) := by unfold Hid; rw [← HLr.out, Nat.sub_add_eq]; exact HEnd0.out
      clear HB7 HT7 HStp2 HEnd0 hius husM
      go_wp2_with (at_builtin; refine append_ints2 _ rfl (.tmp 100) (.tmp 101) 25 rfl w5.heap.size 3 i0 (.int .i64 0) 8 Tryz.underlying25 hi hz0 hz1 hz2 rfl (by omega) .i64 _ us.length us rfl HO.out a7 (xs.length) c7 xs rfl HR7.out (by omega) HSz.out ?_; intro v10 w10 hO10 hg10 hm10; rw [HLr.out] at hO10; have hW10 : Below w5.heap.size w5 w10 := HW.out.grown hg10 HSz.out (fun b hb' => (HO.out.lt b hb').1); have hS10 := (HS7.out.grown (Below.refl _ _) hg10 hm10 HA7.out).1; clear hg10 hm10; obtain ⟨ag, cg, rfl, hrg⟩ := Reads.own (k := .i64) hO10; have rg := hrg.room; have mg := hrg.most; obtain ⟨⟨x0, x1, x2, x3, x4, x5⟩, x6, x7, x8⟩ := HK.out _ (HU.out _ (HV5.out _ hW10)))
      rw [← HE.out] at hrg
      have HRg := hid hrg
      have HWz := hid hW10
      have HSz2 := hid hS10
      clear hrg hW10 hS10 hO10
      clear HA7 HS7 HR7 HO HW HSz q1 hw HLr
      by_cases hfin : rl < M
      · have hFr := HFg.out (some ⟨g, 0, none⟩) _ _ _ rl 5 (M - rl) _ (HMM.out _ (HV5.out _ HWz.out)) (HU.out _ (HV5.out _ HWz.out)) HSz2.out (by omega) (by omega) (by omega) (by omega)
        have HZero : Hid (refL ⟨s, v, d, l, tt, h⟩ sd ((TS ++ us) ++ xs) (min (M - rl) 5) = []) := by
          unfold Hid
          rw [refL_less ⟨s, v, d, l, tt, h⟩ sd (M - rl) _ _ (Nat.min_le_left _ _), ← HR.out, HEnd.out, List.take_nil]
        unfold GivesF at hFr
        rw [HZero.out] at hFr
        simp only [List.length_nil, List.append_nil] at hFr
        clear HZero
        refine hFr.mono ?_
        rintro e fa ⟨af, cf, gf, bf, Ff, rfl, _, _, _, _, hbf, hb⟩
        have hbt : bf = true := by
          cases bf with
          | true => rfl
          | false => exact absurd (hbf rfl) (by omega)
        subst hbt
        replace HRg := hid (HRg.out.below hb)
        replace HWz := hid (HWz.out.trans (hb.mono HWz.out.size))
        clear hFr hb hbf x0 x1 x2 x3 x4 x5 x6 x7 x8
        go_wp2_with fail
        with_reducible refine (same_yes _ _ _ _ _ rs _ HRg.out (HRt.out _ HWz.out) (by omega)).mono ?_
        rintro e fz ⟨rfl, hb⟩
        have HW0 := hid (HX.out _ (HU.out _ (HV5.out _ (HWz.out.trans (hb.mono HWz.out.size)))))
        clear hb HRg HRt HWz HX HU HV5 HK HK3 HMM
        go_wp2_with fail
        refine (alive12_any _).mono ?_
        rintro e wz ⟨rfl, hb⟩
        have HZ := hid (HW0.out.trans (hb.mono HW0.out.size))
        clear hb
        go_wp2
        go_ret
        exact ⟨rfl, HZ.out⟩
      · have hFr := HFe.out (some ⟨g, 0, none⟩) _ _ _ (rl : Int) 5 _ (HMM.out _ (HV5.out _ HWz.out)) (HU.out _ (HV5.out _ HWz.out)) HSz2.out (by right; omega) (by omega) (by omega)
        refine hFr.mono ?_
        rintro e fa ⟨af, cf, rfl, _, hb⟩
        replace HRg := hid (HRg.out.below hb)
        replace HWz := hid (HWz.out.trans (hb.mono HWz.out.size))
        clear hFr hb x0 x1 x2 x3 x4 x5 x6 x7 x8
        go_wp2_with fail
        with_reducible refine (same_yes _ _ _ _ _ rs _ HRg.out (HRt.out _ HWz.out) (by omega)).mono ?_
        rintro e fz ⟨rfl, hb⟩
        have HW0 := hid (HX.out _ (HU.out _ (HV5.out _ (HWz.out.trans (hb.mono HWz.out.size)))))
        clear hb HRg HRt HWz HX HU HV5 HK HK3 HMM
        go_wp2_with fail
        refine (alive12_any _).mono ?_
        rintro e wz ⟨rfl, hb⟩
        have HZ := hid (HW0.out.trans (hb.mono HW0.out.size))
        clear hb
        go_wp2
        go_ret
        exact ⟨rfl, HZ.out⟩
  · have hus : us.length = M := by omega
    have HUs := hid hus
    have hle : ¬ us.length < M := by omega
    clear hus
    have hFr := HFe.out (some ⟨g, 0, none⟩) _ _ _ (us.length : Int) (st : Int) wr (HMM.out _ (HV5.out _ HW.out)) (HU.out _ (HV5.out _ HW.out)) HS.out (by right; omega) (by omega) (by omega)
    have HEnd : Hid (R (TS ++ us) (M - us.length) = []) := by unfold Hid; rw [HR.out, HUs.out, Nat.sub_self]; rfl
    have HE : Hid (rs = us) := by unfold Hid; rw [HRu.out, HEnd.out, List.append_nil]
    go_wp2_with fail
    refine hFr.mono ?_
    rintro e w7 ⟨a7, c7, rfl, hr7, hb⟩
    have HR7 := hid hr7
    replace HS := hid (HS.out.below hb)
    replace HO := hid (own_below HO.out hb)
    replace HW := hid (HW.out.trans (hb.mono HW.out.size))
    clear hFr hb hr7 x0 x1 x2 x3 x4 x5 x6 x7 x8 HRu
    have HLo := hid fun W (hb : Below w7.heap.size w7 W) => dlen_any _ _ _ W (HS.out.below hb)
    obtain ⟨La, hLa⟩ : ∃ La, (TS ++ us).length = La := ⟨_, rfl⟩
    rw [hLa] at HLo
    have hLaB : La ≤ 256 := by rw [← hLa]; exact HL256
    clear HLa hLa HL256
    have q1 : ¬ (st : Int) < 0 := by omega
    go_wp2_with fail
    refine (HLo.out _ (Below.refl _ _)).mono ?_
    rintro e w8 ⟨rfl, hb⟩
    have hb78 := hid hb
    replace HS := hid (HS.out.below hb)
    replace HR7 := hid (HR7.out.below hb)
    replace HO := hid (own_below HO.out hb)
    replace HW := hid (HW.out.trans (hb.mono HW.out.size))
    clear hb
    go_wp2_with fail
    refine (HLo.out _ hb78.out).mono ?_
    rintro e w9 ⟨rfl, hb⟩
    replace HS := hid (HS.out.below hb)
    replace HR7 := hid (HR7.out.below hb)
    replace HO := hid (own_below HO.out hb)
    replace HW := hid (HW.out.trans (hb.mono HW.out.size))
    clear hb hb78 HLo
    have HSz : Hid (w5.heap.size ≤ w9.heap.size) := HW.out.size
    have HLr : Hid (us.length + 0 = rl) := by unfold Hid; rw [Nat.add_zero, ← HE.out]; exact HRl.out
    replace HE : Hid (rs = us ++ []) := by unfold Hid; rw [List.append_nil]; exact HE.out
    replace HEnd : Hid (R (TS ++ us) (M - rl) = []) := by unfold Hid; rw [← HLr.out, Nat.add_zero]; exact HEnd.out
    go_wp2_with (at_builtin; refine append_ints2 _ rfl (.tmp 100) (.tmp 101) 25 rfl w5.heap.size 3 i0 (.int .i64 0) 8 Tryz.underlying25 hi hz0 hz1 hz2 rfl (by omega) .i64 _ us.length us rfl HO.out a7 (0) c7 [] rfl HR7.out (by omega) HSz.out ?_; intro v10 w10 hO10 hg10 hm10; rw [HLr.out] at hO10; have hW10 : Below w5.heap.size w5 w10 := HW.out.grown hg10 HSz.out (fun b hb' => (HO.out.lt b hb').1); have hS10 := (HS.out.grown (Below.refl _ _) hg10 hm10 HA.out).1; clear hg10 hm10; obtain ⟨ag, cg, rfl, hrg⟩ := Reads.own (k := .i64) hO10; have rg := hrg.room; have mg := hrg.most; obtain ⟨⟨x0, x1, x2, x3, x4, x5⟩, x6, x7, x8⟩ := HK.out _ (HU.out _ (HV5.out _ hW10)))
    rw [← HE.out] at hrg
    have HRg := hid hrg
    have HWz := hid hW10
    have HSz2 := hid hS10
    clear hrg hW10 hS10 hO10
    clear HA HS HR7 HO HW HSz q1 hlast hius hle HLr
    by_cases hfin : rl < M
    · have hFr := HFg.out (some ⟨g, 0, none⟩) _ _ _ rl 5 (M - rl) _ (HMM.out _ (HV5.out _ HWz.out)) (HU.out _ (HV5.out _ HWz.out)) HSz2.out (by omega) (by omega) (by omega) (by omega)
      have HZero : Hid (refL ⟨s, v, d, l, tt, h⟩ sd (TS ++ us) (min (M - rl) 5) = []) := by
        unfold Hid
        rw [refL_less ⟨s, v, d, l, tt, h⟩ sd (M - rl) _ _ (Nat.min_le_left _ _), ← HR.out, HEnd.out, List.take_nil]
      unfold GivesF at hFr
      rw [HZero.out] at hFr
      simp only [List.length_nil, List.append_nil] at hFr
      clear HZero
      refine hFr.mono ?_
      rintro e fa ⟨af, cf, gf, bf, Ff, rfl, _, _, _, _, hbf, hb⟩
      have hbt : bf = true := by
        cases bf with
        | true => rfl
        | false => exact absurd (hbf rfl) (by omega)
      subst hbt
      replace HRg := hid (HRg.out.below hb)
      replace HWz := hid (HWz.out.trans (hb.mono HWz.out.size))
      clear hFr hb hbf x0 x1 x2 x3 x4 x5 x6 x7 x8
      go_wp2_with fail
      with_reducible refine (same_yes _ _ _ _ _ rs _ HRg.out (HRt.out _ HWz.out) (by omega)).mono ?_
      rintro e fz ⟨rfl, hb⟩
      have HW0 := hid (HX.out _ (HU.out _ (HV5.out _ (HWz.out.trans (hb.mono HWz.out.size)))))
      clear hb HRg HRt HWz HX HU HV5 HK HK3 HMM
      go_wp2_with fail
      refine (alive12_any _).mono ?_
      rintro e wz ⟨rfl, hb⟩
      have HZ := hid (HW0.out.trans (hb.mono HW0.out.size))
      clear hb
      go_wp2
      go_ret
      exact ⟨rfl, HZ.out⟩
    · have hFr := HFe.out (some ⟨g, 0, none⟩) _ _ _ (rl : Int) 5 _ (HMM.out _ (HV5.out _ HWz.out)) (HU.out _ (HV5.out _ HWz.out)) HSz2.out (by right; omega) (by omega) (by omega)
      refine hFr.mono ?_
      rintro e fa ⟨af, cf, rfl, _, hb⟩
      replace HRg := hid (HRg.out.below hb)
      replace HWz := hid (HWz.out.trans (hb.mono HWz.out.size))
      clear hFr hb x0 x1 x2 x3 x4 x5 x6 x7 x8
      go_wp2_with fail
      with_reducible refine (same_yes _ _ _ _ _ rs _ HRg.out (HRt.out _ HWz.out) (by omega)).mono ?_
      rintro e fz ⟨rfl, hb⟩
      have HW0 := hid (HX.out _ (HU.out _ (HV5.out _ (HWz.out.trans (hb.mono HWz.out.size)))))
      clear hb HRg HRt HWz HX HU HV5 HK HK3 HMM
      go_wp2_with fail
      refine (alive12_any _).mono ?_
      rintro e wz ⟨rfl, hb⟩
      have HZ := hid (HW0.out.trans (hb.mono HW0.out.size))
      clear hb
      go_wp2
      go_ret
      exact ⟨rfl, HZ.out⟩

/-! ### The row's step -/
set_option maxRecDepth 1000000 in
theorem lifted (os : Os) (started : os.Started) (H : Type) (enc : TypeId × Value → H) :
    ReturnsInHanded {} Tryz.checked os 5 .any (Rows.decodeRestsSpec.pre6 enc Tryz.prog Tryz.f5 Rows.decodeRestsRow.domain false) (Rows.decodeRestsSpec.post enc Tryz.prog Tryz.f5 false true false false) := by
  refine returnsInHanded_of_change (C := Tryz.checked) own started (by kernel_rfl) Tryz.func5
    (ChangeSpec.witness6 (enc := enc) (C := Tryz.checked) false ⟨#[], #[.agg #[.int .u64 0, .int .i64 0, .int .i64 0, .int .i64 0, .int .i64 0, .int .i64 0], .agg #[.int .u64 0, .slice none 0 0, .int .i64 0], .agg #[.int .i64 0, .int .i64 0]], []⟩ 8 (by kernel_rfl) (by kernel_rfl) (by kernel_rfl) (by kernel_rfl)) ?_
  intro W base args ds gs before hval0 hW hcnd _
  have hval : ∀ (j : Nat) t v, Tryz.f5.params[j]? = some t → args[j]? = some v → Value.okWide Tryz.prog W .any base t v := hval0
  have hW' := hW
  obtain ⟨p, q, hA0, hV, rfl, hfz, hnd⟩ := hW
  have hA : DataW.TrodAll enc Tryz.prog W 0 (fun _ => true) true Tryz.f5.params.toList args.toList ds p := hA0
  rw [Tryz.params5] at hA hval
  obtain ⟨v0, vs0, d0, ds0, p0, q0, hargs, rfl, rfl, h0, r0⟩ := trodAll_cons hA
  obtain ⟨v1, vs1, d1, ds1, p1, q1, rfl, rfl, rfl, h1, r1⟩ := trodAll_cons r0
  obtain ⟨v2, vs2, d2, ds2, p2, q2, rfl, rfl, rfl, h2, r2⟩ := trodAll_cons r1
  obtain ⟨rfl, rfl, rfl⟩ := trodAll_nil r2
  obtain rfl : args = #[v0, v1, v2] := by cases args; simp_all
  obtain ⟨rfl, rfl⟩ := trodVars_none hV
  have k0 := h0
  have lt0 : ∀ x ∈ p0, x.block < W.heap.size := by obtain ⟨m, hm⟩ := k0; exact DataW.trod_lt m _ _ _ hm
  obtain ⟨c0, rfl⟩ := conf_open (hval 0 24 v0 rfl rfl) h0
  have k1 := h1
  have lt1 : ∀ x ∈ p1, x.block < W.heap.size := by obtain ⟨m, hm⟩ := k1; exact DataW.trod_lt m _ _ _ hm
  obtain ⟨j1, rfl, gj1⟩ := job_open (hval 1 27 v1 rfl rfl) h1
  have k2 := h2
  have lt2 : ∀ x ∈ p2, x.block < W.heap.size := by obtain ⟨m, hm⟩ := k2; exact DataW.trod_lt m _ _ _ hm
  obtain ⟨a2, b2, rfl⟩ := pair_open (hval 2 49 v2 rfl rfl) h2
  clear hA0 hval0
  refine (walk c0 j1 a2 b2 W gj1).mono fun e W' ⟨he, bel⟩ => ?_
  subst he
  exact ⟨_, rfl, _, _, _, [], _, [], hW', trodAll_mk1 (shut_bool Tryz.underlying4 _), (trodAll_cons_mk (Below.trod laidOut (by kernel_rfl) (of_decide_eq_true (by kernel_rfl)) k0 bel lt0) (trodAll_cons_mk (Below.trod laidOut (by kernel_rfl) (of_decide_eq_true (by kernel_rfl)) k1 bel lt1) (trodAll_cons_mk (Below.trod laidOut (by kernel_rfl) (of_decide_eq_true (by kernel_rfl)) k2 bel lt2) trodAll_mk0))), rfl, bel.frame _, fun h => by cases h⟩

theorem over : Rows.decodeRestsRow.holds Tryz.pinned (OpenSpec.ofChange Rows.decodeRestsSpec) :=
  OpenClaim.holds_of_wide 5 Tryz.f5 rfl rfl rfl rfl rfl rfl rfl ⟨rfl, rfl, rfl, rfl, rfl⟩ rfl rfl rfl rfl rfl (by kernel_rfl) Tryz.func5 (by kernel_rfl)
    (of_decide_eq_true (by kernel_rfl)) (by unfold Func.isWrapper; first | (rw [if_pos (by decide +kernel)]; kernel_rfl) | (rw [if_neg (by decide +kernel)]; exact ⟨rfl, rfl⟩))
    (fun os started H enc _ => lifted os started H enc)

/-- The statement. -/
theorem proved : Rows.DecodeRestsSaid := over
#print axioms proved
end Go.Proofs.YtahpilgbabjebaaGreat.decodeRests
