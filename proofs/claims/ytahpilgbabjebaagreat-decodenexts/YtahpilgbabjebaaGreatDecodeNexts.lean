/-
  Proved: the next token of any text is the document's; what is fed stands behind, and what is fed to stays: DecodeNexts hands back true for whatever configuration, text and seed.
-/
import Derived.Test.YtahpilgbabjebaaGreatRows
import Derived.Test.YtahpilgbabjebaaGreatPk17
import Derived.WalkKit
import Derived.ProofKit
import Derived.OpenShut
import Derived.ShutString
import Derived.ChangeOld
import Derived.Below
namespace Go.Proofs.YtahpilgbabjebaaGreat.decodeNexts
open Go.ChangeShapes Go.WideShapes Go.ChangeAt Go.RowKit
open Go.ChangeMaps (open_string shut_string)
set_option linter.unusedVariables false

theorem own : ownKnob Tryz.prog.godebug = none := by kernel_rfl
theorem laidOut : laidOutB Tryz.prog = true := by kernel_rfl

/-! ### The walk -/
set_option maxRecDepth 1000000 in
set_option maxHeartbeats 8000000 in
theorem walk (c0 : Cf) (a1 : Option Addr) (l1 c1 : Nat) (z1 : List Int) (s2 : Int) (w : World) (ga1 : Reads .i64 w a1 l1 c1 z1) :
    Calls Tryz.prog 4 #[.agg (CfV c0), .slice a1 l1 c1, .int .u64 s2] w fun e w' => e = .returned (.bool true) ∧ Below w.heap.size w w' := by
  obtain ⟨wA, hwA⟩ : ∃ wA, wA = w.alloc (.cells (CfV c0) 24) := ⟨_, rfl⟩
  have HB0 : Hid (Below w.heap.size w wA) := by unfold Hid; rw [hwA]; exact (Below.refl _ _).alloc (Nat.le_refl _) _
  have HK : Hid (∀ W : World, Below wA.heap.size wA W → W.cell? ⟨w.heap.size, 0, none⟩ = some (.int .u64 c0.seed) ∧ W.cell? ⟨w.heap.size, 1, none⟩ = some (.int .i64 c0.vocab) ∧ W.cell? ⟨w.heap.size, 2, none⟩ = some (.int .i64 c0.dim) ∧ W.cell? ⟨w.heap.size, 3, none⟩ = some (.int .i64 c0.layers) ∧ W.cell? ⟨w.heap.size, 4, none⟩ = some (.int .i64 c0.top) ∧ W.cell? ⟨w.heap.size, 5, none⟩ = some (.int .i64 c0.heat)) := by
    intro W hb
    have e1 : wA.heap[w.heap.size]? = some (.cells (CfV c0) 24 (0, 0)) := by rw [hwA]; exact heap_alloc_new w _
    exact Cf_cells (block_below e1 hb)
  have HX : Hid (∀ W : World, Below wA.heap.size wA W → Below w.heap.size w W) := fun W hW => HB0.out.trans (hW.mono HB0.out.size)
  have HT : Hid (∀ W : World, Below wA.heap.size wA W → Reads .i64 W a1 l1 c1 z1) := fun W hb => (ga1.below HB0.out).below hb
  have r1 := ga1.room
  have m1 := ga1.most
  have hNy := fun (h : mayB c0 = true) => new_yes c0 wA h
  have hNn := fun (h : mayB c0 = false) => new_no c0 wA h
  have HDn := hid fun (hc : mayB c0 = true) p W (hp : MdAt W p c0) => dnew_yes p c0 W hp hc
  have HFy := hid fun (hc : mayB c0 = true) p ts t F W (hs : StAt W p c0 ts F) => dfeed_yes p c0 ts t W hs hc
  have HFn := hid fun (hc : mayB c0 = true) p ts t F W (hs : StAt W p c0 ts F) => dfeed_arg p c0 ts t W hs hc
  have HNx := hid fun (hc : mayB c0 = true) p ts F W (hs : StAt W p c0 ts F) => dnext_yes p c0 ts s2 W hs hc
  have HTo := hid fun (hc : mayB c0 = true) a n cap ts W (hr : Reads .i64 W a n cap ts) (hn : n ≤ 256) => rtold_any c0 a n cap ts s2 W hc hr hn
  obtain ⟨i0, hi, hz0, hz1, hz2⟩ := info_parts Tryz.info3
  clear ga1 HB0
  obtain ⟨f, hf⟩ : ∃ f : List Int → Int, f = fun ts => toldZ c0 ts s2 := ⟨_, rfl⟩
  have hfk : ∀ ts, toldZ c0 ts s2 = f ts := fun ts => by rw [hf]
  simp only [hfk] at HNx HTo
  clear hf hfk
  obtain ⟨s, v, d, l, tt, h⟩ := c0
  unfold CfV at hNy hNn hwA HTo
  simp only at HK hNy hNn hwA HTo HFy HFn
  unfold CfV
  simp only
  cases hc : mayB ⟨s, v, d, l, tt, h⟩ with
  | false =>
    have hN := hNn hc
    clear hNy hNn HDn HFy HFn HNx HTo hc
    go_enter Tryz.func4, Tryz.ntmps4
    go_wp2_with fail
    rw [← hwA]
    refine hN.mono ?_
    rintro e w1 ⟨rfl, hb⟩
    have HW0 := hid (HX.out _ hb)
    clear hN hb hwA HK HX HT
    go_wp2_with fail
    refine (alive12_any _).mono ?_
    rintro e wz ⟨rfl, hb⟩
    have HZ := hid (HW0.out.trans (hb.mono HW0.out.size))
    clear hb
    go_wp2
    go_ret
    exact ⟨rfl, HZ.out⟩
  | true =>
  have hN := hNy hc
  replace HDn := hid (HDn.out hc)
  replace HFy := hid (HFy.out hc)
  replace HFn := hid (HFn.out hc)
  replace HNx := hid (HNx.out hc)
  replace HTo := hid (HTo.out hc)
  clear hNy hNn hc
  go_enter Tryz.func4, Tryz.ntmps4
  go_wp2_with fail
  rw [← hwA]
  refine hN.mono ?_
  rintro e w1 ⟨g, rfl, hg, hM, hb⟩
  have HMM : Hid (∀ W : World, Below w1.heap.size w1 W → MdAt W (some ⟨g, 0, none⟩) ⟨s, v, d, l, tt, h⟩) := fun W hW => .inr ⟨g, rfl, block_below hM hW⟩
  have HU : Hid (∀ W : World, Below w1.heap.size w1 W → Below wA.heap.size wA W) := fun W hW => hb.trans (hW.mono hb.size)
  have HV : Hid (Below w1.heap.size w1 w1) := Below.refl _ _
  clear hN hb hwA hg hM
  by_cases h10 : 10 < l1
  · have h10' : (10 : Int) < (l1 : Int) := by omega
    have HW0 := hid (HX.out _ (HU.out _ HV.out))
    clear HDn HFy HFn HNx HTo HK HX HT HMM HU
    go_wp2_with fail
    refine (alive12_any _).mono ?_
    rintro e wz ⟨rfl, hb⟩
    have HZ := hid (HW0.out.trans (hb.mono HW0.out.size))
    clear hb
    go_wp2
    go_ret
    exact ⟨rfl, HZ.out⟩
  have h10' : ¬ (10 : Int) < (l1 : Int) := by omega
  go_wp2_with fail
  refine (HDn.out _ _ (HMM.out _ HV.out)).mono ?_
  rintro e w2 ⟨g2, F2, rfl, hS, _, hb⟩
  have HS := hid hS
  replace HV := hid (HV.out.trans (hb.mono HV.out.size))
  have hL := dlen_any _ _ _ _ hS
  simp only [List.length_cons, List.length_nil, Nat.reduceAdd] at hL
  clear hb hS HDn HMM
  go_wp2_with fail
  refine hL.mono ?_
  rintro e w3 ⟨rfl, hb⟩
  replace HS := hid (HS.out.below hb)
  replace HV := hid (HV.out.trans (hb.mono HV.out.size))
  clear hb hL
  have HO0 : Hid ((w3.alloc (.cells #[.int .i64 0] 3)).ownsRow w3.heap.size 3 1 (.slice (some ⟨w3.heap.size, 0, none⟩) 1 1) ((0 :: ([] : List Int)).length) ((0 :: ([] : List Int)).map (Value.int .i64))) :=
    World.ownsRow_lit (base := w3.heap.size) (e := 3) (size := 1) w3 #[.int .i64 0] 1 (Nat.le_refl _) (by unfold maxLen; omega) (by simp)
  have hal : Below w3.heap.size w3 (w3.alloc (.cells #[.int .i64 0] 3)) := (Below.refl _ _).alloc (Nat.le_refl _) _
  have HS0 := hid (HS.out.below hal)
  have HA0 : Hid (∀ b, (Value.slice (some ⟨w3.heap.size, 0, none⟩) 1 1).ownBlock = some b → ¬ F2 b) := fun b hb hF => by
    simp [Value.ownBlock] at hb
    have := HS.out.old b hF
    omega
  have HV0 : Hid (Below w3.heap.size w3 (w3.alloc (.cells #[.int .i64 0] 3))) := hal
  have HU3 : Hid (∀ W : World, Below w3.heap.size w3 W → Below wA.heap.size wA W) := fun W hW => HU.out W (HV.out.trans (hW.mono HV.out.size))
  clear hal HS HU HV
  go_wp2_with fail
  go_loopw [9, 11, 46] (fun u9 u11 i W => ∃ (k g9 : Nat) (us : List Int) (F : Nat → Prop), k ≤ l1 ∧ us.length ≤ k ∧ u9 = .pointer (some ⟨g9, 0, none⟩) ∧ i = .int .i64 k ∧ Hid (StAt W (some ⟨g9, 0, none⟩) ⟨s, v, d, l, tt, h⟩ (0 :: us) F) ∧ Hid (∀ b, u11.ownBlock = some b → ¬ F b) ∧ Hid (W.ownsRow w3.heap.size 3 1 u11 (0 :: us).length ((0 :: us).map (Value.int .i64))) ∧ Hid (Below w3.heap.size w3 W)) (fun _ _ i _ => l1 - (intOf i).toNat)
  case atStart => exact ⟨0, g2, [], F2, Nat.zero_le _, Nat.le_refl _, rfl, rfl, HS0, HA0, HO0, HV0⟩
  case round =>
  obtain ⟨k, g9, us, F, hk, huk, rfl, rfl, HS, HA, HO, HV⟩ := hrel
  rename World => wr
  clear HS0 HO0 HV0 HA0
  obtain ⟨TS, hTS⟩ : ∃ TS, 0 :: us = TS := ⟨_, rfl⟩
  have hT11 : TS.length ≤ 11 := by rw [← hTS]; simp; omega
  have HTc : Hid (∀ t, 0 :: (us ++ [t]) = TS ++ [t]) := fun t => by rw [← hTS]; rfl
  rw [hTS] at HS HO
  replace hTS := hid hTS
  obtain ⟨x0, x1, x2, x3, x4, x5⟩ := HK.out _ (HU3.out _ HV.out)
  by_cases hlt : k < l1
  · obtain ⟨b1, o1, rfl, ct⟩ := (HT.out _ (HU3.out _ HV.out)).cell k hlt
    have q1 : (k : Int) < (l1 : Int) := by omega
    generalize z1[k]?.getD 0 = t at *
    by_cases hbad : t < 0 ∨ v ≤ t
    · have hF := HFn.out _ _ t _ wr HS.out hbad
      have HFin := hid fun W (hb : Below wr.heap.size wr W) => show StAt W (some ⟨g9, 0, none⟩) ⟨s, v, d, l, tt, h⟩ TS F ∧ W.ownsRow w3.heap.size 3 1 u11 TS.length (TS.map (Value.int .i64)) ∧ Below w3.heap.size w3 W from ⟨HS.out.below hb, own_below HO.out hb, HV.out.trans (hb.mono HV.out.size)⟩
      have HK2 := hid fun W (hb : Below wr.heap.size wr W) => HK.out _ (HU3.out _ (HV.out.trans (hb.mono HV.out.size)))
      clear HFy HFn HNx HTo HK HT HU3 HX HS HO HV
      by_cases ht0 : t < 0
      · go_wp2_with fail
        refine hF.mono ?_
        rintro e w4 ⟨rfl, hb⟩
        have HG := hid (HFin.out _ hb)
        clear hF hb HFin HK2 x0 x1 x2 x3 x4 x5
        go_wp2_with fail
        go_round
        case rel => exact ⟨k + 1, g9, us, F, by omega, by omega, rfl, by go_num, by rw [hTS.out]; exact HG.out.1, HA, by rw [hTS.out]; exact HG.out.2.1, HG.out.2.2⟩
        case measure => simp [intOf]; omega
      · have ht1 : v ≤ t := by omega
        go_wp2_with fail
        refine hF.mono ?_
        rintro e w4 ⟨rfl, hb⟩
        have HG := hid (HFin.out _ hb)
        clear x0 x1 x2 x3 x4 x5
        obtain ⟨x0, x1, x2, x3, x4, x5⟩ := HK2.out _ hb
        clear hF hb HFin HK2
        go_wp2_with fail
        go_round
        case rel => exact ⟨k + 1, g9, us, F, by omega, by omega, rfl, by go_num, by rw [hTS.out]; exact HG.out.1, HA, by rw [hTS.out]; exact HG.out.2.1, HG.out.2.2⟩
        case measure => simp [intOf]; omega
    · have ht0 : ¬ t < 0 := by omega
      have ht1 : ¬ v ≤ t := by omega
      have hF := HFy.out _ _ t _ wr HS.out (by omega) (by omega) (by omega)
      clear HFy HFn HNx HTo HX HT hbad
      go_wp2_with fail
      refine hF.mono ?_
      rintro e w4 ⟨g4, F4, rfl, hS4, hF4, hb⟩
      have HS4 := hid hS4
      replace HA : Hid (∀ b, u11.ownBlock = some b → ¬ F4 b) := fun b hb hF => by
        rcases hF4 b hF with h' | h' | h'
        · exact HA.out b hb h'
        · have := (HO.out.lt b hb).2; omega
        · exact NotInt.own HO.out hb h'
      replace HS := hid (HS.out.below hb)
      replace HO := hid (own_below HO.out hb)
      replace HV := hid (HV.out.trans (hb.mono HV.out.size))
      clear hF hb hS4 hF4 x0 x1 x2 x3 x4 x5
      obtain ⟨x0, x1, x2, x3, x4, x5⟩ := HK.out _ (HU3.out _ HV.out)
      go_wp2_with fail
      refine (dtok_any _ _ _ _ HS.out).mono ?_
      rintro e w5 ⟨a5, c5, rfl, hr5, hb⟩
      replace HS4 := hid (HS4.out.below hb)
      replace HO := hid (own_below HO.out hb)
      replace HV := hid (HV.out.trans (hb.mono HV.out.size))
      have HR5 := hid hr5
      clear hb hr5 HS x0 x1 x2 x3 x4 x5 HK
      obtain ⟨a6, c6, rfl, hr6⟩ := Reads.own (k := .i64) HO.out
      have HR6 := hid hr6
      clear hr6
      go_wp2_with fail
      refine (same_yes _ _ _ _ _ TS _ HR5.out HR6.out (by omega)).mono ?_
      rintro e w6 ⟨rfl, hb⟩
      replace HS4 := hid (HS4.out.below hb)
      replace HO := hid (own_below HO.out hb)
      replace HV := hid (HV.out.trans (hb.mono HV.out.size))
      clear hb HR5 HR6
      have HSz : Hid (w3.heap.size ≤ w6.heap.size) := HV.out.size
      have HAl : Hid (∀ (W : World) (o : Obj), Below W.heap.size W (W.alloc o)) := fun W o => (Below.refl _ _).alloc (Nat.le_refl _) _
      go_wp2_with (at_builtin; refine append_ints2 _ rfl (.tmp 80) (.tmp 82) 25 rfl w3.heap.size 3 i0 (.int .i64 0) 8 Tryz.underlying25 hi hz0 hz1 hz2 rfl (by omega) .i64 _ TS.length TS rfl (own_below HO.out (HAl.out _ _)) _ 1 1 [t] rfl (Reads.one _ _ _) (by omega) (Nat.le_trans HSz.out (HAl.out _ _).size) ?_; intro v7 w7 hO7 hg7 hm7)
      obtain ⟨hS7, hA7⟩ := HS4.out.grown (HAl.out _ _) hg7 hm7 HA.out
      have HA7 := hid hA7
      have HG : Hid (StAt w7 (some ⟨g4, 0, none⟩) ⟨s, v, d, l, tt, h⟩ (0 :: (us ++ [t])) F4 ∧ w7.ownsRow w3.heap.size 3 1 v7 (0 :: (us ++ [t])).length ((0 :: (us ++ [t])).map (Value.int .i64)) ∧ Below w3.heap.size w3 w7) := by
        refine ⟨by rw [HTc.out]; exact hS7, by rw [HTc.out, List.length_append]; exact hO7, ?_⟩
        exact (HV.out.trans ((HAl.out _ _).mono HSz.out)).grown hg7 (Nat.le_trans HSz.out (HAl.out _ _).size) fun g hg => (HO.out.lt g hg).1
      clear hO7 hg7 hm7 hS7 hA7 HA HO HS4 HV HSz HAl HTc
      go_wp2_with fail
      go_round
      case rel => exact ⟨k + 1, g4, us ++ [t], F4, by omega, by simp; omega, rfl, by go_num, HG.out.1, HA7, HG.out.2.1, HG.out.2.2⟩
      case measure => simp [intOf]; omega
  · obtain rfl : k = l1 := by omega
    have hNx := HNx.out _ _ _ _ HS.out (by omega)
    clear HFy HFn HNx HT hlt hk HA
    go_wp2_with fail
    refine hNx.mono ?_
    rintro e w4 ⟨rfl, hb⟩
    replace HS := hid (HS.out.below hb)
    replace HO := hid (own_below HO.out hb)
    replace HV := hid (HV.out.trans (hb.mono HV.out.size))
    clear hNx hb x0 x1 x2 x3 x4 x5
    obtain ⟨x0, x1, x2, x3, x4, x5⟩ := HK.out _ (HU3.out _ HV.out)
    obtain ⟨a6, c6, rfl, hr6⟩ := Reads.own (k := .i64) HO.out
    have HR6 := hid hr6
    have r6 := hr6.room
    have m6 := hr6.most
    have hTo := HTo.out _ _ _ _ w4 hr6 (by omega)
    clear hr6 HTo HO
    generalize f TS = tz at *
    go_wp2_with fail
    refine hTo.mono ?_
    rintro e w5 ⟨rfl, hb⟩
    replace HS := hid (HS.out.below hb)
    replace HR6 := hid (HR6.out.below hb)
    replace HV := hid (HV.out.trans (hb.mono HV.out.size))
    clear hTo hb x0 x1 x2 x3 x4 x5 HK
    go_wp2_with fail
    refine (dtok_any _ _ _ _ HS.out).mono ?_
    rintro e w6 ⟨a7, c7, rfl, hr7, hb⟩
    have HR7 := hid hr7
    replace HS := hid (HS.out.below hb)
    replace HR6 := hid (HR6.out.below hb)
    replace HV := hid (HV.out.trans (hb.mono HV.out.size))
    clear hb hr7
    go_wp2_with fail
    refine (same_yes _ _ _ _ _ TS _ HR7.out HR6.out (by omega)).mono ?_
    rintro e w7 ⟨rfl, hb⟩
    replace HS := hid (HS.out.below hb)
    replace HV := hid (HV.out.trans (hb.mono HV.out.size))
    clear hb HR7 HR6
    go_wp2_with fail
    refine (dlen_any _ _ _ _ HS.out).mono ?_
    rintro e w8 ⟨rfl, hb⟩
    have HW0 := hid (HX.out _ (HU3.out _ (HV.out.trans (hb.mono HV.out.size))))
    clear hb HS HV HU3 HX
    go_wp2_with fail
    refine (alive12_any _).mono ?_
    rintro e wz ⟨rfl, hb⟩
    have HZ := hid (HW0.out.trans (hb.mono HW0.out.size))
    clear hb
    go_wp2
    go_ret
    exact ⟨rfl, HZ.out⟩

/-! ### The row's step -/
set_option maxRecDepth 1000000 in
theorem lifted (os : Os) (started : os.Started) (H : Type) (enc : TypeId × Value → H) :
    ReturnsInHanded {} Tryz.checked os 4 .any (Rows.decodeNextsSpec.pre6 enc Tryz.prog Tryz.f4 Rows.decodeNextsRow.domain false) (Rows.decodeNextsSpec.post enc Tryz.prog Tryz.f4 false true false false) := by
  refine returnsInHanded_of_change (C := Tryz.checked) own started (by kernel_rfl) Tryz.func4
    (ChangeSpec.witness6 (enc := enc) (C := Tryz.checked) false ⟨#[], #[.agg #[.int .u64 0, .int .i64 0, .int .i64 0, .int .i64 0, .int .i64 0, .int .i64 0], .slice none 0 0, .int .u64 0], []⟩ 8 (by kernel_rfl) (by kernel_rfl) (by kernel_rfl) (by kernel_rfl)) ?_
  intro W base args ds gs before hval0 hW hcnd _
  have hval : ∀ (j : Nat) t v, Tryz.f4.params[j]? = some t → args[j]? = some v → Value.okWide Tryz.prog W .any base t v := hval0
  have hW' := hW
  obtain ⟨p, q, hA0, hV, rfl, hfz, hnd⟩ := hW
  have hA : DataW.TrodAll enc Tryz.prog W 0 (fun _ => true) true Tryz.f4.params.toList args.toList ds p := hA0
  rw [Tryz.params4] at hA hval
  obtain ⟨v0, vs0, d0, ds0, p0, q0, hargs, rfl, rfl, h0, r0⟩ := trodAll_cons hA
  obtain ⟨v1, vs1, d1, ds1, p1, q1, rfl, rfl, rfl, h1, r1⟩ := trodAll_cons r0
  obtain ⟨v2, vs2, d2, ds2, p2, q2, rfl, rfl, rfl, h2, r2⟩ := trodAll_cons r1
  obtain ⟨rfl, rfl, rfl⟩ := trodAll_nil r2
  obtain rfl : args = #[v0, v1, v2] := by cases args; simp_all
  obtain ⟨rfl, rfl⟩ := trodVars_none hV
  have k0 := h0
  have lt0 : ∀ x ∈ p0, x.block < W.heap.size := by obtain ⟨m, hm⟩ := k0; exact DataW.trod_lt m _ _ _ hm
  obtain ⟨c0, rfl⟩ := conf_open (hval 0 24 v0 rfl rfl) h0
  have k1 := h1
  have lt1 : ∀ x ∈ p1, x.block < W.heap.size := by obtain ⟨m, hm⟩ := k1; exact DataW.trod_lt m _ _ _ hm
  obtain ⟨a1, l1, c1, z1, rfl, ga1⟩ := nums_open (hval 1 25 v1 rfl rfl) h1
  have k2 := h2
  have lt2 : ∀ x ∈ p2, x.block < W.heap.size := by obtain ⟨m, hm⟩ := k2; exact DataW.trod_lt m _ _ _ hm
  obtain ⟨s2, rfl⟩ := unum_open (hval 2 22 v2 rfl rfl) h2
  clear hA0 hval0
  refine (walk c0 a1 l1 c1 z1 s2 W ga1).mono fun e W' ⟨he, bel⟩ => ?_
  subst he
  exact ⟨_, rfl, _, _, _, [], _, [], hW', trodAll_mk1 (shut_bool Tryz.underlying4 _), (trodAll_cons_mk (Below.trod laidOut (by kernel_rfl) (of_decide_eq_true (by kernel_rfl)) k0 bel lt0) (trodAll_cons_mk (Below.trod laidOut (by kernel_rfl) (of_decide_eq_true (by kernel_rfl)) k1 bel lt1) (trodAll_cons_mk (Below.trod laidOut (by kernel_rfl) (of_decide_eq_true (by kernel_rfl)) k2 bel lt2) trodAll_mk0))), rfl, bel.frame _, fun h => by cases h⟩

theorem over : Rows.decodeNextsRow.holds Tryz.pinned (OpenSpec.ofChange Rows.decodeNextsSpec) :=
  OpenClaim.holds_of_wide 4 Tryz.f4 rfl rfl rfl rfl rfl rfl rfl ⟨rfl, rfl, rfl, rfl, rfl⟩ rfl rfl rfl rfl rfl (by kernel_rfl) Tryz.func4 (by kernel_rfl)
    (of_decide_eq_true (by kernel_rfl)) (by unfold Func.isWrapper; first | (rw [if_pos (by decide +kernel)]; kernel_rfl) | (rw [if_neg (by decide +kernel)]; exact ⟨rfl, rfl⟩))
    (fun os started H enc _ => lifted os started H enc)

/-- The statement. -/
theorem proved : Rows.DecodeNextsSaid := over
#print axioms proved
end Go.Proofs.YtahpilgbabjebaaGreat.decodeNexts
