/-
  Proved: the one that is asked, by any limit, but any others, is the document's: RankBests hands back true for whatever candidates, weights and limit.
-/
import Derived.Test.YtmhpgkkaolcncaaRows
import Derived.Test.YtmhpgkkaolcncaaRkLaw
import Derived.Deep.RegionHeld3
import Derived.WalkKit
import Derived.ProofKit
import Derived.OpenShut
import Derived.ShutString
import Derived.ChangeOld
import Derived.Below
namespace Go.Proofs.Ytmhpgkkaolcncaa.rankBests
open Go.ChangeShapes Go.WideShapes Go.ChangeAt Go.RowKit
open Go.ChangeMaps (open_string shut_string)
set_option linter.unusedVariables false

theorem own : ownKnob Try.prog.godebug = none := by kernel_rfl
theorem laidOut : laidOutB Try.prog = true := by kernel_rfl

/-! ### The walk -/
set_option maxRecDepth 1000000 in
set_option maxHeartbeats 8000000 in
theorem walk (a : Option Addr) (len cap : Nat) (l : List Cd) (q : Wt) (limit : Int) (w : World) (ga : CsAt w a len cap l ∧ ∀ c ∈ l, CdIn c) (gq : WtIn q) (glimit : isI limit) :
    Calls Try.prog 4 #[.slice a len cap, .agg (WtV q), .int .i64 limit] w fun e w' => e = .returned (.bool true) ∧ Below w.heap.size w w' := by
  obtain ⟨hcs, hin⟩ := ga
  have hq := gq
  have hsz := hcs.size
  have hrm := hcs.room
  have hms := hcs.most
  obtain ⟨kn, ld, bd, pl⟩ := q
  obtain ⟨w1, hw1⟩ : ∃ w1, w1 = w.alloc (.cells #[.int .i64 kn, .int .i64 ld, .int .i64 bd, .int .i64 pl] 24) := ⟨_, rfl⟩
  have hb1 : Below w.heap.size w w1 := by rw [hw1]; exact (Below.refl _ _).alloc (Nat.le_refl _) _
  have hbx : w1.heap[w.heap.size]? = some (.cells #[.int .i64 kn, .int .i64 ld, .int .i64 bd, .int .i64 pl] 24 (0, 0)) := by rw [hw1]; exact heap_alloc_new w _
  have h1 := hcs.below hb1
  obtain ⟨gw, hgw⟩ : ∃ gw, w.heap.size = gw := ⟨_, rfl⟩
  rw [hgw] at hbx
  have HW : Hid (∀ W' : World, Below w1.heap.size w1 W' → W'.cell? ⟨gw, 0, none⟩ = some (.int .i64 kn) ∧ W'.cell? ⟨gw, 1, none⟩ = some (.int .i64 ld) ∧ W'.cell? ⟨gw, 2, none⟩ = some (.int .i64 bd) ∧ W'.cell? ⟨gw, 3, none⟩ = some (.int .i64 pl)) := fun W' hb => by
    have e := block_bel hbx hb
    refine ⟨?_, ?_, ?_, ?_⟩ <;> (rw [cell_of_row _ _ _ _ _ _ e]; rfl)
  have HC : Hid (∀ W' : World, Below w1.heap.size w1 W' → CsAt W' a len cap l) := fun W' hb => h1.below hb
  have HX : Hid (∀ W' : World, Below w1.heap.size w1 W' → Below w.heap.size w W') := fun W' hb => hb1.trans (hb.mono hb1.size)
  have HX0 : Hid (Below w.heap.size w w1) := hb1
  have HQ := hid hq
  have HI := hid hin
  have HL := hid hsz
  have HTW := hid fun W : World => theirW_any ⟨kn, ld, bd, pl⟩ W
  unfold WtV at HTW
  simp only at HTW
  have HTh := hid fun (W : World) (hb : Below w1.heap.size w1 W) (hl : len ≤ 60) => theirs_any a len cap l W (HC.out W hb) hl
  change Calls Try.prog 4 #[.slice a len cap, .agg #[.int .i64 kn, .int .i64 ld, .int .i64 bd, .int .i64 pl], .int .i64 limit] w _
  clear h1 hb1 hbx hcs hin hq gq hsz
  by_cases hl : len ≤ 60
  · have hFar := far19_no a len cap w1 hl hrm hms
    have HOb := hid fun (a' : Option Addr) (cap' : Nat) (W : World) (h : CsAt W a' len cap' l) => best_any a' len cap' l ⟨kn, ld, bd, pl⟩ limit W h hl HI.out HQ.out glimit
    have HSd := hid fun (a' : Option Addr) (cap' : Nat) (ab : Option Addr) (lb cb : Nat) (but : List Int) (W : World) (h : CsAt W a' len cap' l) (hb : Reads .u64 W ab lb cb but) (hlb : lb ≤ 1000) (hbu : ∀ y ∈ but, isU y) => second_any a' len cap' l ⟨kn, ld, bd, pl⟩ limit ab lb cb but W h hl HI.out HQ.out glimit hb hlb hbu
    have HUb := hid fun (but : List Int) => bestC_isU (q := ⟨kn, ld, bd, pl⟩) (l := l) (limit := limit) (but := but) HI.out
    have HRb := hid fun (ab : Option Addr) (lb cb : Nat) (but : List Int) (W : World) (h : Below w1.heap.size w1 W) (hb : Reads .u64 W ab lb cb but) (hlb : lb ≤ 1000) => rbest_any a len cap l ⟨kn, ld, bd, pl⟩ limit ab lb cb but W (HC.out W h) hl hb hlb
    unfold WtV at HOb HSd HRb
    simp only at HOb HSd HRb
    obtain ⟨q, hqq⟩ : ∃ q : Wt, q = ⟨kn, ld, bd, pl⟩ := ⟨_, rfl⟩
    rw [← hqq] at HOb HSd HRb HQ HUb
    clear hqq glimit
    obtain ⟨j0, ji, jz0, jz1, jz2⟩ := Go.info_parts Try.infoU19
    obtain ⟨⟨fx, fy⟩, Hf⟩ : ∃ f, Hid (bestC q l limit [] = f) := ⟨_, rfl⟩
    rw [Hf.out] at HOb
    have HU0 : Hid (isU fx) := by have := HUb.out []; rw [Hf.out] at this; exact this
    go_enter Try.func4, Try.ntmps4
    go_wp2_with fail
    rw [← hw1]
    clear hw1 hgw
    refine hFar.mono ?_
    rintro e wf ⟨rfl, rfl⟩
    clear hFar
    have HV : Hid (Below wf.heap.size wf wf.drew) := (Below.refl _ _).drew
    go_wp2_with fail
    go_region_held3 (fun W' : World => W'.cell? ⟨gw, 0, none⟩ = some (.int .i64 kn) ∧ W'.cell? ⟨gw, 1, none⟩ = some (.int .i64 ld) ∧ W'.cell? ⟨gw, 2, none⟩ = some (.int .i64 bd) ∧ W'.cell? ⟨gw, 3, none⟩ = some (.int .i64 pl)) (first | (with_reducible exact HW.out _ (Below.refl _ _)) | (with_reducible exact HW.out _ HV.out))
      (first
        | (go_at_call 10; (with_reducible refine (HTh.out _ HV.out hl).mono ?_); rintro e y1 ⟨a1, c1, rfl, h1⟩; have HA := hid h1.out.1; replace HV := hid (HV.out.trans (h1.out.2.mono HV.out.size)); clear h1)
        | (go_at_call 11; (with_reducible refine (HTW.out _).mono ?_); rintro e y2 ⟨rfl, h2⟩; replace HA := hid (HA.out.below h2.out); replace HV := hid (HV.out.trans (h2.out.mono HV.out.size)); clear h2)
        | (go_at_call 15; (with_reducible refine (HOb.out _ _ _ HA.out).mono ?_); rintro e y3 ⟨rfl, h2⟩; replace HV := hid (HV.out.trans (h2.out.mono HV.out.size)); clear h2 HA))
    all_goals
      clear HOb
      have hw3 := HW.out _ HV.out
      obtain ⟨q1, q2, q3, q4⟩ := hw3
      have hR := HRb.out none 0 0 [] y3 HV.out (Reads.nil _ _) (by omega)
      rw [Hf.out] at hR
      have n1 : (fx != fx) = false := by simp
      have n2 : (fy != fy) = false := by simp
      have HV3 := HV
      clear HV
      go_wp2_with fail
      with_reducible refine hR.mono ?_
      rintro e w4 ⟨rfl, h4⟩
      have HV4 := hid (HV3.out.trans (h4.out.mono HV3.out.size))
      clear h4 hR HV3 q1 q2 q3 q4
      go_wp2_with fail
      go_loopw [7, 11, 39] (fun t o z W' => ∃ (k : Nat) (x : Int) (v : Value) (but : List Int), k ≤ 3 ∧ z = .int .i64 k ∧ t = .int .u64 x ∧ o = v ∧ Hid (W'.ownsRow wf.heap.size 34 1 v k (but.map (Value.int .u64)) ∧ Below wf.heap.size wf W') ∧ Hid (isU x ∧ ∀ y ∈ but, isU y)) (fun _ _ z _ => 3 - (intOf z).toNat)
      case atStart => exact ⟨0, fx, _, [], by omega, rfl, rfl, rfl, ⟨World.ownsRow_nil _ _ _ _, HV4.out⟩, HU0.out, by simp⟩
      case round =>
      clear HV4 n1 n2
      obtain ⟨k, x, v, but, hk, rfl, rfl, hv, HR, HUx⟩ := hrel
      have hv' := hv.symm
      subst hv'
      rename World => w4
      by_cases hk3 : k < 3
      · have g1 : (k : Int) < 3 := by omega
        obtain ⟨ao, co, hv2⟩ := own_sl19 HR.out.1
        subst hv2
        have HOa := hid (HR.out.1.alloc (.cells #[.int .u64 x] 34))
        have HBa : Hid (∀ o : Obj, Below wf.heap.size wf (w4.alloc o)) := fun o => HR.out.2.alloc HR.out.2.size o
        have HNw := hid (news_one .u64 x w4 34)
        clear HR
        go_wp2_with (at_builtin; refine wpList_append_own _ rfl (.tmp 41) (.tmp 43) 27 rfl wf.heap.size 34 j0 (.int .u64 0) 1 8 Try.underlying27 ji jz0 jz1 jz2 rfl (by decide) _ k _ rfl HOa.out ⟨w4.heap.size, 0, none⟩ 1 1 [.int .u64 x] rfl rfl HNw.out (one_cell .u64 x) (by unfold maxLen; omega) (by omega) (HBa.out _).size ?_; intro v5 w5 q1 q2 _)
        have HB5 : Hid (Below wf.heap.size wf w5) := (HBa.out _).grown q2 (HBa.out _).size fun g hg => (HOa.out.lt g hg).1
        have HO5 : Hid (w5.ownsRow wf.heap.size 34 1 v5 (k + 1) ((but ++ [x]).map (Value.int .u64))) := by
          have : w5.ownsRow wf.heap.size 34 1 v5 (k + 1) (but.map (Value.int .u64) ++ [.int .u64 x]) := q1
          unfold Hid
          rw [List.map_append]
          exact this
        obtain ⟨a5, c5, rfl, hr5⟩ := Reads.own (k := .u64) HO5.out
        obtain ⟨⟨bx, by'⟩, Hb⟩ : ∃ f, Hid (bestC q l limit (but ++ [x]) = f) := ⟨_, rfl⟩
        have HRd : Hid (∀ W', Below w5.heap.size w5 W' → Reads .u64 W' a5 (k + 1) c5 (but ++ [x]) ∧ W'.ownsRow wf.heap.size 34 1 (.slice a5 (k + 1) c5) (k + 1) ((but ++ [x]).map (Value.int .u64)) ∧ Below wf.heap.size wf W') := fun W' hb => ⟨hr5.below hb, own_below HO5.out hb, HB5.out.trans (hb.mono HB5.out.size)⟩
        have HUy : Hid (∀ y ∈ but ++ [x], isU y) := fun y hy => by
          rcases List.mem_append.1 hy with hy | hy
          · exact HUx.out.2 y hy
          · rw [List.mem_singleton.1 hy]; exact HUx.out.1
        have HUz : Hid (isU bx) := by have := HUb.out (but ++ [x]); rw [Hb.out] at this; exact this
        have HSd5 := hid fun (a' : Option Addr) (cap' : Nat) (W : World) (h : CsAt W a' len cap' l) (hb : Below w5.heap.size w5 W) => HSd.out a' cap' a5 (k + 1) c5 (but ++ [x]) W h (HRd.out W hb).1 (by omega) HUy.out
        have HRb5 := hid fun (W : World) (hb : Below w5.heap.size w5 W) => HRb.out a5 (k + 1) c5 (but ++ [x]) W (HRd.out W hb).2.2 (HRd.out W hb).1 (by omega)
        rw [Hb.out] at HSd5 HRb5
        clear q1 q2 HNw HOa HBa hr5 HO5 Hb
        have HWt : Hid (∀ W', Below w5.heap.size w5 W' → W'.cell? ⟨gw, 0, none⟩ = some (.int .i64 kn) ∧ W'.cell? ⟨gw, 1, none⟩ = some (.int .i64 ld) ∧ W'.cell? ⟨gw, 2, none⟩ = some (.int .i64 bd) ∧ W'.cell? ⟨gw, 3, none⟩ = some (.int .i64 pl)) := fun W' hb => HW.out W' (HRd.out W' hb).2.2
        have HV : Hid (Below w5.heap.size w5 w5.drew) := (Below.refl _ _).drew
        have n1 : (bx != bx) = false := by simp
        have n2 : (by' != by') = false := by simp
        go_wp2_with fail
        go_region_held3 (fun W' : World => W'.cell? ⟨gw, 0, none⟩ = some (.int .i64 kn) ∧ W'.cell? ⟨gw, 1, none⟩ = some (.int .i64 ld) ∧ W'.cell? ⟨gw, 2, none⟩ = some (.int .i64 bd) ∧ W'.cell? ⟨gw, 3, none⟩ = some (.int .i64 pl)) (first | (with_reducible exact HWt.out _ (Below.refl _ _)) | (with_reducible exact HWt.out _ HV.out))
          (first
            | (go_at_call 10; (with_reducible refine (HTh.out _ (HRd.out _ HV.out).2.2 hl).mono ?_); rintro e y1 ⟨a1, c1, rfl, h1⟩; have HA := hid h1.out.1; replace HV := hid (HV.out.trans (h1.out.2.mono HV.out.size)); clear h1)
            | (go_at_call 11; (with_reducible refine (HTW.out _).mono ?_); rintro e y2 ⟨rfl, h2⟩; replace HA := hid (HA.out.below h2.out); replace HV := hid (HV.out.trans (h2.out.mono HV.out.size)); clear h2)
            | (go_at_call 17; (with_reducible refine (HSd5.out _ _ _ HA.out HV.out).mono ?_); rintro e y3 ⟨rfl, h2⟩; replace HV := hid (HV.out.trans (h2.out.mono HV.out.size)); clear h2 HA))
        all_goals
          have hw3 := HWt.out _ HV.out
          obtain ⟨q1, q2, q3, q4⟩ := hw3
          have hR := HRb5.out y3 HV.out
          have HV3 := HV
          clear HV
          go_wp2_with fail
          with_reducible refine hR.mono ?_
          rintro e w6 ⟨rfl, h4⟩
          have HF := hid (HRd.out _ (HV3.out.trans (h4.out.mono HV3.out.size))).2
          clear h4 hR HV3 HRd HSd5 HRb5 HWt q1 q2 q3 q4
          go_wp2_with fail
          go_round
          case rel => exact ⟨k + 1, bx, _, but ++ [x], by omega, by go_num, rfl, rfl, HF.out, HUz.out, HUy.out⟩
          case measure => simp [intOf]; omega
      · have g1 : ¬ (k : Int) < 3 := by omega
        have HXe := hid (HX.out w4 HR.out.2)
        clear HR
        go_wp2_with fail
        with_reducible refine (alive19_any _).mono ?_
        rintro e wz ⟨rfl, HZ0⟩
        have HZ := hid (HXe.out.trans (HZ0.out.mono HXe.out.size))
        clear HZ0
        go_wp2_with fail
        go_ret
        exact ⟨rfl, HZ.out⟩
  · have hFar := far19_yes a len cap w1 (by omega) hrm hms
    go_enter Try.func4, Try.ntmps4
    go_wp2_with fail
    rw [← hw1]
    clear hw1 hgw
    refine hFar.mono ?_
    rintro e wf ⟨rfl, rfl⟩
    clear hFar
    go_wp2_with fail
    with_reducible refine (alive19_any _).mono ?_
    rintro e wz ⟨rfl, HZ0⟩
    have HZ := hid (HX0.out.trans (HZ0.out.mono HX0.out.size))
    clear HZ0
    go_wp2_with fail
    go_ret
    exact ⟨rfl, HZ.out⟩

/-! ### The row's step -/
set_option maxRecDepth 1000000 in
theorem lifted (os : Os) (started : os.Started) (H : Type) (enc : TypeId × Value → H) :
    ReturnsInHanded {} Try.checked os 4 .any (Rows.rankBestsSpec.pre6 enc Try.prog Try.f4 Rows.rankBestsRow.domain false) (Rows.rankBestsSpec.post enc Try.prog Try.f4 false true false false) := by
  refine returnsInHanded_of_change (C := Try.checked) own started (by kernel_rfl) Try.func4
    (ChangeSpec.witness6 (enc := enc) (C := Try.checked) false ⟨#[], #[.slice none 0 0, .agg #[.int .i64 0, .int .i64 0, .int .i64 0, .int .i64 0], .int .i64 0], []⟩ 8 (by kernel_rfl) (by kernel_rfl) (by kernel_rfl) (by kernel_rfl)) ?_
  intro W base args ds gs before hval0 hW hcnd _
  have hval : ∀ (j : Nat) t v, Try.f4.params[j]? = some t → args[j]? = some v → Value.okWide Try.prog W .any base t v := hval0
  have hW' := hW
  obtain ⟨p, q, hA0, hV, rfl, hfz, hnd⟩ := hW
  have hA : DataW.TrodAll enc Try.prog W 0 (fun _ => true) true Try.f4.params.toList args.toList ds p := hA0
  rw [Try.params4] at hA hval
  obtain ⟨v0, vs0, d0, ds0, p0, q0, hargs, rfl, rfl, h0, r0⟩ := trodAll_cons hA
  obtain ⟨v1, vs1, d1, ds1, p1, q1, rfl, rfl, rfl, h1, r1⟩ := trodAll_cons r0
  obtain ⟨v2, vs2, d2, ds2, p2, q2, rfl, rfl, rfl, h2, r2⟩ := trodAll_cons r1
  obtain ⟨rfl, rfl, rfl⟩ := trodAll_nil r2
  obtain rfl : args = #[v0, v1, v2] := by cases args; simp_all
  obtain ⟨rfl, rfl⟩ := trodVars_none hV
  have k0 := h0
  have lt0 : ∀ x ∈ p0, x.block < W.heap.size := by obtain ⟨m, hm⟩ := k0; exact DataW.trod_lt m _ _ _ hm
  obtain ⟨a, len, cap, l, rfl, ga⟩ := cands_open (hval 0 22 v0 rfl rfl) h0
  have k1 := h1
  have lt1 : ∀ x ∈ p1, x.block < W.heap.size := by obtain ⟨m, hm⟩ := k1; exact DataW.trod_lt m _ _ _ hm
  obtain ⟨q, rfl, gq⟩ := wt_open (hval 1 24 v1 rfl rfl) h1
  have k2 := h2
  have lt2 : ∀ x ∈ p2, x.block < W.heap.size := by obtain ⟨m, hm⟩ := k2; exact DataW.trod_lt m _ _ _ hm
  obtain ⟨limit, rfl, glimit⟩ := inum_open (hval 2 3 v2 rfl rfl) h2
  clear hA0 hval0
  refine (walk a len cap l q limit W ga gq glimit).mono fun e W' ⟨he, bel⟩ => ?_
  subst he
  exact ⟨_, rfl, _, _, _, [], _, [], hW', trodAll_mk1 (shut_bool Try.underlying4 _), (trodAll_cons_mk (Below.trod laidOut (by kernel_rfl) (of_decide_eq_true (by kernel_rfl)) k0 bel lt0) (trodAll_cons_mk (Below.trod laidOut (by kernel_rfl) (of_decide_eq_true (by kernel_rfl)) k1 bel lt1) (trodAll_cons_mk (Below.trod laidOut (by kernel_rfl) (of_decide_eq_true (by kernel_rfl)) k2 bel lt2) trodAll_mk0))), rfl, bel.frame _, fun h => by cases h⟩

theorem over : Rows.rankBestsRow.holds Try.pinned (OpenSpec.ofChange Rows.rankBestsSpec) :=
  OpenClaim.holds_of_wide 4 Try.f4 rfl rfl rfl rfl rfl rfl rfl ⟨rfl, rfl, rfl, rfl, rfl⟩ rfl rfl rfl rfl rfl (by kernel_rfl) Try.func4 (by kernel_rfl)
    (of_decide_eq_true (by kernel_rfl)) (by unfold Func.isWrapper; first | (rw [if_pos (by decide +kernel)]; kernel_rfl) | (rw [if_neg (by decide +kernel)]; exact ⟨rfl, rfl⟩))
    (fun os started H enc _ => lifted os started H enc)

/-- The statement. -/
theorem proved : Rows.RankBestsSaid := over
#print axioms proved
end Go.Proofs.Ytmhpgkkaolcncaa.rankBests
