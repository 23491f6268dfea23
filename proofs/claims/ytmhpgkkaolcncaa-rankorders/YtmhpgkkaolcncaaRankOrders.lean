/-
  Proved: the order of any candidates, by any weights, and any one's mark, are the document's: RankOrders hands back true for whatever candidates and weights.
-/
import Derived.Test.YtmhpgkkaolcncaaRows
import Derived.Test.YtmhpgkkaolcncaaRkLaw
import Derived.Deep.RegionHeld3
import Derived.WalkKit
import Derived.ProofKit
import Derived.OpenShut
import Derived.ShutString
import Derived.ChangeOld
import Derived.Below
namespace Go.Proofs.Ytmhpgkkaolcncaa.rankOrders
open Go.ChangeShapes Go.WideShapes Go.ChangeAt Go.RowKit
open Go.ChangeMaps (open_string shut_string)
set_option linter.unusedVariables false

theorem own : ownKnob Try.prog.godebug = none := by kernel_rfl
theorem laidOut : laidOutB Try.prog = true := by kernel_rfl

/-! ### The walk -/
set_option maxRecDepth 1000000 in
set_option maxHeartbeats 8000000 in
theorem walk (a : Option Addr) (len cap : Nat) (l : List Cd) (q : Wt) (w : World) (ga : CsAt w a len cap l ∧ ∀ c ∈ l, CdIn c) (gq : WtIn q) :
    Calls Try.prog 3 #[.slice a len cap, .agg (WtV q)] w fun e w' => e = .returned (.bool true) ∧ Below w.heap.size w w' := by
  obtain ⟨hcs, hin⟩ := ga
  have hq := gq
  have hsz := hcs.size
  have hrm := hcs.room
  have hms := hcs.most
  obtain ⟨kn, ld, bd, pl⟩ := q
  obtain ⟨w1, hw1⟩ : ∃ w1, w1 = w.alloc (.cells #[.int .i64 kn, .int .i64 ld, .int .i64 bd, .int .i64 pl] 24) := ⟨_, rfl⟩
  have hb1 : Below w.heap.size w w1 := by rw [hw1]; exact (Below.refl _ _).alloc (Nat.le_refl _) _
  have hbx : w1.heap[w.heap.size]? = some (.cells #[.int .i64 kn, .int .i64 ld, .int .i64 bd, .int .i64 pl] 24 (0, 0)) := by rw [hw1]; exact heap_alloc_new w _
  have h1 := hcs.below hb1
  obtain ⟨gw, hgw⟩ : ∃ gw, w.heap.size = gw := ⟨_, rfl⟩
  rw [hgw] at hbx
  have HW : Hid (∀ W' : World, Below w1.heap.size w1 W' → W'.cell? ⟨gw, 0, none⟩ = some (.int .i64 kn) ∧ W'.cell? ⟨gw, 1, none⟩ = some (.int .i64 ld) ∧ W'.cell? ⟨gw, 2, none⟩ = some (.int .i64 bd) ∧ W'.cell? ⟨gw, 3, none⟩ = some (.int .i64 pl)) := fun W' hb => by
    have e := block_bel hbx hb
    refine ⟨?_, ?_, ?_, ?_⟩ <;> (rw [cell_of_row _ _ _ _ _ _ e]; rfl)
  have HC : Hid (∀ W' : World, Below w1.heap.size w1 W' → CsAt W' a len cap l) := fun W' hb => h1.below hb
  have HX : Hid (∀ W' : World, Below w1.heap.size w1 W' → Below w.heap.size w W') := fun W' hb => hb1.trans (hb.mono hb1.size)
  have HX0 : Hid (Below w.heap.size w w1) := hb1
  have HQ := hid hq
  have HI := hid hin
  have HL := hid hsz
  have HTW := hid fun W : World => theirW_any ⟨kn, ld, bd, pl⟩ W
  unfold WtV at HTW
  simp only at HTW
  have HTh := hid fun (W : World) (hb : Below w1.heap.size w1 W) (hl : len ≤ 60) => theirs_any a len cap l W (HC.out W hb) hl
  change Calls Try.prog 3 #[.slice a len cap, .agg #[.int .i64 kn, .int .i64 ld, .int .i64 bd, .int .i64 pl]] w _
  clear h1 hb1 hbx hcs hin hq gq hsz
  by_cases hl : len ≤ 60
  · have hFar := far19_no a len cap w1 hl hrm hms
    have HOr := hid fun (a' : Option Addr) (cap' : Nat) (W : World) (h : CsAt W a' len cap' l) => order_any a' len cap' l ⟨kn, ld, bd, pl⟩ W h hl HI.out HQ.out
    have HSo := hid fun (W : World) (hb : Below w1.heap.size w1 W) => rsorted_any a len cap l ⟨kn, ld, bd, pl⟩ W (HC.out W hb) hl
    have HMk := hid fun (c : Cd) (hc : CdIn c) (W : World) => mark_any c ⟨kn, ld, bd, pl⟩ W hc HQ.out
    have HRm := hid fun (c : Cd) (W : World) => rmark_any c ⟨kn, ld, bd, pl⟩ W
    unfold WtV at HOr HSo HMk HRm
    simp only at HOr HSo HMk HRm
    obtain ⟨q, hqq⟩ : ∃ q : Wt, q = ⟨kn, ld, bd, pl⟩ := ⟨_, rfl⟩
    rw [← hqq] at HOr HSo HMk HRm HQ
    clear hqq
    obtain ⟨S, HS⟩ : ∃ S, Hid (ordC q l = S) := ⟨_, rfl⟩
    rw [HS.out] at HOr HSo
    obtain ⟨n, HN⟩ : ∃ n, Hid (S.length = n) := ⟨_, rfl⟩
    rw [HN.out] at HOr
    have hn60 : n ≤ 60 := by
      have h1 := ordC_len q l
      rw [HS.out, HN.out, HL.out] at h1
      omega
    go_enter Try.func3, Try.ntmps3
    go_wp2_with fail
    rw [← hw1]
    clear hw1 hgw
    refine hFar.mono ?_
    rintro e wf ⟨rfl, rfl⟩
    clear hFar
    have HV : Hid (Below wf.heap.size wf wf.drew) := (Below.refl _ _).drew
    go_wp2_with fail
    go_region_held3 (fun W' : World => W'.cell? ⟨gw, 0, none⟩ = some (.int .i64 kn) ∧ W'.cell? ⟨gw, 1, none⟩ = some (.int .i64 ld) ∧ W'.cell? ⟨gw, 2, none⟩ = some (.int .i64 bd) ∧ W'.cell? ⟨gw, 3, none⟩ = some (.int .i64 pl)) (first | (with_reducible exact HW.out _ (Below.refl _ _)) | (with_reducible exact HW.out _ HV.out))
      (first
        | (go_at_call 10; (with_reducible refine (HTh.out _ HV.out hl).mono ?_); rintro e y1 ⟨a1, c1, rfl, h1⟩; have HA := hid h1.out.1; replace HV := hid (HV.out.trans (h1.out.2.mono HV.out.size)); clear h1)
        | (go_at_call 11; (with_reducible refine (HTW.out _).mono ?_); rintro e y2 ⟨rfl, h2⟩; replace HA := hid (HA.out.below h2.out); replace HV := hid (HV.out.trans (h2.out.mono HV.out.size)); clear h2)
        | (go_at_call 9; (with_reducible refine (HOr.out _ _ _ HA.out).mono ?_); rintro e y3 ⟨a3, c3, rfl, h3⟩; have HO := hid h3.out.1; replace HV := hid (HV.out.trans (h3.out.2.mono HV.out.size)); clear h3 HA)
        | (go_at_call 12; (with_reducible refine (HSo.out _ HV.out).mono ?_); rintro e y4 ⟨v4, rfl, h4⟩; replace HO := hid (HO.out.below h4.out.2); replace HV := hid (HV.out.trans (h4.out.2.mono HV.out.size)); have h5 := h4.out.1; clear h4; obtain ⟨a5, c5, hv⟩ := own_sl19 h5; rw [HN.out] at hv; subst hv; have HT : Hid (CsAt _ a5 n c5 S) := CsAt.own (e := 36) (by have := h5; unfold OwC at this; rwa [HN.out] at this); clear h5))
    all_goals
      clear HOr HSo
      have hn1 : ((n : Int) != (n : Int)) = false := by simp
      go_wp2_with fail
      have HV4 := HV
      clear HV
      go_loopw [28] (fun z W' => ∃ (k nd : Nat), k ≤ n ∧ z = .int .i64 k ∧ W' = y4.drewN nd) (fun z _ => n - (intOf z).toNat)
      case atStart => exact ⟨0, 0, Nat.zero_le _, rfl, rfl⟩
      case round =>
      obtain ⟨k, nd, hk, rfl, rfl⟩ := hrel
      obtain ⟨w5, hw5⟩ : ∃ w5, w5 = y4.drewN nd := ⟨_, rfl⟩
      have hd5 : Below y4.heap.size y4 w5 := by rw [hw5]; exact ⟨rfl, rfl, rfl, Nat.le_refl _, fun _ _ => rfl⟩
      have HD5 : Hid (∀ m, ∃ nd', w5.drewN m = y4.drewN nd') := fun m => ⟨nd + m, by rw [hw5, World.drewN_drewN]⟩
      rw [← hw5]
      clear hw5
      have hO := HO.out.below hd5
      have hT := HT.out.below hd5
      have hV := HV4.out.trans (hd5.mono HV4.out.size)
      by_cases hkn : k < n
      · have g1 : (k : Int) < (n : Int) := by omega
        obtain ⟨b3, o3, rfl, hc3⟩ := hO.cell k hkn
        obtain ⟨b5, o5, rfl, hc5⟩ := hT.cell k hkn
        have e5 := hc5.c0
        have hm : (S.map Cd.rep)[k]?.getD 0 = (ck S k).rep := by rw [List.getElem?_map, ck_get (by rw [HN.out]; exact hkn)]; rfl
        rw [hm] at hc3
        generalize (ck S k).rep = x at *
        have hx : (x != x) = false := by simp
        clear hO hT hV hc5 hm
        go_wp2_with fail
        go_quiet (fail)
        go_wp2_with fail
        go_round
        case rel =>
          obtain ⟨nd', h⟩ := HD5.out nq
          exact ⟨k + 1, nd', by omega, by go_num, h⟩
        case measure => simp [intOf]; omega
      · have g1 : ¬ (k : Int) < (n : Int) := by omega
        have HV5 := hid hV
        clear hO hT hV HO HT HD5 hd5 HV4
        go_wp2_with fail
        refine (HTh.out w5 HV5.out hl).mono ?_
        rintro e w6 ⟨a6, c6, rfl, h6⟩
        have HA := hid h6.out.1
        have HV6 := hid (HV5.out.trans (h6.out.2.mono HV5.out.size))
        clear h6 HV5 HTh
        go_wp2_with fail
        go_loopw [45] (fun z W' => ∃ (k : Nat), k ≤ len ∧ z = .int .i64 k ∧ Hid (CsAt W' a6 len c6 l ∧ Below wf.heap.size wf W')) (fun z _ => len - (intOf z).toNat)
        case atStart => exact ⟨0, Nat.zero_le _, rfl, HA.out, HV6.out⟩
        case round =>
        clear HA HV6 w6
        obtain ⟨k, hk, rfl, HR⟩ := hrel
        rename World => w6
        by_cases hkl : k < len
        · have g2 : (k : Int) < (len : Int) := by omega
          obtain ⟨b6, o6, rfl, hc6⟩ := HR.out.1.cell k hkl
          obtain ⟨b7, o7, rfl, hc7⟩ := (HC.out w6 HR.out.2).cell k hkl
          have hci := HI.out (ck l k) (ck_mem (by rw [HL.out]; exact hkl))
          have HMk1 := hid fun W : World => HMk.out (ck l k) hci W
          have HRm1 := hid fun W : World => HRm.out (ck l k) W
          generalize ck l k = c at *
          generalize markZ q c = mz at *
          obtain ⟨x0, x1, x2, x3, x4, x5⟩ := c
          unfold CdV at HMk1 HRm1
          simp only at HMk1 HRm1
          obtain ⟨e0, e1, e2, e3, e4, e5⟩ := hc6
          simp only at e0 e1 e2 e3 e4 e5
          obtain ⟨w7, hw7⟩ : ∃ w7, w7 = w6.alloc (.cells #[.int .u64 x0, .int .i64 x1, .int .i64 x2, .bool x3, .int .i64 x4, .bool x5] 37) := ⟨_, rfl⟩
          have hb7 : Below w6.heap.size w6 w7 := by rw [hw7]; exact (Below.refl _ _).alloc (Nat.le_refl _) _
          have hx7 : w7.heap[w6.heap.size]? = some (.cells #[.int .u64 x0, .int .i64 x1, .int .i64 x2, .bool x3, .int .i64 x4, .bool x5] 37 (0, 0)) := by rw [hw7]; exact heap_alloc_new w6 _
          have h7 := hc7.below hb7
          have HK : Hid (∀ W' : World, Below w7.heap.size w7 W' → W'.cell? ⟨w6.heap.size, 0, none⟩ = some (.int .u64 x0) ∧ W'.cell? ⟨w6.heap.size, 1, none⟩ = some (.int .i64 x1) ∧ W'.cell? ⟨w6.heap.size, 2, none⟩ = some (.int .i64 x2) ∧ W'.cell? ⟨w6.heap.size, 3, none⟩ = some (.bool x3) ∧ W'.cell? ⟨w6.heap.size, 4, none⟩ = some (.int .i64 x4) ∧ W'.cell? ⟨w6.heap.size, 5, none⟩ = some (.bool x5) ∧ W'.cell? ⟨b7, o7 + k * 6, none⟩ = some (.int .u64 x0) ∧ W'.cell? ⟨b7, o7 + k * 6 + 1, none⟩ = some (.int .i64 x1) ∧ W'.cell? ⟨b7, o7 + k * 6 + 2, none⟩ = some (.int .i64 x2) ∧ W'.cell? ⟨b7, o7 + k * 6 + 3, none⟩ = some (.bool x3) ∧ W'.cell? ⟨b7, o7 + k * 6 + 4, none⟩ = some (.int .i64 x4) ∧ W'.cell? ⟨b7, o7 + k * 6 + 5, none⟩ = some (.bool x5) ∧ W'.cell? ⟨gw, 0, none⟩ = some (.int .i64 kn) ∧ W'.cell? ⟨gw, 1, none⟩ = some (.int .i64 ld) ∧ W'.cell? ⟨gw, 2, none⟩ = some (.int .i64 bd) ∧ W'.cell? ⟨gw, 3, none⟩ = some (.int .i64 pl)) := fun W' hb => by
            have e := block_bel hx7 hb
            have f := h7.below hb
            obtain ⟨q1, q2, q3, q4⟩ := HW.out W' ((HR.out.2.trans (hb7.mono HR.out.2.size)).trans (hb.mono (HR.out.2.trans (hb7.mono HR.out.2.size)).size))
            refine ⟨?_, ?_, ?_, ?_, ?_, ?_, f.c0, f.c1, f.c2, f.c3, f.c4, f.c5, q1, q2, q3, q4⟩ <;> (rw [cell_of_row _ _ _ _ _ _ e]; rfl)
          have HE7 : Hid (∀ W' : World, Below w7.heap.size w7 W' → CsAt W' (some ⟨b6, o6, none⟩) len c6 l ∧ Below wf.heap.size wf W') := fun W' hb => by
            have h8 := hb7.trans (hb.mono hb7.size)
            exact ⟨HR.out.1.below h8, HR.out.2.trans (h8.mono HR.out.2.size)⟩
          have HV : Hid (Below w7.heap.size w7 w7.drew) := (Below.refl _ _).drew
          have hmm : (mz != mz) = false := by simp
          clear hb7 hx7 h7 hc7 HR hci
          go_wp2_with fail
          rw [← hw7]
          clear hw7 e0 e1 e2 e3 e4 e5
          go_region_held3 (fun W' : World => W'.cell? ⟨w6.heap.size, 0, none⟩ = some (.int .u64 x0) ∧ W'.cell? ⟨w6.heap.size, 1, none⟩ = some (.int .i64 x1) ∧ W'.cell? ⟨w6.heap.size, 2, none⟩ = some (.int .i64 x2) ∧ W'.cell? ⟨w6.heap.size, 3, none⟩ = some (.bool x3) ∧ W'.cell? ⟨w6.heap.size, 4, none⟩ = some (.int .i64 x4) ∧ W'.cell? ⟨w6.heap.size, 5, none⟩ = some (.bool x5) ∧ W'.cell? ⟨b7, o7 + k * 6, none⟩ = some (.int .u64 x0) ∧ W'.cell? ⟨b7, o7 + k * 6 + 1, none⟩ = some (.int .i64 x1) ∧ W'.cell? ⟨b7, o7 + k * 6 + 2, none⟩ = some (.int .i64 x2) ∧ W'.cell? ⟨b7, o7 + k * 6 + 3, none⟩ = some (.bool x3) ∧ W'.cell? ⟨b7, o7 + k * 6 + 4, none⟩ = some (.int .i64 x4) ∧ W'.cell? ⟨b7, o7 + k * 6 + 5, none⟩ = some (.bool x5) ∧ W'.cell? ⟨gw, 0, none⟩ = some (.int .i64 kn) ∧ W'.cell? ⟨gw, 1, none⟩ = some (.int .i64 ld) ∧ W'.cell? ⟨gw, 2, none⟩ = some (.int .i64 bd) ∧ W'.cell? ⟨gw, 3, none⟩ = some (.int .i64 pl)) (first | (with_reducible exact HK.out _ (Below.refl _ _)) | (with_reducible exact HK.out _ HV.out))
            (first
              | (go_at_call 11; (with_reducible refine (HTW.out _).mono ?_); rintro e y1 ⟨rfl, h2⟩; replace HV := hid (HV.out.trans (h2.out.mono HV.out.size)); clear h2)
              | (go_at_call 13; (with_reducible refine (HMk1.out _).mono ?_); rintro e y2 ⟨rfl, h2⟩; replace HV := hid (HV.out.trans (h2.out.mono HV.out.size)); clear h2)
              | (go_at_call 14; (with_reducible refine (HRm1.out _).mono ?_); rintro e y3 ⟨rfl, h2⟩; replace HV := hid (HV.out.trans (h2.out.mono HV.out.size)); clear h2))
          all_goals
            have HF := hid (HE7.out _ HV.out)
            clear HK HV HE7 HMk1 HRm1
            go_wp2_with fail
            go_round
            case rel => exact ⟨k + 1, by omega, by go_num, HF.out⟩
            case measure => simp [intOf]; omega
        · have g2 : ¬ (k : Int) < (len : Int) := by omega
          have HXe := hid (HX.out w6 HR.out.2)
          clear HR
          go_wp2_with fail
          with_reducible refine (alive19_any _).mono ?_
          rintro e wz ⟨rfl, HZ0⟩
          have HZ := hid (HXe.out.trans (HZ0.out.mono HXe.out.size))
          clear HZ0
          go_wp2_with fail
          go_ret
          exact ⟨rfl, HZ.out⟩
  · have hFar := far19_yes a len cap w1 (by omega) hrm hms
    go_enter Try.func3, Try.ntmps3
    go_wp2_with fail
    rw [← hw1]
    clear hw1 hgw
    refine hFar.mono ?_
    rintro e wf ⟨rfl, rfl⟩
    clear hFar
    go_wp2_with fail
    with_reducible refine (alive19_any _).mono ?_
    rintro e wz ⟨rfl, HZ0⟩
    have HZ := hid (HX0.out.trans (HZ0.out.mono HX0.out.size))
    clear HZ0
    go_wp2_with fail
    go_ret
    exact ⟨rfl, HZ.out⟩

/-! ### The row's step -/
set_option maxRecDepth 1000000 in
theorem lifted (os : Os) (started : os.Started) (H : Type) (enc : TypeId × Value → H) :
    ReturnsInHanded {} Try.checked os 3 .any (Rows.rankOrdersSpec.pre6 enc Try.prog Try.f3 Rows.rankOrdersRow.domain false) (Rows.rankOrdersSpec.post enc Try.prog Try.f3 false true false false) := by
  refine returnsInHanded_of_change (C := Try.checked) own started (by kernel_rfl) Try.func3
    (ChangeSpec.witness6 (enc := enc) (C := Try.checked) false ⟨#[], #[.slice none 0 0, .agg #[.int .i64 0, .int .i64 0, .int .i64 0, .int .i64 0]], []⟩ 8 (by kernel_rfl) (by kernel_rfl) (by kernel_rfl) (by kernel_rfl)) ?_
  intro W base args ds gs before hval0 hW hcnd _
  have hval : ∀ (j : Nat) t v, Try.f3.params[j]? = some t → args[j]? = some v → Value.okWide Try.prog W .any base t v := hval0
  have hW' := hW
  obtain ⟨p, q, hA0, hV, rfl, hfz, hnd⟩ := hW
  have hA : DataW.TrodAll enc Try.prog W 0 (fun _ => true) true Try.f3.params.toList args.toList ds p := hA0
  rw [Try.params3] at hA hval
  obtain ⟨v0, vs0, d0, ds0, p0, q0, hargs, rfl, rfl, h0, r0⟩ := trodAll_cons hA
  obtain ⟨v1, vs1, d1, ds1, p1, q1, rfl, rfl, rfl, h1, r1⟩ := trodAll_cons r0
  obtain ⟨rfl, rfl, rfl⟩ := trodAll_nil r1
  obtain rfl : args = #[v0, v1] := by cases args; simp_all
  obtain ⟨rfl, rfl⟩ := trodVars_none hV
  have k0 := h0
  have lt0 : ∀ x ∈ p0, x.block < W.heap.size := by obtain ⟨m, hm⟩ := k0; exact DataW.trod_lt m _ _ _ hm
  obtain ⟨a, len, cap, l, rfl, ga⟩ := cands_open (hval 0 22 v0 rfl rfl) h0
  have k1 := h1
  have lt1 : ∀ x ∈ p1, x.block < W.heap.size := by obtain ⟨m, hm⟩ := k1; exact DataW.trod_lt m _ _ _ hm
  obtain ⟨q, rfl, gq⟩ := wt_open (hval 1 24 v1 rfl rfl) h1
  clear hA0 hval0
  refine (walk a len cap l q W ga gq).mono fun e W' ⟨he, bel⟩ => ?_
  subst he
  exact ⟨_, rfl, _, _, _, [], _, [], hW', trodAll_mk1 (shut_bool Try.underlying4 _), (trodAll_cons_mk (Below.trod laidOut (by kernel_rfl) (of_decide_eq_true (by kernel_rfl)) k0 bel lt0) (trodAll_cons_mk (Below.trod laidOut (by kernel_rfl) (of_decide_eq_true (by kernel_rfl)) k1 bel lt1) trodAll_mk0)), rfl, bel.frame _, fun h => by cases h⟩

theorem over : Rows.rankOrdersRow.holds Try.pinned (OpenSpec.ofChange Rows.rankOrdersSpec) :=
  OpenClaim.holds_of_wide 3 Try.f3 rfl rfl rfl rfl rfl rfl rfl ⟨rfl, rfl, rfl, rfl, rfl⟩ rfl rfl rfl rfl rfl (by kernel_rfl) Try.func3 (by kernel_rfl)
    (of_decide_eq_true (by kernel_rfl)) (by unfold Func.isWrapper; first | (rw [if_pos (by decide +kernel)]; kernel_rfl) | (rw [if_neg (by decide +kernel)]; exact ⟨rfl, rfl⟩))
    (fun os started H enc _ => lifted os started H enc)

/-- The statement. -/
theorem proved : Rows.RankOrdersSaid := over
#print axioms proved
end Go.Proofs.Ytmhpgkkaolcncaa.rankOrders
