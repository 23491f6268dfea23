/-
  Proved: more known, or less load, lets a candidate come no later: RankLess hands back true for whatever candidates, weights and place.
-/
import Derived.Test.YtmhpgkkaolcncaaRows
import Derived.Test.YtmhpgkkaolcncaaRkLess
import Derived.Test.YtmhpgkkaolcncaaRkSkip
import Derived.Deep.RegionHeld3
import Derived.WalkKit
import Derived.ProofKit
import Derived.OpenShut
import Derived.ShutString
import Derived.ChangeOld
import Derived.Below
namespace Go.Proofs.Ytmhpgkkaolcncaa.rankLess
open Go.ChangeShapes Go.WideShapes Go.ChangeAt Go.RowKit
open Go.ChangeMaps (open_string shut_string)
set_option linter.unusedVariables false

theorem own : ownKnob Try.prog.godebug = none := by kernel_rfl
theorem laidOut : laidOutB Try.prog = true := by kernel_rfl

/-! ### The walk -/
set_option maxRecDepth 1000000 in
set_option maxHeartbeats 8000000 in
theorem walk (a : Option Addr) (len cap : Nat) (l : List Cd) (q : Wt) (at0 : Int) (w : World) (ga : CsAt w a len cap l ∧ ∀ c ∈ l, CdIn c) (gq : WtIn q) (gat0 : isI at0) :
    Calls Try.prog 5 #[.slice a len cap, .agg (WtV q), .int .i64 at0] w fun e w' => e = .returned (.bool true) ∧ Below w.heap.size w w' := by
  obtain ⟨hcs, hin⟩ := ga
  have hq := gq
  have hsz := hcs.size
  have hrm := hcs.room
  have hms := hcs.most
  obtain ⟨kn, ld, bd, pl⟩ := q
  obtain ⟨w0, hw0⟩ : ∃ w0, w0 = w.alloc (.cells #[.slice a len cap] 22) := ⟨_, rfl⟩
  have hb0 : Below w.heap.size w w0 := by rw [hw0]; exact (Below.refl _ _).alloc (Nat.le_refl _) _
  have hbl : w0.heap[w.heap.size]? = some (.cells #[.slice a len cap] 22 (0, 0)) := by rw [hw0]; exact heap_alloc_new w _
  obtain ⟨w1, hw1⟩ : ∃ w1, w1 = w0.alloc (.cells #[.int .i64 kn, .int .i64 ld, .int .i64 bd, .int .i64 pl] 24) := ⟨_, rfl⟩
  have hb1' : Below w0.heap.size w0 w1 := by rw [hw1]; exact (Below.refl _ _).alloc (Nat.le_refl _) _
  have hb1 : Below w.heap.size w w1 := hb0.trans (hb1'.mono hb0.size)
  have hbx : w1.heap[w0.heap.size]? = some (.cells #[.int .i64 kn, .int .i64 ld, .int .i64 bd, .int .i64 pl] 24 (0, 0)) := by rw [hw1]; exact heap_alloc_new w0 _
  have hbl1 := block_bel hbl hb1'
  have h1 := hcs.below hb1
  have hs0 : w0.heap.size = w.heap.size + 1 := by rw [hw0, World.size_alloc]
  rw [hs0] at hbx
  obtain ⟨gl, hgl⟩ : ∃ gl, w.heap.size = gl := ⟨_, rfl⟩
  obtain ⟨gw, hgw⟩ : ∃ gw, gl + 1 = gw := ⟨_, rfl⟩
  rw [hgl] at hbx hbl1
  rw [hgw] at hbx
  have HW : Hid (∀ W' : World, Below w1.heap.size w1 W' → W'.cell? ⟨gl, 0, none⟩ = some (.slice a len cap) ∧ W'.cell? ⟨gw, 0, none⟩ = some (.int .i64 kn) ∧ W'.cell? ⟨gw, 1, none⟩ = some (.int .i64 ld) ∧ W'.cell? ⟨gw, 2, none⟩ = some (.int .i64 bd) ∧ W'.cell? ⟨gw, 3, none⟩ = some (.int .i64 pl)) := fun W' hb => by
    have e := block_bel hbx hb
    have f := block_bel hbl1 hb
    refine ⟨?_, ?_, ?_, ?_, ?_⟩ <;> first | (rw [cell_of_row _ _ _ _ _ _ e]; rfl) | (rw [cell_of_row _ _ _ _ _ _ f]; rfl)
  have HC : Hid (∀ W' : World, Below w1.heap.size w1 W' → CsAt W' a len cap l) := fun W' hb => h1.below hb
  have HX : Hid (∀ W' : World, Below w1.heap.size w1 W' → Below w.heap.size w W') := fun W' hb => hb1.trans (hb.mono hb1.size)
  have HX0 : Hid (Below w.heap.size w w1) := hb1
  have HQ := hid hq
  have HI := hid hin
  have HL := hid hsz
  have HTW := hid fun W : World => theirW_any ⟨kn, ld, bd, pl⟩ W
  unfold WtV at HTW
  simp only at HTW
  have HTh := hid fun (W : World) (hb : Below w1.heap.size w1 W) (hl : len ≤ 60) => theirs_any a len cap l W (HC.out W hb) hl
  have k0 := (HW.out w1 (Below.refl _ _)).1
  rw [hw0] at hw1
  have k0l := k0
  rw [hw1] at k0l
  change Calls Try.prog 5 #[.slice a len cap, .agg #[.int .i64 kn, .int .i64 ld, .int .i64 bd, .int .i64 pl], .int .i64 at0] w _
  clear h1 hb1 hb1' hb0 hbx hbl hbl1 hs0 hw0 hcs hin hq gq hsz w0
  by_cases hl : len ≤ 60
  · have hFar := far19_no a len cap w1 hl hrm hms
    by_cases hz : len = 0
    · have g0 : ((len : Int) == 0) = true := by simp [hz]
      clear hz
      go_enter Try.func5, Try.ntmps5
      go_wp2_with fail
      rw [← hw1]
      clear hw1 k0l
      refine hFar.mono ?_
      rintro e wf ⟨rfl, rfl⟩
      clear hFar
      go_wp2_with fail
      with_reducible refine (alive19_any _).mono ?_
      rintro e wz ⟨rfl, HZ0⟩
      have HZ := hid (HX0.out.trans (HZ0.out.mono HX0.out.size))
      clear HZ0
      go_wp2_with fail
      go_ret
      exact ⟨rfl, HZ.out⟩
    · have g0 : ((len : Int) == 0) = false := by simp; omega
      obtain ⟨r1, hr1⟩ : ∃ r1, Int.tmod at0 (len : Int) = r1 := ⟨_, rfl⟩
      have hr1b : -(len : Int) < r1 ∧ r1 < (len : Int) := by
        rw [← hr1]
        constructor
        · exact Int.lt_tmod_of_pos _ (by omega)
        · exact Int.tmod_lt_of_pos _ (by omega)
      obtain ⟨r2, hr2⟩ : ∃ r2, r1 + (len : Int) = r2 := ⟨_, rfl⟩
      have hr2b : 0 < r2 ∧ r2 < 2 * (len : Int) := by omega
      obtain ⟨k, hk⟩ : ∃ k : Nat, Int.tmod r2 (len : Int) = (k : Int) := ⟨(Int.tmod r2 (len : Int)).toNat, by
        have := Int.tmod_nonneg (a := r2) (len : Int) (by omega)
        omega⟩
      have hkl : k < len := by
        have := Int.tmod_lt_of_pos r2 (b := (len : Int)) (by omega)
        omega
      have hk' : r2 % (len : Int) = (k : Int) := by rw [← hk, Int.tmod_eq_emod_of_nonneg (by omega)]
      have g9 : ¬ (len : Int) = 0 := by omega
      have g10 : ((len : Int) != 0) = true := by simp; omega
      go_enter Try.func5, Try.ntmps5
      go_wp2_with fail
      rw [← hw1]
      clear hw1 k0l
      refine hFar.mono ?_
      rintro e wf ⟨rfl, rfl⟩
      clear hFar
      go_wp2_with fail
      have k1 : (wf.alloc (.cells #[.int .i64 0] 3)).drew.cell? ⟨gl, 0, none⟩ = some (.slice a len cap) := (HW.out _ (((Below.refl wf.heap.size wf).alloc (Nat.le_refl _) _).drew)).1
      go_region
      clear k1
      obtain ⟨gk, hgk⟩ : ∃ gk, wf.heap.size = gk := ⟨_, rfl⟩
      obtain ⟨w2, hw2⟩ : ∃ w2, w2 = (wf.alloc (.cells #[.int .i64 (k : Int)] 3)).drew := ⟨_, rfl⟩
      have hb2 : Below wf.heap.size wf w2 := by rw [hw2]; exact ((Below.refl wf.heap.size wf).alloc (Nat.le_refl _) _).drew
      have hk2 : w2.heap[wf.heap.size]? = some (.cells #[.int .i64 (k : Int)] 3 (0, 0)) := by rw [hw2]; exact heap_alloc_new wf _
      rw [hgk] at hk2
      rw [← hw2, hgk]
      clear hw2
      have HW2 : Hid (∀ W' : World, Below w2.heap.size w2 W' → (W'.cell? ⟨gl, 0, none⟩ = some (.slice a len cap) ∧ W'.cell? ⟨gw, 0, none⟩ = some (.int .i64 kn) ∧ W'.cell? ⟨gw, 1, none⟩ = some (.int .i64 ld) ∧ W'.cell? ⟨gw, 2, none⟩ = some (.int .i64 bd) ∧ W'.cell? ⟨gw, 3, none⟩ = some (.int .i64 pl)) ∧ W'.cell? ⟨gk, 0, none⟩ = some (.int .i64 (k : Int)) ∧ CsAt W' a len cap l ∧ Below w.heap.size w W') := fun W' hb => by
        have h := hb2.trans (hb.mono hb2.size)
        have e := block_bel hk2 hb
        exact ⟨HW.out W' h, by rw [cell_of_row _ _ _ _ _ _ e]; rfl, HC.out W' h, HX.out W' h⟩
      have HTh2 := hid fun (W' : World) (hb : Below w2.heap.size w2 W') => HTh.out W' (hb2.trans (hb.mono hb2.size)) hl
      have k1 := (HW2.out w2 (Below.refl _ _)).1.1
      obtain ⟨b0, off, ha, hc0⟩ := (HW2.out w2 (Below.refl _ _)).2.2.1.cell k hkl
      subst ha
      have hnw := CsAt.news (HW2.out w2 (Below.refl _ _)).2.2.1
      have hfl : (flatC l).length = len * 6 := by rw [flatC_len, HL.out]
      obtain ⟨j0, ji, jz0, jz1, jz2⟩ := Go.info_parts Try.infoCd
      have HNw := hid hnw
      have HFl := hid hfl
      have HHd := hid (And.intro hr1 (And.intro hr2 (And.intro hk hk')))
      clear HW HC HX HX0 HTh k0 hb2 hk2 hgk hc0 hnw hfl hr1 hr2 hk hk' hr1b hr2b g0 g9 g10 HHd
      go_wp2_with (at_builtin; refine wpList_append_own _ rfl (.const (.slice none 0 0)) (.tmp 32) 22 rfl w2.heap.size 36 j0 (.agg #[.int .u64 0, .int .i64 0, .int .i64 0, .bool false, .int .i64 0, .bool false]) 6 48 Try.underlying22 ji jz0 jz1 jz2 rfl (by decide) (.slice none 0 0) 0 [] rfl (World.ownsRow_nil _ _ _ _) ⟨b0, off, none⟩ len cap (flatC l) rfl HFl.out HNw.out (flatC_oneCell l) (by unfold maxLen; omega) (by omega) (Nat.le_refl _) ?_; intro v3 w3 how3 hgr3 _)
      have how3' : w3.ownsRow w2.heap.size 36 6 v3 len (flatC l) := by simpa using how3
      have hb3 : Below w2.heap.size w2 w3 := (Below.refl _ _).grown hgr3 (Nat.le_refl _) fun g hg => by cases hg
      obtain ⟨g, cm, rfl, hg⟩ : ∃ g cm, v3 = .slice (some ⟨g, 0, none⟩) len cm ∧ w2.heap.size ≤ g := by
        rcases id how3'.2 with ⟨_, h0⟩ | ⟨g, cm, cur, hv, hB, _⟩
        · omega
        · exact ⟨g, cm, hv, hB⟩
      clear how3 hgr3 HNw
      obtain ⟨f0, f1, f2, f3, f4, f5⟩ := flatC_at l k (by rw [HL.out]; exact hkl)
      have m1 : w3.cell? ⟨g, k * 6 + 1, none⟩ = some (.int .i64 (ck l k).load) := by rw [World.ownsRow.cellAt how3' _ (by omega)]; exact f1
      have m2 : w3.cell? ⟨g, k * 6 + 2, none⟩ = some (.int .i64 (ck l k).known) := by rw [World.ownsRow.cellAt how3' _ (by omega)]; exact f2
      have z1 : w3.frozen? ⟨g, k * 6 + 1, none⟩ = false := World.ownsRow.frozenAt how3' _
      have z2 : w3.frozen? ⟨g, k * 6 + 2, none⟩ = false := World.ownsRow.frozenAt how3' _
      have HOw := hid how3'
      have HBg : Hid (w2.heap.size ≤ g ∧ Below w2.heap.size w2 w3) := ⟨hg, hb3⟩
      have kk := (HW2.out w3 hb3).2.1
      have hkI := HI.out (ck l k) (ck_mem (by rw [HL.out]; exact hkl))
      have HkI := hid hkI
      have g1 : (k : Int) < (len : Int) := by omega
      clear how3' hb3 f0 f1 f2 f3 f4 f5 hg hkI
      obtain ⟨c, hcq⟩ : ∃ c, ck l k = c := ⟨_, rfl⟩
      rw [hcq] at m1 m2 HkI
      have HCk := hid hcq
      clear hcq
      obtain ⟨x0, x1, x2, x3, x4, x5⟩ := c
      simp only at m1 m2
      have hx2 := HkI.out.known
      have hx1 := HkI.out.load
      simp only at hx1 hx2
      obtain ⟨mk, Hmk⟩ : ∃ mk, Hid (mk = if x2 < 0 then 0 else x2) := ⟨_, rfl⟩
      obtain ⟨e2, He2⟩ : ∃ e2, Hid (e2 = IntKind.i64.wrap (Int.tdiv mk 2 + mk)) := ⟨_, rfl⟩
      obtain ⟨d1, Hd1⟩ : ∃ d1, Hid (d1 = if x1 < 0 then 0 else Int.tdiv x1 2) := ⟨_, rfl⟩
      have HSet : Hid (∀ W' : World, W'.heap.size = w3.heap.size → W'.os = w3.os → W'.tape = w3.tape → W'.output = w3.output → (∀ b, W'.heap[b]? = ((w3.setCell ⟨g, k * 6 + 2, none⟩ (.int .i64 e2)).setCell ⟨g, k * 6 + 1, none⟩ (.int .i64 d1)).heap[b]?) → W'.ownsRow w2.heap.size 36 6 (.slice (some ⟨g, 0, none⟩) len cm) len (flatC (l.set k ⟨x0, d1, e2, x3, x4, x5⟩)) ∧ Below w2.heap.size w2 W') := fun W' q1 q2 q3 q4 q5 => by
        have h1 := (World.ownsRow.stored HOw.out (k * 6 + 2) (.int .i64 e2)).1
        have h2 := (World.ownsRow.stored h1 (k * 6 + 1) (.int .i64 d1)).1
        rw [flatC_turn l e2 d1 k (by rw [HL.out]; exact hkl), HCk.out] at h2
        have h3 := (HBg.out.2.setCell (p := ⟨g, k * 6 + 2, none⟩) HBg.out.1 (.int .i64 e2)).setCell (p := ⟨g, k * 6 + 1, none⟩) HBg.out.1 (.int .i64 d1)
        exact ⟨own_blk h2 fun b _ => q5 b, ⟨q2.trans HBg.out.2.os, q3.trans HBg.out.2.tape, q4.trans HBg.out.2.output, by rw [q1]; exact HBg.out.2.size, fun b hb => (q5 b).trans (h3.block b hb)⟩⟩
      have hgk : gk ≠ g := fun e => by
        have h1 := World.block_lt_of_cell? _ _ (HW2.out w2 (Below.refl _ _)).2.1
        have h2 := HBg.out.1
        simp only at h1
        omega
      clear HOw HBg
      go_wp2_with fail
      go_cut [] (fun wx => Hid (wx.ownsRow w2.heap.size 36 6 (.slice (some ⟨g, 0, none⟩) len cm) len (flatC (l.set k ⟨x0, d1, e2, x3, x4, x5⟩)) ∧ Below w2.heap.size w2 wx))
      case first =>
        have m1d : w3.drew.cell? ⟨g, k * 6 + 1, none⟩ = some (.int .i64 x1) := m1
        have m2d : w3.drew.cell? ⟨g, k * 6 + 2, none⟩ = some (.int .i64 x2) := m2
        have z1d : w3.drew.frozen? ⟨g, k * 6 + 1, none⟩ = false := z1
        have z2d : w3.drew.frozen? ⟨g, k * 6 + 2, none⟩ = false := z2
        have kd : w3.drew.cell? ⟨gk, 0, none⟩ = some (.int .i64 (k : Int)) := kk
        have HKs : Hid (∀ (i j : Nat) (u u2 : Value), (w3.setCell ⟨g, i, none⟩ u).drew.cell? ⟨gk, 0, none⟩ = some (.int .i64 (k : Int)) ∧ ((w3.setCell ⟨g, i, none⟩ u).setCell ⟨g, j, none⟩ u2).drew.cell? ⟨gk, 0, none⟩ = some (.int .i64 (k : Int))) := fun i j u u2 => by
          have h2 := (World.cell?_setCell_far w3 ⟨g, i, none⟩ ⟨gk, 0, none⟩ u fun e => hgk e.symm).trans kk
          exact ⟨h2, (World.cell?_setCell_far _ ⟨g, j, none⟩ ⟨gk, 0, none⟩ u2 fun e => hgk e.symm).trans h2⟩
        have hw0 : IntKind.i64.wrap 0 = 0 := by decide
        clear HW2 HTh2 HFl HkI HI HTW HQ HL HCk
        obtain ⟨ml, Hml⟩ : ∃ ml, Hid (ml = if x1 < 0 then 0 else x1) := ⟨_, rfl⟩
        obtain ⟨d2, Hd2⟩ : ∃ d2, Hid (Int.tdiv mk 2 = d2) := ⟨_, rfl⟩
        have hmk0 : 0 ≤ mk ∧ mk ≤ 9223372036854775807 := by have := hx2.2; rw [Hmk.out]; split <;> omega
        have hml0 : 0 ≤ ml ∧ ml ≤ 9223372036854775807 := by have := hx1.2; rw [Hml.out]; split <;> omega
        have hd2 : mk / 2 = d2 := by rw [← Hd2.out, Int.tdiv_eq_ediv_of_nonneg hmk0.1]
        have hd1 : ml / 2 = d1 := by
          rw [Hd1.out, Hml.out]
          split
          · rfl
          · rw [Int.tdiv_eq_ediv_of_nonneg (by omega)]
        have hd1t : Int.tdiv ml 2 = d1 := by rw [← hd1, Int.tdiv_eq_ediv_of_nonneg hml0.1]
        have hd2t : Int.tdiv mk 2 = d2 := Hd2.out
        have hwr : IntKind.i64.wrap (d2 + mk) = e2 := by rw [He2.out, hd2t]
        have hw2 : IntKind.i64.wrap d2 = d2 := wrap64_in (by omega) (by omega)
        have hw1 : IntKind.i64.wrap d1 = d1 := wrap64_in (by omega) (by omega)
        have hmx2 : (if x2 < 0 then 0 else x2) = mk := Hmk.out.symm
        have hmx1 : (if x1 < 0 then 0 else x1) = ml := Hml.out.symm
        have hmy2 : max x2 0 = mk := by rw [Hmk.out]; split <;> omega
        have hmy1 : max x1 0 = ml := by rw [Hml.out]; split <;> omega
        clear Hmk He2 Hd1 Hml Hd2 hx1 hx2 hmk0 hml0
        have HE : Hid (∀ W' : World, W' = ((w3.setCell ⟨g, k * 6 + 2, none⟩ (.int .i64 e2)).setCell ⟨g, k * 6 + 1, none⟩ (.int .i64 d1)).drew → W'.ownsRow w2.heap.size 36 6 (.slice (some ⟨g, 0, none⟩) len cm) len (flatC (l.set k ⟨x0, d1, e2, x3, x4, x5⟩)) ∧ Below w2.heap.size w2 W') := fun W' h => by
          rw [h]
          exact HSet.out _ (by simp [World.setCell]) rfl rfl rfl (fun b => rfl)
        clear HSet
        refine wp_region_noPanic ?_
        refine wp_region_held_drew (S := fun W' : World => W'.cell? ⟨gk, 0, none⟩ = some (.int .i64 (k : Int))) (by kernel_rfl) kd (fun hHeld => ?_)
        refine takeH 0 (oi := ?oiq1) ?hiq1 (v := ?vq1) (by kernel_rfl) (by kernel_rfl) (by kernel_rfl) (fun _ _ _ h => h) ?hwq1 ?hyq1 hHeld ?_
        case hiq1 => (simp only [List.getElem?_toArray, List.getElem?_cons_zero]; exact rfl)
        case hwq1 => rfl
        case hyq1 => (intro w hSw; (try dsimp only at hSw); go_simp; all_goals (with_reducible rfl))
        try simp only [Act.put, List.setIfInBounds_toArray, List.set_cons_zero, List.set_cons_succ]
        refine takeH 1 (oi := ?oiq2) ?hiq2 (v := ?vq2) (by kernel_rfl) (by kernel_rfl) (by kernel_rfl) (fun _ _ _ h => h) ?hwq2 ?hyq2 hHeld ?_
        case hiq2 => (simp only [List.getElem?_toArray, List.getElem?_cons_succ, List.getElem?_cons_zero]; exact rfl)
        case hwq2 => rfl
        case hyq2 => (intro w hSw; (try dsimp only at hSw); go_simp; all_goals (with_reducible rfl))
        try simp only [Act.put, List.setIfInBounds_toArray, List.set_cons_zero, List.set_cons_succ]
        refine takeH 2 (oi := ?oiq3) ?hiq3 (v := ?vq3) (by kernel_rfl) (by kernel_rfl) (by kernel_rfl) (fun _ _ _ h => h) ?hwq3 ?hyq3 hHeld ?_
        case hiq3 => (simp only [List.getElem?_toArray, List.getElem?_cons_succ, List.getElem?_cons_zero]; exact rfl)
        case hwq3 => rfl
        case hyq3 => (intro w hSw; (try dsimp only at hSw); go_simp; all_goals (with_reducible rfl))
        try simp only [Act.put, List.setIfInBounds_toArray, List.set_cons_zero, List.set_cons_succ]
        refine takeH 3 (oi := ?oiq4) ?hiq4 (v := ?vq4) (by kernel_rfl) (by kernel_rfl) (by kernel_rfl) (fun _ _ _ h => h) ?hwq4 ?hyq4 hHeld ?_
        case hiq4 => (simp only [List.getElem?_toArray, List.getElem?_cons_succ, List.getElem?_cons_zero]; exact rfl)
        case hwq4 => rfl
        case hyq4 => (intro w hSw; (try dsimp only at hSw); go_simp; all_goals (with_reducible rfl))
        try simp only [Act.put, List.setIfInBounds_toArray, List.set_cons_zero, List.set_cons_succ]
        refine takeH 4 (oi := ?oiq5) ?hiq5 (v := ?vq5) (by kernel_rfl) (by kernel_rfl) (by kernel_rfl) (fun _ _ _ h => h) ?hwq5 ?hyq5 hHeld ?_
        case hiq5 => (simp only [List.getElem?_toArray, List.getElem?_cons_succ, List.getElem?_cons_zero]; exact rfl)
        case hwq5 => rfl
        case hyq5 => (intro w hSw; (try dsimp only at hSw); go_simp; all_goals (with_reducible rfl))
        try simp only [Act.put, List.setIfInBounds_toArray, List.set_cons_zero, List.set_cons_succ]
        refine takeH 5 (oi := ?oiq6) ?hiq6 (v := ?vq6) (by kernel_rfl) (by kernel_rfl) (by kernel_rfl) (fun _ _ _ h => h) ?hwq6 ?hyq6 hHeld ?_
        case hiq6 => (simp only [List.getElem?_toArray, List.getElem?_cons_succ, List.getElem?_cons_zero]; exact rfl)
        case hwq6 => rfl
        case hyq6 => (intro w hSw; (try dsimp only at hSw); go_simp; all_goals (with_reducible rfl))
        try simp only [Act.put, List.setIfInBounds_toArray, List.set_cons_zero, List.set_cons_succ]
        refine takeH 6 (oi := ?oiq7) ?hiq7 (v := ?vq7) (by kernel_rfl) (by kernel_rfl) (by kernel_rfl) (fun _ _ _ h => h) ?hwq7 ?hyq7 hHeld ?_
        case hiq7 => (simp only [List.getElem?_toArray, List.getElem?_cons_succ, List.getElem?_cons_zero]; exact rfl)
        case hwq7 => rfl
        case hyq7 => (intro w hSw; (try dsimp only at hSw); go_simp; all_goals (with_reducible rfl))
        try simp only [Act.put, List.setIfInBounds_toArray, List.set_cons_zero, List.set_cons_succ]
        refine takeH 7 (oi := ?oiq8) ?hiq8 (v := ?vq8) (by kernel_rfl) (by kernel_rfl) (by kernel_rfl) (fun _ _ _ h => h) ?hwq8 ?hyq8 hHeld ?_
        case hiq8 => (simp only [List.getElem?_toArray, List.getElem?_cons_succ, List.getElem?_cons_zero]; exact rfl)
        case hwq8 => rfl
        case hyq8 => (intro w hSw; (try dsimp only at hSw); go_simp; all_goals (with_reducible rfl))
        try simp only [Act.put, List.setIfInBounds_toArray, List.set_cons_zero, List.set_cons_succ]
        refine takeH 11 (oi := ?oiq9) ?hiq9 (v := ?vq9) (by kernel_rfl) (by kernel_rfl) (by kernel_rfl) (fun _ _ _ h => h) ?hwq9 ?hyq9 hHeld ?_
        case hiq9 => (simp only [List.getElem?_toArray, List.getElem?_cons_succ, List.getElem?_cons_zero]; exact rfl)
        case hwq9 => rfl
        case hyq9 => (intro w hSw; (try dsimp only at hSw); go_simp; all_goals (with_reducible rfl))
        try simp only [Act.put, List.setIfInBounds_toArray, List.set_cons_zero, List.set_cons_succ]
        refine takeH 12 (oi := ?oiq10) ?hiq10 (v := ?vq10) (by kernel_rfl) (by kernel_rfl) (by kernel_rfl) (fun _ _ _ h => h) ?hwq10 ?hyq10 hHeld ?_
        case hiq10 => (simp only [List.getElem?_toArray, List.getElem?_cons_succ, List.getElem?_cons_zero]; exact rfl)
        case hwq10 => rfl
        case hyq10 => (intro w hSw; (try dsimp only at hSw); go_simp; all_goals (with_reducible rfl))
        try simp only [Act.put, List.setIfInBounds_toArray, List.set_cons_zero, List.set_cons_succ]
        refine takeH 13 (oi := ?oiq11) ?hiq11 (v := ?vq11) (by kernel_rfl) (by kernel_rfl) (by kernel_rfl) (fun _ _ _ h => h) ?hwq11 ?hyq11 hHeld ?_
        case hiq11 => (simp only [List.getElem?_toArray, List.getElem?_cons_succ, List.getElem?_cons_zero]; exact rfl)
        case hwq11 => rfl
        case hyq11 => (intro w hSw; (try dsimp only at hSw); go_simp; all_goals (with_reducible rfl))
        try simp only [Act.put, List.setIfInBounds_toArray, List.set_cons_zero, List.set_cons_succ]
        refine takeH 14 (oi := ?oiq12) ?hiq12 (v := ?vq12) (by kernel_rfl) (by kernel_rfl) (by kernel_rfl) (fun _ _ _ h => h) ?hwq12 ?hyq12 hHeld ?_
        case hiq12 => (simp only [List.getElem?_toArray, List.getElem?_cons_succ, List.getElem?_cons_zero]; exact rfl)
        case hwq12 => rfl
        case hyq12 => (intro w hSw; (try dsimp only at hSw); go_simp; all_goals (with_reducible rfl))
        try simp only [Act.put, List.setIfInBounds_toArray, List.set_cons_zero, List.set_cons_succ]
        refine takeH 18 (oi := ?oiq13) ?hiq13 (v := ?vq13) (by kernel_rfl) (by kernel_rfl) (by kernel_rfl) (fun _ _ _ h => h) ?hwq13 ?hyq13 hHeld ?_
        case hiq13 => (simp only [List.getElem?_toArray, List.getElem?_cons_succ, List.getElem?_cons_zero]; exact rfl)
        case hwq13 => rfl
        case hyq13 => (intro w hSw; (try dsimp only at hSw); go_simp; all_goals (with_reducible rfl))
        try simp only [Act.put, List.setIfInBounds_toArray, List.set_cons_zero, List.set_cons_succ]
        refine takeH 19 (oi := ?oiq14) ?hiq14 (v := ?vq14) (by kernel_rfl) (by kernel_rfl) (by kernel_rfl) (fun _ _ _ h => h) ?hwq14 ?hyq14 hHeld ?_
        case hiq14 => (simp only [List.getElem?_toArray, List.getElem?_cons_succ, List.getElem?_cons_zero]; exact rfl)
        case hwq14 => rfl
        case hyq14 => (intro w hSw; (try dsimp only at hSw); go_simp; all_goals (with_reducible rfl))
        try simp only [Act.put, List.setIfInBounds_toArray, List.set_cons_zero, List.set_cons_succ]
        refine takeH 20 (oi := ?oiq15) ?hiq15 (v := ?vq15) (by kernel_rfl) (by kernel_rfl) (by kernel_rfl) (fun _ _ _ h => h) ?hwq15 ?hyq15 hHeld ?_
        case hiq15 => (simp only [List.getElem?_toArray, List.getElem?_cons_succ, List.getElem?_cons_zero]; exact rfl)
        case hwq15 => rfl
        case hyq15 => (intro w hSw; (try dsimp only at hSw); go_simp; all_goals (with_reducible rfl))
        try simp only [Act.put, List.setIfInBounds_toArray, List.set_cons_zero, List.set_cons_succ]
        refine takeH 21 (oi := ?oiq16) ?hiq16 (v := ?vq16) (by kernel_rfl) (by kernel_rfl) (by kernel_rfl) (fun _ _ _ h => h) ?hwq16 ?hyq16 hHeld ?_
        case hiq16 => (simp only [List.getElem?_toArray, List.getElem?_cons_succ, List.getElem?_cons_zero]; exact rfl)
        case hwq16 => rfl
        case hyq16 => (intro w hSw; (try dsimp only at hSw); go_simp; all_goals (with_reducible rfl))
        try simp only [Act.put, List.setIfInBounds_toArray, List.set_cons_zero, List.set_cons_succ]
        refine wpAnyH_ready (rs := [8, 15, 22]) (by kernel_rfl) (by simp) (AllReadyH.cons (i := 8) (o := ?oz19) ?hz19 (fun K hK => ?bz19) (AllReadyH.cons (i := 15) (o := ?oz18) ?hz18 (fun K hK => ?bz18) (AllReadyH.cons (i := 22) (o := ?oz17) ?hz17 (fun K hK => ?bz17) AllReadyH.nil)))
        case hz19 => (simp only [List.getElem?_toArray, List.getElem?_cons_succ, List.getElem?_cons_zero]; exact rfl)
        case hz18 => (simp only [List.getElem?_toArray, List.getElem?_cons_succ, List.getElem?_cons_zero]; exact rfl)
        case hz17 => (simp only [List.getElem?_toArray, List.getElem?_cons_succ, List.getElem?_cons_zero]; exact rfl)
        case bz19 =>
          go_simp
          refine hK.out _ _ ?_ (fun hHeld2 => ?_)
          · (try dsimp only); (first | exact kd | exact (HKs.out _ 0 _ (.int .i64 0)).1 | exact (HKs.out _ _ _ _).2)
          clear hK K hHeld
          have hHeld := hHeld2
          clear hHeld2
          try simp only [Act.put, List.setIfInBounds_toArray, List.set_cons_zero, List.set_cons_succ]
          refine takeH 9 (oi := ?oiq20) ?hiq20 (v := ?vq20) (by kernel_rfl) (by kernel_rfl) (by kernel_rfl) (fun _ _ _ h => h) ?hwq20 ?hyq20 hHeld ?_
          case hiq20 => (simp only [List.getElem?_toArray, List.getElem?_cons_succ, List.getElem?_cons_zero]; exact rfl)
          case hwq20 => rfl
          case hyq20 => (intro w hSw; (try dsimp only at hSw); go_simp; all_goals (with_reducible rfl))
          try simp only [Act.put, List.setIfInBounds_toArray, List.set_cons_zero, List.set_cons_succ]
          refine takeH 10 (oi := ?oiq21) ?hiq21 (v := ?vq21) (by kernel_rfl) (by kernel_rfl) (by kernel_rfl) (fun _ _ _ h => h) ?hwq21 ?hyq21 hHeld ?_
          case hiq21 => (simp only [List.getElem?_toArray, List.getElem?_cons_succ, List.getElem?_cons_zero]; exact rfl)
          case hwq21 => rfl
          case hyq21 => (intro w hSw; (try dsimp only at hSw); go_simp; all_goals (with_reducible rfl))
          try simp only [Act.put, List.setIfInBounds_toArray, List.set_cons_zero, List.set_cons_succ]
          refine wpAnyH_ready (rs := [15, 22]) (by kernel_rfl) (by simp) (AllReadyH.cons (i := 15) (o := ?oz23) ?hz23 (fun K hK => ?bz23) (AllReadyH.cons (i := 22) (o := ?oz22) ?hz22 (fun K hK => ?bz22) AllReadyH.nil))
          case hz23 => (simp only [List.getElem?_toArray, List.getElem?_cons_succ, List.getElem?_cons_zero]; exact rfl)
          case hz22 => (simp only [List.getElem?_toArray, List.getElem?_cons_succ, List.getElem?_cons_zero]; exact rfl)
          case bz23 =>
            go_simp
            refine hK.out _ _ ?_ (fun hHeld2 => ?_)
            · (try dsimp only); (first | exact kd | exact (HKs.out _ 0 _ (.int .i64 0)).1 | exact (HKs.out _ _ _ _).2)
            clear hK K hHeld
            have hHeld := hHeld2
            clear hHeld2
            try simp only [Act.put, List.setIfInBounds_toArray, List.set_cons_zero, List.set_cons_succ]
            refine takeH 16 (oi := ?oiq24) ?hiq24 (v := ?vq24) (by kernel_rfl) (by kernel_rfl) (by kernel_rfl) (fun _ _ _ h => h) ?hwq24 ?hyq24 hHeld ?_
            case hiq24 => (simp only [List.getElem?_toArray, List.getElem?_cons_succ, List.getElem?_cons_zero]; exact rfl)
            case hwq24 => rfl
            case hyq24 => (intro w hSw; (try dsimp only at hSw); go_simp; all_goals (with_reducible rfl))
            try simp only [Act.put, List.setIfInBounds_toArray, List.set_cons_zero, List.set_cons_succ]
            refine takeH 17 (oi := ?oiq25) ?hiq25 (v := ?vq25) (by kernel_rfl) (by kernel_rfl) (by kernel_rfl) (fun _ _ _ h => h) ?hwq25 ?hyq25 hHeld ?_
            case hiq25 => (simp only [List.getElem?_toArray, List.getElem?_cons_succ, List.getElem?_cons_zero]; exact rfl)
            case hwq25 => rfl
            case hyq25 => (intro w hSw; (try dsimp only at hSw); go_simp; all_goals (with_reducible rfl))
            try simp only [Act.put, List.setIfInBounds_toArray, List.set_cons_zero, List.set_cons_succ]
            refine wpAnyH_ready (rs := [22]) (by kernel_rfl) (by simp) (AllReadyH.cons (i := 22) (o := ?oz26) ?hz26 (fun K hK => ?bz26) AllReadyH.nil)
            case hz26 => (simp only [List.getElem?_toArray, List.getElem?_cons_succ, List.getElem?_cons_zero]; exact rfl)
            case bz26 =>
              go_simp
              refine hK.out _ _ ?_ (fun hHeld2 => ?_)
              · (try dsimp only); (first | exact kd | exact (HKs.out _ 0 _ (.int .i64 0)).1 | exact (HKs.out _ _ _ _).2)
              clear hK K hHeld
              have hHeld := hHeld2
              clear hHeld2
              try simp only [Act.put, List.setIfInBounds_toArray, List.set_cons_zero, List.set_cons_succ]
              refine takeH 23 (oi := ?oiq27) ?hiq27 (v := ?vq27) (by kernel_rfl) (by kernel_rfl) (by kernel_rfl) (fun _ _ _ h => h) ?hwq27 ?hyq27 hHeld ?_
              case hiq27 => (simp only [List.getElem?_toArray, List.getElem?_cons_succ, List.getElem?_cons_zero]; exact rfl)
              case hwq27 => rfl
              case hyq27 => (intro w hSw; (try dsimp only at hSw); go_simp; all_goals (with_reducible rfl))
              try simp only [Act.put, List.setIfInBounds_toArray, List.set_cons_zero, List.set_cons_succ]
              refine takeH 24 (oi := ?oiq28) ?hiq28 (v := ?vq28) (by kernel_rfl) (by kernel_rfl) (by kernel_rfl) (fun _ _ _ h => h) ?hwq28 ?hyq28 hHeld ?_
              case hiq28 => (simp only [List.getElem?_toArray, List.getElem?_cons_succ, List.getElem?_cons_zero]; exact rfl)
              case hwq28 => rfl
              case hyq28 => (intro w hSw; (try dsimp only at hSw); go_simp; all_goals (with_reducible rfl))
              try simp only [Act.put, List.setIfInBounds_toArray, List.set_cons_zero, List.set_cons_succ]
              refine takeH 25 (oi := ?oiq29) ?hiq29 (v := ?vq29) (by kernel_rfl) (by kernel_rfl) (by kernel_rfl) (fun _ _ _ h => h) ?hwq29 ?hyq29 hHeld ?_
              case hiq29 => (simp only [List.getElem?_toArray, List.getElem?_cons_succ, List.getElem?_cons_zero]; exact rfl)
              case hwq29 => rfl
              case hyq29 => (intro w hSw; (try dsimp only at hSw); go_simp; all_goals (with_reducible rfl))
              try simp only [Act.put, List.setIfInBounds_toArray, List.set_cons_zero, List.set_cons_succ]
              refine takeH 26 (oi := ?oiq30) ?hiq30 (v := ?vq30) (by kernel_rfl) (by kernel_rfl) (by kernel_rfl) (fun _ _ _ h => h) ?hwq30 ?hyq30 hHeld ?_
              case hiq30 => (simp only [List.getElem?_toArray, List.getElem?_cons_succ, List.getElem?_cons_zero]; exact rfl)
              case hwq30 => rfl
              case hyq30 => (intro w hSw; (try dsimp only at hSw); go_simp; all_goals (with_reducible rfl))
              try simp only [Act.put, List.setIfInBounds_toArray, List.set_cons_zero, List.set_cons_succ]
              refine runH 27 (oi := ?oiq31) ?hiq31 (by kernel_rfl) (fun K hK => ?_)
              case hiq31 => (simp only [List.getElem?_toArray, List.getElem?_cons_succ, List.getElem?_cons_zero]; exact rfl)
              go_simp
              refine hK.out _ _ ?_ (fun hHeld2 => ?_)
              · (try dsimp only); (first | exact kd | exact (HKs.out _ 0 _ (.int .i64 0)).1 | exact (HKs.out _ _ _ _).2)
              clear hK K hHeld
              have hHeld := hHeld2
              clear hHeld2
              try simp only [Act.put, List.setIfInBounds_toArray, List.set_cons_zero, List.set_cons_succ]
              refine takeH 28 (oi := ?oiq32) ?hiq32 (v := ?vq32) (by kernel_rfl) (by kernel_rfl) (by kernel_rfl) (fun _ _ _ h => h) ?hwq32 ?hyq32 hHeld ?_
              case hiq32 => (simp only [List.getElem?_toArray, List.getElem?_cons_succ, List.getElem?_cons_zero]; exact rfl)
              case hwq32 => rfl
              case hyq32 => (intro w hSw; (try dsimp only at hSw); go_simp; all_goals (with_reducible rfl))
              try simp only [Act.put, List.setIfInBounds_toArray, List.set_cons_zero, List.set_cons_succ]
              refine takeH 29 (oi := ?oiq33) ?hiq33 (v := ?vq33) (by kernel_rfl) (by kernel_rfl) (by kernel_rfl) (fun _ _ _ h => h) ?hwq33 ?hyq33 hHeld ?_
              case hiq33 => (simp only [List.getElem?_toArray, List.getElem?_cons_succ, List.getElem?_cons_zero]; exact rfl)
              case hwq33 => rfl
              case hyq33 => (intro w hSw; (try dsimp only at hSw); go_simp; all_goals (with_reducible rfl))
              try simp only [Act.put, List.setIfInBounds_toArray, List.set_cons_zero, List.set_cons_succ]
              refine runH 30 (oi := ?oiq34) ?hiq34 (by kernel_rfl) (fun K hK => ?_)
              case hiq34 => (simp only [List.getElem?_toArray, List.getElem?_cons_succ, List.getElem?_cons_zero]; exact rfl)
              go_simp
              refine hK.out _ _ ?_ (fun hHeld2 => ?_)
              · (try dsimp only); (first | exact kd | exact (HKs.out _ 0 _ (.int .i64 0)).1 | exact (HKs.out _ _ _ _).2)
              clear hK K hHeld
              have hHeld := hHeld2
              clear hHeld2
              try simp only [Act.put, List.setIfInBounds_toArray, List.set_cons_zero, List.set_cons_succ]
              refine wpAnyH_done (by kernel_rfl) ?_ _
              refine NoPanic.normal ?_
              clear hHeld
              go_wp2_with fail
              go_meet
              first | exact HE.out _ rfl | (unfold Hid; simpa using HE.out _ rfl)
          case bz22 =>
            go_simp
            refine hK.out _ _ ?_ (fun hHeld2 => ?_)
            · (try dsimp only); (first | exact kd | exact (HKs.out _ 0 _ (.int .i64 0)).1 | exact (HKs.out _ _ _ _).2)
            clear hK K hHeld
            have hHeld := hHeld2
            clear hHeld2
            try simp only [Act.put, List.setIfInBounds_toArray, List.set_cons_zero, List.set_cons_succ]
            refine takeH 23 (oi := ?oiq35) ?hiq35 (v := ?vq35) (by kernel_rfl) (by kernel_rfl) (by kernel_rfl) (fun _ _ _ h => h) ?hwq35 ?hyq35 hHeld ?_
            case hiq35 => (simp only [List.getElem?_toArray, List.getElem?_cons_succ, List.getElem?_cons_zero]; exact rfl)
            case hwq35 => rfl
            case hyq35 => (intro w hSw; (try dsimp only at hSw); go_simp; all_goals (with_reducible rfl))
            try simp only [Act.put, List.setIfInBounds_toArray, List.set_cons_zero, List.set_cons_succ]
            refine takeH 24 (oi := ?oiq36) ?hiq36 (v := ?vq36) (by kernel_rfl) (by kernel_rfl) (by kernel_rfl) (fun _ _ _ h => h) ?hwq36 ?hyq36 hHeld ?_
            case hiq36 => (simp only [List.getElem?_toArray, List.getElem?_cons_succ, List.getElem?_cons_zero]; exact rfl)
            case hwq36 => rfl
            case hyq36 => (intro w hSw; (try dsimp only at hSw); go_simp; all_goals (with_reducible rfl))
            try simp only [Act.put, List.setIfInBounds_toArray, List.set_cons_zero, List.set_cons_succ]
            refine wpAnyH_ready (rs := [15]) (by kernel_rfl) (by simp) (AllReadyH.cons (i := 15) (o := ?oz37) ?hz37 (fun K hK => ?bz37) AllReadyH.nil)
            case hz37 => (simp only [List.getElem?_toArray, List.getElem?_cons_succ, List.getElem?_cons_zero]; exact rfl)
            case bz37 =>
              go_simp
              refine hK.out _ _ ?_ (fun hHeld2 => ?_)
              · (try dsimp only); (first | exact kd | exact (HKs.out _ 0 _ (.int .i64 0)).1 | exact (HKs.out _ _ _ _).2)
              clear hK K hHeld
              have hHeld := hHeld2
              clear hHeld2
              try simp only [Act.put, List.setIfInBounds_toArray, List.set_cons_zero, List.set_cons_succ]
              refine takeH 16 (oi := ?oiq38) ?hiq38 (v := ?vq38) (by kernel_rfl) (by kernel_rfl) (by kernel_rfl) (fun _ _ _ h => h) ?hwq38 ?hyq38 hHeld ?_
              case hiq38 => (simp only [List.getElem?_toArray, List.getElem?_cons_succ, List.getElem?_cons_zero]; exact rfl)
              case hwq38 => rfl
              case hyq38 => (intro w hSw; (try dsimp only at hSw); go_simp; all_goals (with_reducible rfl))
              try simp only [Act.put, List.setIfInBounds_toArray, List.set_cons_zero, List.set_cons_succ]
              refine takeH 17 (oi := ?oiq39) ?hiq39 (v := ?vq39) (by kernel_rfl) (by kernel_rfl) (by kernel_rfl) (fun _ _ _ h => h) ?hwq39 ?hyq39 hHeld ?_
              case hiq39 => (simp only [List.getElem?_toArray, List.getElem?_cons_succ, List.getElem?_cons_zero]; exact rfl)
              case hwq39 => rfl
              case hyq39 => (intro w hSw; (try dsimp only at hSw); go_simp; all_goals (with_reducible rfl))
              try simp only [Act.put, List.setIfInBounds_toArray, List.set_cons_zero, List.set_cons_succ]
              refine takeH 25 (oi := ?oiq40) ?hiq40 (v := ?vq40) (by kernel_rfl) (by kernel_rfl) (by kernel_rfl) (fun _ _ _ h => h) ?hwq40 ?hyq40 hHeld ?_
              case hiq40 => (simp only [List.getElem?_toArray, List.getElem?_cons_succ, List.getElem?_cons_zero]; exact rfl)
              case hwq40 => rfl
              case hyq40 => (intro w hSw; (try dsimp only at hSw); go_simp; all_goals (with_reducible rfl))
              try simp only [Act.put, List.setIfInBounds_toArray, List.set_cons_zero, List.set_cons_succ]
              refine takeH 26 (oi := ?oiq41) ?hiq41 (v := ?vq41) (by kernel_rfl) (by kernel_rfl) (by kernel_rfl) (fun _ _ _ h => h) ?hwq41 ?hyq41 hHeld ?_
              case hiq41 => (simp only [List.getElem?_toArray, List.getElem?_cons_succ, List.getElem?_cons_zero]; exact rfl)
              case hwq41 => rfl
              case hyq41 => (intro w hSw; (try dsimp only at hSw); go_simp; all_goals (with_reducible rfl))
              try simp only [Act.put, List.setIfInBounds_toArray, List.set_cons_zero, List.set_cons_succ]
              refine runH 27 (oi := ?oiq42) ?hiq42 (by kernel_rfl) (fun K hK => ?_)
              case hiq42 => (simp only [List.getElem?_toArray, List.getElem?_cons_succ, List.getElem?_cons_zero]; exact rfl)
              go_simp
              refine hK.out _ _ ?_ (fun hHeld2 => ?_)
              · (try dsimp only); (first | exact kd | exact (HKs.out _ 0 _ (.int .i64 0)).1 | exact (HKs.out _ _ _ _).2)
              clear hK K hHeld
              have hHeld := hHeld2
              clear hHeld2
              try simp only [Act.put, List.setIfInBounds_toArray, List.set_cons_zero, List.set_cons_succ]
              refine takeH 28 (oi := ?oiq43) ?hiq43 (v := ?vq43) (by kernel_rfl) (by kernel_rfl) (by kernel_rfl) (fun _ _ _ h => h) ?hwq43 ?hyq43 hHeld ?_
              case hiq43 => (simp only [List.getElem?_toArray, List.getElem?_cons_succ, List.getElem?_cons_zero]; exact rfl)
              case hwq43 => rfl
              case hyq43 => (intro w hSw; (try dsimp only at hSw); go_simp; all_goals (with_reducible rfl))
              try simp only [Act.put, List.setIfInBounds_toArray, List.set_cons_zero, List.set_cons_succ]
              refine takeH 29 (oi := ?oiq44) ?hiq44 (v := ?vq44) (by kernel_rfl) (by kernel_rfl) (by kernel_rfl) (fun _ _ _ h => h) ?hwq44 ?hyq44 hHeld ?_
              case hiq44 => (simp only [List.getElem?_toArray, List.getElem?_cons_succ, List.getElem?_cons_zero]; exact rfl)
              case hwq44 => rfl
              case hyq44 => (intro w hSw; (try dsimp only at hSw); go_simp; all_goals (with_reducible rfl))
              try simp only [Act.put, List.setIfInBounds_toArray, List.set_cons_zero, List.set_cons_succ]
              refine runH 30 (oi := ?oiq45) ?hiq45 (by kernel_rfl) (fun K hK => ?_)
              case hiq45 => (simp only [List.getElem?_toArray, List.getElem?_cons_succ, List.getElem?_cons_zero]; exact rfl)
              go_simp
              refine hK.out _ _ ?_ (fun hHeld2 => ?_)
              · (try dsimp only); (first | exact kd | exact (HKs.out _ 0 _ (.int .i64 0)).1 | exact (HKs.out _ _ _ _).2)
              clear hK K hHeld
              have hHeld := hHeld2
              clear hHeld2
              try simp only [Act.put, List.setIfInBounds_toArray, List.set_cons_zero, List.set_cons_succ]
              refine wpAnyH_done (by kernel_rfl) ?_ _
              refine NoPanic.normal ?_
              clear hHeld
              go_wp2_with fail
              go_meet
              first | exact HE.out _ rfl | (unfold Hid; simpa using HE.out _ rfl)
        case bz18 =>
          go_simp
          refine hK.out _ _ ?_ (fun hHeld2 => ?_)
          · (try dsimp only); (first | exact kd | exact (HKs.out _ 0 _ (.int .i64 0)).1 | exact (HKs.out _ _ _ _).2)
          clear hK K hHeld
          have hHeld := hHeld2
          clear hHeld2
          try simp only [Act.put, List.setIfInBounds_toArray, List.set_cons_zero, List.set_cons_succ]
          refine takeH 16 (oi := ?oiq46) ?hiq46 (v := ?vq46) (by kernel_rfl) (by kernel_rfl) (by kernel_rfl) (fun _ _ _ h => h) ?hwq46 ?hyq46 hHeld ?_
          case hiq46 => (simp only [List.getElem?_toArray, List.getElem?_cons_succ, List.getElem?_cons_zero]; exact rfl)
          case hwq46 => rfl
          case hyq46 => (intro w hSw; (try dsimp only at hSw); go_simp; all_goals (with_reducible rfl))
          try simp only [Act.put, List.setIfInBounds_toArray, List.set_cons_zero, List.set_cons_succ]
          refine wpAnyH_ready (rs := [8, 22]) (by kernel_rfl) (by simp) (AllReadyH.cons (i := 8) (o := ?oz48) ?hz48 (fun K hK => ?bz48) (AllReadyH.cons (i := 22) (o := ?oz47) ?hz47 (fun K hK => ?bz47) AllReadyH.nil))
          case hz48 => (simp only [List.getElem?_toArray, List.getElem?_cons_succ, List.getElem?_cons_zero]; exact rfl)
          case hz47 => (simp only [List.getElem?_toArray, List.getElem?_cons_succ, List.getElem?_cons_zero]; exact rfl)
          case bz48 =>
            go_simp
            refine hK.out _ _ ?_ (fun hHeld2 => ?_)
            · (try dsimp only); (first | exact kd | exact (HKs.out _ 0 _ (.int .i64 0)).1 | exact (HKs.out _ _ _ _).2)
            clear hK K hHeld
            have hHeld := hHeld2
            clear hHeld2
            try simp only [Act.put, List.setIfInBounds_toArray, List.set_cons_zero, List.set_cons_succ]
            refine takeH 9 (oi := ?oiq49) ?hiq49 (v := ?vq49) (by kernel_rfl) (by kernel_rfl) (by kernel_rfl) (fun _ _ _ h => h) ?hwq49 ?hyq49 hHeld ?_
            case hiq49 => (simp only [List.getElem?_toArray, List.getElem?_cons_succ, List.getElem?_cons_zero]; exact rfl)
            case hwq49 => rfl
            case hyq49 => (intro w hSw; (try dsimp only at hSw); go_simp; all_goals (with_reducible rfl))
            try simp only [Act.put, List.setIfInBounds_toArray, List.set_cons_zero, List.set_cons_succ]
            refine takeH 10 (oi := ?oiq50) ?hiq50 (v := ?vq50) (by kernel_rfl) (by kernel_rfl) (by kernel_rfl) (fun _ _ _ h => h) ?hwq50 ?hyq50 hHeld ?_
            case hiq50 => (simp only [List.getElem?_toArray, List.getElem?_cons_succ, List.getElem?_cons_zero]; exact rfl)
            case hwq50 => rfl
            case hyq50 => (intro w hSw; (try dsimp only at hSw); go_simp; all_goals (with_reducible rfl))
            try simp only [Act.put, List.setIfInBounds_toArray, List.set_cons_zero, List.set_cons_succ]
            refine takeH 17 (oi := ?oiq51) ?hiq51 (v := ?vq51) (by kernel_rfl) (by kernel_rfl) (by kernel_rfl) (fun _ _ _ h => h) ?hwq51 ?hyq51 hHeld ?_
            case hiq51 => (simp only [List.getElem?_toArray, List.getElem?_cons_succ, List.getElem?_cons_zero]; exact rfl)
            case hwq51 => rfl
            case hyq51 => (intro w hSw; (try dsimp only at hSw); go_simp; all_goals (with_reducible rfl))
            try simp only [Act.put, List.setIfInBounds_toArray, List.set_cons_zero, List.set_cons_succ]
            refine wpAnyH_ready (rs := [22]) (by kernel_rfl) (by simp) (AllReadyH.cons (i := 22) (o := ?oz52) ?hz52 (fun K hK => ?bz52) AllReadyH.nil)
            case hz52 => (simp only [List.getElem?_toArray, List.getElem?_cons_succ, List.getElem?_cons_zero]; exact rfl)
            case bz52 =>
              go_simp
              refine hK.out _ _ ?_ (fun hHeld2 => ?_)
              · (try dsimp only); (first | exact kd | exact (HKs.out _ 0 _ (.int .i64 0)).1 | exact (HKs.out _ _ _ _).2)
              clear hK K hHeld
              have hHeld := hHeld2
              clear hHeld2
              try simp only [Act.put, List.setIfInBounds_toArray, List.set_cons_zero, List.set_cons_succ]
              refine takeH 23 (oi := ?oiq53) ?hiq53 (v := ?vq53) (by kernel_rfl) (by kernel_rfl) (by kernel_rfl) (fun _ _ _ h => h) ?hwq53 ?hyq53 hHeld ?_
              case hiq53 => (simp only [List.getElem?_toArray, List.getElem?_cons_succ, List.getElem?_cons_zero]; exact rfl)
              case hwq53 => rfl
              case hyq53 => (intro w hSw; (try dsimp only at hSw); go_simp; all_goals (with_reducible rfl))
              try simp only [Act.put, List.setIfInBounds_toArray, List.set_cons_zero, List.set_cons_succ]
              refine takeH 24 (oi := ?oiq54) ?hiq54 (v := ?vq54) (by kernel_rfl) (by kernel_rfl) (by kernel_rfl) (fun _ _ _ h => h) ?hwq54 ?hyq54 hHeld ?_
              case hiq54 => (simp only [List.getElem?_toArray, List.getElem?_cons_succ, List.getElem?_cons_zero]; exact rfl)
              case hwq54 => rfl
              case hyq54 => (intro w hSw; (try dsimp only at hSw); go_simp; all_goals (with_reducible rfl))
              try simp only [Act.put, List.setIfInBounds_toArray, List.set_cons_zero, List.set_cons_succ]
              refine takeH 25 (oi := ?oiq55) ?hiq55 (v := ?vq55) (by kernel_rfl) (by kernel_rfl) (by kernel_rfl) (fun _ _ _ h => h) ?hwq55 ?hyq55 hHeld ?_
              case hiq55 => (simp only [List.getElem?_toArray, List.getElem?_cons_succ, List.getElem?_cons_zero]; exact rfl)
              case hwq55 => rfl
              case hyq55 => (intro w hSw; (try dsimp only at hSw); go_simp; all_goals (with_reducible rfl))
              try simp only [Act.put, List.setIfInBounds_toArray, List.set_cons_zero, List.set_cons_succ]
              refine takeH 26 (oi := ?oiq56) ?hiq56 (v := ?vq56) (by kernel_rfl) (by kernel_rfl) (by kernel_rfl) (fun _ _ _ h => h) ?hwq56 ?hyq56 hHeld ?_
              case hiq56 => (simp only [List.getElem?_toArray, List.getElem?_cons_succ, List.getElem?_cons_zero]; exact rfl)
              case hwq56 => rfl
              case hyq56 => (intro w hSw; (try dsimp only at hSw); go_simp; all_goals (with_reducible rfl))
              try simp only [Act.put, List.setIfInBounds_toArray, List.set_cons_zero, List.set_cons_succ]
              refine runH 27 (oi := ?oiq57) ?hiq57 (by kernel_rfl) (fun K hK => ?_)
              case hiq57 => (simp only [List.getElem?_toArray, List.getElem?_cons_succ, List.getElem?_cons_zero]; exact rfl)
              go_simp
              refine hK.out _ _ ?_ (fun hHeld2 => ?_)
              · (try dsimp only); (first | exact kd | exact (HKs.out _ 0 _ (.int .i64 0)).1 | exact (HKs.out _ _ _ _).2)
              clear hK K hHeld
              have hHeld := hHeld2
              clear hHeld2
              try simp only [Act.put, List.setIfInBounds_toArray, List.set_cons_zero, List.set_cons_succ]
              refine takeH 28 (oi := ?oiq58) ?hiq58 (v := ?vq58) (by kernel_rfl) (by kernel_rfl) (by kernel_rfl) (fun _ _ _ h => h) ?hwq58 ?hyq58 hHeld ?_
              case hiq58 => (simp only [List.getElem?_toArray, List.getElem?_cons_succ, List.getElem?_cons_zero]; exact rfl)
              case hwq58 => rfl
              case hyq58 => (intro w hSw; (try dsimp only at hSw); go_simp; all_goals (with_reducible rfl))
              try simp only [Act.put, List.setIfInBounds_toArray, List.set_cons_zero, List.set_cons_succ]
              refine takeH 29 (oi := ?oiq59) ?hiq59 (v := ?vq59) (by kernel_rfl) (by kernel_rfl) (by kernel_rfl) (fun _ _ _ h => h) ?hwq59 ?hyq59 hHeld ?_
              case hiq59 => (simp only [List.getElem?_toArray, List.getElem?_cons_succ, List.getElem?_cons_zero]; exact rfl)
              case hwq59 => rfl
              case hyq59 => (intro w hSw; (try dsimp only at hSw); go_simp; all_goals (with_reducible rfl))
              try simp only [Act.put, List.setIfInBounds_toArray, List.set_cons_zero, List.set_cons_succ]
              refine runH 30 (oi := ?oiq60) ?hiq60 (by kernel_rfl) (fun K hK => ?_)
              case hiq60 => (simp only [List.getElem?_toArray, List.getElem?_cons_succ, List.getElem?_cons_zero]; exact rfl)
              go_simp
              refine hK.out _ _ ?_ (fun hHeld2 => ?_)
              · (try dsimp only); (first | exact kd | exact (HKs.out _ 0 _ (.int .i64 0)).1 | exact (HKs.out _ _ _ _).2)
              clear hK K hHeld
              have hHeld := hHeld2
              clear hHeld2
              try simp only [Act.put, List.setIfInBounds_toArray, List.set_cons_zero, List.set_cons_succ]
              refine wpAnyH_done (by kernel_rfl) ?_ _
              refine NoPanic.normal ?_
              clear hHeld
              go_wp2_with fail
              go_meet
              first | exact HE.out _ rfl | (unfold Hid; simpa using HE.out _ rfl)
          case bz47 =>
            go_simp
            refine hK.out _ _ ?_ (fun hHeld2 => ?_)
            · (try dsimp only); (first | exact kd | exact (HKs.out _ 0 _ (.int .i64 0)).1 | exact (HKs.out _ _ _ _).2)
            clear hK K hHeld
            have hHeld := hHeld2
            clear hHeld2
            try simp only [Act.put, List.setIfInBounds_toArray, List.set_cons_zero, List.set_cons_succ]
            refine takeH 23 (oi := ?oiq61) ?hiq61 (v := ?vq61) (by kernel_rfl) (by kernel_rfl) (by kernel_rfl) (fun _ _ _ h => h) ?hwq61 ?hyq61 hHeld ?_
            case hiq61 => (simp only [List.getElem?_toArray, List.getElem?_cons_succ, List.getElem?_cons_zero]; exact rfl)
            case hwq61 => rfl
            case hyq61 => (intro w hSw; (try dsimp only at hSw); go_simp; all_goals (with_reducible rfl))
            try simp only [Act.put, List.setIfInBounds_toArray, List.set_cons_zero, List.set_cons_succ]
            refine takeH 24 (oi := ?oiq62) ?hiq62 (v := ?vq62) (by kernel_rfl) (by kernel_rfl) (by kernel_rfl) (fun _ _ _ h => h) ?hwq62 ?hyq62 hHeld ?_
            case hiq62 => (simp only [List.getElem?_toArray, List.getElem?_cons_succ, List.getElem?_cons_zero]; exact rfl)
            case hwq62 => rfl
            case hyq62 => (intro w hSw; (try dsimp only at hSw); go_simp; all_goals (with_reducible rfl))
            try simp only [Act.put, List.setIfInBounds_toArray, List.set_cons_zero, List.set_cons_succ]
            refine wpAnyH_ready (rs := [8]) (by kernel_rfl) (by simp) (AllReadyH.cons (i := 8) (o := ?oz63) ?hz63 (fun K hK => ?bz63) AllReadyH.nil)
            case hz63 => (simp only [List.getElem?_toArray, List.getElem?_cons_succ, List.getElem?_cons_zero]; exact rfl)
            case bz63 =>
              go_simp
              refine hK.out _ _ ?_ (fun hHeld2 => ?_)
              · (try dsimp only); (first | exact kd | exact (HKs.out _ 0 _ (.int .i64 0)).1 | exact (HKs.out _ _ _ _).2)
              clear hK K hHeld
              have hHeld := hHeld2
              clear hHeld2
              try simp only [Act.put, List.setIfInBounds_toArray, List.set_cons_zero, List.set_cons_succ]
              refine takeH 9 (oi := ?oiq64) ?hiq64 (v := ?vq64) (by kernel_rfl) (by kernel_rfl) (by kernel_rfl) (fun _ _ _ h => h) ?hwq64 ?hyq64 hHeld ?_
              case hiq64 => (simp only [List.getElem?_toArray, List.getElem?_cons_succ, List.getElem?_cons_zero]; exact rfl)
              case hwq64 => rfl
              case hyq64 => (intro w hSw; (try dsimp only at hSw); go_simp; all_goals (with_reducible rfl))
              try simp only [Act.put, List.setIfInBounds_toArray, List.set_cons_zero, List.set_cons_succ]
              refine takeH 10 (oi := ?oiq65) ?hiq65 (v := ?vq65) (by kernel_rfl) (by kernel_rfl) (by kernel_rfl) (fun _ _ _ h => h) ?hwq65 ?hyq65 hHeld ?_
              case hiq65 => (simp only [List.getElem?_toArray, List.getElem?_cons_succ, List.getElem?_cons_zero]; exact rfl)
              case hwq65 => rfl
              case hyq65 => (intro w hSw; (try dsimp only at hSw); go_simp; all_goals (with_reducible rfl))
              try simp only [Act.put, List.setIfInBounds_toArray, List.set_cons_zero, List.set_cons_succ]
              refine takeH 17 (oi := ?oiq66) ?hiq66 (v := ?vq66) (by kernel_rfl) (by kernel_rfl) (by kernel_rfl) (fun _ _ _ h => h) ?hwq66 ?hyq66 hHeld ?_
              case hiq66 => (simp only [List.getElem?_toArray, List.getElem?_cons_succ, List.getElem?_cons_zero]; exact rfl)
              case hwq66 => rfl
              case hyq66 => (intro w hSw; (try dsimp only at hSw); go_simp; all_goals (with_reducible rfl))
              try simp only [Act.put, List.setIfInBounds_toArray, List.set_cons_zero, List.set_cons_succ]
              refine takeH 25 (oi := ?oiq67) ?hiq67 (v := ?vq67) (by kernel_rfl) (by kernel_rfl) (by kernel_rfl) (fun _ _ _ h => h) ?hwq67 ?hyq67 hHeld ?_
              case hiq67 => (simp only [List.getElem?_toArray, List.getElem?_cons_succ, List.getElem?_cons_zero]; exact rfl)
              case hwq67 => rfl
              case hyq67 => (intro w hSw; (try dsimp only at hSw); go_simp; all_goals (with_reducible rfl))
              try simp only [Act.put, List.setIfInBounds_toArray, List.set_cons_zero, List.set_cons_succ]
              refine takeH 26 (oi := ?oiq68) ?hiq68 (v := ?vq68) (by kernel_rfl) (by kernel_rfl) (by kernel_rfl) (fun _ _ _ h => h) ?hwq68 ?hyq68 hHeld ?_
              case hiq68 => (simp only [List.getElem?_toArray, List.getElem?_cons_succ, List.getElem?_cons_zero]; exact rfl)
              case hwq68 => rfl
              case hyq68 => (intro w hSw; (try dsimp only at hSw); go_simp; all_goals (with_reducible rfl))
              try simp only [Act.put, List.setIfInBounds_toArray, List.set_cons_zero, List.set_cons_succ]
              refine runH 27 (oi := ?oiq69) ?hiq69 (by kernel_rfl) (fun K hK => ?_)
              case hiq69 => (simp only [List.getElem?_toArray, List.getElem?_cons_succ, List.getElem?_cons_zero]; exact rfl)
              go_simp
              refine hK.out _ _ ?_ (fun hHeld2 => ?_)
              · (try dsimp only); (first | exact kd | exact (HKs.out _ 0 _ (.int .i64 0)).1 | exact (HKs.out _ _ _ _).2)
              clear hK K hHeld
              have hHeld := hHeld2
              clear hHeld2
              try simp only [Act.put, List.setIfInBounds_toArray, List.set_cons_zero, List.set_cons_succ]
              refine takeH 28 (oi := ?oiq70) ?hiq70 (v := ?vq70) (by kernel_rfl) (by kernel_rfl) (by kernel_rfl) (fun _ _ _ h => h) ?hwq70 ?hyq70 hHeld ?_
              case hiq70 => (simp only [List.getElem?_toArray, List.getElem?_cons_succ, List.getElem?_cons_zero]; exact rfl)
              case hwq70 => rfl
              case hyq70 => (intro w hSw; (try dsimp only at hSw); go_simp; all_goals (with_reducible rfl))
              try simp only [Act.put, List.setIfInBounds_toArray, List.set_cons_zero, List.set_cons_succ]
              refine takeH 29 (oi := ?oiq71) ?hiq71 (v := ?vq71) (by kernel_rfl) (by kernel_rfl) (by kernel_rfl) (fun _ _ _ h => h) ?hwq71 ?hyq71 hHeld ?_
              case hiq71 => (simp only [List.getElem?_toArray, List.getElem?_cons_succ, List.getElem?_cons_zero]; exact rfl)
              case hwq71 => rfl
              case hyq71 => (intro w hSw; (try dsimp only at hSw); go_simp; all_goals (with_reducible rfl))
              try simp only [Act.put, List.setIfInBounds_toArray, List.set_cons_zero, List.set_cons_succ]
              refine runH 30 (oi := ?oiq72) ?hiq72 (by kernel_rfl) (fun K hK => ?_)
              case hiq72 => (simp only [List.getElem?_toArray, List.getElem?_cons_succ, List.getElem?_cons_zero]; exact rfl)
              go_simp
              refine hK.out _ _ ?_ (fun hHeld2 => ?_)
              · (try dsimp only); (first | exact kd | exact (HKs.out _ 0 _ (.int .i64 0)).1 | exact (HKs.out _ _ _ _).2)
              clear hK K hHeld
              have hHeld := hHeld2
              clear hHeld2
              try simp only [Act.put, List.setIfInBounds_toArray, List.set_cons_zero, List.set_cons_succ]
              refine wpAnyH_done (by kernel_rfl) ?_ _
              refine NoPanic.normal ?_
              clear hHeld
              go_wp2_with fail
              go_meet
              first | exact HE.out _ rfl | (unfold Hid; simpa using HE.out _ rfl)
        case bz17 =>
          go_simp
          refine hK.out _ _ ?_ (fun hHeld2 => ?_)
          · (try dsimp only); (first | exact kd | exact (HKs.out _ 0 _ (.int .i64 0)).1 | exact (HKs.out _ _ _ _).2)
          clear hK K hHeld
          have hHeld := hHeld2
          clear hHeld2
          try simp only [Act.put, List.setIfInBounds_toArray, List.set_cons_zero, List.set_cons_succ]
          refine takeH 23 (oi := ?oiq73) ?hiq73 (v := ?vq73) (by kernel_rfl) (by kernel_rfl) (by kernel_rfl) (fun _ _ _ h => h) ?hwq73 ?hyq73 hHeld ?_
          case hiq73 => (simp only [List.getElem?_toArray, List.getElem?_cons_succ, List.getElem?_cons_zero]; exact rfl)
          case hwq73 => rfl
          case hyq73 => (intro w hSw; (try dsimp only at hSw); go_simp; all_goals (with_reducible rfl))
          try simp only [Act.put, List.setIfInBounds_toArray, List.set_cons_zero, List.set_cons_succ]
          refine takeH 24 (oi := ?oiq74) ?hiq74 (v := ?vq74) (by kernel_rfl) (by kernel_rfl) (by kernel_rfl) (fun _ _ _ h => h) ?hwq74 ?hyq74 hHeld ?_
          case hiq74 => (simp only [List.getElem?_toArray, List.getElem?_cons_succ, List.getElem?_cons_zero]; exact rfl)
          case hwq74 => rfl
          case hyq74 => (intro w hSw; (try dsimp only at hSw); go_simp; all_goals (with_reducible rfl))
          try simp only [Act.put, List.setIfInBounds_toArray, List.set_cons_zero, List.set_cons_succ]
          refine wpAnyH_ready (rs := [8, 15]) (by kernel_rfl) (by simp) (AllReadyH.cons (i := 8) (o := ?oz76) ?hz76 (fun K hK => ?bz76) (AllReadyH.cons (i := 15) (o := ?oz75) ?hz75 (fun K hK => ?bz75) AllReadyH.nil))
          case hz76 => (simp only [List.getElem?_toArray, List.getElem?_cons_succ, List.getElem?_cons_zero]; exact rfl)
          case hz75 => (simp only [List.getElem?_toArray, List.getElem?_cons_succ, List.getElem?_cons_zero]; exact rfl)
          case bz76 =>
            go_simp
            refine hK.out _ _ ?_ (fun hHeld2 => ?_)
            · (try dsimp only); (first | exact kd | exact (HKs.out _ 0 _ (.int .i64 0)).1 | exact (HKs.out _ _ _ _).2)
            clear hK K hHeld
            have hHeld := hHeld2
            clear hHeld2
            try simp only [Act.put, List.setIfInBounds_toArray, List.set_cons_zero, List.set_cons_succ]
            refine takeH 9 (oi := ?oiq77) ?hiq77 (v := ?vq77) (by kernel_rfl) (by kernel_rfl) (by kernel_rfl) (fun _ _ _ h => h) ?hwq77 ?hyq77 hHeld ?_
            case hiq77 => (simp only [List.getElem?_toArray, List.getElem?_cons_succ, List.getElem?_cons_zero]; exact rfl)
            case hwq77 => rfl
            case hyq77 => (intro w hSw; (try dsimp only at hSw); go_simp; all_goals (with_reducible rfl))
            try simp only [Act.put, List.setIfInBounds_toArray, List.set_cons_zero, List.set_cons_succ]
            refine takeH 10 (oi := ?oiq78) ?hiq78 (v := ?vq78) (by kernel_rfl) (by kernel_rfl) (by kernel_rfl) (fun _ _ _ h => h) ?hwq78 ?hyq78 hHeld ?_
            case hiq78 => (simp only [List.getElem?_toArray, List.getElem?_cons_succ, List.getElem?_cons_zero]; exact rfl)
            case hwq78 => rfl
            case hyq78 => (intro w hSw; (try dsimp only at hSw); go_simp; all_goals (with_reducible rfl))
            try simp only [Act.put, List.setIfInBounds_toArray, List.set_cons_zero, List.set_cons_succ]
            refine wpAnyH_ready (rs := [15]) (by kernel_rfl) (by simp) (AllReadyH.cons (i := 15) (o := ?oz79) ?hz79 (fun K hK => ?bz79) AllReadyH.nil)
            case hz79 => (simp only [List.getElem?_toArray, List.getElem?_cons_succ, List.getElem?_cons_zero]; exact rfl)
            case bz79 =>
              go_simp
              refine hK.out _ _ ?_ (fun hHeld2 => ?_)
              · (try dsimp only); (first | exact kd | exact (HKs.out _ 0 _ (.int .i64 0)).1 | exact (HKs.out _ _ _ _).2)
              clear hK K hHeld
              have hHeld := hHeld2
              clear hHeld2
              try simp only [Act.put, List.setIfInBounds_toArray, List.set_cons_zero, List.set_cons_succ]
              refine takeH 16 (oi := ?oiq80) ?hiq80 (v := ?vq80) (by kernel_rfl) (by kernel_rfl) (by kernel_rfl) (fun _ _ _ h => h) ?hwq80 ?hyq80 hHeld ?_
              case hiq80 => (simp only [List.getElem?_toArray, List.getElem?_cons_succ, List.getElem?_cons_zero]; exact rfl)
              case hwq80 => rfl
              case hyq80 => (intro w hSw; (try dsimp only at hSw); go_simp; all_goals (with_reducible rfl))
              try simp only [Act.put, List.setIfInBounds_toArray, List.set_cons_zero, List.set_cons_succ]
              refine takeH 17 (oi := ?oiq81) ?hiq81 (v := ?vq81) (by kernel_rfl) (by kernel_rfl) (by kernel_rfl) (fun _ _ _ h => h) ?hwq81 ?hyq81 hHeld ?_
              case hiq81 => (simp only [List.getElem?_toArray, List.getElem?_cons_succ, List.getElem?_cons_zero]; exact rfl)
              case hwq81 => rfl
              case hyq81 => (intro w hSw; (try dsimp only at hSw); go_simp; all_goals (with_reducible rfl))
              try simp only [Act.put, List.setIfInBounds_toArray, List.set_cons_zero, List.set_cons_succ]
              refine takeH 25 (oi := ?oiq82) ?hiq82 (v := ?vq82) (by kernel_rfl) (by kernel_rfl) (by kernel_rfl) (fun _ _ _ h => h) ?hwq82 ?hyq82 hHeld ?_
              case hiq82 => (simp only [List.getElem?_toArray, List.getElem?_cons_succ, List.getElem?_cons_zero]; exact rfl)
              case hwq82 => rfl
              case hyq82 => (intro w hSw; (try dsimp only at hSw); go_simp; all_goals (with_reducible rfl))
              try simp only [Act.put, List.setIfInBounds_toArray, List.set_cons_zero, List.set_cons_succ]
              refine takeH 26 (oi := ?oiq83) ?hiq83 (v := ?vq83) (by kernel_rfl) (by kernel_rfl) (by kernel_rfl) (fun _ _ _ h => h) ?hwq83 ?hyq83 hHeld ?_
              case hiq83 => (simp only [List.getElem?_toArray, List.getElem?_cons_succ, List.getElem?_cons_zero]; exact rfl)
              case hwq83 => rfl
              case hyq83 => (intro w hSw; (try dsimp only at hSw); go_simp; all_goals (with_reducible rfl))
              try simp only [Act.put, List.setIfInBounds_toArray, List.set_cons_zero, List.set_cons_succ]
              refine runH 27 (oi := ?oiq84) ?hiq84 (by kernel_rfl) (fun K hK => ?_)
              case hiq84 => (simp only [List.getElem?_toArray, List.getElem?_cons_succ, List.getElem?_cons_zero]; exact rfl)
              go_simp
              refine hK.out _ _ ?_ (fun hHeld2 => ?_)
              · (try dsimp only); (first | exact kd | exact (HKs.out _ 0 _ (.int .i64 0)).1 | exact (HKs.out _ _ _ _).2)
              clear hK K hHeld
              have hHeld := hHeld2
              clear hHeld2
              try simp only [Act.put, List.setIfInBounds_toArray, List.set_cons_zero, List.set_cons_succ]
              refine takeH 28 (oi := ?oiq85) ?hiq85 (v := ?vq85) (by kernel_rfl) (by kernel_rfl) (by kernel_rfl) (fun _ _ _ h => h) ?hwq85 ?hyq85 hHeld ?_
              case hiq85 => (simp only [List.getElem?_toArray, List.getElem?_cons_succ, List.getElem?_cons_zero]; exact rfl)
              case hwq85 => rfl
              case hyq85 => (intro w hSw; (try dsimp only at hSw); go_simp; all_goals (with_reducible rfl))
              try simp only [Act.put, List.setIfInBounds_toArray, List.set_cons_zero, List.set_cons_succ]
              refine takeH 29 (oi := ?oiq86) ?hiq86 (v := ?vq86) (by kernel_rfl) (by kernel_rfl) (by kernel_rfl) (fun _ _ _ h => h) ?hwq86 ?hyq86 hHeld ?_
              case hiq86 => (simp only [List.getElem?_toArray, List.getElem?_cons_succ, List.getElem?_cons_zero]; exact rfl)
              case hwq86 => rfl
              case hyq86 => (intro w hSw; (try dsimp only at hSw); go_simp; all_goals (with_reducible rfl))
              try simp only [Act.put, List.setIfInBounds_toArray, List.set_cons_zero, List.set_cons_succ]
              refine runH 30 (oi := ?oiq87) ?hiq87 (by kernel_rfl) (fun K hK => ?_)
              case hiq87 => (simp only [List.getElem?_toArray, List.getElem?_cons_succ, List.getElem?_cons_zero]; exact rfl)
              go_simp
              refine hK.out _ _ ?_ (fun hHeld2 => ?_)
              · (try dsimp only); (first | exact kd | exact (HKs.out _ 0 _ (.int .i64 0)).1 | exact (HKs.out _ _ _ _).2)
              clear hK K hHeld
              have hHeld := hHeld2
              clear hHeld2
              try simp only [Act.put, List.setIfInBounds_toArray, List.set_cons_zero, List.set_cons_succ]
              refine wpAnyH_done (by kernel_rfl) ?_ _
              refine NoPanic.normal ?_
              clear hHeld
              go_wp2_with fail
              go_meet
              first | exact HE.out _ rfl | (unfold Hid; simpa using HE.out _ rfl)
          case bz75 =>
            go_simp
            refine hK.out _ _ ?_ (fun hHeld2 => ?_)
            · (try dsimp only); (first | exact kd | exact (HKs.out _ 0 _ (.int .i64 0)).1 | exact (HKs.out _ _ _ _).2)
            clear hK K hHeld
            have hHeld := hHeld2
            clear hHeld2
            try simp only [Act.put, List.setIfInBounds_toArray, List.set_cons_zero, List.set_cons_succ]
            refine takeH 16 (oi := ?oiq88) ?hiq88 (v := ?vq88) (by kernel_rfl) (by kernel_rfl) (by kernel_rfl) (fun _ _ _ h => h) ?hwq88 ?hyq88 hHeld ?_
            case hiq88 => (simp only [List.getElem?_toArray, List.getElem?_cons_succ, List.getElem?_cons_zero]; exact rfl)
            case hwq88 => rfl
            case hyq88 => (intro w hSw; (try dsimp only at hSw); go_simp; all_goals (with_reducible rfl))
            try simp only [Act.put, List.setIfInBounds_toArray, List.set_cons_zero, List.set_cons_succ]
            refine wpAnyH_ready (rs := [8]) (by kernel_rfl) (by simp) (AllReadyH.cons (i := 8) (o := ?oz89) ?hz89 (fun K hK => ?bz89) AllReadyH.nil)
            case hz89 => (simp only [List.getElem?_toArray, List.getElem?_cons_succ, List.getElem?_cons_zero]; exact rfl)
            case bz89 =>
              go_simp
              refine hK.out _ _ ?_ (fun hHeld2 => ?_)
              · (try dsimp only); (first | exact kd | exact (HKs.out _ 0 _ (.int .i64 0)).1 | exact (HKs.out _ _ _ _).2)
              clear hK K hHeld
              have hHeld := hHeld2
              clear hHeld2
              try simp only [Act.put, List.setIfInBounds_toArray, List.set_cons_zero, List.set_cons_succ]
              refine takeH 9 (oi := ?oiq90) ?hiq90 (v := ?vq90) (by kernel_rfl) (by kernel_rfl) (by kernel_rfl) (fun _ _ _ h => h) ?hwq90 ?hyq90 hHeld ?_
              case hiq90 => (simp only [List.getElem?_toArray, List.getElem?_cons_succ, List.getElem?_cons_zero]; exact rfl)
              case hwq90 => rfl
              case hyq90 => (intro w hSw; (try dsimp only at hSw); go_simp; all_goals (with_reducible rfl))
              try simp only [Act.put, List.setIfInBounds_toArray, List.set_cons_zero, List.set_cons_succ]
              refine takeH 10 (oi := ?oiq91) ?hiq91 (v := ?vq91) (by kernel_rfl) (by kernel_rfl) (by kernel_rfl) (fun _ _ _ h => h) ?hwq91 ?hyq91 hHeld ?_
              case hiq91 => (simp only [List.getElem?_toArray, List.getElem?_cons_succ, List.getElem?_cons_zero]; exact rfl)
              case hwq91 => rfl
              case hyq91 => (intro w hSw; (try dsimp only at hSw); go_simp; all_goals (with_reducible rfl))
              try simp only [Act.put, List.setIfInBounds_toArray, List.set_cons_zero, List.set_cons_succ]
              refine takeH 17 (oi := ?oiq92) ?hiq92 (v := ?vq92) (by kernel_rfl) (by kernel_rfl) (by kernel_rfl) (fun _ _ _ h => h) ?hwq92 ?hyq92 hHeld ?_
              case hiq92 => (simp only [List.getElem?_toArray, List.getElem?_cons_succ, List.getElem?_cons_zero]; exact rfl)
              case hwq92 => rfl
              case hyq92 => (intro w hSw; (try dsimp only at hSw); go_simp; all_goals (with_reducible rfl))
              try simp only [Act.put, List.setIfInBounds_toArray, List.set_cons_zero, List.set_cons_succ]
              refine takeH 25 (oi := ?oiq93) ?hiq93 (v := ?vq93) (by kernel_rfl) (by kernel_rfl) (by kernel_rfl) (fun _ _ _ h => h) ?hwq93 ?hyq93 hHeld ?_
              case hiq93 => (simp only [List.getElem?_toArray, List.getElem?_cons_succ, List.getElem?_cons_zero]; exact rfl)
              case hwq93 => rfl
              case hyq93 => (intro w hSw; (try dsimp only at hSw); go_simp; all_goals (with_reducible rfl))
              try simp only [Act.put, List.setIfInBounds_toArray, List.set_cons_zero, List.set_cons_succ]
              refine takeH 26 (oi := ?oiq94) ?hiq94 (v := ?vq94) (by kernel_rfl) (by kernel_rfl) (by kernel_rfl) (fun _ _ _ h => h) ?hwq94 ?hyq94 hHeld ?_
              case hiq94 => (simp only [List.getElem?_toArray, List.getElem?_cons_succ, List.getElem?_cons_zero]; exact rfl)
              case hwq94 => rfl
              case hyq94 => (intro w hSw; (try dsimp only at hSw); go_simp; all_goals (with_reducible rfl))
              try simp only [Act.put, List.setIfInBounds_toArray, List.set_cons_zero, List.set_cons_succ]
              refine runH 27 (oi := ?oiq95) ?hiq95 (by kernel_rfl) (fun K hK => ?_)
              case hiq95 => (simp only [List.getElem?_toArray, List.getElem?_cons_succ, List.getElem?_cons_zero]; exact rfl)
              go_simp
              refine hK.out _ _ ?_ (fun hHeld2 => ?_)
              · (try dsimp only); (first | exact kd | exact (HKs.out _ 0 _ (.int .i64 0)).1 | exact (HKs.out _ _ _ _).2)
              clear hK K hHeld
              have hHeld := hHeld2
              clear hHeld2
              try simp only [Act.put, List.setIfInBounds_toArray, List.set_cons_zero, List.set_cons_succ]
              refine takeH 28 (oi := ?oiq96) ?hiq96 (v := ?vq96) (by kernel_rfl) (by kernel_rfl) (by kernel_rfl) (fun _ _ _ h => h) ?hwq96 ?hyq96 hHeld ?_
              case hiq96 => (simp only [List.getElem?_toArray, List.getElem?_cons_succ, List.getElem?_cons_zero]; exact rfl)
              case hwq96 => rfl
              case hyq96 => (intro w hSw; (try dsimp only at hSw); go_simp; all_goals (with_reducible rfl))
              try simp only [Act.put, List.setIfInBounds_toArray, List.set_cons_zero, List.set_cons_succ]
              refine takeH 29 (oi := ?oiq97) ?hiq97 (v := ?vq97) (by kernel_rfl) (by kernel_rfl) (by kernel_rfl) (fun _ _ _ h => h) ?hwq97 ?hyq97 hHeld ?_
              case hiq97 => (simp only [List.getElem?_toArray, List.getElem?_cons_succ, List.getElem?_cons_zero]; exact rfl)
              case hwq97 => rfl
              case hyq97 => (intro w hSw; (try dsimp only at hSw); go_simp; all_goals (with_reducible rfl))
              try simp only [Act.put, List.setIfInBounds_toArray, List.set_cons_zero, List.set_cons_succ]
              refine runH 30 (oi := ?oiq98) ?hiq98 (by kernel_rfl) (fun K hK => ?_)
              case hiq98 => (simp only [List.getElem?_toArray, List.getElem?_cons_succ, List.getElem?_cons_zero]; exact rfl)
              go_simp
              refine hK.out _ _ ?_ (fun hHeld2 => ?_)
              · (try dsimp only); (first | exact kd | exact (HKs.out _ 0 _ (.int .i64 0)).1 | exact (HKs.out _ _ _ _).2)
              clear hK K hHeld
              have hHeld := hHeld2
              clear hHeld2
              try simp only [Act.put, List.setIfInBounds_toArray, List.set_cons_zero, List.set_cons_succ]
              refine wpAnyH_done (by kernel_rfl) ?_ _
              refine NoPanic.normal ?_
              clear hHeld
              go_wp2_with fail
              go_meet
              first | exact HE.out _ rfl | (unfold Hid; simpa using HE.out _ rfl)
      case rest =>
      have HM := hcut
      clear hcut HSet m1 m2 z1 z2 kk k1
      have hbc := HM.out.2
      have HB : Hid (∀ W' : World, Below wc.heap.size wc W' → (W'.cell? ⟨gl, 0, none⟩ = some (.slice (some ⟨b0, off, none⟩) len cap) ∧ W'.cell? ⟨gw, 0, none⟩ = some (.int .i64 kn) ∧ W'.cell? ⟨gw, 1, none⟩ = some (.int .i64 ld) ∧ W'.cell? ⟨gw, 2, none⟩ = some (.int .i64 bd) ∧ W'.cell? ⟨gw, 3, none⟩ = some (.int .i64 pl)) ∧ W'.cell? ⟨gk, 0, none⟩ = some (.int .i64 (k : Int)) ∧ CsAt W' (some ⟨b0, off, none⟩) len cap l ∧ Below w.heap.size w W' ∧ Below w2.heap.size w2 W' ∧ CsAt W' (some ⟨g, 0, none⟩) len cm (l.set k ⟨x0, d1, e2, x3, x4, x5⟩)) := fun W' hb => by
        have h := hbc.trans (hb.mono hbc.size)
        obtain ⟨h1, h2, h3, h4⟩ := HW2.out W' h
        exact ⟨h1, h2, h3, h4, h, CsAt.own (own_below HM.out.1 hb)⟩
      have HXc := hid (HB.out wc (Below.refl _ _)).2.2.2.1
      have hcc := (HB.out wc (Below.refl _ _)).2.2.1
      have q1 := (HB.out wc (Below.refl _ _)).1.1
      have q2 := (HB.out wc (Below.refl _ _)).2.1
      obtain ⟨b0', off', ha', hc6⟩ := hcc.cell k hkl
      obtain ⟨rfl, rfl⟩ : b0 = b0' ∧ off = off' := by cases ha'; exact ⟨rfl, rfl⟩
      rw [HCk.out] at hc6
      have u1 := hc6.c1
      have u2 := hc6.c2
      simp only at u1 u2
      clear HM hbc hcc ha' hc6 HFl HW2
      by_cases t1 : x2 < 0
      · clear HB HTh2 HTW
        go_wp2_with fail
        with_reducible refine (alive19_any _).mono ?_
        rintro e wz ⟨rfl, HZ0⟩
        have HZ := hid (HXc.out.trans (HZ0.out.mono HXc.out.size))
        clear HZ0
        go_wp2_with fail
        go_ret
        exact ⟨rfl, HZ.out⟩
      · by_cases t2 : x1 < 0
        · clear HB HTh2 HTW
          go_wp2_with fail
          with_reducible refine (alive19_any _).mono ?_
          rintro e wz ⟨rfl, HZ0⟩
          have HZ := hid (HXc.out.trans (HZ0.out.mono HXc.out.size))
          clear HZ0
          go_wp2_with fail
          go_ret
          exact ⟨rfl, HZ.out⟩
        · by_cases t3 : 1099511627776 < x2
          · clear HB HTh2 HTW
            go_wp2_with fail
            with_reducible refine (alive19_any _).mono ?_
            rintro e wz ⟨rfl, HZ0⟩
            have HZ := hid (HXc.out.trans (HZ0.out.mono HXc.out.size))
            clear HZ0
            go_wp2_with fail
            go_ret
            exact ⟨rfl, HZ.out⟩
          · have hmk : mk = x2 := by rw [Hmk.out, if_neg t1]
            have he2 : e2 = x2 / 2 + x2 := by
              rw [He2.out, hmk, Int.tdiv_eq_ediv_of_nonneg (by omega), IntKind.wrap_i64]
              omega
            have hd1 : d1 = x1 / 2 := by rw [Hd1.out, if_neg t2, Int.tdiv_eq_ediv_of_nonneg (by omega)]
            have HVal : Hid (x2 ≤ e2 ∧ d1 ≤ x1 ∧ isI e2 ∧ isI d1) := ⟨by omega, by omega, ⟨by omega, by omega⟩, ⟨by have := hx1.2; omega, by have := hx1.2; omega⟩⟩
            clear Hmk He2 Hd1 hmk he2 hd1 hx1 hx2
            go_wp2_with fail
            clear u1 u2 q1 q2
            go_loopw [88] (fun z W' => ∃ j : Nat, j ≤ len ∧ z = .int .i64 j ∧ Hid ((∀ i, i < j → i ≠ k → (ck l i).rep ≠ x0) ∧ Below wc.heap.size wc W')) (fun z _ => len - (intOf z).toNat)
            case atStart => exact ⟨0, Nat.zero_le _, rfl, fun i hi => by omega, Below.refl _ _⟩
            case round =>
            obtain ⟨j, hj, rfl, HR⟩ := hrel
            rename World => wr
            have hbR := HB.out wr HR.out.2
            by_cases hjl : j < len
            · have g4 : (j : Int) < (len : Int) := by omega
              obtain ⟨b7, off7, ha7, hc7⟩ := hbR.2.2.1.cell j hjl
              obtain ⟨rfl, rfl⟩ : b0 = b7 ∧ off = off7 := by cases ha7; exact ⟨rfl, rfl⟩
              obtain ⟨w7, hw7⟩ : ∃ w7, w7 = wr.alloc (.cells #[.int .u64 (ck l j).rep, .int .i64 (ck l j).load, .int .i64 (ck l j).known, .bool (ck l j).bnd, .int .i64 (ck l j).place, .bool (ck l j).opn] 36) := ⟨_, rfl⟩
              have hb7 : Below wr.heap.size wr w7 := by rw [hw7]; exact (Below.refl _ _).alloc (Nat.le_refl _) _
              have hx7 : w7.heap[wr.heap.size]? = some (.cells #[.int .u64 (ck l j).rep, .int .i64 (ck l j).load, .int .i64 (ck l j).known, .bool (ck l j).bnd, .int .i64 (ck l j).place, .bool (ck l j).opn] 36 (0, 0)) := by rw [hw7]; exact heap_alloc_new wr _
              have hbw := HR.out.2.trans (hb7.mono HR.out.2.size)
              obtain ⟨n1, n2, n3, n4, _⟩ := HB.out w7 hbw
              have n1 := n1.1
              obtain ⟨b8, off8, ha8, hc8⟩ := n3.cell k hkl
              obtain ⟨rfl, rfl⟩ : b0 = b8 ∧ off = off8 := by cases ha8; exact ⟨rfl, rfl⟩
              have n5 := hc8.c0
              rw [HCk.out] at n5
              simp only at n5
              have n6 : w7.cell? ⟨wr.heap.size, 0, none⟩ = some (.int .u64 (ck l j).rep) := by rw [cell_of_row _ _ _ _ _ _ hx7]; rfl
              have HD7 : Hid (∀ nd, Below wc.heap.size wc (w7.drewN nd) ∧ Below w.heap.size w (w7.drewN nd)) := fun nd => ⟨⟨hbw.os, hbw.tape, hbw.output, hbw.size, hbw.block⟩, ⟨n4.os, n4.tape, n4.output, n4.size, n4.block⟩⟩
              have HRn := hid HR.out.1
              have HSame : Hid (j = k → ck l j = ⟨x0, x1, x2, x3, x4, x5⟩) := fun e => by rw [e]; exact HCk.out
              obtain ⟨p0, p1, p2, p3, p4, p5⟩ := hc7
              clear hbR hb7 hx7 hbw n3 n4 hc8 ha7 ha8 HR
              obtain ⟨c, hcj⟩ : ∃ c, ck l j = c := ⟨_, rfl⟩
              rw [hcj] at p0 p1 p2 p3 p4 p5 n6 hw7 HSame
              have HCj := hid hcj
              clear hcj
              obtain ⟨y0, y1, y2, y3, y4, y5⟩ := c
              simp only at p0 p1 p2 p3 p4 p5 n6 hw7
              by_cases hjk : j = k
              · have d1' : ((j : Int) != (k : Int)) = false := by simp [hjk]
                have HN2 : Hid (∀ i, i < j + 1 → i ≠ k → (ck l i).rep ≠ x0) := fun i hi hik => HRn.out i (by omega) hik
                clear HRn HSame HCj hjk
                go_wp2_with fail
                rw [← hw7]
                clear hw7
                go_quiet (fail)
                go_wp2_with fail
                go_round
                case rel => exact ⟨j + 1, by omega, by go_num, HN2.out, (HD7.out _).1⟩
                case measure => simp [intOf]; omega
              · have d1' : ((j : Int) != (k : Int)) = true := by simp; omega
                by_cases hyx : y0 = x0
                · have d2' : (y0 == x0) = true := by simp [hyx]
                  clear HRn HSame HCj hjk hyx
                  go_wp2_with fail
                  rw [← hw7]
                  clear hw7
                  go_quiet (fail)
                  have HXq := hid (HD7.out nq).2
                  clear HD7 HB HTh2 HTW
                  go_wp2_with fail
                  with_reducible refine (alive19_any _).mono ?_
                  rintro e wz ⟨rfl, HZ0⟩
                  have HZ := hid (HXq.out.trans (HZ0.out.mono HXq.out.size))
                  clear HZ0
                  go_wp2_with fail
                  go_ret
                  exact ⟨rfl, HZ.out⟩
                · have d2' : (y0 == x0) = false := by simp [hyx]
                  have HN2 : Hid (∀ i, i < j + 1 → i ≠ k → (ck l i).rep ≠ x0) := fun i hi hik => by
                    rcases (by omega : i < j ∨ i = j) with h | rfl
                    · exact HRn.out i h hik
                    · rw [HCj.out]; exact hyx
                  clear HRn HSame HCj hjk hyx
                  go_wp2_with fail
                  rw [← hw7]
                  clear hw7
                  go_quiet (fail)
                  go_wp2_with fail
                  go_round
                  case rel => exact ⟨j + 1, by omega, by go_num, HN2.out, (HD7.out _).1⟩
                  case measure => simp [intOf]; omega
            · have g4 : ¬ (j : Int) < (len : Int) := by omega
              obtain rfl : j = len := by omega
              have hkl2 : k < l.length := by rw [HL.out]; exact hkl
              have hck : l[k]? = some ⟨x0, x1, x2, x3, x4, x5⟩ := by rw [ck_get hkl2, HCk.out]
              have hun : ∀ i e, i ≠ k → l[i]? = some e → e.rep ≠ (⟨x0, x1, x2, x3, x4, x5⟩ : Cd).rep := fun i e hi he => by
                have hil : i < l.length := (List.getElem?_eq_some_iff.1 he).1
                have := HR.out.1 i (by rw [← HL.out]; exact hil) hi
                rwa [ck_of he] at this
              have hmI : ∀ c ∈ l.set k ⟨x0, d1, e2, x3, x4, x5⟩, CdIn c := fun c hc => by
                rcases List.mem_or_eq_of_mem_set hc with h | rfl
                · exact HI.out c h
                · exact ⟨HkI.out.rep, HVal.out.2.2.2, HVal.out.2.2.1, HkI.out.place⟩
              have HOr := hid fun (a' : Option Addr) (cap' : Nat) (W : World) (h : CsAt W a' j cap' l) => order_any a' j cap' l ⟨kn, ld, bd, pl⟩ W h hl HI.out HQ.out
              have HOm := hid fun (a' : Option Addr) (cap' : Nat) (W : World) (h : CsAt W a' j cap' (l.set k ⟨x0, d1, e2, x3, x4, x5⟩)) => order_any a' j cap' _ ⟨kn, ld, bd, pl⟩ W h hl hmI HQ.out
              unfold WtV at HOr HOm
              simp only at HOr HOm
              have hlen1 := ordC_len ⟨kn, ld, bd, pl⟩ l
              have hlen2 := ordC_len ⟨kn, ld, bd, pl⟩ (l.set k ⟨x0, d1, e2, x3, x4, x5⟩)
              rw [List.length_set] at hlen2
              rw [HL.out] at hlen1 hlen2
              have hcas : (x5 = true ∧ 0 ≤ plZ ((ordC ⟨kn, ld, bd, pl⟩ l).map Cd.rep) x0 ∧ 0 ≤ plZ ((ordC ⟨kn, ld, bd, pl⟩ (l.set k ⟨x0, d1, e2, x3, x4, x5⟩)).map Cd.rep) x0 ∧ plZ ((ordC ⟨kn, ld, bd, pl⟩ (l.set k ⟨x0, d1, e2, x3, x4, x5⟩)).map Cd.rep) x0 ≤ plZ ((ordC ⟨kn, ld, bd, pl⟩ l).map Cd.rep) x0) ∨ (x5 = false ∧ plZ ((ordC ⟨kn, ld, bd, pl⟩ l).map Cd.rep) x0 = -1 ∧ plZ ((ordC ⟨kn, ld, bd, pl⟩ (l.set k ⟨x0, d1, e2, x3, x4, x5⟩)).map Cd.rep) x0 = -1) := by
                cases ho : x5 with
                | true =>
                  left
                  rw [ho] at hck hun
                  exact ⟨rfl, ordC_less (d := ⟨x0, d1, e2, x3, x4, true⟩) hck hun HVal.out.1 HVal.out.2.1 rfl rfl rfl rfl rfl⟩
                | false =>
                  right
                  rw [ho] at hck hun
                  refine ⟨rfl, ordC_shut hck hun rfl, ?_⟩
                  have h1 : (l.set k ⟨x0, d1, e2, x3, x4, false⟩)[k]? = some ⟨x0, d1, e2, x3, x4, false⟩ := by simp [hkl2]
                  exact ordC_shut h1 (fun i e hi he => by
                    rw [List.getElem?_set, if_neg (fun h => hi h.symm)] at he
                    exact hun i e hi he) rfl
              obtain ⟨os1, H1⟩ : ∃ os, Hid ((ordC ⟨kn, ld, bd, pl⟩ l).map Cd.rep = os) := ⟨_, rfl⟩
              obtain ⟨os2, H2⟩ : ∃ os, Hid ((ordC ⟨kn, ld, bd, pl⟩ (l.set k ⟨x0, d1, e2, x3, x4, x5⟩)).map Cd.rep = os) := ⟨_, rfl⟩
              obtain ⟨n1, N1⟩ : ∃ n, Hid ((ordC ⟨kn, ld, bd, pl⟩ l).length = n) := ⟨_, rfl⟩
              obtain ⟨n2, N2⟩ : ∃ n, Hid ((ordC ⟨kn, ld, bd, pl⟩ (l.set k ⟨x0, d1, e2, x3, x4, x5⟩)).length = n) := ⟨_, rfl⟩
              rw [H1.out, N1.out] at HOr
              rw [H2.out, N2.out] at HOm
              rw [N1.out] at hlen1
              rw [N2.out] at hlen2
              rw [H1.out, H2.out] at hcas
              obtain ⟨p1, P1⟩ : ∃ p, Hid (plZ os1 x0 = p) := ⟨_, rfl⟩
              obtain ⟨p2, P2⟩ : ∃ p, Hid (plZ os2 x0 = p) := ⟨_, rfl⟩
              rw [P1.out, P2.out] at hcas
              have HCas := hid hcas
              clear hcas
              have HPl := hid fun (os : List Int) (ao : Option Addr) (n co : Nat) (W : World) (hn : n ≤ 100) (h : Reads .u64 W ao n co os) (hb : Below wc.heap.size wc W) => place_any (gl := gl) (gk := gk) h hn (HB.out W hb).1.1 (HB.out W hb).2.1 (HB.out W hb).2.2.1 hkl
              rw [HCk.out] at HPl
              simp only at HPl
              have HTm := hid fun (W : World) (hb : Below wc.heap.size wc W) => theirs_any (some ⟨g, 0, none⟩) j cm (l.set k ⟨x0, d1, e2, x3, x4, x5⟩) W (HB.out W hb).2.2.2.2.2 hl
              have HTl := hid fun (W : World) (hb : Below wc.heap.size wc W) => HTh2.out W (HB.out W hb).2.2.2.2.1
              have hwr := HR.out.2
              have HBr : Hid (∀ W' : World, Below wr.heap.size wr W' → Below wc.heap.size wc W') := fun W' hb => hwr.trans (hb.mono hwr.size)
              have HWr : Hid (∀ W' : World, Below wr.heap.size wr W' → (W'.cell? ⟨gl, 0, none⟩ = some (.slice (some ⟨b0, off, none⟩) j cap) ∧ W'.cell? ⟨gw, 0, none⟩ = some (.int .i64 kn) ∧ W'.cell? ⟨gw, 1, none⟩ = some (.int .i64 ld) ∧ W'.cell? ⟨gw, 2, none⟩ = some (.int .i64 bd) ∧ W'.cell? ⟨gw, 3, none⟩ = some (.int .i64 pl))) := fun W' hb => (HB.out W' (HBr.out W' hb)).1
              clear hck hun hmI H1 H2 N1 N2 hbR hwr HR HTh2 hkl2
              have HV : Hid (Below wr.heap.size wr wr.drew) := (Below.refl _ _).drew
              go_wp2_with fail
              go_region_held3 (fun W' : World => W'.cell? ⟨gl, 0, none⟩ = some (.slice (some ⟨b0, off, none⟩) j cap) ∧ W'.cell? ⟨gw, 0, none⟩ = some (.int .i64 kn) ∧ W'.cell? ⟨gw, 1, none⟩ = some (.int .i64 ld) ∧ W'.cell? ⟨gw, 2, none⟩ = some (.int .i64 bd) ∧ W'.cell? ⟨gw, 3, none⟩ = some (.int .i64 pl)) (first | (with_reducible exact HWr.out _ (Below.refl _ _)) | (with_reducible exact HWr.out _ HV.out))
                (first
                  | (go_at_call 10; (with_reducible refine (HTl.out _ (HBr.out _ HV.out)).mono ?_); rintro e y1 ⟨a1, c1, rfl, h1⟩; have HA := hid h1.out.1; replace HV := hid (HV.out.trans (h1.out.2.mono HV.out.size)); clear h1)
                  | (go_at_call 10; (with_reducible refine (HTm.out _ (HBr.out _ HV.out)).mono ?_); rintro e y1 ⟨a1, c1, rfl, h1⟩; have HA2 := hid h1.out.1; replace HV := hid (HV.out.trans (h1.out.2.mono HV.out.size)); clear h1)
                  | (go_at_call 11; (with_reducible refine (HTW.out _).mono ?_); rintro e y2 ⟨rfl, h2⟩; (first | replace HA := hid (HA.out.below h2.out) | replace HA2 := hid (HA2.out.below h2.out)); replace HV := hid (HV.out.trans (h2.out.mono HV.out.size)); clear h2)
                  | (go_at_call 9; (with_reducible refine (HOr.out _ _ _ HA.out).mono ?_); rintro e y3 ⟨a3, c3, rfl, h3⟩; have HO := hid h3.out.1; replace HV := hid (HV.out.trans (h3.out.2.mono HV.out.size)); clear h3 HA)
                  | (go_at_call 9; (with_reducible refine (HOm.out _ _ _ HA2.out).mono ?_); rintro e y3 ⟨a3, c3, rfl, h3⟩; have HO2 := hid h3.out.1; replace HV := hid (HV.out.trans (h3.out.2.mono HV.out.size)); clear h3 HA2)
                  | (go_at_call 18; (with_reducible refine (HPl.out _ _ _ _ _ (by omega) HO.out (HBr.out _ HV.out)).mono ?_); rintro e y4 ⟨rfl, rfl⟩; clear HO)
                  | (go_at_call 18; (with_reducible refine (HPl.out _ _ _ _ _ (by omega) HO2.out (HBr.out _ HV.out)).mono ?_); rintro e y4 ⟨rfl, rfl⟩; clear HO2))
              all_goals
                have HF := hid (HB.out _ (HBr.out _ HV.out))
                have r1' := HF.out.1.1
                have r2' := HF.out.2.1
                obtain ⟨b9, off9, ha9, hc9⟩ := HF.out.2.2.1.cell k hkl
                obtain ⟨rfl, rfl⟩ : b0 = b9 ∧ off = off9 := by cases ha9; exact ⟨rfl, rfl⟩
                rw [HCk.out] at hc9
                have c5 := hc9.c5
                simp only at c5
                have HXe := hid HF.out.2.2.2.1
                have g5 : (k : Int) < (j : Int) := by omega
                rw [P1.out, P2.out]
                clear hc9 ha9 HF HBr HWr HB HV HTl HTm HPl HOr HOm HTW P1 P2 HVal HCk
                rcases HCas.out with ⟨rfl, p1b, p2b, pb⟩ | ⟨rfl, rfl, rfl⟩
                · have d3 : decide ((0 : Int) ≤ p1) = true := decide_eq_true p1b
                  have d4 : decide ((0 : Int) ≤ p2) = true := decide_eq_true p2b
                  have d5 : decide (p2 ≤ p1) = true := decide_eq_true pb
                  clear HCas
                  go_wp2_with fail
                  with_reducible refine (alive19_any _).mono ?_
                  rintro e wz ⟨rfl, HZ0⟩
                  have HZ := hid (HXe.out.trans (HZ0.out.mono HXe.out.size))
                  clear HZ0
                  go_wp2_with fail
                  go_ret
                  exact ⟨rfl, HZ.out⟩
                · have d3 : decide ((0 : Int) ≤ -1) = false := by decide
                  have d5 : decide ((-1 : Int) ≤ -1) = true := by decide
                  clear HCas
                  go_wp2_with fail
                  with_reducible refine (alive19_any _).mono ?_
                  rintro e wz ⟨rfl, HZ0⟩
                  have HZ := hid (HXe.out.trans (HZ0.out.mono HXe.out.size))
                  clear HZ0
                  go_wp2_with fail
                  go_ret
                  exact ⟨rfl, HZ.out⟩
  · have hFar := far19_yes a len cap w1 (by omega) hrm hms
    go_enter Try.func5, Try.ntmps5
    go_wp2_with fail
    rw [← hw1]
    clear hw1
    refine hFar.mono ?_
    rintro e wf ⟨rfl, rfl⟩
    clear hFar
    go_wp2_with fail
    with_reducible refine (alive19_any _).mono ?_
    rintro e wz ⟨rfl, HZ0⟩
    have HZ := hid (HX0.out.trans (HZ0.out.mono HX0.out.size))
    clear HZ0
    go_wp2_with fail
    go_ret
    exact ⟨rfl, HZ.out⟩

/-! ### The row's step -/
set_option maxRecDepth 1000000 in
theorem lifted (os : Os) (started : os.Started) (H : Type) (enc : TypeId × Value → H) :
    ReturnsInHanded {} Try.checked os 5 .any (Rows.rankLessSpec.pre6 enc Try.prog Try.f5 Rows.rankLessRow.domain false) (Rows.rankLessSpec.post enc Try.prog Try.f5 false true false false) := by
  refine returnsInHanded_of_change (C := Try.checked) own started (by kernel_rfl) Try.func5
    (ChangeSpec.witness6 (enc := enc) (C := Try.checked) false ⟨#[], #[.slice none 0 0, .agg #[.int .i64 0, .int .i64 0, .int .i64 0, .int .i64 0], .int .i64 0], []⟩ 8 (by kernel_rfl) (by kernel_rfl) (by kernel_rfl) (by kernel_rfl)) ?_
  intro W base args ds gs before hval0 hW hcnd _
  have hval : ∀ (j : Nat) t v, Try.f5.params[j]? = some t → args[j]? = some v → Value.okWide Try.prog W .any base t v := hval0
  have hW' := hW
  obtain ⟨p, q, hA0, hV, rfl, hfz, hnd⟩ := hW
  have hA : DataW.TrodAll enc Try.prog W 0 (fun _ => true) true Try.f5.params.toList args.toList ds p := hA0
  rw [Try.params5] at hA hval
  obtain ⟨v0, vs0, d0, ds0, p0, q0, hargs, rfl, rfl, h0, r0⟩ := trodAll_cons hA
  obtain ⟨v1, vs1, d1, ds1, p1, q1, rfl, rfl, rfl, h1, r1⟩ := trodAll_cons r0
  obtain ⟨v2, vs2, d2, ds2, p2, q2, rfl, rfl, rfl, h2, r2⟩ := trodAll_cons r1
  obtain ⟨rfl, rfl, rfl⟩ := trodAll_nil r2
  obtain rfl : args = #[v0, v1, v2] := by cases args; simp_all
  obtain ⟨rfl, rfl⟩ := trodVars_none hV
  have k0 := h0
  have lt0 : ∀ x ∈ p0, x.block < W.heap.size := by obtain ⟨m, hm⟩ := k0; exact DataW.trod_lt m _ _ _ hm
  obtain ⟨a, len, cap, l, rfl, ga⟩ := cands_open (hval 0 22 v0 rfl rfl) h0
  have k1 := h1
  have lt1 : ∀ x ∈ p1, x.block < W.heap.size := by obtain ⟨m, hm⟩ := k1; exact DataW.trod_lt m _ _ _ hm
  obtain ⟨q, rfl, gq⟩ := wt_open (hval 1 24 v1 rfl rfl) h1
  have k2 := h2
  have lt2 : ∀ x ∈ p2, x.block < W.heap.size := by obtain ⟨m, hm⟩ := k2; exact DataW.trod_lt m _ _ _ hm
  obtain ⟨at0, rfl, gat0⟩ := inum_open (hval 2 3 v2 rfl rfl) h2
  clear hA0 hval0
  refine (walk a len cap l q at0 W ga gq gat0).mono fun e W' ⟨he, bel⟩ => ?_
  subst he
  exact ⟨_, rfl, _, _, _, [], _, [], hW', trodAll_mk1 (shut_bool Try.underlying4 _), (trodAll_cons_mk (Below.trod laidOut (by kernel_rfl) (of_decide_eq_true (by kernel_rfl)) k0 bel lt0) (trodAll_cons_mk (Below.trod laidOut (by kernel_rfl) (of_decide_eq_true (by kernel_rfl)) k1 bel lt1) (trodAll_cons_mk (Below.trod laidOut (by kernel_rfl) (of_decide_eq_true (by kernel_rfl)) k2 bel lt2) trodAll_mk0))), rfl, bel.frame _, fun h => by cases h⟩

theorem over : Rows.rankLessRow.holds Try.pinned (OpenSpec.ofChange Rows.rankLessSpec) :=
  OpenClaim.holds_of_wide 5 Try.f5 rfl rfl rfl rfl rfl rfl rfl ⟨rfl, rfl, rfl, rfl, rfl⟩ rfl rfl rfl rfl rfl (by kernel_rfl) Try.func5 (by kernel_rfl)
    (of_decide_eq_true (by kernel_rfl)) (by unfold Func.isWrapper; first | (rw [if_pos (by decide +kernel)]; kernel_rfl) | (rw [if_neg (by decide +kernel)]; exact ⟨rfl, rfl⟩))
    (fun os started H enc _ => lifted os started H enc)

/-- The statement. -/
theorem proved : Rows.RankLessSaid := over
#print axioms proved
end Go.Proofs.Ytmhpgkkaolcncaa.rankLess
