/-
  The texts EnArr4 of this proof.
-/
import Derived.Test.YtjgggialnegddaaGreatPn46
import Derived.Test.YtjgggialnegddaaGreatPn28
set_option linter.unusedVariables false
set_option maxRecDepth 1000000
namespace Go.Proofs.YtjgggialnegddaaGreat
open Go.RowKit Go.Maps
section
variable {w : World} {B mb : Nat} {pm pc : Option Addr} {qv bv : Value} {nd : Int → Nat} {S : Rs} {bs qs : List At} {Fc It : Nat → Prop}
theorem bdrew (W : World) (q : Nat) : Below W.heap.size W (W.drewN q) := ⟨rfl, rfl, rfl, Nat.le_refl _, fun _ _ => rfl⟩
set_option maxHeartbeats 4000000 in
theorem estart_any (h : EnI w B mb pm pc qv bv nd S bs qs Fc It) (m : Ms) (hj : JbIn w m.job) (hm : MsOk m) (hk : m.kind = 6) :
  Calls Tryz.prog 42 #[.pointer (some ⟨B, 0, none⟩), .agg (MsV m)] w fun e w' => ArG w B mb pm pc (arrS S m) (enF B mb qv bv nd S Fc) It (arrM S m) e w' := by
 obtain ⟨wA, hwA⟩ : ∃ wA, wA = w.alloc (.cells (MsV m) 55) := ⟨_, rfl⟩
 have hbA : Below w.heap.size w wA := by rw [hwA]; exact (Below.refl _ _).alloc (Nat.le_refl _) _
 have hA : wA.heap[w.heap.size]? = some (.cells (MsV m) 55 (0, 0)) := by rw [hwA]; exact heap_alloc_new w _
 have hlp : m.job.ts.length = m.job.lp := Reads.size hj
 have HX : Hid (∀ W : World, Below wA.heap.size wA W → Below w.heap.size w W) := fun W hb => hbA.trans (hb.mono hbA.size)
 have HM := hid fun (W : World) (hb : Below wA.heap.size wA W) => block_bel hA hb
 have hIA := h.below hbA
 have HI := hid fun (W : World) (hb : Below wA.heap.size wA W) => hIA.below hb
 have hnil : ∀ (W : World), Below wA.heap.size wA W → arrM S m = [] → arrS S m = S → ArG w B mb pm pc (arrS S m) (enF B mb qv bv nd S Fc) It (arrM S m) (.returned (.slice none 0 0)) W := fun W hb e1 e2 => by rw [e1, e2]; exact ArG.nil h (HX.out W hb)
 have HNil := hid hnil
 have hone : ∀ (W : World) (g : Mg), g.li = [] → Below wA.heap.size wA W → arrM S m = [g] → arrS S m = S → ArG w B mb pm pc (arrS S m) (enF B mb qv bv nd S Fc) It (arrM S m) (.returned (.slice (some ⟨W.heap.size, 0, none⟩) 1 1)) (W.alloc (.cells (MgC g none 0 0) 55)) := fun W g hg hb e1 e2 => by rw [e1, e2]; exact ArG.one h (HX.out W hb) hg
 have HOne := hid hone
 have HM6 := hid (arrM_6 (S := S) hk)
 have HS6 := hid (arrS_6 (S := S) hk)
 obtain ⟨x0, x3, x4, x5, x8, x9, x10⟩ := Ms_cells hA
 obtain ⟨c0, c1, c2, c3, c4, c5, c6, c7, c8, c9⟩ := hIA.cells
 obtain ⟨mx, hmx⟩ : ∃ mx, w.heap.size = mx := ⟨_, rfl⟩
 rw [hmx] at x0 x3 x4 x5 x8 x9 x10 HM
 have hatt := hm.att
 have HH := hid h
 have HJ := hid fun (W : World) (hb : Below wA.heap.size wA W) => (Reads.below hj hbA).below hb
 have HMo := hid hm
 have HLp := hid hlp
 generalize arrM S m = am at *
 generalize hSm : arrS S m = aS at *
 have HTk := hid fun (W : World) (hb : Below wA.heap.size wA W) => etakes_any (hIA.below hb) m ((Reads.below hj hbA).below hb) hm
 have hlk : ∀ q, (Instr.lookup 71 (.map (some mb)) (.int .u64 m.att) false).run Tryz.prog (wA.drewN q) = .ok (.pointer (ptrP (mapF S.L nd m.att))) (wA.drewN q) := fun q => (hIA.below (bdrew wA q)).map.look hatt
 clear h hIA hbA hA hj hm hlp hnil hone hSm
 obtain ⟨kd, st, se, ate, ic, nn, ct, wh, ⟨sd, ap, lp, cp, pr, mo⟩, la, ll, lc, li⟩ := m
 unfold MsV at hwA HM HTk
 simp only at *
 generalize hsi : S.inc = si at *
 have HSi := hid hsi
 clear hk hsi
 have HCl := hid fun (W : World) (hb : Below wA.heap.size wA W) (hl : lp ≤ 1000) => pclone_any ap lp cp pr W (HJ.out W hb) hl
 go_enter Tryz.func42, Tryz.ntmps42
 unfold MsV
 simp only
 rw [hwA] at x0 x3 x4 x5 x8 x9 x10 c0 c1 c2 c3 c4 c5 c6 c7 c8 c9
 go_wp2_with fail
 rw [← hwA]
 rw [← hwA] at x0 x3 x4 x5 x8 x9 x10 c0 c1 c2 c3 c4 c5 c6 c7 c8 c9
 clear hwA
 by_cases hinc : ic = si
 ·subst hinc
  rw [if_neg (by simp)] at HM6 HS6
  go_quiet (fail)
  go_wp2_with fail
  obtain ⟨w1, hw1⟩ : ∃ w1, w1 = wA.drewN nq := ⟨_, rfl⟩
  have HB1 : Hid (Below wA.heap.size wA w1) := by unfold Hid; rw [hw1]; exact bdrew wA _
  rw [← hw1]
  have hlk' := fun (q : Nat) => hlk (nq + q)
  have hw1q : ∀ q, wA.drewN (nq + q) = w1.drewN q := fun q => by rw [hw1]; exact (World.drewN_drewN wA nq q).symm
  simp only [hw1q] at hlk'
  clear hw1 hw1q hlk x0 x3 x4 x5 x8 x9 x10 c0 c1 c2 c3 c4 c5 c6 c7 c8 c9
  obtain ⟨x0, x1, x2, x3, x4, x5, x6, x7, x8, x9, x10, x11⟩ := cells_12 (HM.out w1 HB1.out)
  obtain ⟨c0, c1, c2, c3, c4, c5, c6, c7, c8, c9⟩ := (HI.out w1 HB1.out).cells
  cases hh : hasB S.L ate with
  | true =>
   rw [if_pos hh] at HM6 HS6
   have hmp : mapF S.L nd ate = some (nd ate) := by unfold mapF; rw [if_pos hh]
   rw [hmp] at hlk'
   simp only [ptrP] at hlk'
   have HR := hid fun (q : Nat) => HNil.out (w1.drewN q) (HB1.out.trans ((bdrew w1 q).mono HB1.out.size)) HM6.out HS6.out
   clear HM6 HS6 HNil HOne HTk HCl HJ hmp HI HM HH
   go_quiet (fail)
   go_wp2
   go_ret
   exact HR.out _
  | false =>
   rw [hh, if_neg (by simp)] at HM6 HS6
   have hmp : mapF S.L nd ate = none := by unfold mapF; rw [hh]; simp
   rw [hmp] at hlk'
   simp only [ptrP] at hlk'
   go_quiet (fail)
   go_wp2_with fail
   obtain ⟨w2, hw2⟩ : ∃ w2, w2 = w1.drewN nq := ⟨_, rfl⟩
   have HB2 : Hid (Below wA.heap.size wA w2) := by unfold Hid; rw [hw2]; exact HB1.out.trans ((bdrew w1 _).mono HB1.out.size)
   rw [← hw2]
   clear hw2 hlk' x0 x1 x2 x3 x4 x5 x6 x7 x8 x9 x10 x11 c0 c1 c2 c3 c4 c5 c6 c7 c8 c9 HB1 hmp
   have hTk := HTk.out w2 HB2.out
   cases hsb : startB S ⟨kd, st, se, ate, ic, nn, ct, wh, ⟨sd, ap, lp, cp, pr, mo⟩, la, ll, lc, li⟩ with
   | false =>
    rw [hsb] at hTk HM6 HS6
    rw [if_neg (by simp)] at HM6 HS6
    refine hTk.mono ?_
    rintro e w3 ⟨rfl, hb⟩
    have HB3 := hid (HB2.out.trans (hb.mono HB2.out.size))
    obtain ⟨x0, x1, x2, x3, x4, x5, x6, x7, x8, x9, x10, x11⟩ := cells_12 (HM.out w3 HB3.out)
    clear hb hTk HB2
    have HOv := hid fun (W : World) => eover_any ate ic nn 2 W
    have HR := hid fun (W : World) (hb : Below wA.heap.size wA W) => HOne.out W (ovM ate ic nn 2) rfl hb HM6.out HS6.out
    unfold MgC at HOv HR
    simp only [ovM] at HOv HR
    clear HNil HOne HTk HCl HJ HI HM HH HM6 HS6
    go_wp2_with fail
    refine (HOv.out _).mono ?_
    rintro e w9 ⟨rfl, hb⟩
    have HR9 := hid (HR.out w9 (HB3.out.trans (hb.mono HB3.out.size)))
    clear hb HR HOv
    go_wp2
    go_ret
    exact HR9.out
   | true =>
    rw [hsb] at hTk HM6 HS6
    rw [if_pos (by simp)] at HM6 HS6
    refine hTk.mono ?_
    rintro e w3 ⟨rfl, hb⟩
    have HB3 := hid (HB2.out.trans (hb.mono HB2.out.size))
    obtain ⟨x0, x1, x2, x3, x4, x5, x6, x7, x8, x9, x10, x11⟩ := cells_12 (HM.out w3 HB3.out)
    clear hb hTk HB2 HTk HNil HOne
    have hst3 := hsb
    unfold startB fitB at hst3
    simp only [Bool.and_eq_true, decide_eq_true_eq] at hst3
    obtain ⟨⟨hmayj, hnm, hnl⟩, _, hwq⟩ := hst3
    obtain ⟨j0, j1, j2, _⟩ := mayJ_iff.1 hmayj
    have hl255 : lp ≤ 255 := by have := HLp.out; omega
    have hqlt : (qs.length : Int) < S.s.q := by rw [HH.out.L, waitN_eq HH.out.rb HH.out.rq] at hwq; exact hwq
    have hn0 : 0 ≤ nn := HMo.out.n.1
    have hi64 : IntKind.i64.wrap nn = nn := wrap64_in (by omega) (by omega)
    obtain ⟨zJ, hzJ⟩ : ∃ zJ, zJ = w3.alloc (.cells #[.int .u64 sd, .slice ap lp cp, .int .i64 mo] 43) := ⟨_, rfl⟩
    have hbJ : Below w3.heap.size w3 zJ := by rw [hzJ]; exact (Below.refl _ _).alloc (Nat.le_refl _) _
    have hcJ : zJ.heap[w3.heap.size]? = some (.cells #[.int .u64 sd, .slice ap lp cp, .int .i64 mo] 43 (0, 0)) := by rw [hzJ]; exact heap_alloc_new w3 _
    have HBJ := hid (HB3.out.trans (hbJ.mono HB3.out.size))
    have hCl := HCl.out zJ HBJ.out (by omega)
    clear HCl hmayj hnm hnl hwq
    obtain ⟨jb, hjb⟩ : ∃ jb, w3.heap.size = jb := ⟨_, rfl⟩
    go_wp2_with fail
    rw [← hzJ]
    refine hCl.mono ?_
    rintro e z4 ⟨a3, c3', rfl, hr4, hn4, hb4⟩
    have HB4 := hid (HBJ.out.trans (hb4.mono HBJ.out.size))
    have hj4 : z4.heap[jb]? = some (.cells #[.int .u64 sd, .slice ap lp cp, .int .i64 mo] 43 (0, 0)) := by rw [← hjb]; exact block_bel hcJ hb4
    have g1 : z4.cell? ⟨jb, 1, none⟩ = some (.slice ap lp cp) := by rw [cell_of_row _ _ _ _ _ _ hj4]; rfl
    have g1f : z4.frozen? ⟨jb, 1, none⟩ = false := frozen_of_row _ _ 1 _ _ hj4
    obtain ⟨z5, hz5⟩ : ∃ z5, z5 = z4.setCell ⟨jb, 1, none⟩ (.slice a3 lp c3') := ⟨_, rfl⟩
    have hf5 : Fb (at1 jb) z4 z5 := by rw [hz5]; exact Fb.set (by exact rfl) _
    have hj5 : z5.heap[jb]? = some (.cells #[.int .u64 sd, .slice a3 lp c3', .int .i64 mo] 43 (0, 0)) := by rw [hz5]; exact row_set (k := 1) (u := .slice a3 lp c3') hj4
    have hjw : w.heap.size ≤ jb ∧ wA.heap.size ≤ jb := by rw [← hjb]; exact ⟨(HX.out _ HB3.out).size, HB3.out.size⟩
    have hwAm : mx < wA.heap.size := lt_of_block (HM.out wA (Below.refl _ _))
    have hwAB : B < wA.heap.size := lt_of_block (HI.out wA (Below.refl _ _)).var
    have hwAmb : mb < wA.heap.size := (HI.out wA (Below.refl _ _)).map.lt
    have h5k : ∀ k, k < wA.heap.size → z5.heap[k]? = wA.heap[k]? := fun k hk => (hf5.block k (by have := HB4.out.size; omega) fun e => by have : k = jb := e; omega).trans (HB4.out.block k hk)
    obtain ⟨y0, y1, y2, y3, y4, y5, y6, y7, y8, y9, y10, y11⟩ := cells_12 ((h5k mx hwAm).trans (HM.out wA (Below.refl _ _)))
    have hv5 := (h5k B hwAB).trans (HI.out wA (Below.refl _ _)).var
    have b7 : z5.cell? ⟨B, 7, none⟩ = some (.map (some mb)) := by rw [cell_of_row _ _ _ _ _ _ hv5]; rfl
    have j5 : z5.cell? ⟨jb, 0, none⟩ = some (.int .u64 sd) ∧ z5.cell? ⟨jb, 1, none⟩ = some (.slice a3 lp c3') ∧ z5.cell? ⟨jb, 2, none⟩ = some (.int .i64 mo) := by refine ⟨?_, ?_, ?_⟩ <;> (rw [cell_of_row _ _ _ _ _ _ hj5]; rfl)
    obtain ⟨j50, j51, j52⟩ := j5
    obtain ⟨z6, hz6⟩ : ∃ z6, z6 = (z5.alloc (.cells #[.int .u64 ate, .int .u64 sd, .slice a3 lp c3', .int .i64 mo, .int .i64 nn, .pointer none] 106)).drew := ⟨_, rfl⟩
    have hb6 : Below z5.heap.size z5 z6 := by rw [hz6]; exact ((Below.refl _ _).alloc (Nat.le_refl _) _).drew
    have hm6 : AmAt z6 mb S.L.length (mapF S.L nd) := (HI.out wA (Below.refl _ _)).map.same ((hb6.block mb (by have := HB4.out.size; have := hf5.size; omega)).trans (h5k mb hwAmb))
    obtain ⟨z7, e7, hm7, ht7⟩ := hm6.store (by have := HH.out.ok.few; have := HH.out.bnd; omega) hatt z5.heap.size
    have hf7 := MvAt.fbm ht7
    have hm7' := hm7 (by unfold mapF; rw [hh]; simp) (fun x => if x = ate then some z5.heap.size else mapF S.L nd x) (by simp) (fun u hu => by simp [hu])
    obtain ⟨z8, hz8⟩ : ∃ z8, z8 = z7.drew.alloc (.cells #[.int .u64 ate] 22) := ⟨_, rfl⟩
    have hb8 : Below z7.heap.size z7 z8 := by rw [hz8]; exact (Below.refl _ _).drew.alloc (Nat.le_refl _) _
    have s4 := HB4.out.size
    have s5 := hf5.size
    have s6 := hb6.size
    have s7 := hf7.size
    have s8 := hb8.size
    have h8k : ∀ k, k < wA.heap.size → k ≠ mb → z8.heap[k]? = wA.heap[k]? := fun k hk e => (hb8.block k (by omega)).trans ((hf7.block k (by omega) fun e2 => e e2).trans ((hb6.block k (by omega)).trans (h5k k hk)))
    have hq8 : UQ z8 qv (qs.map (·.id)) := own_blk (HI.out wA (Below.refl _ _)).qrow fun b e => h8k b (World.ownsRow.lt (HI.out wA (Below.refl _ _)).qrow b e).2 fun e2 => HH.out.mq (by rw [e, e2])
    obtain ⟨v9, z9, e9, ho9, hg9, hmv9⟩ := run_uapp z8 qv (qs.map (·.id)) hq8 (some ⟨z7.heap.size, 0, none⟩) 1 1 [ate] (by rw [hz8]; exact Reads.one z7.drew ate _) (by have := HH.out.qsl; have := HH.out.bnd; rw [List.length_map]; omega) 59
    obtain ⟨a9, c9', ev9, _⟩ := ho9.reads
    obtain ⟨n9, hn9⟩ : ∃ n, (qs.map (·.id) ++ [ate]).length = n := ⟨_, rfl⟩
    rw [hn9] at ev9
    subst ev9
    obtain ⟨hAr, hvB⟩ := start_end HH.out (m := ⟨kd, st, se, ate, ic, nn, ct, wh, ⟨sd, ap, lp, cp, pr, mo⟩, la, ll, lc, li⟩) HMo.out HLp.out hh hsb (HX.out z4 HB4.out) hr4 (fun p hp => ⟨Nat.le_trans (HX.out _ HBJ.out).size (hn4 p hp).1, (hn4 p hp).2⟩) hjw.1 hj4 hf5 (hz6.trans rfl) hm7' hf7 hb8 ho9 hg9 hmv9 hqlt
    have HAr := hid hAr
    have k8 : z7.cell? ⟨B, 8, none⟩ = some qv := by
     have h7 : z7.heap[B]? = wA.heap[B]? := (hf7.block B (by omega) fun e => HH.out.Bmb e).trans ((hb6.block B (by omega)).trans (h5k B hwAB))
     rw [cell_of_row _ _ _ _ _ _ (h7.trans (HI.out wA (Below.refl _ _)).var)]; rfl
    have k8' : (z7.alloc (.cells #[.int .u64 ate] 22)).cell? ⟨B, 8, none⟩ = some qv := by
     have h7 : z7.heap[B]? = wA.heap[B]? := (hf7.block B (by omega) fun e => HH.out.Bmb e).trans ((hb6.block B (by omega)).trans (h5k B hwAB))
     have hba : Below z7.heap.size z7 (z7.alloc (.cells #[.int .u64 ate] 22)) := (Below.refl _ _).alloc (Nat.le_refl _) _
     rw [cell_of_row _ _ _ _ _ _ ((hba.block B (by omega)).trans (h7.trans (HI.out wA (Below.refl _ _)).var))]; rfl
    have k3 : z7.cell? ⟨mx, 3, none⟩ = some (.int .u64 ate) := by
     have h7 : z7.heap[mx]? = wA.heap[mx]? := (hf7.block mx (by omega) fun e => by
      have e' : mx = mb := e
      have h1 := HM.out wA (Below.refl _ _)
      obtain ⟨es, cl, h2⟩ := (HI.out wA (Below.refl _ _)).map.blk
      rw [e', h2] at h1
      simp at h1).trans ((hb6.block mx (by omega)).trans (h5k mx hwAm))
     rw [cell_of_row _ _ _ _ _ _ (h7.trans (HM.out wA (Below.refl _ _)))]; rfl
    have k9 : z9.cell? ⟨B, 8, none⟩ = some qv := by rw [cell_of_row _ _ _ _ _ _ hvB]; rfl
    have f9 : z9.frozen? ⟨B, 8, none⟩ = false := frozen_of_row _ _ 8 _ _ hvB
    have HE9 := hid e9
    rw [hz8] at HE9
    have u7 : z6.cell? ⟨B, 7, none⟩ = some (.map (some mb)) := by rw [cell_of_row _ _ _ _ _ _ ((hb6.block B (by omega)).trans hv5)]; rfl
    have hm6x := (hb6.block mx (by omega)).trans ((h5k mx hwAm).trans (HM.out wA (Below.refl _ _)))
    have u3 : z6.cell? ⟨mx, 3, none⟩ = some (.int .u64 ate) := by rw [cell_of_row _ _ _ _ _ _ hm6x]; rfl
    have u5 : z6.cell? ⟨mx, 5, none⟩ = some (.int .u64 nn) := by rw [cell_of_row _ _ _ _ _ _ hm6x]; rfl
    clear hm6x
    rw [hz6] at e7 u7 u3 u5
    rw [HSi.out, ← HM6.out, ← HS6.out] at HAr
    clear HSi
    clear hCl hr4 hn4 hb4 HBJ hbJ hcJ hzJ hj4 hf5 hj5 h5k hv5 hb6 hm6 hm7 ht7 hf7 hm7' hb8 h8k hq8 ho9 hg9 hmv9 hAr hvB e9 hn9 hz6 hz8 hjw hwAm hwAB hwAmb HM HI HH HMo HLp HJ HM6 HS6 HB4 HB3 HX s4 s5 s6 s7 s8 hsb hh x0 x1 x2 x3 x4 x5 x6 x7 x8 x9 x10 x11 hqlt hl255 j0 j1 j2 hjb
    go_wp2_with fail
    rw [← hz5]
    clear hz5 g1 g1f
    go_region
    go_wp2_with fail
    go_region_law (refine step_app_eq (by rfl) 72 (by rfl) (.tmp 68) (.tmp 71) 59 (by rfl) _ _ _ _ (by simp [Act.eval]) (by simp [Act.eval]) HE9.out ?_)
    all_goals
     go_wp2
     go_ret
     exact HAr.out
 ·rw [if_pos hinc] at HM6 HS6
  have hne : (ic == si) = false := by simpa using hinc
  have hd : decide (ic = si) = false := decide_eq_false hinc
  go_quiet (fail)
  go_wp2_with fail
  obtain ⟨w1, hw1⟩ : ∃ w1, w1 = wA.drewN nq := ⟨_, rfl⟩
  have HB1 : Hid (Below wA.heap.size wA w1) := by unfold Hid; rw [hw1]; exact bdrew wA _
  rw [← hw1]
  clear hw1 hlk x0 x3 x4 x5 x8 x9 x10 c0 c1 c2 c3 c4 c5 c6 c7 c8 c9
  obtain ⟨x0, x1, x2, x3, x4, x5, x6, x7, x8, x9, x10, x11⟩ := cells_12 (HM.out w1 HB1.out)
  have HOv := hid fun (W : World) => eover_any ate ic nn 3 W
  have HR := hid fun (W : World) (hb : Below wA.heap.size wA W) => HOne.out W (ovM ate ic nn 3) rfl hb HM6.out HS6.out
  unfold MgC at HOv HR
  simp only [ovM] at HOv HR
  clear HNil HOne HTk HCl HJ HI HM HH HM6 HS6
  refine (HOv.out _).mono ?_
  rintro e w9 ⟨rfl, hb⟩
  have HR9 := hid (HR.out w9 (HB1.out.trans (hb.mono HB1.out.size)))
  clear hb HR HOv
  go_wp2
  go_ret
  exact HR9.out
end
end Go.Proofs.YtjgggialnegddaaGreat
