/-
  The texts RRef, EnMath3 of this proof.
-/
import Derived.Test.YtjgggialnegddaaGreatPr29
import Derived.Test.YtjgggialnegddaaGreatPr12
import Derived.Deep.QuietTactic
import Derived.BigQuiet
import Derived.Test.YtjgggialnegddaaGreatPr30
set_option linter.unusedVariables false
set_option maxRecDepth 1000000
namespace Go.Proofs.YtjgggialnegddaaGreat
open Go.RowKit
theorem mayJ_iff {v most : Int} {ts : List Int} : mayJ v most ts = true ↔ 0 ≤ most ∧ most ≤ 256 ∧ ts.length ≤ 255 ∧ ∀ i, i < ts.length → 0 ≤ ts[i]?.getD 0 ∧ ts[i]?.getD 0 < v := by
 unfold mayJ
 simp only [Bool.and_eq_true, decide_eq_true_eq, List.all_eq_true]
 refine ⟨fun ⟨h1, h2, h3, h4⟩ => ⟨h1, h2, h3, fun i hi => ?_⟩, fun ⟨h1, h2, h3, h4⟩ => ⟨h1, h2, h3, fun t ht => ?_⟩⟩
 ·rw [List.getElem?_eq_getElem hi]; exact h4 _ (List.getElem_mem hi)
 ·obtain ⟨i, hi, rfl⟩ := List.getElem_of_mem ht
  have := h4 i hi
  rwa [List.getElem?_eq_getElem hi] at this
theorem mayJ_no {v most : Int} {ts : List Int} (h : ¬ (0 ≤ most ∧ most ≤ 256 ∧ ts.length ≤ 255 ∧ ∀ i, i < ts.length → 0 ≤ ts[i]?.getD 0 ∧ ts[i]?.getD 0 < v)) : mayJ v most ts = false := by
 rw [Bool.eq_false_iff]; exact fun e => h (mayJ_iff.1 e)
set_option maxHeartbeats 1000000 in
theorem rmayj_any (c : Cf) (j : Jb) (w : World) (hj : JbIn w j) :
  Calls Tryz.prog 26 #[.agg (CfV c), .agg (JbV j)] w fun e w' => e = .returned (.bool (mayJ c.vocab j.most j.ts)) ∧ Below w.heap.size w w' := by
 obtain ⟨wA, hwA⟩ : ∃ wA, wA = (w.alloc (.cells (CfV c) 24)).alloc (.cells (JbV j) 43) := ⟨_, rfl⟩
 have HB0 : Hid (Below w.heap.size w wA) := by unfold Hid; rw [hwA]; exact ((Below.refl _ _).alloc (Nat.le_refl _) _).alloc (by simp) _
 have HK : Hid (∀ W : World, Below wA.heap.size wA W → W.cell? ⟨w.heap.size, 1, none⟩ = some (.int .i64 c.vocab) ∧ W.cell? ⟨w.heap.size + 1, 1, none⟩ = some (.slice j.ap j.lp j.cp) ∧ W.cell? ⟨w.heap.size + 1, 2, none⟩ = some (.int .i64 j.most)) := by
  intro W hb
  have e1 : wA.heap[w.heap.size]? = some (.cells (CfV c) 24 (0, 0)) := by rw [hwA, Below.heap_alloc _ _ _ (by simp)]; exact heap_alloc_new w _
  have e2 : wA.heap[w.heap.size + 1]? = some (.cells (JbV j) 43 (0, 0)) := by
   have := heap_alloc_new (w.alloc (.cells (CfV c) 24)) (.cells (JbV j) 43)
   rw [hwA]
   simpa using this
  exact ⟨(Cf_cells (block_below e1 hb)).2.1, (Jb_cells (block_below e2 hb)).2.1, (Jb_cells (block_below e2 hb)).2.2⟩
 have hz := hj.size
 have r1 := hj.room
 have m1 := hj.most
 have HA := hid fun (W : World) (hb : Below wA.heap.size wA W) => (hj.below HB0.out).below hb
 clear hj
 obtain ⟨sd, ap, lp, cp, ts, mo⟩ := j
 obtain ⟨s, v, d, l, tt, h⟩ := c
 obtain ⟨x1, x2, x3⟩ := HK.out wA (Below.refl _ _)
 unfold CfV JbV at hwA
 simp only at HK hz r1 m1 HA hwA x1 x2 x3
 unfold CfV JbV
 simp only
 rw [hwA] at x1 x2 x3
 by_cases h1 : mo < 0
 ·rw [mayJ_no (by omega)]
  have HBo := HB0
  clear HK HA
  go_enter Tryz.func26, Tryz.ntmps26
  go_wp2_with fail
  rw [← hwA]
  clear hwA x1 x2 x3
  go_ret
  exact ⟨rfl, HBo.out⟩
 by_cases h2 : 256 < mo
 ·rw [mayJ_no (by omega)]
  have HBo := HB0
  clear HK HA
  go_enter Tryz.func26, Tryz.ntmps26
  go_wp2_with fail
  rw [← hwA]
  clear hwA x1 x2 x3
  go_ret
  exact ⟨rfl, HBo.out⟩
 by_cases h3 : 255 < lp
 ·rw [mayJ_no (by omega)]
  have HBo := HB0
  have h3' : (255 : Int) < (lp : Int) := by omega
  clear HK HA
  go_enter Tryz.func26, Tryz.ntmps26
  go_wp2_with fail
  rw [← hwA]
  clear hwA x1 x2 x3
  go_ret
  exact ⟨rfl, HBo.out⟩
 have h3' : ¬ (255 : Int) < (lp : Int) := by omega
 have HNo := hid fun (i : Nat) (hi : i < lp) (hb : ts[i]?.getD 0 < 0 ∨ v ≤ ts[i]?.getD 0) => mayJ_no (v := v) (most := mo) (ts := ts) (fun hh => by have := hh.2.2.2 i (by omega); omega)
 have HYe : Hid ((∀ i, i < lp → 0 ≤ ts[i]?.getD 0 ∧ ts[i]?.getD 0 < v) → mayJ v mo ts = true) := fun hh => mayJ_iff.2 ⟨by omega, by omega, by omega, by rw [hz]; exact hh⟩
 generalize mayJ v mo ts = bb at *
 go_enter Tryz.func26, Tryz.ntmps26
 go_wp2_with fail
 rw [← hwA]
 clear hwA x1 x2 x3
 go_loopw [5] (fun i W => ∃ k : Nat, k ≤ lp ∧ i = .int .i64 k ∧ Hid (∀ i, i < k → 0 ≤ ts[i]?.getD 0 ∧ ts[i]?.getD 0 < v) ∧ Hid (Below wA.heap.size wA W)) (fun i _ => lp - (intOf i).toNat)
 case atStart => exact ⟨0, Nat.zero_le _, rfl, fun i hi => absurd hi (by omega), Below.refl _ _⟩
 case round =>
 obtain ⟨k, hk, rfl, HL, HW⟩ := hrel
 rename World => wr
 obtain ⟨x1, x2, x3⟩ := HK.out _ HW.out
 by_cases hlt : k < lp
 ·obtain ⟨b1, o1, rfl, c1⟩ := (HA.out _ HW.out).cell k hlt
  have q1 : (k : Int) < (lp : Int) := by omega
  have HBW := hid (HB0.out.trans (HW.out.mono HB0.out.size))
  by_cases ht : ts[k]?.getD 0 < 0
  ·obtain rfl := HNo.out k hlt (.inl ht)
   clear HNo HYe HK HA HL HW
   generalize ts[k]?.getD 0 = t at *
   go_wp2_with fail
   go_quiet (fail)
   go_wp2
   go_ret
   exact ⟨rfl, HBW.out.trans ⟨rfl, rfl, rfl, Nat.le_refl _, fun _ _ => rfl⟩⟩
  by_cases ht2 : v ≤ ts[k]?.getD 0
  ·obtain rfl := HNo.out k hlt (.inr ht2)
   clear HNo HYe HK HA HL HW
   generalize ts[k]?.getD 0 = t at *
   go_wp2_with fail
   go_quiet (fail)
   go_wp2
   go_ret
   exact ⟨rfl, HBW.out.trans ⟨rfl, rfl, rfl, Nat.le_refl _, fun _ _ => rfl⟩⟩
  have HL2 : Hid (∀ i, i < k + 1 → 0 ≤ ts[i]?.getD 0 ∧ ts[i]?.getD 0 < v) := fun i hi => by
   rcases (by omega : i < k ∨ i = k) with h' | rfl
   ·exact HL.out i h'
   ·omega
  clear HNo HYe HK HA HL HBW
  generalize ts[k]?.getD 0 = t at *
  go_wp2_with fail
  go_quiet (fail)
  go_wp2_with fail
  go_round
  case rel => exact ⟨k + 1, by omega, by go_num, HL2, HW.out.trans ⟨rfl, rfl, rfl, Nat.le_refl _, fun _ _ => rfl⟩⟩
  case measure => simp [intOf]; omega
 ·obtain rfl : k = lp := by omega
  have hb := HYe.out HL.out
  subst hb
  have HBW := hid (HB0.out.trans (HW.out.mono HB0.out.size))
  clear HNo HYe HK HA HL HW HB0
  go_wp2
  go_ret
  exact ⟨rfl, HBW.out⟩
def slen : Value → Nat
 | .slice _ n _ => n
 | _ => 0
theorem own_slen {w : World} {base e n : Nat} {v : Value} {xs : List Value} (h : w.ownsRow base e 1 v n xs) : slen v = n := by
 rcases id h.2 with ⟨rfl, rfl⟩ | ⟨g, c, cur, rfl, _⟩
 ·rfl
 ·rfl
theorem own_apart {w w' : World} {b1 b2 e n1 n2 : Nat} {u v : Value} {xs ys : List Value} (hu : w.ownsRow b1 e 1 u n1 xs) (hv : w.ownsRow b2 e 1 v n2 ys) (hap : Apart u v) (hg : w.grownBy w' u.ownBlock) : w'.ownsRow b2 e 1 v n2 ys :=
 hv.kept hg (by
  cases ho : v.ownBlock with
  | none => exact .inl rfl
  | some o => exact .inr fun e => hap o e.symm ho)
theorem two_app {S e n1 n2 : Nat} {wA w2 w3 : World} {u v u' : Value} {xs ys : List Value} {o : Obj} (h1 : w2.ownsRow S e 1 u n1 xs) (h2 : w2.ownsRow S e 1 v n2 ys) (hap : Apart u v) (hW : Below S wA w2) (hS : S ≤ w2.heap.size) (hg : (w2.alloc o).grownBy w3 u.ownBlock) (hm : Moved (w2.alloc o) u u') :
  w3.ownsRow S e 1 v n2 ys ∧ Apart u' v ∧ Below S wA w3 ∧ S ≤ w3.heap.size := by
 have ha : Below w2.heap.size w2 (w2.alloc o) := (Below.refl _ _).alloc (Nat.le_refl _) _
 have k1 := own_below h1 ha
 have k2 := own_below h2 ha
 have hs3 : S ≤ (w2.alloc o).heap.size := Nat.le_trans hS ha.size
 refine ⟨own_apart k1 k2 hap hg, hap.moved hm k2, (hW.trans (ha.mono hS)).grown hg hs3 fun g hg => (k1.lt g hg).1, Nat.le_trans hs3 hg.size⟩
def RfAt (wA : World) (ts us : List Int) (u5 u6 : Value) (W : World) : Prop :=
 W.ownsRow wA.heap.size 3 1 u5 (ts.length + us.length) ((ts ++ us).map (Value.int .i64)) ∧ W.ownsRow wA.heap.size 3 1 u6 us.length (us.map (Value.int .i64)) ∧ Apart u5 u6 ∧ Below wA.heap.size wA W
def GivesF (w : World) (len : Nat) (xs : List Int) (e : Ending) (w' : World) : Prop := ∃ a cap, e = .returned (.slice a len cap) ∧ Reads .i64 w' a len cap xs ∧ (∀ p, a = some p → w.heap.size ≤ p.block) ∧ Below w.heap.size w w'
set_option maxHeartbeats 2000000 in
theorem rref_own (c : Cf) (j : Jb) (w : World) (hc : mayB c = true) (hj : JbIn w j) (hm : mayJ c.vocab j.most j.ts = true) :
  Calls Tryz.prog 27 #[.agg (CfV c), .agg (JbV j)] w fun e w' => GivesF w (refL c j.seed (0 :: j.ts) j.most.toNat).length (refL c j.seed (0 :: j.ts) j.most.toNat) e w' := by
 obtain ⟨i0, hi, hz0, hz1, hz2⟩ := info_parts Tryz.info3
 obtain ⟨hm0, hm1, hm2, _⟩ := mayJ_iff.1 hm
 obtain ⟨M, hM⟩ : ∃ M, j.most.toNat = M := ⟨_, rfl⟩
 have hMm : j.most = (M : Int) := by omega
 obtain ⟨wA, hwA⟩ : ∃ wA, wA = (w.alloc (.cells (CfV c) 24)).alloc (.cells (JbV j) 43) := ⟨_, rfl⟩
 have HB0 : Hid (Below w.heap.size w wA) := by unfold Hid; rw [hwA]; exact ((Below.refl _ _).alloc (Nat.le_refl _) _).alloc (by simp) _
 have HK : Hid (∀ W : World, Below wA.heap.size wA W → (W.cell? ⟨w.heap.size, 0, none⟩ = some (.int .u64 c.seed) ∧ W.cell? ⟨w.heap.size, 1, none⟩ = some (.int .i64 c.vocab) ∧ W.cell? ⟨w.heap.size, 2, none⟩ = some (.int .i64 c.dim) ∧ W.cell? ⟨w.heap.size, 3, none⟩ = some (.int .i64 c.layers) ∧ W.cell? ⟨w.heap.size, 4, none⟩ = some (.int .i64 c.top) ∧ W.cell? ⟨w.heap.size, 5, none⟩ = some (.int .i64 c.heat)) ∧ W.cell? ⟨w.heap.size + 1, 0, none⟩ = some (.int .u64 j.seed) ∧ W.cell? ⟨w.heap.size + 1, 1, none⟩ = some (.slice j.ap j.lp j.cp) ∧ W.cell? ⟨w.heap.size + 1, 2, none⟩ = some (.int .i64 j.most)) := by
  intro W hb
  have e1 : wA.heap[w.heap.size]? = some (.cells (CfV c) 24 (0, 0)) := by rw [hwA, Below.heap_alloc _ _ _ (by simp)]; exact heap_alloc_new w _
  have e2 : wA.heap[w.heap.size + 1]? = some (.cells (JbV j) 43 (0, 0)) := by
   have := heap_alloc_new (w.alloc (.cells (CfV c) 24)) (.cells (JbV j) 43)
   rw [hwA]
   simpa using this
  exact ⟨Cf_cells (block_below e1 hb), Jb_cells (block_below e2 hb)⟩
 have hz := hj.size
 have HA := hid (hj.below HB0.out)
 have HTo := hid fun (ts' : List Int) a n cap W (hr : Reads .i64 W a n cap ts') (hn : n ≤ 256) => rtold_any c a n cap ts' j.seed W hc hr hn
 have HR0 := hid fun (us : List Int) (hl : us.length = 0) => show refL c j.seed (0 :: j.ts) M = us ++ refL c j.seed (0 :: j.ts ++ us) (M - us.length) by
  obtain rfl : us = [] := List.eq_nil_of_length_eq_zero hl
  simp
 have HR1 := hid fun (ts' : List Int) (k : Nat) (h1 : k < M) (h2 : ts'.length < 256) (h3 : toldZ c ts' j.seed ≠ 0) => show refL c j.seed ts' (M - k) = toldZ c ts' j.seed :: refL c j.seed (ts' ++ [toldZ c ts' j.seed]) (M - (k + 1)) by
  rw [show M - k = M - (k + 1) + 1 by omega]; exact refL_go h2 h3
 have HR2 := hid fun (ts' : List Int) (k : Nat) (h : M ≤ k ∨ 256 ≤ ts'.length ∨ toldZ c ts' j.seed = 0) => refL_stop (c := c) (seed := j.seed) (ts := ts') (m := M - k) (by omega)
 rw [hM]
 obtain ⟨f, hf⟩ : ∃ f : List Int → Int, f = fun ts' => toldZ c ts' j.seed := ⟨_, rfl⟩
 have hfk : ∀ ts', toldZ c ts' j.seed = f ts' := fun ts' => by rw [hf]
 simp only [hfk] at HTo HR1 HR2
 obtain ⟨R, hR⟩ : ∃ R : List Int → Nat → List Int, R = refL c j.seed := ⟨_, rfl⟩
 rw [← hR] at HR0 HR1 HR2 ⊢
 clear hj hc hm hM hf hfk hR
 obtain ⟨sd, ap, lp, cp, ts, mo⟩ := j
 obtain ⟨s, v, d, l, tt, h⟩ := c
 simp only at hMm hz hm2 HA HR0
 subst hMm
 obtain ⟨⟨x0, x1, x2, x3, x4, x5⟩, x6, x7, x8⟩ := HK.out wA (Below.refl _ _)
 unfold CfV JbV at hwA
 unfold CfV at HTo
 simp only at HK hwA HTo x0 x1 x2 x3 x4 x5 x6 x7 x8
 unfold CfV JbV
 simp only
 rw [hwA] at x0 x1 x2 x3 x4 x5 x6 x7 x8
 obtain ⟨TS, hTS⟩ : ∃ TS, 0 :: ts = TS := ⟨_, rfl⟩
 have hTl : TS.length = lp + 1 := by rw [← hTS]; simp; omega
 have HTS : Hid ([0] ++ ts = TS) := hTS
 rw [hTS] at HR0 ⊢
 clear hTS
 have HL0 : Hid ((wA.alloc (.cells #[.int .i64 0] 3)).ownsRow wA.heap.size 3 1 (.slice (some ⟨w.heap.size + 1 + 1, 0, none⟩) 1 1) 1 (([0] : List Int).map (Value.int .i64))) := by
  have hs : wA.heap.size = w.heap.size + 1 + 1 := by rw [hwA]; simp
  have := World.ownsRow_lit (base := wA.heap.size) (e := 3) (size := 1) wA #[.int .i64 0] 1 (Nat.le_refl _) (by unfold maxLen; omega) (by simp)
  rw [← hs]
  exact this
 have HBl : Hid (Below wA.heap.size wA (wA.alloc (.cells #[.int .i64 0] 3))) := (Below.refl _ _).alloc (Nat.le_refl _) _
 go_enter Tryz.func27, Tryz.ntmps27
 go_wp2_with (at_builtin; rw [← hwA]; refine append_any _ rfl (.tmp 8) (.tmp 10) 41 rfl wA.heap.size 3 i0 (.int .i64 0) 8 Tryz.underlying41 hi hz0 hz1 hz2 rfl .i64 _ 1 [0] rfl HL0.out ap lp cp ts rfl (HA.out.below HBl.out) (by omega) (by omega) HBl.out.size ?_; intro v1 w1 hO1 hb1)
 have HF0 : Hid (RfAt wA TS [] v1 (.slice none 0 0) w1) := by
  refine ⟨?_, World.ownsRow_nil _ _ _ _, (Apart.nil _).symm, HBl.out.trans hb1⟩
  have e : TS.length + ([] : List Int).length = 1 + lp := by rw [hTl]; simp; omega
  rw [e, List.append_nil, ← HTS.out]
  exact hO1
 clear hO1 hb1 HL0 HBl HA hwA x0 x1 x2 x3 x4 x5 x6 x7 x8
 clear HTS
 go_loopw [5, 6] (fun u5 u6 W => ∃ us : List Int, us.length ≤ M ∧ Hid (R TS M = us ++ R (TS ++ us) (M - us.length)) ∧ Hid (RfAt wA TS us u5 u6 W)) (fun _ u6 _ => M - slen u6)
 case atStart => exact ⟨[], Nat.zero_le _, HR0.out [] rfl, HF0⟩
 case round =>
 obtain ⟨us, hus, HRu, HF⟩ := hrel
 rename World => wr
 clear HF0 HR0
 obtain ⟨hO5, hO6, hap, hW⟩ := HF.out
 clear HF
 obtain ⟨a5, c5, rfl, hr5⟩ := Reads.own (k := .i64) hO5
 obtain ⟨a6, c6, rfl, hr6⟩ := Reads.own (k := .i64) hO6
 have HO5 := hid hO5
 have HO6 := hid hO6
 have HAp := hid hap
 have HW := hid hW
 have HR6 := hid hr6
 obtain ⟨⟨x0, x1, x2, x3, x4, x5⟩, x6, x7, x8⟩ := HK.out wr hW
 have r5 := hr5.room
 have m5 := hr5.most
 have r6 := hr6.room
 have m6 := hr6.most
 obtain ⟨k, hk⟩ : ∃ k, us.length = k := ⟨_, rfl⟩
 obtain ⟨q, hq⟩ : ∃ q, TS.length + us.length = q := ⟨_, rfl⟩
 have HQ : Hid ((TS ++ us).length = q) := by unfold Hid; rw [List.length_append]; exact hq
 have HKu := hid hk
 have HQu := hid hq
 rw [hq] at HO5 hr5 r5 HAp ⊢
 rw [hk] at hus HRu HO6 hr6 HR6 r6 HAp ⊢
 have HBW := hid (HB0.out.trans (hW.mono HB0.out.size))
 have HR5 := hid hr5
 have HEnd : Hid (M ≤ k ∨ 256 ≤ q ∨ f (TS ++ us) = 0 → GivesF w (R TS M).length (R TS M) (.returned (.slice a6 k c6)) wr) := fun hh => by
  have e : R TS M = us := by rw [HRu.out, HR2.out (TS ++ us) k (by rw [HQ.out]; exact hh), List.append_nil]
  rw [e, HKu.out]
  refine ⟨_, _, rfl, HR6.out, fun p hp => ?_, HBW.out⟩
  rcases id HO6.out.2 with ⟨e1, _⟩ | ⟨g, c', cur, e1, hb, _⟩
  ·cases e1
   cases hp
  ·cases e1
   cases hp
   exact Nat.le_trans HB0.out.size hb
 clear hO5 hO6 hap hW hr5 hr6 HR6
 by_cases h1 : k < M
 ·have q1 : (k : Int) < (M : Int) := by omega
  by_cases h2 : q < 256
  ·have q2 : (q : Int) < 256 := by omega
   have hT := HTo.out (TS ++ us) _ _ _ wr HR5.out (by omega)
   by_cases h3 : f (TS ++ us) = 0
   ·have HE := hid (HEnd.out (.inr (.inr h3)))
    rw [h3] at hT
    clear HTo HR1 HR2 HRu HEnd HO5 HO6 HAp HW HR5 h3
    go_wp2_with fail
    refine hT.mono ?_
    rintro e w2 ⟨rfl, hb⟩
    have HE2 : Hid (GivesF w (R TS M).length (R TS M) (.returned (.slice a6 k c6)) w2) := by
     obtain ⟨a', c', e', hr', hf', hb'⟩ := HE.out
     exact ⟨a', c', e', hr'.below hb, hf', hb'.trans (hb.mono hb'.size)⟩
    clear hT hb HE x0 x1 x2 x3 x4 x5 x6 x7 x8
    go_wp2
    go_ret
    exact HE2.out
   ·have HRn : Hid (R TS M = (us ++ [f (TS ++ us)]) ++ R (TS ++ (us ++ [f (TS ++ us)])) (M - (k + 1))) := by
     unfold Hid
     rw [HRu.out, HR1.out (TS ++ us) k h1 (by rw [HQ.out]; exact h2) h3]
     simp
    have HXs : Hid ((us ++ [f (TS ++ us)]).length = k + 1) := by unfold Hid; rw [List.length_append, HKu.out]; rfl
    clear HTo HR1 HR2 HRu HEnd HR5
    obtain ⟨t, ht⟩ : ∃ t, f (TS ++ us) = t := ⟨_, rfl⟩
    rw [ht] at hT h3 HRn HXs
    clear ht
    go_wp2_with fail
    refine hT.mono ?_
    rintro e w2 ⟨rfl, hb⟩
    replace HO5 := hid (own_below HO5.out hb)
    replace HO6 := hid (own_below HO6.out hb)
    replace HW := hid (HW.out.trans (hb.mono HW.out.size))
    have HS : Hid (wA.heap.size ≤ w2.heap.size) := HW.out.size
    clear hT hb x0 x1 x2 x3 x4 x5 x6 x7 x8
    have HNc := hid fun W u T => new_cell W u T
    have HAl : Hid (∀ (W : World) (o : Obj), Below W.heap.size W (W.alloc o)) := fun W o => (Below.refl _ _).alloc (Nat.le_refl _) _
    have HEx : Hid (∀ W v5 v6, W.ownsRow wA.heap.size 3 1 v5 (q + 1) ((TS ++ us).map (Value.int .i64) ++ [.int .i64 t]) → W.ownsRow wA.heap.size 3 1 v6 (k + 1) (us.map (Value.int .i64) ++ [.int .i64 t]) → Apart v5 v6 → Below wA.heap.size wA W → RfAt wA TS (us ++ [t]) v5 v6 W) := fun W v5 v6 k1 k2 k3 k4 => by
     refine ⟨?_, ?_, k3, k4⟩
     ·rw [HXs.out, show TS.length + (k + 1) = q + 1 by have := HQu.out; have := HKu.out; omega, ← List.append_assoc, List.map_append]; exact k1
     ·rw [HXs.out, List.map_append]; exact k2
    go_wp2_with (first
     | (at_builtin; refine append_one2 _ rfl (.tmp 30) (.tmp 32) 41 rfl wA.heap.size 3 i0 (.int .i64 0) 8 Tryz.underlying41 hi hz0 hz1 hz2 rfl (by omega) _ k _ rfl (own_below HO6.out (HAl.out _ _)) (by omega) w2.heap.size (.int .i64 t) rfl rfl (HNc.out _ _ _) (Nat.le_trans HS.out (HAl.out _ _).size) ?_; intro v6 w3 hO3 hg3 hm3; obtain ⟨g1, g2, g3, g4⟩ := two_app HO6.out HO5.out HAp.out.symm HW.out HS.out hg3 hm3; have HP5 := hid g1; have HP6 := hid hO3; have HPa := hid g2.symm; have HPw := hid g3; have HPs := hid g4; clear hO3 hg3 hm3 g1 g2 g3 g4)
     | (at_builtin; refine append_one2 _ rfl (.tmp 34) (.tmp 36) 41 rfl wA.heap.size 3 i0 (.int .i64 0) 8 Tryz.underlying41 hi hz0 hz1 hz2 rfl (by omega) _ q _ rfl (own_below HP5.out (HAl.out _ _)) (by omega) w3.heap.size (.int .i64 t) rfl rfl (HNc.out _ _ _) (Nat.le_trans HPs.out (HAl.out _ _).size) ?_; intro v5 w4 hO4 hg4 hm4; obtain ⟨g1, g2, g3, g4⟩ := two_app HP5.out HP6.out HPa.out HPw.out HPs.out hg4 hm4; have HQ5 := hid hO4; have HQ6 := hid g1; have HQa := hid g2; have HQw := hid g3; clear hO4 hg4 hm4 g1 g2 g3 g4)
     | fail)
    have HFn := hid (HEx.out _ _ _ HQ5.out HQ6.out HQa.out HQw.out)
    have hsl := own_slen HQ6.out
    clear HEx HQ5 HQ6 HQa HQw HP5 HP6 HPa HPw HPs HO5 HO6 HAp HW HS HNc HAl
    go_round
    case rel => exact ⟨us ++ [t], by rw [HXs.out]; omega, by rw [HXs.out]; exact HRn, HFn⟩
    case measure => rw [hsl]; simp [slen]; omega
  ·have q2 : ¬ (q : Int) < 256 := by omega
   have HE := hid (HEnd.out (.inr (.inl (by omega))))
   clear HTo HR1 HR2 HRu HEnd HO5 HO6 HAp HW HR5
   go_wp2
   go_ret
   exact HE.out
 ·have q1 : ¬ (k : Int) < (M : Int) := by omega
  have HE := hid (HEnd.out (.inl (by omega)))
  clear HTo HR1 HR2 HRu HEnd HO5 HO6 HAp HW HR5
  go_wp2
  go_ret
  exact HE.out
end Go.Proofs.YtjgggialnegddaaGreat
namespace Go.Proofs.YtjgggialnegddaaGreat
open Go.RowKit
noncomputable def stA (c : Cf) (a : At) : List Int := 0 :: a.ts ++ (a.text c).take a.k
noncomputable def nxA (c : Cf) (a : At) (ch : Nat) : List Int := refL c a.seed (stA c a) (min (a.most - ((a.text c).take a.k).length) ch)
theorem refL_min (c : Cf) (seed : Int) (ts : List Int) (m k : Nat) : refL c seed ts (min m k) = (refL c seed ts m).take k := by
 rcases Nat.le_total k m with h | h
 ·rw [Nat.min_eq_right h]
  exact refL_less c seed m ts k h
 ·rw [Nat.min_eq_left h, List.take_of_length_le (Nat.le_trans (refL_len c seed m ts) h)]
theorem nxA_in {c : Cf} {a : At} {ch : Nat} (h : a.k ≤ (a.text c).length) : nxA c a ch = ((a.text c).drop a.k).take ch := by
 have hl : ((a.text c).take a.k).length = a.k := by rw [List.length_take]; omega
 unfold nxA stA
 rw [hl, refL_min]
 congr 1
 exact (refL_rest c a.seed a.k a.most (0 :: a.ts) h).symm
theorem nxA_out {c : Cf} {a : At} {ch : Nat} (h : (a.text c).length < a.k) : nxA c a ch = [] ∧ stA c a = 0 :: a.ts ++ a.text c := by
 have ht : (a.text c).take a.k = a.text c := List.take_of_length_le (by omega)
 have hr := refL_rest c a.seed (a.text c).length a.most (0 :: a.ts) (Nat.le_refl _)
 have hr2 : refL c a.seed (0 :: a.ts ++ a.text c) (a.most - (a.text c).length) = [] := by
  have e : (refL c a.seed (0 :: a.ts) a.most).take (a.text c).length = a.text c := List.take_of_length_le (Nat.le_refl _)
  rw [e] at hr
  rw [← hr]
  exact List.drop_of_length_le (Nat.le_refl _)
 refine ⟨?_, by unfold stA; rw [ht]⟩
 unfold nxA stA
 rw [ht, refL_min, hr2]
 simp
theorem stA_next {c : Cf} {a : At} {ch : Nat} : stA c a ++ nxA c a ch = stA c { a with k := a.k + (nxA c a ch).length } := by
 rcases Nat.lt_or_ge (a.text c).length a.k with h | h
 ·obtain ⟨h1, h2⟩ := nxA_out (ch := ch) h
  rw [h1]
  simp
 ·rw [nxA_in h]
  show 0 :: a.ts ++ (a.text c).take a.k ++ _ = 0 :: a.ts ++ (a.text c).take (a.k + _)
  rw [List.append_assoc, List.take_add]
  congr 2
  rw [List.length_take, List.take_eq_take_iff]
  omega
theorem nxA_bd {c : Cf} {a : At} {ch : Nat} (hk : a.k ≤ a.most) (hl : a.ts.length + a.k < 256) (hts : a.ts.length ≤ 255) : a.k + (nxA c a ch).length ≤ a.most ∧ a.ts.length + (a.k + (nxA c a ch).length) < 256 := by
 rcases Nat.lt_or_ge (a.text c).length a.k with h | h
 ·rw [(nxA_out (ch := ch) h).1]
  simp
  omega
 ·have h1 := refL_len c a.seed a.most (0 :: a.ts)
  have h2 := refL_most c a.seed a.most (0 :: a.ts) (by simp; omega)
  have h3 : (a.text c).length ≤ a.most := h1
  have h4 : a.ts.length + 1 + (a.text c).length ≤ 256 := h2
  rw [nxA_in h, List.length_take, List.length_drop]
  omega
noncomputable def msA (c : Cf) (ch : Nat) (inc : Int) (a : At) (b : Bool) : List Mg := (if nxA c a ch = [] then [] else [emM a.id inc a.k (nxA c a ch)]) ++ (if b = true then [ovM a.id inc (a.k + (nxA c a ch).length : Nat) 1] else [])
noncomputable def leA (c : Cf) (ch : Nat) (a : At) (b : Bool) : Option At := if b = true then none else some { a with k := a.k + (nxA c a ch).length }
theorem tell_go {c : Cf} {a : At} {ch : Nat} {b : Bool} (inc : Int) (hch : 1 ≤ ch) (hk : a.k ≤ a.most) (h1 : b = true → refL c a.seed (stA c a ++ nxA c a ch) (a.most - ((a.text c).take a.k).length - (nxA c a ch).length) = []) (h2 : b = false → (nxA c a ch).length = ch) : TellR c ch inc a (msA c ch inc a b) (leA c ch a b) := by
 unfold msA leA
 rcases Nat.lt_or_ge (a.text c).length a.k with h | h
 ·obtain ⟨e1, _⟩ := nxA_out (ch := ch) h
  cases b with
  | false =>
   have := h2 rfl
   rw [e1] at this
   simp at this
   omega
  | true =>
   rw [e1]
   exact .inl ⟨h, by simp, rfl⟩
 ·have e1 := nxA_in (ch := ch) h
  refine .inr ⟨h, nxA c a ch, e1, ?_⟩
  cases b with
  | false => exact .inl ⟨h2 rfl, by simp, by simp⟩
  | true =>
   refine .inr ⟨?_, by simp, by simp⟩
   have hl : ((a.text c).take a.k).length = a.k := by rw [List.length_take]; omega
   have hs := refL_step c a.seed (stA c a) (a.most - a.k) ch
   have h3 := h1 rfl
   rw [hl] at h3
   have en : nxA c a ch = refL c a.seed (stA c a) (min (a.most - a.k) ch) := by unfold nxA; rw [hl]
   rw [← en, h3, List.append_nil] at hs
   have hr := refL_rest c a.seed a.k a.most (0 :: a.ts) h
   have hr2 : (a.text c).drop a.k = nxA c a ch := by rw [← hs]; exact hr
   have := congrArg List.length hr2
   rw [List.length_drop] at this
   omega
end Go.Proofs.YtjgggialnegddaaGreat
