/-
  RRef: Contracts: the document's May and Ref of layer 12.
  Apps: An append of a list of numbers to a row of the call's own, with where the row then lies (Moved); what else lies in memory stays (own_apart, two_app).
  DeMath2: Mathematics of layer 12, more: there is always a drawn token, and it is a token (told_bd); what follows are tokens (refL_in), and the text has at most 256 (refL_most).
  DeSt: States of package decode in memory: what a state's struct and lists hold (StIn), the same with the blocks that it lies in (StAt), and how that is carried on while rows of ints grow beside it.
  De1: Contracts of package decode, the small ones: isToken, isModel, May, Len, Tokens, first.
-/
import Derived.Test.YtahpilgbabjebaaGreatPk13
import Derived.Deep.QuietTactic
import Derived.BigQuiet
import Derived.Test.YtahpilgbabjebaaGreatPk06
namespace Go.Proofs.YtahpilgbabjebaaGreat
open Go.RowKit
set_option linter.unusedVariables false
set_option maxRecDepth 1000000

theorem mayJ_iff {v most : Int} {ts : List Int} : mayJ v most ts = true ↔ 0 ≤ most ∧ most ≤ 256 ∧ ts.length ≤ 255 ∧ ∀ i, i < ts.length → 0 ≤ ts[i]?.getD 0 ∧ ts[i]?.getD 0 < v := by
  unfold mayJ
  simp only [Bool.and_eq_true, decide_eq_true_eq, List.all_eq_true]
  refine ⟨fun ⟨h1, h2, h3, h4⟩ => ⟨h1, h2, h3, fun i hi => ?_⟩, fun ⟨h1, h2, h3, h4⟩ => ⟨h1, h2, h3, fun t ht => ?_⟩⟩
  · rw [List.getElem?_eq_getElem hi]; exact h4 _ (List.getElem_mem hi)
  · obtain ⟨i, hi, rfl⟩ := List.getElem_of_mem ht
    have := h4 i hi
    rwa [List.getElem?_eq_getElem hi] at this
theorem mayJ_no {v most : Int} {ts : List Int} (h : ¬ (0 ≤ most ∧ most ≤ 256 ∧ ts.length ≤ 255 ∧ ∀ i, i < ts.length → 0 ≤ ts[i]?.getD 0 ∧ ts[i]?.getD 0 < v)) : mayJ v most ts = false := by
  rw [Bool.eq_false_iff]; exact fun e => h (mayJ_iff.1 e)

set_option maxHeartbeats 1000000 in
theorem rmayj_any (c : Cf) (j : Jb) (w : World) (hj : JbIn w j) :
    Calls Tryz.prog 13 #[.agg (CfV c), .agg (JbV j)] w fun e w' => e = .returned (.bool (mayJ c.vocab j.most j.ts)) ∧ Below w.heap.size w w' := by
  obtain ⟨wA, hwA⟩ : ∃ wA, wA = (w.alloc (.cells (CfV c) 24)).alloc (.cells (JbV j) 27) := ⟨_, rfl⟩
  have HB0 : Hid (Below w.heap.size w wA) := by unfold Hid; rw [hwA]; exact ((Below.refl _ _).alloc (Nat.le_refl _) _).alloc (by simp) _
  have HK : Hid (∀ W : World, Below wA.heap.size wA W → W.cell? ⟨w.heap.size, 1, none⟩ = some (.int .i64 c.vocab) ∧ W.cell? ⟨w.heap.size + 1, 1, none⟩ = some (.slice j.ap j.lp j.cp) ∧ W.cell? ⟨w.heap.size + 1, 2, none⟩ = some (.int .i64 j.most)) := by
    intro W hb
    have e1 : wA.heap[w.heap.size]? = some (.cells (CfV c) 24 (0, 0)) := by rw [hwA, Below.heap_alloc _ _ _ (by simp)]; exact heap_alloc_new w _
    have e2 : wA.heap[w.heap.size + 1]? = some (.cells (JbV j) 27 (0, 0)) := by
      have := heap_alloc_new (w.alloc (.cells (CfV c) 24)) (.cells (JbV j) 27)
      rw [hwA]
      simpa using this
    exact ⟨(Cf_cells (block_below e1 hb)).2.1, (Jb_cells (block_below e2 hb)).2.1, (Jb_cells (block_below e2 hb)).2.2⟩
  have hz := hj.size
  have r1 := hj.room
  have m1 := hj.most
  have HA := hid fun (W : World) (hb : Below wA.heap.size wA W) => (hj.below HB0.out).below hb
  clear hj
  obtain ⟨sd, ap, lp, cp, ts, mo⟩ := j
  obtain ⟨s, v, d, l, tt, h⟩ := c
  obtain ⟨x1, x2, x3⟩ := HK.out wA (Below.refl _ _)
  unfold CfV JbV at hwA
  simp only at HK hz r1 m1 HA hwA x1 x2 x3
  unfold CfV JbV
  simp only
  rw [hwA] at x1 x2 x3
  by_cases h1 : mo < 0
  · rw [mayJ_no (by omega)]
    have HBo := HB0
    clear HK HA
    go_enter Tryz.func13, Tryz.ntmps13
    go_wp2_with fail
    rw [← hwA]
    clear hwA x1 x2 x3
    go_ret
    exact ⟨rfl, HBo.out⟩
  by_cases h2 : 256 < mo
  · rw [mayJ_no (by omega)]
    have HBo := HB0
    clear HK HA
    go_enter Tryz.func13, Tryz.ntmps13
    go_wp2_with fail
    rw [← hwA]
    clear hwA x1 x2 x3
    go_ret
    exact ⟨rfl, HBo.out⟩
  by_cases h3 : 255 < lp
  · rw [mayJ_no (by omega)]
    have HBo := HB0
    have h3' : (255 : Int) < (lp : Int) := by omega
    clear HK HA
    go_enter Tryz.func13, Tryz.ntmps13
    go_wp2_with fail
    rw [← hwA]
    clear hwA x1 x2 x3
    go_ret
    exact ⟨rfl, HBo.out⟩
  have h3' : ¬ (255 : Int) < (lp : Int) := by omega
  have HNo := hid fun (i : Nat) (hi : i < lp) (hb : ts[i]?.getD 0 < 0 ∨ v ≤ ts[i]?.getD 0) => mayJ_no (v := v) (most := mo) (ts := ts) (fun hh => by have := hh.2.2.2 i (by omega); omega)
  have HYe : Hid ((∀ i, i < lp → 0 ≤ ts[i]?.getD 0 ∧ ts[i]?.getD 0 < v) → mayJ v mo ts = true) := fun hh => mayJ_iff.2 ⟨by omega, by omega, by omega, by rw [hz]; exact hh⟩
  generalize mayJ v mo ts = bb at *
  go_enter Tryz.func13, Tryz.ntmps13
  go_wp2_with fail
  rw [← hwA]
  clear hwA x1 x2 x3
  go_loopw [5] (fun i W => ∃ k : Nat, k ≤ lp ∧ i = .int .i64 k ∧ Hid (∀ i, i < k → 0 ≤ ts[i]?.getD 0 ∧ ts[i]?.getD 0 < v) ∧ Hid (Below wA.heap.size wA W)) (fun i _ => lp - (intOf i).toNat)
  case atStart => exact ⟨0, Nat.zero_le _, rfl, fun i hi => absurd hi (by omega), Below.refl _ _⟩
  case round =>
  obtain ⟨k, hk, rfl, HL, HW⟩ := hrel
  rename World => wr
  obtain ⟨x1, x2, x3⟩ := HK.out _ HW.out
  by_cases hlt : k < lp
  · obtain ⟨b1, o1, rfl, c1⟩ := (HA.out _ HW.out).cell k hlt
    have q1 : (k : Int) < (lp : Int) := by omega
    have HBW := hid (HB0.out.trans (HW.out.mono HB0.out.size))
    by_cases ht : ts[k]?.getD 0 < 0
    · obtain rfl := HNo.out k hlt (.inl ht)
      clear HNo HYe HK HA HL HW
      generalize ts[k]?.getD 0 = t at *
      go_wp2_with fail
      go_quiet (fail)
      go_wp2
      go_ret
      exact ⟨rfl, HBW.out.trans ⟨rfl, rfl, rfl, Nat.le_refl _, fun _ _ => rfl⟩⟩
    by_cases ht2 : v ≤ ts[k]?.getD 0
    · obtain rfl := HNo.out k hlt (.inr ht2)
      clear HNo HYe HK HA HL HW
      generalize ts[k]?.getD 0 = t at *
      go_wp2_with fail
      go_quiet (fail)
      go_wp2
      go_ret
      exact ⟨rfl, HBW.out.trans ⟨rfl, rfl, rfl, Nat.le_refl _, fun _ _ => rfl⟩⟩
    have HL2 : Hid (∀ i, i < k + 1 → 0 ≤ ts[i]?.getD 0 ∧ ts[i]?.getD 0 < v) := fun i hi => by
      rcases (by omega : i < k ∨ i = k) with h' | rfl
      · exact HL.out i h'
      · omega
    clear HNo HYe HK HA HL HBW
    generalize ts[k]?.getD 0 = t at *
    go_wp2_with fail
    go_quiet (fail)
    go_wp2_with fail
    go_round
    case rel => exact ⟨k + 1, by omega, by go_num, HL2, HW.out.trans ⟨rfl, rfl, rfl, Nat.le_refl _, fun _ _ => rfl⟩⟩
    case measure => simp [intOf]; omega
  · obtain rfl : k = lp := by omega
    have hb := HYe.out HL.out
    subst hb
    have HBW := hid (HB0.out.trans (HW.out.mono HB0.out.size))
    clear HNo HYe HK HA HL HW HB0
    go_wp2
    go_ret
    exact ⟨rfl, HBW.out⟩

/-- How long a slice is. -/
def slen : Value → Nat
  | .slice _ n _ => n
  | _ => 0
theorem own_slen {w : World} {base e n : Nat} {v : Value} {xs : List Value} (h : w.ownsRow base e 1 v n xs) : slen v = n := by
  rcases id h.2 with ⟨rfl, rfl⟩ | ⟨g, c, cur, rfl, _⟩
  · rfl
  · rfl
theorem own_apart {w w' : World} {b1 b2 e n1 n2 : Nat} {u v : Value} {xs ys : List Value} (hu : w.ownsRow b1 e 1 u n1 xs) (hv : w.ownsRow b2 e 1 v n2 ys) (hap : Apart u v) (hg : w.grownBy w' u.ownBlock) : w'.ownsRow b2 e 1 v n2 ys :=
  hv.kept hg (by
    cases ho : v.ownBlock with
    | none => exact .inl rfl
    | some o => exact .inr fun e => hap o e.symm ho)
theorem two_app {S e n1 n2 : Nat} {wA w2 w3 : World} {u v u' : Value} {xs ys : List Value} {o : Obj} (h1 : w2.ownsRow S e 1 u n1 xs) (h2 : w2.ownsRow S e 1 v n2 ys) (hap : Apart u v) (hW : Below S wA w2) (hS : S ≤ w2.heap.size) (hg : (w2.alloc o).grownBy w3 u.ownBlock) (hm : Moved (w2.alloc o) u u') :
    w3.ownsRow S e 1 v n2 ys ∧ Apart u' v ∧ Below S wA w3 ∧ S ≤ w3.heap.size := by
  have ha : Below w2.heap.size w2 (w2.alloc o) := (Below.refl _ _).alloc (Nat.le_refl _) _
  have k1 := own_below h1 ha
  have k2 := own_below h2 ha
  have hs3 : S ≤ (w2.alloc o).heap.size := Nat.le_trans hS ha.size
  refine ⟨own_apart k1 k2 hap hg, hap.moved hm k2, (hW.trans (ha.mono hS)).grown hg hs3 fun g hg => (k1.lt g hg).1, Nat.le_trans hs3 hg.size⟩
/-- What stands between the tokens that follow. -/
def RfAt (wA : World) (ts us : List Int) (u5 u6 : Value) (W : World) : Prop :=
  W.ownsRow wA.heap.size 3 1 u5 (ts.length + us.length) ((ts ++ us).map (Value.int .i64)) ∧ W.ownsRow wA.heap.size 3 1 u6 us.length (us.map (Value.int .i64)) ∧ Apart u5 u6 ∧ Below wA.heap.size wA W
set_option maxHeartbeats 2000000 in
theorem rref_any (c : Cf) (j : Jb) (w : World) (hc : mayB c = true) (hj : JbIn w j) (hm : mayJ c.vocab j.most j.ts = true) :
    Calls Tryz.prog 16 #[.agg (CfV c), .agg (JbV j)] w fun e w' => Gives w (refL c j.seed (0 :: j.ts) j.most.toNat).length (refL c j.seed (0 :: j.ts) j.most.toNat) e w' := by
  obtain ⟨i0, hi, hz0, hz1, hz2⟩ := info_parts Tryz.info3
  obtain ⟨hm0, hm1, hm2, _⟩ := mayJ_iff.1 hm
  obtain ⟨M, hM⟩ : ∃ M, j.most.toNat = M := ⟨_, rfl⟩
  have hMm : j.most = (M : Int) := by omega
  obtain ⟨wA, hwA⟩ : ∃ wA, wA = (w.alloc (.cells (CfV c) 24)).alloc (.cells (JbV j) 27) := ⟨_, rfl⟩
  have HB0 : Hid (Below w.heap.size w wA) := by unfold Hid; rw [hwA]; exact ((Below.refl _ _).alloc (Nat.le_refl _) _).alloc (by simp) _
  have HK : Hid (∀ W : World, Below wA.heap.size wA W → (W.cell? ⟨w.heap.size, 0, none⟩ = some (.int .u64 c.seed) ∧ W.cell? ⟨w.heap.size, 1, none⟩ = some (.int .i64 c.vocab) ∧ W.cell? ⟨w.heap.size, 2, none⟩ = some (.int .i64 c.dim) ∧ W.cell? ⟨w.heap.size, 3, none⟩ = some (.int .i64 c.layers) ∧ W.cell? ⟨w.heap.size, 4, none⟩ = some (.int .i64 c.top) ∧ W.cell? ⟨w.heap.size, 5, none⟩ = some (.int .i64 c.heat)) ∧ W.cell? ⟨w.heap.size + 1, 0, none⟩ = some (.int .u64 j.seed) ∧ W.cell? ⟨w.heap.size + 1, 1, none⟩ = some (.slice j.ap j.lp j.cp) ∧ W.cell? ⟨w.heap.size + 1, 2, none⟩ = some (.int .i64 j.most)) := by
    intro W hb
    have e1 : wA.heap[w.heap.size]? = some (.cells (CfV c) 24 (0, 0)) := by rw [hwA, Below.heap_alloc _ _ _ (by simp)]; exact heap_alloc_new w _
    have e2 : wA.heap[w.heap.size + 1]? = some (.cells (JbV j) 27 (0, 0)) := by
      have := heap_alloc_new (w.alloc (.cells (CfV c) 24)) (.cells (JbV j) 27)
      rw [hwA]
      simpa using this
    exact ⟨Cf_cells (block_below e1 hb), Jb_cells (block_below e2 hb)⟩
  have hz := hj.size
  have HA := hid (hj.below HB0.out)
  have HTo := hid fun (ts' : List Int) a n cap W (hr : Reads .i64 W a n cap ts') (hn : n ≤ 256) => rtold_any c a n cap ts' j.seed W hc hr hn
  have HR0 := hid fun (us : List Int) (hl : us.length = 0) => show refL c j.seed (0 :: j.ts) M = us ++ refL c j.seed (0 :: j.ts ++ us) (M - us.length) by
    obtain rfl : us = [] := List.eq_nil_of_length_eq_zero hl
    simp
  have HR1 := hid fun (ts' : List Int) (k : Nat) (h1 : k < M) (h2 : ts'.length < 256) (h3 : toldZ c ts' j.seed ≠ 0) => show refL c j.seed ts' (M - k) = toldZ c ts' j.seed :: refL c j.seed (ts' ++ [toldZ c ts' j.seed]) (M - (k + 1)) by
    rw [show M - k = M - (k + 1) + 1 by omega]; exact refL_go h2 h3
  have HR2 := hid fun (ts' : List Int) (k : Nat) (h : M ≤ k ∨ 256 ≤ ts'.length ∨ toldZ c ts' j.seed = 0) => refL_stop (c := c) (seed := j.seed) (ts := ts') (m := M - k) (by omega)
  rw [hM]
  obtain ⟨f, hf⟩ : ∃ f : List Int → Int, f = fun ts' => toldZ c ts' j.seed := ⟨_, rfl⟩
  have hfk : ∀ ts', toldZ c ts' j.seed = f ts' := fun ts' => by rw [hf]
  simp only [hfk] at HTo HR1 HR2
  obtain ⟨R, hR⟩ : ∃ R : List Int → Nat → List Int, R = refL c j.seed := ⟨_, rfl⟩
  rw [← hR] at HR0 HR1 HR2 ⊢
  clear hj hc hm hM hf hfk hR
  obtain ⟨sd, ap, lp, cp, ts, mo⟩ := j
  obtain ⟨s, v, d, l, tt, h⟩ := c
  simp only at hMm hz hm2 HA HR0
  subst hMm
  obtain ⟨⟨x0, x1, x2, x3, x4, x5⟩, x6, x7, x8⟩ := HK.out wA (Below.refl _ _)
  unfold CfV JbV at hwA
  unfold CfV at HTo
  simp only at HK hwA HTo x0 x1 x2 x3 x4 x5 x6 x7 x8
  unfold CfV JbV
  simp only
  rw [hwA] at x0 x1 x2 x3 x4 x5 x6 x7 x8
  obtain ⟨TS, hTS⟩ : ∃ TS, 0 :: ts = TS := ⟨_, rfl⟩
  have hTl : TS.length = lp + 1 := by rw [← hTS]; simp; omega
  have HTS : Hid ([0] ++ ts = TS) := hTS
  rw [hTS] at HR0 ⊢
  clear hTS
  have HL0 : Hid ((wA.alloc (.cells #[.int .i64 0] 3)).ownsRow wA.heap.size 3 1 (.slice (some ⟨w.heap.size + 1 + 1, 0, none⟩) 1 1) 1 (([0] : List Int).map (Value.int .i64))) := by
    have hs : wA.heap.size = w.heap.size + 1 + 1 := by rw [hwA]; simp
    have := World.ownsRow_lit (base := wA.heap.size) (e := 3) (size := 1) wA #[.int .i64 0] 1 (Nat.le_refl _) (by unfold maxLen; omega) (by simp)
    rw [← hs]
    exact this
  have HBl : Hid (Below wA.heap.size wA (wA.alloc (.cells #[.int .i64 0] 3))) := (Below.refl _ _).alloc (Nat.le_refl _) _
  go_enter Tryz.func16, Tryz.ntmps16
  go_wp2_with (at_builtin; rw [← hwA]; refine append_any _ rfl (.tmp 8) (.tmp 10) 25 rfl wA.heap.size 3 i0 (.int .i64 0) 8 Tryz.underlying25 hi hz0 hz1 hz2 rfl .i64 _ 1 [0] rfl HL0.out ap lp cp ts rfl (HA.out.below HBl.out) (by omega) (by omega) HBl.out.size ?_; intro v1 w1 hO1 hb1)
  have HF0 : Hid (RfAt wA TS [] v1 (.slice none 0 0) w1) := by
    refine ⟨?_, World.ownsRow_nil _ _ _ _, (Apart.nil _).symm, HBl.out.trans hb1⟩
    have e : TS.length + ([] : List Int).length = 1 + lp := by rw [hTl]; simp; omega
    rw [e, List.append_nil, ← HTS.out]
    exact hO1
  clear hO1 hb1 HL0 HBl HA hwA x0 x1 x2 x3 x4 x5 x6 x7 x8
  clear HTS
  go_loopw [5, 6] (fun u5 u6 W => ∃ us : List Int, us.length ≤ M ∧ Hid (R TS M = us ++ R (TS ++ us) (M - us.length)) ∧ Hid (RfAt wA TS us u5 u6 W)) (fun _ u6 _ => M - slen u6)
  case atStart => exact ⟨[], Nat.zero_le _, HR0.out [] rfl, HF0⟩
  case round =>
  obtain ⟨us, hus, HRu, HF⟩ := hrel
  rename World => wr
  clear HF0 HR0
  obtain ⟨hO5, hO6, hap, hW⟩ := HF.out
  clear HF
  obtain ⟨a5, c5, rfl, hr5⟩ := Reads.own (k := .i64) hO5
  obtain ⟨a6, c6, rfl, hr6⟩ := Reads.own (k := .i64) hO6
  have HO5 := hid hO5
  have HO6 := hid hO6
  have HAp := hid hap
  have HW := hid hW
  have HR6 := hid hr6
  obtain ⟨⟨x0, x1, x2, x3, x4, x5⟩, x6, x7, x8⟩ := HK.out wr hW
  have r5 := hr5.room
  have m5 := hr5.most
  have r6 := hr6.room
  have m6 := hr6.most
  obtain ⟨k, hk⟩ : ∃ k, us.length = k := ⟨_, rfl⟩
  obtain ⟨q, hq⟩ : ∃ q, TS.length + us.length = q := ⟨_, rfl⟩
  have HQ : Hid ((TS ++ us).length = q) := by unfold Hid; rw [List.length_append]; exact hq
  have HKu := hid hk
  have HQu := hid hq
  rw [hq] at HO5 hr5 r5 HAp ⊢
  rw [hk] at hus HRu HO6 hr6 HR6 r6 HAp ⊢
  have HBW := hid (HB0.out.trans (hW.mono HB0.out.size))
  have HR5 := hid hr5
  have HEnd : Hid (M ≤ k ∨ 256 ≤ q ∨ f (TS ++ us) = 0 → Gives w (R TS M).length (R TS M) (.returned (.slice a6 k c6)) wr) := fun hh => by
    have e : R TS M = us := by rw [HRu.out, HR2.out (TS ++ us) k (by rw [HQ.out]; exact hh), List.append_nil]
    rw [e, HKu.out]
    exact ⟨_, _, rfl, HR6.out, HBW.out⟩
  clear hO5 hO6 hap hW hr5 hr6 HR6
  by_cases h1 : k < M
  · have q1 : (k : Int) < (M : Int) := by omega
    by_cases h2 : q < 256
    · have q2 : (q : Int) < 256 := by omega
      have hT := HTo.out (TS ++ us) _ _ _ wr HR5.out (by omega)
      by_cases h3 : f (TS ++ us) = 0
      · have HE := hid (HEnd.out (.inr (.inr h3)))
        rw [h3] at hT
        clear HTo HR1 HR2 HRu HEnd HO5 HO6 HAp HW HR5 h3
        go_wp2_with fail
        refine hT.mono ?_
        rintro e w2 ⟨rfl, hb⟩
        have HE2 : Hid (Gives w (R TS M).length (R TS M) (.returned (.slice a6 k c6)) w2) := by
          obtain ⟨a', c', e', hr', hb'⟩ := HE.out
          exact ⟨a', c', e', hr'.below hb, hb'.trans (hb.mono hb'.size)⟩
        clear hT hb HE x0 x1 x2 x3 x4 x5 x6 x7 x8
        go_wp2
        go_ret
        exact HE2.out
      · have HRn : Hid (R TS M = (us ++ [f (TS ++ us)]) ++ R (TS ++ (us ++ [f (TS ++ us)])) (M - (k + 1))) := by
          unfold Hid
          rw [HRu.out, HR1.out (TS ++ us) k h1 (by rw [HQ.out]; exact h2) h3]
          simp
        have HXs : Hid ((us ++ [f (TS ++ us)]).length = k + 1) := by unfold Hid; rw [List.length_append, HKu.out]; rfl
        clear HTo HR1 HR2 HRu HEnd HR5
        obtain ⟨t, ht⟩ : ∃ t, f (TS ++ us) = t := ⟨_, rfl⟩
        rw [ht] at hT h3 HRn HXs
        clear ht
        go_wp2_with fail
        refine hT.mono ?_
        rintro e w2 ⟨rfl, hb⟩
        replace HO5 := hid (own_below HO5.out hb)
        replace HO6 := hid (own_below HO6.out hb)
        replace HW := hid (HW.out.trans (hb.mono HW.out.size))
        have HS : Hid (wA.heap.size ≤ w2.heap.size) := HW.out.size
        clear hT hb x0 x1 x2 x3 x4 x5 x6 x7 x8
        have HNc := hid fun W u T => new_cell W u T
        have HAl : Hid (∀ (W : World) (o : Obj), Below W.heap.size W (W.alloc o)) := fun W o => (Below.refl _ _).alloc (Nat.le_refl _) _
        have HEx : Hid (∀ W v5 v6, W.ownsRow wA.heap.size 3 1 v5 (q + 1) ((TS ++ us).map (Value.int .i64) ++ [.int .i64 t]) → W.ownsRow wA.heap.size 3 1 v6 (k + 1) (us.map (Value.int .i64) ++ [.int .i64 t]) → Apart v5 v6 → Below wA.heap.size wA W → RfAt wA TS (us ++ [t]) v5 v6 W) := fun W v5 v6 k1 k2 k3 k4 => by
          refine ⟨?_, ?_, k3, k4⟩
          · rw [HXs.out, show TS.length + (k + 1) = q + 1 by have := HQu.out; have := HKu.out; omega, ← List.append_assoc, List.map_append]; exact k1
          · rw [HXs.out, List.map_append]; exact k2
        go_wp2_with (first
          | (at_builtin; refine append_one2 _ rfl (.tmp 30) (.tmp 32) 25 rfl wA.heap.size 3 i0 (.int .i64 0) 8 Tryz.underlying25 hi hz0 hz1 hz2 rfl (by omega) _ k _ rfl (own_below HO6.out (HAl.out _ _)) (by omega) w2.heap.size (.int .i64 t) rfl rfl (HNc.out _ _ _) (Nat.le_trans HS.out (HAl.out _ _).size) ?_; intro v6 w3 hO3 hg3 hm3; obtain ⟨g1, g2, g3, g4⟩ := two_app HO6.out HO5.out HAp.out.symm HW.out HS.out hg3 hm3; have HP5 := hid g1; have HP6 := hid hO3; have HPa := hid g2.symm; have HPw := hid g3; have HPs := hid g4; clear hO3 hg3 hm3 g1 g2 g3 g4)
          | (at_builtin; refine append_one2 _ rfl (.tmp 34) (.tmp 36) 25 rfl wA.heap.size 3 i0 (.int .i64 0) 8 Tryz.underlying25 hi hz0 hz1 hz2 rfl (by omega) _ q _ rfl (own_below HP5.out (HAl.out _ _)) (by omega) w3.heap.size (.int .i64 t) rfl rfl (HNc.out _ _ _) (Nat.le_trans HPs.out (HAl.out _ _).size) ?_; intro v5 w4 hO4 hg4 hm4; obtain ⟨g1, g2, g3, g4⟩ := two_app HP5.out HP6.out HPa.out HPw.out HPs.out hg4 hm4; have HQ5 := hid hO4; have HQ6 := hid g1; have HQa := hid g2; have HQw := hid g3; clear hO4 hg4 hm4 g1 g2 g3 g4)
          | fail)
        have HFn := hid (HEx.out _ _ _ HQ5.out HQ6.out HQa.out HQw.out)
        have hsl := own_slen HQ6.out
        clear HEx HQ5 HQ6 HQa HQw HP5 HP6 HPa HPw HPs HO5 HO6 HAp HW HS HNc HAl
        go_round
        case rel => exact ⟨us ++ [t], by rw [HXs.out]; omega, by rw [HXs.out]; exact HRn, HFn⟩
        case measure => rw [hsl]; simp [slen]; omega
    · have q2 : ¬ (q : Int) < 256 := by omega
      have HE := hid (HEnd.out (.inr (.inl (by omega))))
      clear HTo HR1 HR2 HRu HEnd HO5 HO6 HAp HW HR5
      go_wp2
      go_ret
      exact HE.out
  · have q1 : ¬ (k : Int) < (M : Int) := by omega
    have HE := hid (HEnd.out (.inl (by omega)))
    clear HTo HR1 HR2 HRu HEnd HO5 HO6 HAp HW HR5
    go_wp2
    go_ret
    exact HE.out
end Go.Proofs.YtahpilgbabjebaaGreat
namespace Go.Proofs.YtahpilgbabjebaaGreat
open Go.RowKit
set_option linter.unusedVariables false
set_option maxRecDepth 1000000

theorem moved_pos {w w' : World} {e n : Nat} {v v' : Value} {xs : List Value} (h : w'.ownsRow w.heap.size e 1 v' n xs) (hn : 0 < n) : Moved w v v' := by
  right
  rcases id h.2 with ⟨_, h0⟩ | ⟨g, cap, cur, rfl, hb, _⟩
  · omega
  · exact ⟨g, rfl, hb⟩
theorem append_ints2 {P : Program} (w : World) {ops : Array Oper} {rest : List Oper} {o : Oper} {a : Act} {Q : Exit → Act → World → Prop} (hgd : o.guard = none) (s x : Operand) (t : TypeId)
    (ho : o.op = .call { callee := .builtin .append, args := #[s, x], argTypes := #[t, t] })
    (base : Nat) (e : TypeId) (i : TypeInfo) (z : Value) (bytes : Nat) (ht : P.underlying t = some (.slice e)) (hi : P.info? e = some i) (hz : i.zero = some z) (hsize : i.size = 1) (hby : i.bytes = bytes) (hzs : z.cells.size = 1) (hbt : bytes ≤ 24) (k : IntKind)
    (v : Value) (n : Nat) (xs : List Int) (hv : a.eval s = v) (hown : w.ownsRow base e 1 v n (xs.map (Value.int k)))
    (ao : Option Addr) (m c : Nat) (news : List Int) (hx : a.eval x = .slice ao m c) (hr : Reads k w ao m c news) (hnm : n + m ≤ 100000) (hbase : base ≤ w.heap.size)
    (h : ∀ v' w', w'.ownsRow base e 1 v' (n + m) ((xs ++ news).map (Value.int k)) → w.grownBy w' v.ownBlock → Moved w v v' → wpList P ops Q rest (a.put o.dst v') w') : wpList P ops Q (o :: rest) a w := by
  have hbytes : (n + m) * bytes ≤ 140737488355328 := by have : (n + m) * bytes ≤ (n + m) * 24 := Nat.mul_le_mul_left _ hbt; omega
  cases ao with
  | none =>
    obtain ⟨rfl, rfl⟩ := hr.bare rfl
    have hn : news = [] := List.eq_nil_of_length_eq_zero hr.size
    subst hn
    exact wpList_append_own_none hgd s x t ho base e i 1 ht hi v n _ hv hown hx (h v w (by simpa using hown) ⟨rfl, rfl, rfl, Nat.le_refl _, fun _ _ _ => rfl⟩ (.inl rfl))
  | some ad =>
    have hnl : (news.map (Value.int k)).length = m * 1 := by simpa using hr.size
    rcases id hown.2 with ⟨rfl, rfl⟩ | ⟨g, cap, cur, rfl, hbg, hg, hnc, hcm, hcs, htake⟩
    · obtain rfl : xs = [] := List.eq_nil_of_length_eq_zero (by simpa using hown.1)
      refine wpList_append_own w hgd s x t ho w.heap.size e i z 1 bytes ht hi hz hsize hby hzs (by decide) _ 0 [] hv (World.ownsRow_nil _ _ _ _) ad m c (news.map (Value.int k)) hx hnl hr.news (ints_oneCell k news) (by unfold maxLen; omega) hbytes (Nat.le_refl _) ?_
      intro v' w' h1 h2 h3
      refine h v' w' (own_base (by simpa using h1) hbase) h2 ?_
      by_cases hm : m = 0
      · left; rw [(h3.2 ⟨rfl, hm⟩)]
      · exact moved_pos h1 (by omega)
    · by_cases hroom : n + m ≤ cap
      · refine wpList_append_fits w hgd s x t ho base e i 1 ht hi hsize g n cap _ hv hown ad m c (news.map (Value.int k)) hx hnl hr.news (ints_oneCell k news) hroom ?_
        intro w' k1 k2
        exact h _ w' (by rw [List.map_append]; exact k1) k2 (.inl rfl)
      · refine wpList_append_grows w hgd s x t ho e i z 1 bytes ht hi hz hsize hby hzs (by decide) (some ⟨g, 0, none⟩) n cap (xs.map (Value.int k)) hv (fun e => by cases e) (by simpa using hown.1) (fun b hb => by cases hb; exact hown.cells (g := g) rfl) ad m c (news.map (Value.int k)) hx hnl hr.news (ints_oneCell k news) (by omega) (by unfold maxLen; omega) hbytes ?_
        intro v' w' k1 k2
        exact h v' w' (own_base (by rw [List.map_append]; exact k1) hbase) ⟨k2.os, k2.tape, k2.output, k2.size, fun k hk _ => k2.block k hk (by simp)⟩ (moved_pos k1 (by omega))
end Go.Proofs.YtahpilgbabjebaaGreat
namespace Go.Proofs.YtahpilgbabjebaaGreat
open Go.RowKit
set_option linter.unusedVariables false
set_option maxRecDepth 1000000

theorem falls_insert (x : Mk) : ∀ qs : List Mk, Falls qs → ∃ rs : List Mk, rs.Perm (x :: qs) ∧ Falls rs := by
  intro qs
  induction qs with
  | nil => intro _; exact ⟨[x], List.Perm.refl _, List.pairwise_singleton _ _⟩
  | cons q qs ih =>
    intro h
    obtain ⟨h1, h2⟩ := List.pairwise_cons.1 h
    rcases leM_total q x with hq | hq
    · refine ⟨x :: q :: qs, List.Perm.refl _, List.pairwise_cons.2 ⟨fun y hy => ?_, h⟩⟩
      rcases List.mem_cons.1 hy with rfl | hy
      · exact hq
      · exact leM_trans (h1 y hy) hq
    · obtain ⟨rs, hp, hf⟩ := ih h2
      refine ⟨q :: rs, (hp.cons q).trans (List.Perm.swap _ _ _), List.pairwise_cons.2 ⟨fun y hy => ?_, hf⟩⟩
      rcases List.mem_cons.1 (hp.subset hy) with rfl | hy
      · exact hq
      · exact h1 y hy
theorem falls_any (ms : List Mk) : ∃ qs : List Mk, qs.Perm ms ∧ Falls qs := by
  induction ms with
  | nil => exact ⟨[], List.Perm.refl _, List.Pairwise.nil⟩
  | cons m ms ih =>
    obtain ⟨qs, hp, hf⟩ := ih
    obtain ⟨rs, hp2, hf2⟩ := falls_insert m qs hf
    exact ⟨rs, hp2.trans (hp.cons m), hf2⟩
theorem top_ex (zs : List Int) (n K : Nat) (h : K ≤ n) : ∃ ps, TopOf zs n K ps := by
  obtain ⟨qs, hp, hf⟩ := falls_any (marksK zs n)
  have hl : qs.length = n := by rw [hp.length_eq, marksK_len]
  refine ⟨(qs.take K).map Prod.fst, qs.take K, qs.drop K, rfl, by rw [List.length_take]; omega, hf.take, by rw [List.take_append_drop]; exact hp, fun r hr q hq => ?_⟩
  have : Falls (qs.take K ++ qs.drop K) := by rw [List.take_append_drop]; exact hf
  exact (List.pairwise_append.1 this).2.2 q hq r hr
theorem first_ex {ws : List Int} {d : Int} : ∀ n, 0 ≤ d → d < sumK ws n → ∃ k, FirstAt ws n d k := by
  intro n
  induction n with
  | zero => intro d0 hd; simp only [sumK] at hd; omega
  | succ n ih =>
    intro d0 hd
    by_cases h : ∀ j, j < n → sumK ws (j + 1) ≤ d
    · exact ⟨n, by omega, hd, h⟩
    · cases n with
      | zero => exact absurd (fun j hj => absurd hj (by omega)) h
      | succ m =>
        by_cases h2 : d < sumK ws (m + 1)
        · obtain ⟨k, hk⟩ := ih d0 h2
          exact ⟨k, by have := hk.lt; omega, hk.up, hk.low⟩
        · have : ∃ j, j < m + 1 ∧ d < sumK ws (j + 1) := Classical.byContradiction fun hn => h fun j hj => Int.not_lt.1 fun hlt => hn ⟨j, hj, hlt⟩
          obtain ⟨j, hj, hlt⟩ := this
          -- the least such place
          have key : ∀ j, j < m + 2 → d < sumK ws (j + 1) → ∃ k, FirstAt ws (m + 2) d k := by
            intro j
            induction j using Nat.strongRecOn with
            | _ j ihj =>
              intro hj hlt
              by_cases hl : ∀ i, i < j → sumK ws (i + 1) ≤ d
              · exact ⟨j, hj, hlt, hl⟩
              · have : ∃ i, i < j ∧ d < sumK ws (i + 1) := Classical.byContradiction fun hn => hl fun i hi => Int.not_lt.1 fun hlt => hn ⟨i, hi, hlt⟩
                obtain ⟨i, hi, hlt'⟩ := this
                exact ihj i hi (by omega) hlt'
          exact key j (by omega) hlt
theorem best_ex (zs : List Int) : ∃ t, BestOf zs t := by
  by_cases h : zs = []
  · exact ⟨-1, .inl ⟨h, rfl⟩⟩
  · have hl : 0 < zs.length := List.length_pos_iff.2 h
    obtain ⟨ps, hp⟩ := top_ex zs zs.length 1 hl
    have := hp.len
    match ps, this with
    | [x], _ => exact ⟨x, .inr ⟨hl, hp⟩⟩
theorem draw_ex (zs : List Int) (top heat s p : Int) : ∃ t, DrawOf zs top heat s p t := by
  by_cases h : zs = [] ∨ heat < 1
  · obtain ⟨t, ht⟩ := best_ex zs
    exact ⟨t, .inl ⟨h, ht⟩⟩
  · have h0 : 0 < zs.length := List.length_pos_iff.2 fun e => h (.inl e)
    obtain ⟨K, hK, hKl⟩ := kof_any (mx1 top) zs.length
    have hK0 := kof_pos hK h0
    obtain ⟨ps, hp⟩ := top_ex zs zs.length K hKl
    obtain ⟨d0, d1⟩ := below_sum (zs := zs) (heat := heat) s p hp.len hK0
    obtain ⟨k, hk⟩ := first_ex K d0 d1
    exact ⟨_, .inr ⟨h0, by omega, K, k, ps, hK, hp, hk, rfl⟩⟩
theorem best_bd {zs : List Int} {t : Int} (h : BestOf zs t) (h0 : 0 < zs.length) : 0 ≤ t ∧ t < zs.length := by
  rcases h with ⟨rfl, _⟩ | ⟨_, hp⟩
  · simp at h0
  · obtain ⟨m, h1, h2⟩ := hp.at (i := 0) (by omega)
    simp at h1
    omega
theorem draw_bd {zs : List Int} {top heat s p t : Int} (h : DrawOf zs top heat s p t) (h0 : 0 < zs.length) : 0 ≤ t ∧ t < zs.length := by
  rcases h with ⟨_, hb⟩ | ⟨_, _, K, k, ps, _, hp, hk, rfl⟩
  · exact best_bd hb h0
  · obtain ⟨m, h1, h2⟩ := hp.at hk.lt
    omega
theorem next_bd {c : Cf} (hc : mayB c = true) (zs : List Int) (s p : Int) : 0 ≤ nextZ c zs s p ∧ nextZ c zs s p < c.vocab := by
  have hm := may_parts hc
  obtain ⟨t, ht⟩ := draw_ex (rowK (smarkZ c zs) c.vocab.toNat) c.top c.heat s p
  unfold nextZ
  rw [ht.eq]
  have := draw_bd ht (by rw [rowK_len]; omega)
  rw [rowK_len] at this
  omega
theorem told_bd {c : Cf} (hc : mayB c = true) (ts : List Int) (seed : Int) : 0 ≤ toldZ c ts seed ∧ toldZ c ts seed < c.vocab := next_bd hc _ _ _
theorem refL_in {c : Cf} (hc : mayB c = true) (seed : Int) : ∀ m ts i, i < (refL c seed ts m).length → 0 ≤ (refL c seed ts m)[i]?.getD 0 ∧ (refL c seed ts m)[i]?.getD 0 < c.vocab := by
  intro m
  induction m with
  | zero => intro ts i h; simp [refL] at h
  | succ m ih =>
    intro ts i h
    rw [refL_succ] at h ⊢
    by_cases h1 : 256 ≤ ts.length
    · rw [if_pos h1] at h; simp at h
    · rw [if_neg h1] at h ⊢
      by_cases h2 : toldZ c ts seed = 0
      · rw [if_pos h2] at h; simp at h
      · rw [if_neg h2] at h ⊢
        cases i with
        | zero => simpa using told_bd hc ts seed
        | succ i => simpa using ih _ i (by simpa using h)
theorem refL_most (c : Cf) (seed : Int) : ∀ m ts, ts.length ≤ 256 → ts.length + (refL c seed ts m).length ≤ 256 := by
  intro m
  induction m with
  | zero => intro ts h; simp [refL]; omega
  | succ m ih =>
    intro ts h
    rw [refL_succ]
    by_cases h1 : 256 ≤ ts.length
    · rw [if_pos h1]; simp; omega
    · rw [if_neg h1]
      by_cases h2 : toldZ c ts seed = 0
      · rw [if_pos h2]; simp; omega
      · rw [if_neg h2]
        have := ih (ts ++ [toldZ c ts seed]) (by simp; omega)
        simp at this ⊢
        omega
/-- What follows is what follows at first, and its rest. -/
theorem refL_step (c : Cf) (seed : Int) (ts : List Int) (m k : Nat) : refL c seed ts m = refL c seed ts (min m k) ++ refL c seed (ts ++ refL c seed ts (min m k)) (m - (refL c seed ts (min m k)).length) := by
  have h1 := refL_less c seed m ts (min m k) (Nat.min_le_left _ _)
  have hl : (refL c seed ts (min m k)).length ≤ (refL c seed ts m).length := by rw [h1, List.length_take]; omega
  have h2 := refL_rest c seed (refL c seed ts (min m k)).length m ts hl
  have h3 : (refL c seed ts m).take (refL c seed ts (min m k)).length = refL c seed ts (min m k) := by
    conv => lhs; rw [h1]
    rw [List.length_take]
    conv => rhs; rw [h1]
    rcases Nat.le_total (min m k) (refL c seed ts m).length with hh | hh
    · rw [Nat.min_eq_left hh]
    · rw [Nat.min_eq_right hh, List.take_length, List.take_of_length_le hh]
  rw [h3] at h2
  rw [← h2]
  conv => lhs; rw [← List.take_append_drop (refL c seed ts (min m k)).length (refL c seed ts m), h3]
end Go.Proofs.YtahpilgbabjebaaGreat
namespace Go.Proofs.YtahpilgbabjebaaGreat
open Go.RowKit
set_option linter.unusedVariables false
set_option maxRecDepth 1000000

/-- The block is none of ints. -/
def NotInt (w : World) (k : Nat) : Prop := ∃ cur t fz, w.heap[k]? = some (.cells cur t fz) ∧ t ≠ 3
theorem NotInt.own {w : World} {base n b : Nat} {v : Value} {xs : List Value} (h : w.ownsRow base 3 1 v n xs) (hb : v.ownBlock = some b) : ¬ NotInt w b := by
  rintro ⟨cur, t, fz, h1, h2⟩
  obtain ⟨c, hc⟩ := own_type h hb
  rw [hc] at h1
  simp at h1
  exact h2 h1.2.1.symm
theorem NotInt.lt {w : World} {k : Nat} (h : NotInt w k) : k < w.heap.size := by
  obtain ⟨cur, t, fz, h1, _⟩ := h
  exact lt_of_block h1
theorem NotInt.back {w w' : World} {k : Nat} (h : NotInt w' k) (hb : Below w.heap.size w w') (hk : k < w.heap.size) : NotInt w k := by
  obtain ⟨cur, t, fz, h1, h2⟩ := h
  exact ⟨cur, t, fz, (hb.block k hk).symm.trans h1, h2⟩
/-- The blocks of a pointer. -/
def mF (p : Option Addr) (k : Nat) : Prop := ∃ a, p = some a ∧ a.block = k
/-- What came of each place of a text. -/
def outsL (c : Cf) (ts : List Int) : List (List Int) := tblK (fun k => outK c ts (k + 1)) ts.length
theorem outsL_len (c : Cf) (ts : List Int) : (outsL c ts).length = ts.length := tblK_len _ _
theorem outsL_at (c : Cf) (ts : List Int) {i : Nat} (h : i < ts.length) : (outsL c ts)[i]?.getD [] = outK c ts (i + 1) := tblK_at _ h
theorem outsL_snoc (c : Cf) (ts : List Int) (t : Int) : outsL c ts ++ [outK c (ts ++ [t]) (ts.length + 1)] = outsL c (ts ++ [t]) := by
  have h : outsL c ts = tblK (fun k => outK c (ts ++ [t]) (k + 1)) ts.length := by
    unfold outsL tblK
    apply List.map_congr_left
    intro k hk
    rw [List.mem_range] at hk
    exact (outK_app c ts [t] (by omega)).symm
  rw [h]
  unfold outsL
  rw [List.length_append, List.length_singleton]
  exact tblK_snoc (fun k => outK c (ts ++ [t]) (k + 1)) ts.length
theorem outsL_take (c : Cf) (ts : List Int) {n : Nat} (h : n ≤ ts.length) : (outsL c ts).take n = outsL c (ts.take n) := by
  have hl : (ts.take n).length = n := by rw [List.length_take]; omega
  unfold outsL tblK
  rw [← List.map_take, List.take_range, hl, Nat.min_eq_left h]
  apply List.map_congr_left
  intro k hk
  rw [List.mem_range] at hk
  have := outK_app c (ts.take n) (ts.drop n) (k := k + 1) (by omega)
  rw [List.take_append_drop] at this
  exact this
theorem memL_take (c : Cf) (ts : List Int) {n : Nat} (h : n ≤ ts.length) : cutM (memL c c.layers.toNat (tvsL c ts) ts.length) n = memL c c.layers.toNat (tvsL c (ts.take n)) (ts.take n).length := by
  have hl : (ts.take n).length = n := by rw [List.length_take]; omega
  rw [memL_cut c _ _ h]
  have := memL_app c c.layers.toNat (ts.take n) (ts.drop n) (k := n) (by omega)
  rw [List.take_append_drop] at this
  rw [this, hl]

/-- What a state holds: its struct's cells, its model, its tokens, what came of each place, its memory. -/
structure StIn (W : World) (g : Nat) (pm ta : Option Addr) (tc : Nat) (ha : Option Addr) (hc : Nat) (pq : Option Addr) (c : Cf) (ts : List Int) : Prop where
  var : W.heap[g]? = some (.cells #[.pointer pm, .slice ta ts.length tc, .slice ha ts.length hc, .pointer pq] 67 (0, 0))
  md : MdAt W pm c
  tk : Reads .i64 W ta ts.length tc ts
  mks : TbH W (ha, ts.length, hc) (outsL c ts)
  mem : MemAt W pq (memL c c.layers.toNat (tvsL c ts) ts.length)
theorem StIn.below {W W' : World} {g : Nat} {pm ta : Option Addr} {tc : Nat} {ha : Option Addr} {hc : Nat} {pq : Option Addr} {c : Cf} {ts : List Int} (h : StIn W g pm ta tc ha hc pq c ts) (hb : Below W.heap.size W W') : StIn W' g pm ta tc ha hc pq c ts :=
  ⟨block_below h.var hb, h.md.below hb, h.tk.below hb, h.mks.below hb, h.mem.below hb⟩
theorem MdAt.keep {T : TypeId} {W W' : World} {p : Option Addr} {c : Cf} (h : MdAt W p c) (hk : Kp T W W') (hT : 59 ≠ T) : MdAt W' p c := by
  rcases h with h | ⟨g, hp, hg⟩
  · exact .inl h
  · exact .inr ⟨g, hp, hk _ _ _ _ hg hT⟩
theorem Reads.same {k : IntKind} {W W' : World} {a : Option Addr} {l c : Nat} {zs : List Int} (hr : Reads k W a l c zs) (hb : ∀ x, mF a x → W'.heap[x]? = W.heap[x]?) : Reads k W' a l c zs :=
  ⟨hr.size, hr.room, hr.most, hr.bare, fun i hi => by
    obtain ⟨b, off, ha, hc⟩ := hr.cell i hi
    exact ⟨b, off, ha, (World.cell?_of_block (a := ⟨b, off + i, none⟩) (hb b ⟨_, ha, rfl⟩)).trans hc⟩⟩
theorem StIn.keep {W W' : World} {g : Nat} {pm ta : Option Addr} {tc : Nat} {ha : Option Addr} {hc : Nat} {pq : Option Addr} {c : Cf} {ts : List Int} (h : StIn W g pm ta tc ha hc pq c ts) (hk : Kp 3 W W') (hb : ∀ x, mF ta x → W'.heap[x]? = W.heap[x]?) : StIn W' g pm ta tc ha hc pq c ts :=
  ⟨hk _ _ _ _ h.var (by decide), h.md.keep hk (by decide), h.tk.same hb, h.mks.keep hk (by decide) (by decide), h.mem.keep hk (by decide) (by decide) (by decide) (by decide)⟩
/-- A state lies in these blocks alone. -/
def StX (W : World) (p : Option Addr) (c : Cf) (ts : List Int) (F : Nat → Prop) : Prop :=
  ∃ (W0 : World) (g : Nat) (pm ta : Option Addr) (tc : Nat) (ha : Option Addr) (hc : Nat) (pq : Option Addr), p = some ⟨g, 0, none⟩ ∧ StIn W0 g pm ta tc ha hc pq c ts ∧ W0.heap.size ≤ W.heap.size ∧ (∀ k, NotInt W0 k → F k) ∧ (∀ k, mF ta k → F k) ∧ ∀ k, F k → W.heap[k]? = W0.heap[k]?
/-- The state at a pointer: of a model with this configuration, its text; it lies in the blocks F alone. -/
structure StAt (W : World) (p : Option Addr) (c : Cf) (ts : List Int) (F : Nat → Prop) : Prop where
  ptr : ∃ g, p = some ⟨g, 0, none⟩
  one : 1 ≤ ts.length
  most : ts.length ≤ 256
  old : ∀ k, F k → k < W.heap.size
  rest : StX W p c ts F
theorem StAt.same {W W' : World} {p : Option Addr} {c : Cf} {ts : List Int} {F : Nat → Prop} (h : StAt W p c ts F) (hs : W.heap.size ≤ W'.heap.size) (hF : ∀ k, F k → W'.heap[k]? = W.heap[k]?) : StAt W' p c ts F := by
  obtain ⟨W0, g, pm, ta, tc, ha, hc, pq, h1, h2, h3, h4, h5, h6⟩ := h.rest
  exact ⟨h.ptr, h.one, h.most, fun k hk => Nat.lt_of_lt_of_le (h.old k hk) hs, W0, g, pm, ta, tc, ha, hc, pq, h1, h2, Nat.le_trans h3 hs, h4, h5, fun k hk => (hF k hk).trans (h6 k hk)⟩
theorem StAt.below {W W' : World} {p : Option Addr} {c : Cf} {ts : List Int} {F : Nat → Prop} (h : StAt W p c ts F) (hb : Below W.heap.size W W') : StAt W' p c ts F := h.same hb.size fun k hk => hb.block k (h.old k hk)
/-- A row that grows lies apart from a state. -/
theorem StAt.grown {W W2 W' : World} {p : Option Addr} {c : Cf} {ts : List Int} {F : Nat → Prop} {v v' : Value} (h : StAt W p c ts F) (hb : Below W.heap.size W W2) (hg : W2.grownBy W' v.ownBlock) (hm : Moved W2 v v') (hv : ∀ b, v.ownBlock = some b → ¬ F b) : StAt W' p c ts F ∧ ∀ b, v'.ownBlock = some b → ¬ F b := by
  have h2 := h.below hb
  refine ⟨h2.same hg.size fun k hk => hg.block k (h2.old k hk) fun e => hv k e.symm hk, fun b hb' hF => ?_⟩
  rcases hm with hm | ⟨o, hm, hle⟩
  · exact hv b (by rw [← hm]; exact hb') hF
  · rw [hm] at hb'
    cases hb'
    have := h2.old _ hF
    omega
/-- What a state holds, now. -/
theorem StAt.get {W : World} {p : Option Addr} {c : Cf} {ts : List Int} {F : Nat → Prop} (h : StAt W p c ts F) : ∃ (g : Nat) (pm ta : Option Addr) (tc : Nat) (ha : Option Addr) (hc : Nat) (pq : Option Addr), p = some ⟨g, 0, none⟩ ∧ StIn W g pm ta tc ha hc pq c ts ∧ ∀ k, mF ta k → F k := by
  obtain ⟨W0, g, pm, ta, tc, ha, hc, pq, h1, h2, h3, h4, h5, h6⟩ := h.rest
  refine ⟨g, pm, ta, tc, ha, hc, pq, h1, h2.keep (fun k cur t fz hk ht => (h6 k (h4 k ⟨cur, t, fz, hk, ht⟩)).trans hk) (fun x hx => h6 x (h5 x hx)), h5⟩
/-- The blocks that a state lies in. -/
def stF (W : World) (ta : Option Addr) (k : Nat) : Prop := NotInt W k ∨ mF ta k
theorem StIn.at {W : World} {g : Nat} {pm ta : Option Addr} {tc : Nat} {ha : Option Addr} {hc : Nat} {pq : Option Addr} {c : Cf} {ts : List Int} (h : StIn W g pm ta tc ha hc pq c ts) (h1 : 1 ≤ ts.length) (h2 : ts.length ≤ 256) : StAt W (some ⟨g, 0, none⟩) c ts (stF W ta) := by
  refine ⟨⟨g, rfl⟩, h1, h2, fun k hk => ?_, W, g, pm, ta, tc, ha, hc, pq, rfl, h, Nat.le_refl _, fun k hk => .inl hk, fun k hk => .inr hk, fun _ _ => rfl⟩
  rcases hk with hk | ⟨a, rfl, rfl⟩
  · exact hk.lt
  · obtain ⟨b, off, e, hc⟩ := h.tk.cell 0 (by omega)
    cases e
    exact World.block_lt_of_cell? _ _ hc
theorem stF_of {w w' : World} {ta : Option Addr} {F0 : Nat → Prop} (hb : Below w.heap.size w w') (h : ∀ k, mF ta k → F0 k ∨ w.heap.size ≤ k) (k : Nat) (hk : stF w' ta k) : F0 k ∨ w.heap.size ≤ k ∨ NotInt w k := by
  rcases hk with hk | hk
  · rcases Nat.lt_or_ge k w.heap.size with hl | hl
    · exact .inr (.inr (hk.back hb hl))
    · exact .inr (.inl hl)
  · rcases h k hk with h' | h'
    · exact .inl h'
    · exact .inr (.inl h')
/-- A state is handed back. -/
def GivesS (w : World) (F0 : Nat → Prop) (c : Cf) (ts : List Int) (e : Ending) (w' : World) : Prop := ∃ g F, e = .returned (.tuple #[.pointer (some ⟨g, 0, none⟩), .int .i64 0]) ∧ StAt w' (some ⟨g, 0, none⟩) c ts F ∧ (∀ k, F k → F0 k ∨ w.heap.size ≤ k ∨ NotInt w k) ∧ Below w.heap.size w w'
/-- An error is handed back. -/
def GivesE (w : World) (n : Int) (e : Ending) (w' : World) : Prop := e = .returned (.tuple #[.pointer none, .int .i64 n]) ∧ Below w.heap.size w w'
/-- What 'with' hands back. -/
def GivesW (w : World) (pm : Option Addr) (c : Cf) (ts : List Int) (e : Ending) (w' : World) : Prop := ∃ (g : Nat) (ta : Option Addr) (tc : Nat) (ha : Option Addr) (hc : Nat) (pq : Option Addr), e = .returned (.pointer (some ⟨g, 0, none⟩)) ∧ StIn w' g pm ta tc ha hc pq c ts ∧ (∀ k, mF ta k → w.heap.size ≤ k) ∧ Below w.heap.size w w'
theorem StIn.cells {W : World} {g : Nat} {pm ta : Option Addr} {tc : Nat} {ha : Option Addr} {hc : Nat} {pq : Option Addr} {c : Cf} {ts : List Int} (h : StIn W g pm ta tc ha hc pq c ts) :
    W.cell? ⟨g, 0, none⟩ = some (.pointer pm) ∧ W.cell? ⟨g, 1, none⟩ = some (.slice ta ts.length tc) ∧ W.cell? ⟨g, 2, none⟩ = some (.slice ha ts.length hc) ∧ W.cell? ⟨g, 3, none⟩ = some (.pointer pq) := by
  refine ⟨?_, ?_, ?_, ?_⟩ <;> (rw [cell_of_row _ _ _ _ _ _ h.var]; rfl)
end Go.Proofs.YtahpilgbabjebaaGreat
namespace Go.Proofs.YtahpilgbabjebaaGreat
open Go.RowKit
set_option linter.unusedVariables false
set_option maxRecDepth 1000000

/-- Whether a number is a token. -/
def tokB (v t : Int) : Bool := decide (0 ≤ t) && decide (t < v)
theorem tokB_yes {v t : Int} (h0 : 0 ≤ t) (h1 : t < v) : tokB v t = true := by unfold tokB; simp [h0, h1]
theorem tokB_no {v t : Int} (h : t < 0 ∨ v ≤ t) : tokB v t = false := by
  unfold tokB
  rcases h with h | h
  · simp [show ¬ 0 ≤ t by omega]
  · simp [show ¬ t < v by omega]
theorem istoken_any (c : Cf) (t : Int) (w : World) :
    Calls Tryz.prog 27 #[.agg (CfV c), .int .i64 t] w fun e w' => e = .returned (.bool (tokB c.vocab t)) ∧ Below w.heap.size w w' := by
  have HB : Hid (Below w.heap.size w (w.alloc (.cells (CfV c) 24))) := (Below.refl _ _).alloc (Nat.le_refl _) _
  obtain ⟨s, v, d, l, tt, h⟩ := c
  unfold CfV at *
  simp only at *
  by_cases h1 : (0 : Int) ≤ t
  · by_cases h2 : t < v
    · rw [tokB_yes h1 h2]
      go_enter Tryz.func27, Tryz.ntmps27
      go_wp2
      go_ret
      exact ⟨rfl, HB.out⟩
    · rw [tokB_no (by omega)]
      go_enter Tryz.func27, Tryz.ntmps27
      go_wp2
      go_ret
      exact ⟨rfl, HB.out⟩
  · rw [tokB_no (by omega)]
    go_enter Tryz.func27, Tryz.ntmps27
    go_wp2
    go_ret
    exact ⟨rfl, HB.out⟩
theorem ismodel_any (p : Option Addr) (c : Cf) (w : World) (h : MdAt w p c) :
    Calls Tryz.prog 28 #[.pointer p] w fun e w' => e = .returned (.bool (mayB c)) ∧ Below w.heap.size w w' := by
  have hC := config_any p c w h
  clear h
  go_enter Tryz.func28, Tryz.ntmps28
  go_wp2_with fail
  refine hC.mono ?_
  rintro e w1 ⟨rfl, hb⟩
  go_wp2_with fail
  refine (may_any c w1).mono ?_
  rintro e w2 ⟨rfl, hb2⟩
  have HB := hid (hb.trans (hb2.mono hb.size))
  clear hb hb2 hC
  go_wp2
  go_ret
  exact ⟨rfl, HB.out⟩

set_option maxHeartbeats 1000000 in
theorem dmay_any (c : Cf) (j : Jb) (w : World) (hj : JbIn w j) :
    Calls Tryz.prog 14 #[.agg (CfV c), .agg (JbV j)] w fun e w' => e = .returned (.bool (mayJ c.vocab j.most j.ts)) ∧ Below w.heap.size w w' := by
  obtain ⟨wA, hwA⟩ : ∃ wA, wA = (w.alloc (.cells (CfV c) 24)).alloc (.cells (JbV j) 27) := ⟨_, rfl⟩
  have HB0 : Hid (Below w.heap.size w wA) := by unfold Hid; rw [hwA]; exact ((Below.refl _ _).alloc (Nat.le_refl _) _).alloc (by simp) _
  have HK : Hid (∀ W : World, Below wA.heap.size wA W → (W.cell? ⟨w.heap.size, 0, none⟩ = some (.int .u64 c.seed) ∧ W.cell? ⟨w.heap.size, 1, none⟩ = some (.int .i64 c.vocab) ∧ W.cell? ⟨w.heap.size, 2, none⟩ = some (.int .i64 c.dim) ∧ W.cell? ⟨w.heap.size, 3, none⟩ = some (.int .i64 c.layers) ∧ W.cell? ⟨w.heap.size, 4, none⟩ = some (.int .i64 c.top) ∧ W.cell? ⟨w.heap.size, 5, none⟩ = some (.int .i64 c.heat)) ∧ W.cell? ⟨w.heap.size + 1, 1, none⟩ = some (.slice j.ap j.lp j.cp) ∧ W.cell? ⟨w.heap.size + 1, 2, none⟩ = some (.int .i64 j.most)) := by
    intro W hb
    have e1 : wA.heap[w.heap.size]? = some (.cells (CfV c) 24 (0, 0)) := by rw [hwA, Below.heap_alloc _ _ _ (by simp)]; exact heap_alloc_new w _
    have e2 : wA.heap[w.heap.size + 1]? = some (.cells (JbV j) 27 (0, 0)) := by
      have := heap_alloc_new (w.alloc (.cells (CfV c) 24)) (.cells (JbV j) 27)
      rw [hwA]
      simpa using this
    exact ⟨Cf_cells (block_below e1 hb), (Jb_cells (block_below e2 hb)).2.1, (Jb_cells (block_below e2 hb)).2.2⟩
  have hz := hj.size
  have r1 := hj.room
  have m1 := hj.most
  have HA := hid fun (W : World) (hb : Below wA.heap.size wA W) => (hj.below HB0.out).below hb
  have HT := hid fun (t : Int) (W : World) => istoken_any c t W
  clear hj
  obtain ⟨sd, ap, lp, cp, ts, mo⟩ := j
  obtain ⟨s, v, d, l, tt, h⟩ := c
  obtain ⟨x0, x1, x2⟩ := HK.out wA (Below.refl _ _)
  unfold CfV JbV at hwA
  unfold CfV at HT
  simp only at HK hz r1 m1 HA hwA x1 x2 HT
  unfold CfV JbV
  simp only
  rw [hwA] at x1 x2
  clear x0
  by_cases h3 : 255 < lp
  · rw [mayJ_no (by omega)]
    have HBo := HB0
    have h3' : (255 : Int) < (lp : Int) := by omega
    clear HK HA HT
    go_enter Tryz.func14, Tryz.ntmps14
    go_wp2_with fail
    rw [← hwA]
    clear hwA x1 x2
    go_ret
    exact ⟨rfl, HBo.out⟩
  have h3' : ¬ (255 : Int) < (lp : Int) := by omega
  by_cases h1 : mo < 0
  · rw [mayJ_no (by omega)]
    have HBo := HB0
    clear HK HA HT
    go_enter Tryz.func14, Tryz.ntmps14
    go_wp2_with fail
    rw [← hwA]
    clear hwA x1 x2
    go_ret
    exact ⟨rfl, HBo.out⟩
  by_cases h2 : 256 < mo
  · rw [mayJ_no (by omega)]
    have HBo := HB0
    clear HK HA HT
    go_enter Tryz.func14, Tryz.ntmps14
    go_wp2_with fail
    rw [← hwA]
    clear hwA x1 x2
    go_ret
    exact ⟨rfl, HBo.out⟩
  have HNo := hid fun (i : Nat) (hi : i < lp) (hb : ts[i]?.getD 0 < 0 ∨ v ≤ ts[i]?.getD 0) => mayJ_no (v := v) (most := mo) (ts := ts) (fun hh => by have := hh.2.2.2 i (by omega); omega)
  have HYe : Hid ((∀ i, i < lp → 0 ≤ ts[i]?.getD 0 ∧ ts[i]?.getD 0 < v) → mayJ v mo ts = true) := fun hh => mayJ_iff.2 ⟨by omega, by omega, by omega, by rw [hz]; exact hh⟩
  generalize mayJ v mo ts = bb at *
  go_enter Tryz.func14, Tryz.ntmps14
  go_wp2_with fail
  rw [← hwA]
  clear hwA x1 x2
  go_loopw [24] (fun i W => ∃ k : Nat, k ≤ lp ∧ i = .int .i64 k ∧ Hid (∀ i, i < k → 0 ≤ ts[i]?.getD 0 ∧ ts[i]?.getD 0 < v) ∧ Hid (Below wA.heap.size wA W)) (fun i _ => lp - (intOf i).toNat)
  case atStart => exact ⟨0, Nat.zero_le _, rfl, fun i hi => absurd hi (by omega), Below.refl _ _⟩
  case round =>
  obtain ⟨k, hk, rfl, HL, HW⟩ := hrel
  rename World => wr
  obtain ⟨⟨y0, y1, y2, y3, y4, y5⟩, x1, x2⟩ := HK.out _ HW.out
  by_cases hlt : k < lp
  · obtain ⟨b1, o1, rfl, c1⟩ := (HA.out _ HW.out).cell k hlt
    have q1 : (k : Int) < (lp : Int) := by omega
    replace HT := hid (HT.out (ts[k]?.getD 0))
    by_cases ht : 0 ≤ ts[k]?.getD 0 ∧ ts[k]?.getD 0 < v
    · have HL2 : Hid (∀ i, i < k + 1 → 0 ≤ ts[i]?.getD 0 ∧ ts[i]?.getD 0 < v) := fun i hi => by
        rcases (by omega : i < k ∨ i = k) with h' | rfl
        · exact HL.out i h'
        · exact ht
      rw [tokB_yes ht.1 ht.2] at HT
      clear HNo HYe HK HA HL ht
      generalize ts[k]?.getD 0 = t at *
      go_wp2_with fail
      refine (HT.out _).mono ?_
      rintro e w2 ⟨rfl, hb⟩
      replace HW := hid (HW.out.trans (hb.mono HW.out.size))
      clear hb HT c1 y0 y1 y2 y3 y4 y5 x1 x2
      go_wp2_with fail
      go_round
      case rel => exact ⟨k + 1, by omega, by go_num, HL2, HW⟩
      case measure => simp [intOf]; omega
    · have hn : ts[k]?.getD 0 < 0 ∨ v ≤ ts[k]?.getD 0 := by omega
      obtain rfl := HNo.out k hlt hn
      rw [tokB_no hn] at HT
      clear HNo HYe HK HA HL ht hn
      generalize ts[k]?.getD 0 = t at *
      go_wp2_with fail
      refine (HT.out _).mono ?_
      rintro e w2 ⟨rfl, hb⟩
      have HBW := hid (HB0.out.trans ((HW.out.trans (hb.mono HW.out.size)).mono HB0.out.size))
      clear hb HT HW HB0 c1 y0 y1 y2 y3 y4 y5 x1 x2
      go_wp2
      go_ret
      exact ⟨rfl, HBW.out⟩
  · obtain rfl : k = lp := by omega
    have hb := HYe.out HL.out
    subst hb
    have HBW := hid (HB0.out.trans (HW.out.mono HB0.out.size))
    clear HNo HYe HK HA HL HW HB0 y0 y1 y2 y3 y4 y5 x1 x2 HT
    go_wp2
    go_ret
    exact ⟨rfl, HBW.out⟩

theorem dlen_in {W : World} {g : Nat} {pm ta : Option Addr} {tc : Nat} {ha : Option Addr} {hc : Nat} {pq : Option Addr} {c : Cf} {ts : List Int} (h : StIn W g pm ta tc ha hc pq c ts) :
    Calls Tryz.prog 18 #[.pointer (some ⟨g, 0, none⟩)] W fun e w' => e = .returned (.int .i64 ts.length) ∧ w' = W := by
  obtain ⟨c0, c1, c2, c3⟩ := h.cells
  have r1 := h.tk.room
  have m1 := h.tk.most
  clear h
  generalize ts.length = n at *
  go_enter Tryz.func18, Tryz.ntmps18
  go_wp2
  go_ret
  exact ⟨rfl, rfl⟩
theorem dlen_nil0 (w : World) : Calls Tryz.prog 18 #[.pointer none] w fun e w' => e = .returned (.int .i64 0) ∧ w' = w := by
  go_enter Tryz.func18, Tryz.ntmps18
  go_wp2
  go_ret
  exact ⟨rfl, rfl⟩
theorem dlen_nil (w : World) : Calls Tryz.prog 18 #[.pointer none] w fun e w' => e = .returned (.int .i64 0) ∧ Below w.heap.size w w' :=
  (dlen_nil0 w).mono fun e w' ⟨h1, h2⟩ => ⟨h1, by rw [h2]; exact Below.refl _ _⟩
theorem dlen_any {F : Nat → Prop} (p : Option Addr) (c : Cf) (ts : List Int) (w : World) (hs : StAt w p c ts F) :
    Calls Tryz.prog 18 #[.pointer p] w fun e w' => e = .returned (.int .i64 ts.length) ∧ Below w.heap.size w w' := by
  obtain ⟨g, pm, ta, tc, ha, hc, pq, rfl, h, _⟩ := hs.get
  exact (dlen_in h).mono fun e w' ⟨h1, h2⟩ => ⟨h1, by rw [h2]; exact Below.refl _ _⟩

/-- A copy of a list of ints. -/
theorem cloneI_any (a : Option Addr) (n cap : Nat) (xs : List Int) (w : World) (ha : Reads .i64 w a n cap xs) (hn : n ≤ 1000) :
    Calls Tryz.prog 32 #[.slice a n cap] w fun e w' => Gives w n xs e w' := by
  obtain ⟨i0, hi, hz0, hz1, hz2⟩ := info_parts Tryz.info3
  cases a with
  | none =>
    obtain ⟨rfl, rfl⟩ := ha.bare rfl
    obtain rfl : xs = [] := List.eq_nil_of_length_eq_zero ha.size
    have heq : ∀ W : World, (binOp .eql 25 (.slice none 0 0) (.slice none 0 0)).run Tryz.prog W = .ok (.bool true) W := fun W => Lib.run_eql_slice_nil W _ _ none 0 0 0 0 Tryz.underlying25
    clear ha
    go_enter Tryz.func32, Tryz.ntmps32
    go_wp2
    go_ret
    exact ⟨_, _, rfl, Reads.nil _ _, Below.refl _ _⟩
  | some ad =>
    have heq : ∀ W : World, (binOp .eql 25 (.slice (some ad) n cap) (.slice none 0 0)).run Tryz.prog W = .ok (.bool false) W := fun W => Lib.run_eql_slice_nil W _ _ (some ad) n cap 0 0 Tryz.underlying25
    have HA := hid ha
    have HB : Hid (Below w.heap.size w (w.alloc (.cells #[] 3))) := (Below.refl _ _).alloc (Nat.le_refl _) _
    have HO : Hid ((w.alloc (.cells #[] 3)).ownsRow w.heap.size 3 1 (.slice (some ⟨w.heap.size, 0, none⟩) 0 0) 0 (([] : List Int).map (Value.int .i64))) :=
      World.ownsRow_lit (base := w.heap.size) (e := 3) (size := 1) w #[] 0 (Nat.le_refl _) (by unfold maxLen; omega) (by simp)
    clear ha
    go_enter Tryz.func32, Tryz.ntmps32
    go_wp2_with (at_builtin; refine append_any _ rfl (.tmp 5) (.tmp 6) 25 rfl w.heap.size 3 i0 (.int .i64 0) 8 Tryz.underlying25 hi hz0 hz1 hz2 rfl .i64 _ 0 [] rfl HO.out (some ad) n cap xs rfl (HA.out.below HB.out) (by omega) (by omega) HB.out.size ?_; intro v' w3 hO3 hb3)
    rw [Nat.zero_add, List.nil_append] at hO3
    obtain ⟨a3, c3, rfl, hr3⟩ := Reads.own (k := .i64) hO3
    have HR3 := hid hr3
    have HB3 := hid (HB.out.trans hb3)
    clear hO3 hb3 HA HB HO hr3
    go_wp2
    go_ret
    exact ⟨_, _, rfl, HR3.out, HB3.out⟩
theorem dtok_any {F : Nat → Prop} (p : Option Addr) (c : Cf) (ts : List Int) (w : World) (hs : StAt w p c ts F) :
    Calls Tryz.prog 20 #[.pointer p] w fun e w' => Gives w ts.length ts e w' := by
  have hm := hs.most
  obtain ⟨g, pm, ta, tc, ha, hc, pq, rfl, h, _⟩ := hs.get
  have hC := cloneI_any ta ts.length tc ts w h.tk (by omega)
  obtain ⟨c0, c1, c2, c3⟩ := h.cells
  clear h hs hm
  generalize ts.length = n at *
  go_enter Tryz.func20, Tryz.ntmps20
  go_wp2_with fail
  refine hC.mono ?_
  rintro e w1 ⟨a1, d1, rfl, hr, hb⟩
  have HR := hid hr
  have HB := hid hb
  clear hC hr hb c0 c1 c2 c3
  go_wp2
  go_ret
  exact ⟨_, _, rfl, HR.out, HB.out⟩
theorem dtok_nil (w : World) : Calls Tryz.prog 20 #[.pointer none] w fun e w' => ∃ a cap, e = .returned (.slice a 0 cap) ∧ Below w.heap.size w w' := by
  go_enter Tryz.func20, Tryz.ntmps20
  go_wp2
  go_ret
  exact ⟨_, _, rfl, Below.refl _ _⟩
theorem firsti_any (a : Option Addr) (n cap k : Nat) (w : World) (h1 : k ≤ cap) (m1 : cap ≤ 9223372036854775807) :
    Calls Tryz.prog 41 #[.slice a n cap, .int .i64 k] w fun e w' => e = .returned (.slice a k k) ∧ w = w' := by
  go_enter Tryz.func41, Tryz.ntmps41
  go_wp2
  go_ret
  exact ⟨rfl, rfl⟩
theorem firstr_any (a : Option Addr) (n cap k : Nat) (w : World) (h1 : k ≤ cap) (m1 : cap ≤ 9223372036854775807) :
    Calls Tryz.prog 42 #[.slice a n cap, .int .i64 k] w fun e w' => e = .returned (.slice a k k) ∧ w = w' := by
  go_enter Tryz.func42, Tryz.ntmps42
  go_wp2
  go_ret
  exact ⟨rfl, rfl⟩
end Go.Proofs.YtahpilgbabjebaaGreat
