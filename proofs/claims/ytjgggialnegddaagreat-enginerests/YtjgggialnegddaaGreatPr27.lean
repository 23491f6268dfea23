/-
  The texts SaBest, RSa, SaMarks of this proof.
-/
import Derived.Test.YtjgggialnegddaaGreatPr26
import Derived.Test.YtjgggialnegddaaGreatPr01
import Derived.Test.YtjgggialnegddaaGreatPr14
import Derived.Deep.RegionHeld3
import Derived.Test.YtjgggialnegddaaGreatPr11
set_option linter.unusedVariables false
set_option maxRecDepth 1000000
namespace Go.Proofs.YtjgggialnegddaaGreat
open Go.RowKit
theorem block_up {w w' : World} {k : Nat} {o : Obj} (h : w.heap[k]? = some o) (hb : Below w.heap.size w w') : w'.heap[k]? = some o := (hb.block k (lt_of_block h)).trans h
set_option maxHeartbeats 1000000 in
theorem weigh_any (a : Option Addr) (len cap gt K ct : Nat) (zs ps : List Int) (heat : Int) (B1 B2 : Nat) (w : World) (ha : Reads .i64 w a len cap zs) (hlen : len ≤ 1000) (ht : Reads .i64 w (some ⟨gt, 0, none⟩) K ct ps) (hK : K ≤ 1000)
  (hp : ∀ i, i < K → ∃ m : Nat, ps[i]?.getD 0 = m ∧ m < len)
  (h1 : w.heap[B1]? = some (.cells #[.slice a len cap] 131 (0, 0))) (h2 : w.heap[B2]? = some (.cells #[.int .i64 heat] 3 (0, 0))) :
  Calls Tryz.prog 192 #[.slice (some ⟨gt, 0, none⟩) K ct, .func (.func 193) #[] #[.pointer (some ⟨B1, 0, none⟩), .pointer (some ⟨B2, 0, none⟩)]] w fun e w' => Made w K (wtL zs heat ps) e w' := by
 have hmk : ∀ W : World, (Instr.makeSlice 131 (.int .i64 (K : Int)) (.int .i64 (K : Int))).run Tryz.prog W = .ok (.slice (some ⟨W.heap.size, 0, none⟩) K K) (W.alloc (.cells (madeCells #[.int .i64 0] K) 2)) := fun W => make_ints W K (by omega)
 have hpl := ht.size
 have hroom := ht.room
 have hmost := ht.most
 have HO0 : Hid (OwnK 2 w.heap.size w.heap.size K K (madeK (cntZ zs heat) ps K 0) (w.alloc (.cells (madeCells #[.int .i64 0] K) 2))) := by
  have := own_made 2 w K (by omega)
  unfold Hid madeK
  simpa using this
 have HB0 : Hid (Below w.heap.size w (w.alloc (.cells (madeCells #[.int .i64 0] K) 2))) := (Below.refl _ _).alloc (Nat.le_refl _) _
 have HC : Hid (∀ k, k < K → ∀ W, Below w.heap.size w W → Calls Tryz.prog 193 #[.int .i64 (ps[k]?.getD 0), .pointer (some ⟨B1, 0, none⟩), .pointer (some ⟨B2, 0, none⟩)] W fun e w' => e = .returned (.int .i64 (cntZ zs heat (ps[k]?.getD 0))) ∧ Below W.heap.size W w') := by
  intro k hk W hb
  obtain ⟨m, e, hm⟩ := hp k hk
  rw [e]
  exact count1_any a len cap m zs heat B1 B2 W (ha.below hb) hlen hm ((hb.block _ (lt_of_block h1)).trans h1) ((hb.block _ (lt_of_block h2)).trans h2)
 have HT := hid fun W (hb : Below w.heap.size w W) => ht.below hb
 have hEn := enters_of Tryz.func193 (by kernel_rfl) rfl
 have HS := hid fun g W (hO : OwnK 2 w.heap.size g K K (cntL zs heat ps) W) => soft_any _ K K (cntL zs heat ps) W hO.reads hK
 have HMK : Hid (∀ k, k < K → (madeK (cntZ zs heat) ps K k).set k (cntZ zs heat (ps[k]?.getD 0)) = madeK (cntZ zs heat) ps K (k + 1)) := fun k hk => by rw [← hpl]; exact madeK_set (by omega)
 have HMA : Hid (madeK (cntZ zs heat) ps K K = cntL zs heat ps) := by unfold Hid cntL; rw [← hpl]; exact madeK_all _ _
 clear ha ht hp h1 h2 hpl
 go_enter Tryz.func192, Tryz.ntmps192
 go_wp2_with fail
 clear hmk
 go_loopw [13] (fun i W => ∃ k : Nat, k ≤ K ∧ i = .int .i64 k ∧ Hid (OwnK 2 w.heap.size w.heap.size K K (madeK (cntZ zs heat) ps K k) W) ∧ Hid (Below w.heap.size w W)) (fun i _ => K - (intOf i).toNat)
 case atStart => exact ⟨0, Nat.zero_le _, rfl, HO0, HB0⟩
 case round =>
  obtain ⟨k, hk, rfl, HO, HW⟩ := hrel
  clear HO0 HB0
  rename World => wr
  by_cases hlt : k < K
  ·have ck := (HT.out _ HW.out).at hlt
   rw [Nat.zero_add] at ck
   have hC := HC.out k hlt wr HW.out
   have HE := HMK.out k hlt
   have q1 : (k : Int) < (K : Int) := by omega
   clear HS HMA HC HMK HT
   generalize cntZ zs heat (ps[k]?.getD 0) = y at *
   generalize ps[k]?.getD 0 = x at *
   go_wp2_with fail
   refine hC.mono ?_
   rintro e w2 ⟨rfl, hb⟩
   have HO2 := hid (HO.out.stays hb)
   have ck2 := HO2.out.cell hlt
   have fk := HO2.out.frozen k
   have HO3 : Hid (OwnK 2 w.heap.size w.heap.size K K (madeK (cntZ zs heat) ps K (k + 1)) (w2.setCell ⟨w.heap.size, k, none⟩ (.int .i64 y))) := by
    rw [← HE]; exact HO2.out.set k y
   have HW2 := hid ((HW.out.trans (hb.mono HW.out.size)).setCell (p := ⟨w.heap.size, k, none⟩) (Nat.le_refl _) (.int .i64 y))
   clear hb hC HO HW HO2 HE ck
   go_wp2_with fail
   go_round
   case rel => exact ⟨k + 1, by omega, by go_num, HO3, HW2⟩
   case measure => simp [intOf]; omega
  ·obtain rfl : k = K := by omega
   have hO := HO.out
   rw [HMA.out] at hO
   have hS := HS.out _ wr hO
   clear HS HMA HC HMK HT HO hO
   go_wp2_with fail
   refine hS.mono ?_
   rintro e w2 ⟨g2, c2, rfl, hO2, hb⟩
   have HO2 := hid (hO2.low HW.out.size)
   have HW2 := hid (HW.out.trans (hb.mono HW.out.size))
   clear hS hO2 hb HW
   go_wp2
   go_ret
   exact ⟨_, _, rfl, HO2.out, HW2.out⟩
theorem best_of (a : Option Addr) (len cap : Nat) (zs : List Int) (w : World) (ha : Reads .i64 w a len cap zs) (hlen : len ≤ 1000) :
  Calls Tryz.prog 190 #[.slice a len cap] w fun e w' => ∃ t, e = .returned (.int .i64 t) ∧ BestOf zs t ∧ Below w.heap.size w w' := by
 have hz := ha.size
 by_cases h0 : len = 0
 ·subst h0
  have hz : zs = [] := List.eq_nil_of_length_eq_zero hz
  subst hz
  clear ha
  go_enter Tryz.func190, Tryz.ntmps190
  go_wp2
  go_ret
  exact ⟨_, rfl, best_nil, Below.refl _ _⟩
 ·have hK : Kof 1 len 1 := by unfold Kof; omega
  have hT := top_any a len cap 1 1 zs w ha hlen hK (by omega)
  have q1 : ¬ (len : Int) = 0 := by omega
  clear ha hK
  go_enter Tryz.func190, Tryz.ntmps190
  go_wp2_with fail
  refine hT.mono ?_
  rintro e w2 ⟨g, ps, rfl, hO, hP, hb⟩
  have c0 := hO.cell (k := 0) (by omega)
  have HE : Hid (BestOf zs (ps[0]?.getD 0)) := by
   have hl := hP.len
   match ps, hl with
   | [x], _ =>
    refine .inr ⟨by omega, ?_⟩
    rw [hz]
    exact hP
  generalize ps[0]?.getD 0 = t at *
  have HB := hid hb
  clear hT hO hP hb
  go_wp2
  go_ret
  exact ⟨t, rfl, HE.out, HB.out⟩
set_option maxHeartbeats 1000000 in
theorem draw_of (a : Option Addr) (len cap : Nat) (zs : List Int) (top heat s p : Int) (w : World) (ha : Reads .i64 w a len cap zs) (hlen : len ≤ 1000) :
  Calls Tryz.prog 175 #[.slice a len cap, .int .i64 top, .int .i64 heat, .int .u64 s, .int .u64 p] w fun e w' => ∃ t, e = .returned (.int .i64 t) ∧ DrawOf zs top heat s p t ∧ Below w.heap.size w w' := by
 have hz := ha.size
 obtain ⟨wA, hwA⟩ : ∃ wA, wA = (w.alloc (.cells #[.slice a len cap] 131)).alloc (.cells #[.int .i64 heat] 3) := ⟨_, rfl⟩
 have hB0 : Below w.heap.size w wA := by rw [hwA]; exact ((Below.refl _ _).alloc (Nat.le_refl _) _).alloc (by simp) _
 have e1 : wA.heap[w.heap.size]? = some (.cells #[.slice a len cap] 131 (0, 0)) := by
  rw [hwA, Below.heap_alloc _ _ _ (by simp)]; exact heap_alloc_new w _
 have e2 : wA.heap[w.heap.size + 1]? = some (.cells #[.int .i64 heat] 3 (0, 0)) := by
  have := heap_alloc_new (w.alloc (.cells #[.slice a len cap] 131)) (.cells #[.int .i64 heat] 3)
  rw [hwA]
  simpa using this
 have HC : Hid (∀ W, Below wA.heap.size wA W → W.cell? ⟨w.heap.size, 0, none⟩ = some (.slice a len cap) ∧ W.cell? ⟨w.heap.size + 1, 0, none⟩ = some (.int .i64 heat)) := fun W hb => ⟨cell_of_one (block_up e1 hb), cell_of_one (block_up e2 hb)⟩
 obtain ⟨c1, c2⟩ := HC.out wA (Below.refl _ _)
 have hroom := ha.room
 have hmost := ha.most
 by_cases hc : len = 0 ∨ heat < 1
 ·have hBe := best_of a len cap zs wA (ha.below hB0) hlen
  have HD : Hid (∀ t, BestOf zs t → DrawOf zs top heat s p t) := fun t ht => by
   refine .inl ⟨?_, ht⟩
   rcases hc with hc | hc
   ·left; exact List.eq_nil_of_length_eq_zero (by omega)
   ·right; exact hc
  have HB := hid hB0
  clear ha e1 e2 hB0 HC
  rw [hwA] at c1 c2
  by_cases h0 : len = 0
  ·subst h0
   clear hc
   go_enter Tryz.func175, Tryz.ntmps175
   go_wp2_with fail
   rw [← hwA]
   refine hBe.mono ?_
   rintro e w2 ⟨t, rfl, hT, hb⟩
   have HT := hid (HD.out t hT)
   replace HB := hid (HB.out.trans (hb.mono HB.out.size))
   clear hT hb hBe HD hwA c1 c2
   go_wp2
   go_ret
   exact ⟨t, rfl, HT.out, HB.out⟩
  ·have hh : heat < 1 := by omega
   have q1 : ¬ (len : Int) = 0 := by omega
   clear hc
   go_enter Tryz.func175, Tryz.ntmps175
   go_wp2_with fail
   rw [← hwA]
   refine hBe.mono ?_
   rintro e w2 ⟨t, rfl, hT, hb⟩
   have HT := hid (HD.out t hT)
   replace HB := hid (HB.out.trans (hb.mono HB.out.size))
   clear hT hb hBe HD hwA c1 c2
   go_wp2
   go_ret
   exact ⟨t, rfl, HT.out, HB.out⟩
 ·have h0 : 0 < len := by omega
  have hh : ¬ heat < 1 := by omega
  have q1 : ¬ (len : Int) = 0 := by omega
  obtain ⟨K, hK, hKl⟩ := kof_any (mx1 top) len
  have hK0 := kof_pos hK h0
  have hT := top_any a len cap K (mx1 top) zs wA (ha.below hB0) hlen hK hKl
  have hmx : (if top < 1 then 1 else top) = mx1 top := by unfold mx1; split <;> omega
  have HW := hid fun (W : World) gt ct ps (hb : Below wA.heap.size wA W) (ht : Reads .i64 W (some ⟨gt, 0, none⟩) K ct ps) (hP : TopOf zs len K ps) => weigh_any a len cap gt K ct zs ps heat w.heap.size (w.heap.size + 1) W ((ha.below hB0).below hb) hlen ht (by omega) (fun i hi => hP.at hi) (block_up e1 hb) (block_up e2 hb)
  have HD : Hid (∀ (k : Nat) ps, TopOf zs len K ps → FirstAt (wtL zs heat ps) K (belowZ s p (sumK (wtL zs heat ps) K)) k → DrawOf zs top heat s p (ps[k]?.getD 0)) := fun k ps hP hF => .inr ⟨by omega, by omega, K, k, ps, by rw [hz]; exact hK, by rw [hz]; exact hP, hF, rfl⟩
  have HS : Hid (∀ ps, TopOf zs len K ps → (0 < sumK (wtL zs heat ps) K ∧ sumK (wtL zs heat ps) K ≤ 2147483647) ∧ 0 ≤ belowZ s p (sumK (wtL zs heat ps) K) ∧ belowZ s p (sumK (wtL zs heat ps) K) < sumK (wtL zs heat ps) K) := fun ps hP => ⟨wt_sum hP.len hK0, below_sum s p hP.len hK0⟩
  have HB := hid hB0
  clear ha e1 e2 hB0 hK hc
  rw [hwA] at c1 c2
  generalize mx1 top = T at *
  go_enter Tryz.func175, Tryz.ntmps175
  go_wp2_with fail
  rw [← hwA]
  refine hT.mono ?_
  rintro e w2 ⟨gt, ps, rfl, hO, hP, hb⟩
  have HO := hid hO
  have hw := HW.out w2 gt K ps hb hO.reads hP
  obtain ⟨⟨s0, s1⟩, d0, d1⟩ := HS.out ps hP
  replace HD := hid fun k => HD.out k ps hP
  have HP := hid hP
  replace HB := hid (HB.out.trans (hb.mono HB.out.size))
  clear hT hO hP hb HW HS HC hwA c1 c2 hmx
  go_wp2_with fail
  refine hw.mono ?_
  rintro e w3 ⟨gw, cw, rfl, hO, hb⟩
  have HR := hid hO.reads
  replace HO := hid (HO.out.stays hb)
  replace HB := hid (HB.out.trans (hb.mono HB.out.size))
  have HF := hid (above_any gw K cw (wtL zs heat ps) _ w3 hO.reads (by omega) d0 d1)
  have hcw := hO.reads.room
  have hcm := hO.reads.most
  clear hw hO hb d1
  have hSu := ssum_any gw K cw (wtL zs heat ps) w3 HR.out (by omega)
  generalize wtL zs heat ps = ws at *
  have HDb : Hid (belowZ s p (sumK ws K) ≤ 2147483647) := by
   have := below_bd s p s0
   unfold Hid
   omega
  go_wp2_with fail
  refine hSu.mono ?_
  rintro e w' ⟨rfl, rfl⟩
  clear hSu HR
  rename World => w3
  generalize sumK ws K = S at *
  go_wp2_with fail
  refine (dbelow_any s p S _ (by omega) (by omega)).mono ?_
  rintro e w' ⟨rfl, rfl⟩
  have d1 := HDb.out
  clear HDb
  generalize belowZ s p S = d at *
  go_wp2_with fail
  refine HF.out.mono ?_
  rintro e w4 ⟨k, rfl, hF, hb⟩
  have HE := hid (HD.out k hF)
  have ck := (HO.out.stays hb).cell hF.lt
  have hk := hF.lt
  replace HB := hid (HB.out.trans (hb.mono HB.out.size))
  clear HF HD HO hF hb HP
  generalize ps[k]?.getD 0 = t at *
  go_wp2
  go_ret
  exact ⟨t, rfl, HE.out, HB.out⟩
theorem draw_any (a : Option Addr) (len cap : Nat) (zs : List Int) (top heat s p : Int) (w : World) (ha : Reads .i64 w a len cap zs) (hlen : len ≤ 1000) :
  Calls Tryz.prog 175 #[.slice a len cap, .int .i64 top, .int .i64 heat, .int .u64 s, .int .u64 p] w fun e w' => e = .returned (.int .i64 (drawZ zs top heat s p)) ∧ Below w.heap.size w w' :=
 (draw_of a len cap zs top heat s p w ha hlen).mono fun e w' ⟨t, h1, h2, h3⟩ => ⟨by rw [h2.eq]; exact h1, h3⟩
end Go.Proofs.YtjgggialnegddaaGreat
namespace Go.Proofs.YtjgggialnegddaaGreat
open Go.RowKit
theorem rbest_of (a : Option Addr) (len cap : Nat) (zs : List Int) (w : World) (ha : Reads .i64 w a len cap zs) (hlen : len ≤ 1000) :
  Calls Tryz.prog 144 #[.slice a len cap] w fun e w' => ∃ t, e = .returned (.int .i64 t) ∧ BestOf zs t ∧ Below w.heap.size w w' := by
 have hz := ha.size
 by_cases h0 : len = 0
 ·subst h0
  have hz : zs = [] := List.eq_nil_of_length_eq_zero hz
  subst hz
  have hK : Kof 1 0 0 := by unfold Kof; omega
  have hT := rvtop_any a 0 cap 0 1 [] w ha hlen hK (by omega)
  clear ha hK
  go_enter Tryz.func144, Tryz.ntmps144
  go_wp2_with fail
  refine hT.mono ?_
  rintro e w2 ⟨ad, c, ps, rfl, hR, hP, hb⟩
  have HB := hid hb
  clear hT hR hP hb
  go_wp2
  go_ret
  exact ⟨_, rfl, best_nil, HB.out⟩
 ·have hK : Kof 1 len 1 := by unfold Kof; omega
  have hT := rvtop_any a len cap 1 1 zs w ha hlen hK (by omega)
  clear ha hK
  go_enter Tryz.func144, Tryz.ntmps144
  go_wp2_with fail
  refine hT.mono ?_
  rintro e w2 ⟨ad, c, ps, rfl, hR, hP, hb⟩
  obtain ⟨b, o, rfl, c0⟩ := hR.cell 0 (by omega)
  rw [Nat.add_zero] at c0
  have r1 := hR.room
  have m1 := hR.most
  have HE : Hid (BestOf zs (ps[0]?.getD 0)) := by
   have hl := hP.len
   match ps, hl with
   | [x], _ =>
    refine .inr ⟨by omega, ?_⟩
    rw [hz]
    exact hP
  generalize ps[0]?.getD 0 = t at *
  have HB := hid hb
  clear hT hR hP hb
  go_wp2
  go_ret
  exact ⟨t, rfl, HE.out, HB.out⟩
set_option maxHeartbeats 4000000 in
theorem rdraw_of (a : Option Addr) (len cap : Nat) (zs : List Int) (top heat s p : Int) (w : World) (ha : Reads .i64 w a len cap zs) (hlen : len ≤ 1000) :
  Calls Tryz.prog 102 #[.slice a len cap, .int .i64 top, .int .i64 heat, .int .u64 s, .int .u64 p] w fun e w' => ∃ t, e = .returned (.int .i64 t) ∧ DrawOf zs top heat s p t ∧ Below w.heap.size w w' := by
 have hz := ha.size
 have hroom := ha.room
 have hmost := ha.most
 by_cases hc : len = 0 ∨ heat < 1
 ·have hBe := rbest_of a len cap zs w ha hlen
  have HD : Hid (∀ t, BestOf zs t → DrawOf zs top heat s p t) := fun t ht => by
   refine .inl ⟨?_, ht⟩
   rcases hc with hc | hc
   ·left; exact List.eq_nil_of_length_eq_zero (by omega)
   ·right; exact hc
  clear ha
  by_cases h0 : len = 0
  ·subst h0
   clear hc
   go_enter Tryz.func102, Tryz.ntmps102
   go_wp2_with fail
   refine hBe.mono ?_
   rintro e w2 ⟨t, rfl, hT, hb⟩
   have HT := hid (HD.out t hT)
   have HB := hid hb
   clear hT hb hBe HD
   go_wp2
   go_ret
   exact ⟨t, rfl, HT.out, HB.out⟩
  ·have hh : heat < 1 := by omega
   have q1 : ¬ (len : Int) = 0 := by omega
   clear hc
   go_enter Tryz.func102, Tryz.ntmps102
   go_wp2_with fail
   refine hBe.mono ?_
   rintro e w2 ⟨t, rfl, hT, hb⟩
   have HT := hid (HD.out t hT)
   have HB := hid hb
   clear hT hb hBe HD
   go_wp2
   go_ret
   exact ⟨t, rfl, HT.out, HB.out⟩
 ·have h0 : 0 < len := by omega
  have hh : ¬ heat < 1 := by omega
  have q1 : ¬ (len : Int) = 0 := by omega
  obtain ⟨i0, hi, hz0, hz1, hz2⟩ := info_parts Tryz.info2
  obtain ⟨K, hK, hKl⟩ := kof_any (mx1 top) len
  have hK0 := kof_pos hK h0
  have hT := rvtop_any a len cap K (mx1 top) zs w ha hlen hK hKl
  have hmx : (if top < 1 then 1 else top) = mx1 top := by unfold mx1; split <;> omega
  have HD : Hid (∀ (k : Nat) ps, TopOf zs len K ps → FirstAt (wtL zs heat ps) K (belowZ s p (sumK (wtL zs heat ps) K)) k → DrawOf zs top heat s p (ps[k]?.getD 0)) := fun k ps hP hF => .inr ⟨by omega, by omega, K, k, ps, by rw [hz]; exact hK, by rw [hz]; exact hP, hF, rfl⟩
  have HS : Hid (∀ ps, TopOf zs len K ps → (0 < sumK (wtL zs heat ps) K ∧ sumK (wtL zs heat ps) K ≤ 2147483647) ∧ 0 ≤ belowZ s p (sumK (wtL zs heat ps) K) ∧ belowZ s p (sumK (wtL zs heat ps) K) < sumK (wtL zs heat ps) K) := fun ps hP => ⟨wt_sum hP.len hK0, below_sum s p hP.len hK0⟩
  have HA := hid ha
  clear ha hK hc
  generalize mx1 top = T at *
  go_enter Tryz.func102, Tryz.ntmps102
  go_wp2_with fail
  refine hT.mono ?_
  rintro e w1 ⟨ad, ct, ps, rfl, hR, hP, hb⟩
  replace HA := hid (HA.out.below hb)
  have HP := hid hP
  have HR := hid hR
  have HB := hid hb
  have r1 := hR.room
  have m1 := hR.most
  have HL := hid hR.size
  have hSS := HS.out ps hP
  replace HD := hid fun k => HD.out k ps hP
  have HSS := hid hSS
  clear hT hR hP hb HS hmx hSS
  go_wp2_with fail
  go_loopw [12, 13] (fun u i W => ∃ k : Nat, k ≤ K ∧ i = .int .i64 k ∧ Hid (W.ownsRow w1.heap.size 2 1 u k (((ps.take k).map (cntZ zs heat)).map (Value.int .i64))) ∧ Hid (Below w1.heap.size w1 W)) (fun _ i _ => K - (intOf i).toNat)
  case atStart => exact ⟨0, Nat.zero_le _, rfl, World.ownsRow_nil _ _ _ _, Below.refl _ _⟩
  case round =>
  obtain ⟨k, hk, rfl, HO, HW⟩ := hrel
  rename World => wr
  by_cases hlt : k < K
  ·obtain ⟨m, hpm, hm⟩ := HP.out.at hlt
   obtain ⟨b1, o1, rfl, c1⟩ := (HR.out.below HW.out).cell k hlt
   obtain ⟨b2, o2, rfl, c2⟩ := (HA.out.below HW.out).cell m hm
   have HK : Hid (∀ W, Below w1.heap.size w1 W → W.cell? ⟨b1, o1 + k, none⟩ = some (.int .i64 (ps[k]?.getD 0)) ∧ W.cell? ⟨b2, o2 + m, none⟩ = some (.int .i64 (zs[m]?.getD 0))) := by
    intro W h
    obtain ⟨b, o, e, c⟩ := (HR.out.below h).cell k hlt
    obtain ⟨b', o', e', c'⟩ := (HA.out.below h).cell m hm
    cases e
    cases e'
    exact ⟨c, c'⟩
   have q2 : (k : Int) < (K : Int) := by omega
   have q3 : (m : Int) < (len : Int) := by omega
   have HE : Hid ((ps.take k).map (cntZ zs heat) ++ [divZ (mulZ (zs[m]?.getD 0) (fromZ 4)) (fromZ heat)] = (ps.take (k + 1)).map (cntZ zs heat)) := by
    have := map_snoc (f := cntZ zs heat) (zs := ps) (k := k) (by have := HL.out; omega)
    unfold Hid
    rw [← this, hpm]
    unfold cntZ
    rw [Int.toNat_natCast]
   have HSz : Hid (w1.heap.size ≤ wr.heap.size) := HW.out.size
   rw [hpm] at HK c1
   clear HA HR HP HL HD HSS hpm
   generalize zs[m]?.getD 0 = x at *
   generalize (ps.take k).map (cntZ zs heat) = us at *
   go_wp2_with fail
   go_region_held3 (fun W : World => W.cell? ⟨b1, o1 + k, none⟩ = some (.int .i64 m) ∧ W.cell? ⟨b2, o2 + m, none⟩ = some (.int .i64 x)) (first | exact ⟨c1, c2⟩ | assumption | exact HK.out _ (HW.out.alloc HSz.out _) | exact HK.out _ (HW.out.drew.alloc HSz.out _) | exact HK.out _ HB3.out) (first | (go_at_call 134; refine (rfrom_any _ _).mono ?_; rintro e w' ⟨rfl, rfl⟩) | (go_at_call 101; refine (rmul_any _ _ _).mono ?_; rintro e w' ⟨rfl, rfl⟩) | (go_at_call 135; refine (rdiv_any _ _ _).mono ?_; rintro e w' ⟨rfl, rfl⟩) | (refine step_append_reads (by rfl) 53 (by rfl) (.tmp 39) (.tmp 52) 131 (by rfl) w1.heap.size 2 i0 (.int .i64 0) 8 Tryz.underlying131 hi hz0 hz1 hz2 rfl .i64 _ k us (by rfl) (HO.out.alloc _) _ 1 1 [divZ (mulZ x (fromZ 4)) (fromZ heat)] (by rfl) (Reads.oned _ _ _) (by omega) (by omega) (by omega) (Nat.le_trans HSz.out (by simp)) ?_; intro v' w3 hO3 hb3; have HB3 := hid ((HW.out.alloc HSz.out _).drew.trans hb3)))
   have HO3 : Hid (w3.ownsRow w1.heap.size 2 1 v' (k + 1) (((ps.take (k + 1)).map (cntZ zs heat)).map (Value.int .i64))) := by rw [← HE.out]; exact hO3
   clear hO3 hb3 HK c1 c2
   go_wp2_with fail
   go_round
   case rel => exact ⟨k + 1, by omega, by go_num, HO3, HB3⟩
   case measure => simp [intOf]; omega
  ·obtain rfl : k = K := by omega
   have hO := HO.out
   rw [map_all HL.out] at hO
   obtain ⟨aa, ca, rfl, hra⟩ := Reads.own (k := .i64) hO
   have hS := rvsoft_any aa k ca (cntL zs heat ps) wr hra (by omega)
   have HRW := hid (HR.out.below HW.out)
   have HBW := hid (HB.out.trans (HW.out.mono HB.out.size))
   clear hO HO hra HA HR HB HP HW hi hz0 hz1 hz2
   go_wp2_with fail
   refine hS.mono ?_
   rintro e w2 ⟨aw, cw, rfl, hW, hb⟩
   have HWs : Hid (Reads .i64 w2 aw k cw (wtL zs heat ps)) := hW
   obtain ⟨bw, ow, rfl, _⟩ := hW.cell 0 (by omega)
   have r2 := hW.room
   have m2 := hW.most
   replace HRW := hid (HRW.out.below hb)
   replace HBW := hid (HBW.out.trans (hb.mono HBW.out.size))
   clear hS hW hb
   generalize wtL zs heat ps = ws at *
   go_wp2_with fail
   go_loopw [15, 16] (fun q i W => ∃ j : Nat, j ≤ k ∧ q = .int .i64 (sumK ws j) ∧ i = .int .i64 j ∧ Hid (Below w2.heap.size w2 W)) (fun _ i _ => k - (intOf i).toNat)
   case atStart => exact ⟨0, Nat.zero_le _, rfl, rfl, Below.refl _ _⟩
   case round =>
   obtain ⟨j, hj, rfl, rfl, HV⟩ := hrel
   rename World => wj
   by_cases hjl : j < k
   ·have cj := (HWs.out.below HV.out).at hjl
    have HSu : Hid (addZ (sumK ws j) (ws[j]?.getD 0) = sumK ws (j + 1)) := rfl
    have q2 : (j : Int) < (k : Int) := by omega
    clear HSS HD HRW HBW HWs HL
    generalize sumK ws j = q at *
    generalize ws[j]?.getD 0 = x at *
    go_wp2_with fail
    refine (radd_any _ _ _).mono ?_
    rintro e w' ⟨rfl, rfl⟩
    rw [HSu.out]
    go_wp2_with fail
    go_round
    case rel => exact ⟨j + 1, by omega, rfl, by go_num, HV⟩
    case measure => simp [intOf]; omega
   ·obtain rfl : j = k := by omega
    obtain ⟨⟨s0, s1⟩, d0, d1⟩ := HSS.out
    have HDL := hid d1
    have d2 : belowZ s p (sumK ws j) ≤ 2147483647 := by omega
    clear HSS hjl d1
    obtain ⟨S, hSd⟩ : ∃ S, sumK ws j = S := ⟨_, rfl⟩
    rw [hSd] at s0 s1 d0 d2 HD ⊢
    have HSd := hid hSd
    clear hSd
    go_wp2_with fail
    refine (rdbelow_any s p S _ (by omega) (by omega)).mono ?_
    rintro e w' ⟨rfl, rfl⟩
    rename World => wj
    obtain ⟨d, hd⟩ : ∃ d, belowZ s p S = d := ⟨_, rfl⟩
    rw [HSd.out, hd] at HDL
    rw [hd] at d0 d2 HD
    rw [hd]
    clear hd
    go_wp2_with fail
    go_loopw [18, 19] (fun q i W => ∃ n : Nat, n ≤ j ∧ q = .int .i64 (sumK ws n) ∧ i = .int .i64 n ∧ Hid (Below w2.heap.size w2 W) ∧ Hid (∀ m, m < n → sumK ws (m + 1) ≤ d)) (fun _ i _ => j - (intOf i).toNat)
    case atStart => exact ⟨0, Nat.zero_le _, rfl, rfl, HV.out.drew.drew, fun m hm => absurd hm (by omega)⟩
    case round =>
    obtain ⟨n, hn, rfl, rfl, HVn, HLo⟩ := hrel
    rename World => wn
    by_cases hnl : n < j
    ·have cn := (HWs.out.below HVn.out).at hnl
     have hSu : addZ (sumK ws n) (ws[n]?.getD 0) = sumK ws (n + 1) := rfl
     have HSu := hid hSu
     have q2 : (n : Int) < (j : Int) := by omega
     by_cases hup : d < sumK ws (n + 1)
     ·have HEn := hid (HD.out n ⟨hnl, hup, HLo.out⟩)
      obtain ⟨b1, o1, rfl, c1⟩ := (HRW.out.below HVn.out).cell n hnl
      have HBn := hid (HBW.out.trans (HVn.out.mono HBW.out.size))
      generalize ps[n]?.getD 0 = t at *
      clear HD HRW HBW HWs HL HSd HDL HLo HVn HV hSu
      generalize ws[n]?.getD 0 = x at *
      generalize sumK ws (n + 1) = y at *
      generalize sumK ws n = q at *
      go_wp2_with fail
      refine (radd_any _ _ _).mono ?_
      rintro e w' ⟨rfl, rfl⟩
      rw [HSu.out]
      go_wp2
      go_ret
      exact ⟨t, rfl, HEn.out, HBn.out⟩
     ·have HLn : Hid (∀ m, m < n + 1 → sumK ws (m + 1) ≤ d) := fun m hm => by
       rcases (by omega : m < n ∨ m = n) with h | rfl
       ·exact HLo.out m h
       ·omega
      clear HD HRW HBW HWs HL HSd HDL HLo HV hSu
      generalize ws[n]?.getD 0 = x at *
      go_wp2_with fail
      refine (radd_any _ _ _).mono ?_
      rintro e w' ⟨rfl, rfl⟩
      rw [HSu.out]
      go_wp2_with fail
      go_round
      case rel => exact ⟨n + 1, by omega, rfl, by go_num, HVn, HLn⟩
      case measure => simp [intOf]; omega
    ·obtain rfl : n = j := by omega
     exact (first_no d0 (by rw [HSd.out]; exact HDL.out) HLo.out).elim
theorem rdraw_any (a : Option Addr) (len cap : Nat) (zs : List Int) (top heat s p : Int) (w : World) (ha : Reads .i64 w a len cap zs) (hlen : len ≤ 1000) :
  Calls Tryz.prog 102 #[.slice a len cap, .int .i64 top, .int .i64 heat, .int .u64 s, .int .u64 p] w fun e w' => e = .returned (.int .i64 (drawZ zs top heat s p)) ∧ Below w.heap.size w w' :=
 (rdraw_of a len cap zs top heat s p w ha hlen).mono fun e w' ⟨t, h1, h2, h3⟩ => ⟨by rw [h2.eq]; exact h1, h3⟩
end Go.Proofs.YtjgggialnegddaaGreat
namespace Go.Proofs.YtjgggialnegddaaGreat
open Go.RowKit
def smarkZ (c : Cf) (zs : List Int) (t : Nat) : Int := dotK (normL zs) (tokL c t) (min zs.length (tokL c t).length)
theorem cf_field1 (s v d l tt h : Int) (W : World) : (Instr.field 24 (.agg #[.int .u64 s, .int .i64 v, .int .i64 d, .int .i64 l, .int .i64 tt, .int .i64 h]) 1).run Tryz.prog W = .ok (.int .i64 v) W := by kernel_rfl
set_option maxHeartbeats 1000000 in
theorem marks_g (p : Option Addr) (c : Cf) (V : Nat) (a : Option Addr) (len cap : Nat) (zs : List Int) (w : World) (hp : MdAt w p c) (hV : c.vocab = V) (hV64 : V ≤ 64) (hm : 0 < V → mayB c = true) (ha : Reads .i64 w a len cap zs) (hlen : len ≤ 1000) :
  Calls Tryz.prog 176 #[.pointer p, .slice a len cap] w fun e w' => Made w V (rowK (smarkZ c zs) V) e w' := by
 have hmk : ∀ W : World, (Instr.makeSlice 131 (.int .i64 (V : Int)) (.int .i64 (V : Int))).run Tryz.prog W = .ok (.slice (some ⟨W.heap.size, 0, none⟩) V V) (W.alloc (.cells (madeCells #[.int .i64 0] V) 2)) := fun W => make_ints W V (by omega)
 have hz := ha.size
 have hN := norm_any a len cap zs w ha hlen
 have HC := hid fun W (hb : Below w.heap.size w W) => config_any p c W (hp.below hb)
 have HT := hid fun (t : Nat) (ht : t < V) W (hb : Below w.heap.size w W) => token_g p c t W (hp.below hb) (hm (by omega))
 have HT16 := hid fun (t : Nat) (ht : t < V) => tokL_len (hm (by omega)) t
 have HM : Hid (∀ t : Nat, smarkZ c zs t = dotK (normL zs) (tokL c t) (min len (tokL c t).length)) := fun t => by rw [← hz]; rfl
 clear ha hp hm
 generalize normL zs = ns at *
 obtain ⟨f, hf⟩ : ∃ f : Nat → Int, f = smarkZ c zs := ⟨_, rfl⟩
 rw [← hf] at HM ⊢
 obtain ⟨F, hF⟩ : ∃ F : Nat → List Int, F = fun t => tokL c (t : Nat) := ⟨_, rfl⟩
 have hFt : ∀ t : Nat, tokL c (t : Nat) = F t := fun t => by rw [hF]
 simp only [hFt] at HT HT16 HM
 clear hf hF hFt
 obtain ⟨s, v, d, l, tt, h⟩ := c
 simp only at hV
 subst hV
 unfold CfV at HC
 simp only at HC
 have hfd := cf_field1 s (V : Int) d l tt h
 go_enter Tryz.func176, Tryz.ntmps176
 go_wp2_with fail
 refine hN.mono ?_
 rintro e w1 ⟨gn, cn, rfl, hO, hb⟩
 have HN := hid hO.reads
 have HB := hid hb
 clear hN hO hb
 go_wp2_with fail
 refine (HC.out _ HB.out).mono ?_
 rintro e w2 ⟨rfl, hb⟩
 replace HN := hid (HN.out.below hb)
 replace HB := hid (HB.out.trans (hb.mono HB.out.size))
 clear hb HC
 have HO0 : Hid (OwnK 2 w2.heap.size w2.heap.size V V (rowK f 0 ++ List.replicate (V - 0) 0) (w2.alloc (.cells (madeCells #[.int .i64 0] V) 2))) := own_made 2 w2 V (by omega)
 have HV0 : Hid (Below w2.heap.size w2 (w2.alloc (.cells (madeCells #[.int .i64 0] V) 2))) := (Below.refl _ _).alloc (Nat.le_refl _) _
 go_wp2_with fail
 clear hmk
 go_loopw [16] (fun i W => ∃ k : Nat, k ≤ V ∧ i = .int .i64 k ∧ Hid (OwnK 2 w2.heap.size w2.heap.size V V (rowK f k ++ List.replicate (V - k) 0) W) ∧ Hid (Below w2.heap.size w2 W)) (fun i _ => V - (intOf i).toNat)
 case atStart => exact ⟨0, Nat.zero_le _, rfl, HO0, HV0⟩
 case round =>
  obtain ⟨k, hk, rfl, HO, HW⟩ := hrel
  clear HO0 HV0
  rename World => wr
  by_cases hlt : k < V
  ·have hT := HT.out k hlt wr (HB.out.trans (HW.out.mono HB.out.size))
   have h16 := HT16.out k hlt
   have HE := HM.out k
   have HSet := hid (rowK_set f hlt)
   have q1 : (k : Int) < (V : Int) := by omega
   clear HT HT16 HM
   generalize F k = ts at *
   go_wp2_with fail
   refine hT.mono ?_
   rintro e w3 ⟨u, rfl, hO3, hb⟩
   obtain ⟨at_, ct, rfl, hrt⟩ := Reads.own (k := .i64) hO3
   have HN3 := hid ((HN.out.below HW.out).below hb)
   replace HO := hid (HO.out.stays hb)
   replace HW := hid (HW.out.trans (hb.mono HW.out.size))
   have hD := dot_any (some ⟨gn, 0, none⟩) at_ len cn _ ct ns ts w3 HN3.out hrt hlen (by omega)
   rw [← HE] at hD
   clear hT hO3 hb hrt HN3
   go_wp2_with fail
   refine hD.mono ?_
   rintro e w4 ⟨rfl, hb⟩
   replace HO := hid (HO.out.stays hb)
   replace HW := hid (HW.out.trans (hb.mono HW.out.size))
   have ck := HO.out.cell hlt
   have fk := HO.out.frozen k
   have HO5 : Hid (OwnK 2 w2.heap.size w2.heap.size V V (rowK f (k + 1) ++ List.replicate (V - (k + 1)) 0) (w4.setCell ⟨w2.heap.size, k, none⟩ (.int .i64 (f k)))) := by
    rw [← HSet.out]; exact HO.out.set k (f k)
   have HW5 := hid (HW.out.setCell (p := ⟨w2.heap.size, k, none⟩) (Nat.le_refl _) (.int .i64 (f k)))
   clear hD hb HO HW HE HSet
   generalize f k = y at *
   go_wp2_with fail
   go_round
   case rel => exact ⟨k + 1, by omega, by go_num, HO5, HW5⟩
   case measure => simp [intOf]; omega
  ·obtain rfl : k = V := by omega
   have hO := HO.out
   rw [Nat.sub_self] at hO
   have HO5 : Hid (OwnK 2 w.heap.size w2.heap.size k k (rowK f k) wr) := by unfold Hid; simpa using hO.low HB.out.size
   have HW5 := hid (HB.out.trans (HW.out.mono HB.out.size))
   clear HO hO HW HB HT HT16 HM HN
   go_wp2
   go_ret
   exact ⟨_, _, rfl, HO5.out, HW5.out⟩
theorem smarks_any (p : Option Addr) (c : Cf) (a : Option Addr) (len cap : Nat) (zs : List Int) (w : World) (hp : MdAt w p c) (hm : mayB c = true) (ha : Reads .i64 w a len cap zs) (hlen : len ≤ 1000) :
  Calls Tryz.prog 176 #[.pointer p, .slice a len cap] w fun e w' => Made w c.vocab.toNat (rowK (smarkZ c zs) c.vocab.toNat) e w' := by
 have := may_parts hm
 exact marks_g p c c.vocab.toNat a len cap zs w hp (by omega) (by omega) (fun _ => hm) ha hlen
set_option maxHeartbeats 1000000 in
theorem rmarks_any (c : Cf) (a : Option Addr) (len cap : Nat) (zs : List Int) (w : World) (hm : mayB c = true) (ha : Reads .i64 w a len cap zs) (hlen : len ≤ 1000) :
  Calls Tryz.prog 103 #[.agg (CfV c), .slice a len cap] w fun e w' => GivesO w c.vocab.toNat (rowK (smarkZ c zs) c.vocab.toNat) e w' := by
 obtain ⟨i0, hi, hz0, hz1, hz2⟩ := info_parts Tryz.info2
 have hmp := may_parts hm
 obtain ⟨V, hV⟩ : ∃ V, c.vocab.toNat = V := ⟨_, rfl⟩
 have hV64 : V ≤ 64 := by omega
 have hVc : c.vocab = (V : Int) := by omega
 rw [hV]
 have hz := ha.size
 obtain ⟨wA, hwA⟩ : ∃ wA, wA = w.alloc (.cells (CfV c) 24) := ⟨_, rfl⟩
 have HB0 : Hid (Below w.heap.size w wA) := by unfold Hid; rw [hwA]; exact (Below.refl _ _).alloc (Nat.le_refl _) _
 have HK := hid fun (W : World) (hb : Below wA.heap.size wA W) => Cf_cells (block_below (show wA.heap[w.heap.size]? = some (.cells (CfV c) 24 (0, 0)) by rw [hwA]; exact heap_alloc_new w _) hb)
 have hN := rvnorm_any a len cap zs wA (ha.below HB0.out) hlen
 have HT := hid fun (t : Nat) W => rtoken_g c t W hm
 have HT16 := hid fun (t : Nat) => tokL_len hm t
 have HM : Hid (∀ t : Nat, smarkZ c zs t = dotK (normL zs) (tokL c t) (min len (tokL c t).length)) := fun t => by rw [← hz]; rfl
 clear ha hm hmp hV
 generalize normL zs = ns at *
 obtain ⟨f, hf⟩ : ∃ f : Nat → Int, f = smarkZ c zs := ⟨_, rfl⟩
 rw [← hf] at HM ⊢
 obtain ⟨F, hF⟩ : ∃ F : Nat → List Int, F = fun t => tokL c (t : Nat) := ⟨_, rfl⟩
 have hFt : ∀ t : Nat, tokL c (t : Nat) = F t := fun t => by rw [hF]
 simp only [hFt] at HT HT16 HM
 clear hf hF hFt
 obtain ⟨s, v, d, l, tt, h⟩ := c
 simp only at hVc
 subst hVc
 unfold CfV at HT hwA ⊢
 simp only at HT HK hwA ⊢
 go_enter Tryz.func103, Tryz.ntmps103
 go_wp2_with fail
 rw [← hwA]
 refine hN.mono ?_
 rintro e w1 ⟨an, cn, rfl, hR, hb⟩
 have HN := hid hR
 have HB := hid hb
 clear hN hR hb hwA
 go_wp2_with fail
 go_loopw [6, 7] (fun u i W => ∃ k : Nat, k ≤ V ∧ i = .int .i64 k ∧ Hid (W.ownsRow w1.heap.size 2 1 u k ((rowK f k).map (Value.int .i64))) ∧ Hid (Below w1.heap.size w1 W)) (fun _ i _ => V - (intOf i).toNat)
 case atStart => exact ⟨0, Nat.zero_le _, rfl, World.ownsRow_nil _ _ _ _, Below.refl _ _⟩
 case round =>
  obtain ⟨k, hk, rfl, HO, HW⟩ := hrel
  rename World => wr
  obtain ⟨x0, x1, x2, x3, x4, x5⟩ := HK.out _ (HB.out.trans (HW.out.mono HB.out.size))
  by_cases hlt : k < V
  ·have hT := HT.out k wr
   have h16 := HT16.out k
   have HE := HM.out k
   have HSn := hid (rowK_snoc f k)
   have q1 : (k : Int) < (V : Int) := by omega
   clear HT HT16 HM HK
   generalize F k = ts at *
   go_wp2_with fail
   refine hT.mono ?_
   rintro e w3 ⟨u, rfl, hO3, hb⟩
   obtain ⟨at_, ct, rfl, hrt⟩ := Reads.own (k := .i64) hO3
   have HN3 := hid ((HN.out.below HW.out).below hb)
   replace HO := hid (own_below HO.out hb)
   replace HW := hid (HW.out.trans (hb.mono HW.out.size))
   have hD := rvdot_any an at_ len cn _ ct ns ts w3 HN3.out hrt hlen (by omega)
   rw [← HE] at hD
   clear hT hO3 hb hrt HN3 x0 x1 x2 x3 x4 x5
   go_wp2_with fail
   refine hD.mono ?_
   rintro e w4 ⟨rfl, hb⟩
   replace HO := hid (own_below HO.out hb)
   replace HW := hid (HW.out.trans (hb.mono HW.out.size))
   clear hD hb HE
   have hal : Hid (∀ o, Below w4.heap.size w4 (w4.alloc o)) := fun o => (Below.refl _ _).alloc (Nat.le_refl _) _
   have HS : Hid (w1.heap.size ≤ w4.heap.size) := HW.out.size
   generalize f k = y at *
   generalize rowK f k = us at *
   go_wp2_with (first | (at_builtin; refine append_any _ rfl (.tmp 16) (.tmp 22) 131 rfl w1.heap.size 2 i0 (.int .i64 0) 8 Tryz.underlying131 hi hz0 hz1 hz2 rfl .i64 _ k us rfl (own_below HO.out (hal.out _)) _ 1 1 [y] rfl (Reads.one _ _ _) (by omega) (by omega) (Nat.le_trans HS.out (by simp)) ?_; intro v' w5 hO5 hb5) | fail)
   have HB5 := hid ((HW.out.alloc HS.out _).trans hb5)
   have HO5 : Hid (w5.ownsRow w1.heap.size 2 1 v' (k + 1) ((rowK f (k + 1)).map (Value.int .i64))) := by rw [← HSn.out]; exact hO5
   clear hO5 hb5 HSn HO HW hal HS
   go_wp2_with fail
   go_round
   case rel => exact ⟨k + 1, by omega, by go_num, HO5, HB5⟩
   case measure => simp [intOf]; omega
  ·obtain rfl : k = V := by omega
   have HO5 := hid (own_base HO.out (Nat.le_trans HB0.out.size HB.out.size))
   have HW5 := hid (HB0.out.trans ((HB.out.trans (HW.out.mono HB.out.size)).mono HB0.out.size))
   clear HO HW HB HT HT16 HM HN HK HB0
   go_wp2
   go_ret
   exact ⟨_, rfl, HO5.out, HW5.out⟩
end Go.Proofs.YtjgggialnegddaaGreat
