/-
  The texts SaBest, SaMarks, SaNext, DeMath, DeMath2 of this proof.
-/
import Derived.Test.YtjgggialnegddaaGreatPn24
import Derived.Test.YtjgggialnegddaaGreatPn01
import Derived.Test.YtjgggialnegddaaGreatPn13
import Derived.Deep.RegionHeld3
import Derived.Test.YtjgggialnegddaaGreatPn22
set_option linter.unusedVariables false
set_option maxRecDepth 1000000
namespace Go.Proofs.YtjgggialnegddaaGreat
open Go.RowKit
theorem block_up {w w' : World} {k : Nat} {o : Obj} (h : w.heap[k]? = some o) (hb : Below w.heap.size w w') : w'.heap[k]? = some o := (hb.block k (lt_of_block h)).trans h
set_option maxHeartbeats 1000000 in
theorem weigh_any (a : Option Addr) (len cap gt K ct : Nat) (zs ps : List Int) (heat : Int) (B1 B2 : Nat) (w : World) (ha : Reads .i64 w a len cap zs) (hlen : len ≤ 1000) (ht : Reads .i64 w (some ⟨gt, 0, none⟩) K ct ps) (hK : K ≤ 1000)
  (hp : ∀ i, i < K → ∃ m : Nat, ps[i]?.getD 0 = m ∧ m < len)
  (h1 : w.heap[B1]? = some (.cells #[.slice a len cap] 131 (0, 0))) (h2 : w.heap[B2]? = some (.cells #[.int .i64 heat] 3 (0, 0))) :
  Calls Tryz.prog 192 #[.slice (some ⟨gt, 0, none⟩) K ct, .func (.func 193) #[] #[.pointer (some ⟨B1, 0, none⟩), .pointer (some ⟨B2, 0, none⟩)]] w fun e w' => Made w K (wtL zs heat ps) e w' := by
 have hmk : ∀ W : World, (Instr.makeSlice 131 (.int .i64 (K : Int)) (.int .i64 (K : Int))).run Tryz.prog W = .ok (.slice (some ⟨W.heap.size, 0, none⟩) K K) (W.alloc (.cells (madeCells #[.int .i64 0] K) 2)) := fun W => make_ints W K (by omega)
 have hpl := ht.size
 have hroom := ht.room
 have hmost := ht.most
 have HO0 : Hid (OwnK 2 w.heap.size w.heap.size K K (madeK (cntZ zs heat) ps K 0) (w.alloc (.cells (madeCells #[.int .i64 0] K) 2))) := by
  have := own_made 2 w K (by omega)
  unfold Hid madeK
  simpa using this
 have HB0 : Hid (Below w.heap.size w (w.alloc (.cells (madeCells #[.int .i64 0] K) 2))) := (Below.refl _ _).alloc (Nat.le_refl _) _
 have HC : Hid (∀ k, k < K → ∀ W, Below w.heap.size w W → Calls Tryz.prog 193 #[.int .i64 (ps[k]?.getD 0), .pointer (some ⟨B1, 0, none⟩), .pointer (some ⟨B2, 0, none⟩)] W fun e w' => e = .returned (.int .i64 (cntZ zs heat (ps[k]?.getD 0))) ∧ Below W.heap.size W w') := by
  intro k hk W hb
  obtain ⟨m, e, hm⟩ := hp k hk
  rw [e]
  exact count1_any a len cap m zs heat B1 B2 W (ha.below hb) hlen hm ((hb.block _ (lt_of_block h1)).trans h1) ((hb.block _ (lt_of_block h2)).trans h2)
 have HT := hid fun W (hb : Below w.heap.size w W) => ht.below hb
 have hEn := enters_of Tryz.func193 (by kernel_rfl) rfl
 have HS := hid fun g W (hO : OwnK 2 w.heap.size g K K (cntL zs heat ps) W) => soft_any _ K K (cntL zs heat ps) W hO.reads hK
 have HMK : Hid (∀ k, k < K → (madeK (cntZ zs heat) ps K k).set k (cntZ zs heat (ps[k]?.getD 0)) = madeK (cntZ zs heat) ps K (k + 1)) := fun k hk => by rw [← hpl]; exact madeK_set (by omega)
 have HMA : Hid (madeK (cntZ zs heat) ps K K = cntL zs heat ps) := by unfold Hid cntL; rw [← hpl]; exact madeK_all _ _
 clear ha ht hp h1 h2 hpl
 go_enter Tryz.func192, Tryz.ntmps192
 go_wp2_with fail
 clear hmk
 go_loopw [13] (fun i W => ∃ k : Nat, k ≤ K ∧ i = .int .i64 k ∧ Hid (OwnK 2 w.heap.size w.heap.size K K (madeK (cntZ zs heat) ps K k) W) ∧ Hid (Below w.heap.size w W)) (fun i _ => K - (intOf i).toNat)
 case atStart => exact ⟨0, Nat.zero_le _, rfl, HO0, HB0⟩
 case round =>
  obtain ⟨k, hk, rfl, HO, HW⟩ := hrel
  clear HO0 HB0
  rename World => wr
  by_cases hlt : k < K
  ·have ck := (HT.out _ HW.out).at hlt
   rw [Nat.zero_add] at ck
   have hC := HC.out k hlt wr HW.out
   have HE := HMK.out k hlt
   have q1 : (k : Int) < (K : Int) := by omega
   clear HS HMA HC HMK HT
   generalize cntZ zs heat (ps[k]?.getD 0) = y at *
   generalize ps[k]?.getD 0 = x at *
   go_wp2_with fail
   refine hC.mono ?_
   rintro e w2 ⟨rfl, hb⟩
   have HO2 := hid (HO.out.stays hb)
   have ck2 := HO2.out.cell hlt
   have fk := HO2.out.frozen k
   have HO3 : Hid (OwnK 2 w.heap.size w.heap.size K K (madeK (cntZ zs heat) ps K (k + 1)) (w2.setCell ⟨w.heap.size, k, none⟩ (.int .i64 y))) := by
    rw [← HE]; exact HO2.out.set k y
   have HW2 := hid ((HW.out.trans (hb.mono HW.out.size)).setCell (p := ⟨w.heap.size, k, none⟩) (Nat.le_refl _) (.int .i64 y))
   clear hb hC HO HW HO2 HE ck
   go_wp2_with fail
   go_round
   case rel => exact ⟨k + 1, by omega, by go_num, HO3, HW2⟩
   case measure => simp [intOf]; omega
  ·obtain rfl : k = K := by omega
   have hO := HO.out
   rw [HMA.out] at hO
   have hS := HS.out _ wr hO
   clear HS HMA HC HMK HT HO hO
   go_wp2_with fail
   refine hS.mono ?_
   rintro e w2 ⟨g2, c2, rfl, hO2, hb⟩
   have HO2 := hid (hO2.low HW.out.size)
   have HW2 := hid (HW.out.trans (hb.mono HW.out.size))
   clear hS hO2 hb HW
   go_wp2
   go_ret
   exact ⟨_, _, rfl, HO2.out, HW2.out⟩
theorem best_of (a : Option Addr) (len cap : Nat) (zs : List Int) (w : World) (ha : Reads .i64 w a len cap zs) (hlen : len ≤ 1000) :
  Calls Tryz.prog 190 #[.slice a len cap] w fun e w' => ∃ t, e = .returned (.int .i64 t) ∧ BestOf zs t ∧ Below w.heap.size w w' := by
 have hz := ha.size
 by_cases h0 : len = 0
 ·subst h0
  have hz : zs = [] := List.eq_nil_of_length_eq_zero hz
  subst hz
  clear ha
  go_enter Tryz.func190, Tryz.ntmps190
  go_wp2
  go_ret
  exact ⟨_, rfl, best_nil, Below.refl _ _⟩
 ·have hK : Kof 1 len 1 := by unfold Kof; omega
  have hT := top_any a len cap 1 1 zs w ha hlen hK (by omega)
  have q1 : ¬ (len : Int) = 0 := by omega
  clear ha hK
  go_enter Tryz.func190, Tryz.ntmps190
  go_wp2_with fail
  refine hT.mono ?_
  rintro e w2 ⟨g, ps, rfl, hO, hP, hb⟩
  have c0 := hO.cell (k := 0) (by omega)
  have HE : Hid (BestOf zs (ps[0]?.getD 0)) := by
   have hl := hP.len
   match ps, hl with
   | [x], _ =>
    refine .inr ⟨by omega, ?_⟩
    rw [hz]
    exact hP
  generalize ps[0]?.getD 0 = t at *
  have HB := hid hb
  clear hT hO hP hb
  go_wp2
  go_ret
  exact ⟨t, rfl, HE.out, HB.out⟩
set_option maxHeartbeats 1000000 in
theorem draw_of (a : Option Addr) (len cap : Nat) (zs : List Int) (top heat s p : Int) (w : World) (ha : Reads .i64 w a len cap zs) (hlen : len ≤ 1000) :
  Calls Tryz.prog 175 #[.slice a len cap, .int .i64 top, .int .i64 heat, .int .u64 s, .int .u64 p] w fun e w' => ∃ t, e = .returned (.int .i64 t) ∧ DrawOf zs top heat s p t ∧ Below w.heap.size w w' := by
 have hz := ha.size
 obtain ⟨wA, hwA⟩ : ∃ wA, wA = (w.alloc (.cells #[.slice a len cap] 131)).alloc (.cells #[.int .i64 heat] 3) := ⟨_, rfl⟩
 have hB0 : Below w.heap.size w wA := by rw [hwA]; exact ((Below.refl _ _).alloc (Nat.le_refl _) _).alloc (by simp) _
 have e1 : wA.heap[w.heap.size]? = some (.cells #[.slice a len cap] 131 (0, 0)) := by
  rw [hwA, Below.heap_alloc _ _ _ (by simp)]; exact heap_alloc_new w _
 have e2 : wA.heap[w.heap.size + 1]? = some (.cells #[.int .i64 heat] 3 (0, 0)) := by
  have := heap_alloc_new (w.alloc (.cells #[.slice a len cap] 131)) (.cells #[.int .i64 heat] 3)
  rw [hwA]
  simpa using this
 have HC : Hid (∀ W, Below wA.heap.size wA W → W.cell? ⟨w.heap.size, 0, none⟩ = some (.slice a len cap) ∧ W.cell? ⟨w.heap.size + 1, 0, none⟩ = some (.int .i64 heat)) := fun W hb => ⟨cell_of_one (block_up e1 hb), cell_of_one (block_up e2 hb)⟩
 obtain ⟨c1, c2⟩ := HC.out wA (Below.refl _ _)
 have hroom := ha.room
 have hmost := ha.most
 by_cases hc : len = 0 ∨ heat < 1
 ·have hBe := best_of a len cap zs wA (ha.below hB0) hlen
  have HD : Hid (∀ t, BestOf zs t → DrawOf zs top heat s p t) := fun t ht => by
   refine .inl ⟨?_, ht⟩
   rcases hc with hc | hc
   ·left; exact List.eq_nil_of_length_eq_zero (by omega)
   ·right; exact hc
  have HB := hid hB0
  clear ha e1 e2 hB0 HC
  rw [hwA] at c1 c2
  by_cases h0 : len = 0
  ·subst h0
   clear hc
   go_enter Tryz.func175, Tryz.ntmps175
   go_wp2_with fail
   rw [← hwA]
   refine hBe.mono ?_
   rintro e w2 ⟨t, rfl, hT, hb⟩
   have HT := hid (HD.out t hT)
   replace HB := hid (HB.out.trans (hb.mono HB.out.size))
   clear hT hb hBe HD hwA c1 c2
   go_wp2
   go_ret
   exact ⟨t, rfl, HT.out, HB.out⟩
  ·have hh : heat < 1 := by omega
   have q1 : ¬ (len : Int) = 0 := by omega
   clear hc
   go_enter Tryz.func175, Tryz.ntmps175
   go_wp2_with fail
   rw [← hwA]
   refine hBe.mono ?_
   rintro e w2 ⟨t, rfl, hT, hb⟩
   have HT := hid (HD.out t hT)
   replace HB := hid (HB.out.trans (hb.mono HB.out.size))
   clear hT hb hBe HD hwA c1 c2
   go_wp2
   go_ret
   exact ⟨t, rfl, HT.out, HB.out⟩
 ·have h0 : 0 < len := by omega
  have hh : ¬ heat < 1 := by omega
  have q1 : ¬ (len : Int) = 0 := by omega
  obtain ⟨K, hK, hKl⟩ := kof_any (mx1 top) len
  have hK0 := kof_pos hK h0
  have hT := top_any a len cap K (mx1 top) zs wA (ha.below hB0) hlen hK hKl
  have hmx : (if top < 1 then 1 else top) = mx1 top := by unfold mx1; split <;> omega
  have HW := hid fun (W : World) gt ct ps (hb : Below wA.heap.size wA W) (ht : Reads .i64 W (some ⟨gt, 0, none⟩) K ct ps) (hP : TopOf zs len K ps) => weigh_any a len cap gt K ct zs ps heat w.heap.size (w.heap.size + 1) W ((ha.below hB0).below hb) hlen ht (by omega) (fun i hi => hP.at hi) (block_up e1 hb) (block_up e2 hb)
  have HD : Hid (∀ (k : Nat) ps, TopOf zs len K ps → FirstAt (wtL zs heat ps) K (belowZ s p (sumK (wtL zs heat ps) K)) k → DrawOf zs top heat s p (ps[k]?.getD 0)) := fun k ps hP hF => .inr ⟨by omega, by omega, K, k, ps, by rw [hz]; exact hK, by rw [hz]; exact hP, hF, rfl⟩
  have HS : Hid (∀ ps, TopOf zs len K ps → (0 < sumK (wtL zs heat ps) K ∧ sumK (wtL zs heat ps) K ≤ 2147483647) ∧ 0 ≤ belowZ s p (sumK (wtL zs heat ps) K) ∧ belowZ s p (sumK (wtL zs heat ps) K) < sumK (wtL zs heat ps) K) := fun ps hP => ⟨wt_sum hP.len hK0, below_sum s p hP.len hK0⟩
  have HB := hid hB0
  clear ha e1 e2 hB0 hK hc
  rw [hwA] at c1 c2
  generalize mx1 top = T at *
  go_enter Tryz.func175, Tryz.ntmps175
  go_wp2_with fail
  rw [← hwA]
  refine hT.mono ?_
  rintro e w2 ⟨gt, ps, rfl, hO, hP, hb⟩
  have HO := hid hO
  have hw := HW.out w2 gt K ps hb hO.reads hP
  obtain ⟨⟨s0, s1⟩, d0, d1⟩ := HS.out ps hP
  replace HD := hid fun k => HD.out k ps hP
  have HP := hid hP
  replace HB := hid (HB.out.trans (hb.mono HB.out.size))
  clear hT hO hP hb HW HS HC hwA c1 c2 hmx
  go_wp2_with fail
  refine hw.mono ?_
  rintro e w3 ⟨gw, cw, rfl, hO, hb⟩
  have HR := hid hO.reads
  replace HO := hid (HO.out.stays hb)
  replace HB := hid (HB.out.trans (hb.mono HB.out.size))
  have HF := hid (above_any gw K cw (wtL zs heat ps) _ w3 hO.reads (by omega) d0 d1)
  have hcw := hO.reads.room
  have hcm := hO.reads.most
  clear hw hO hb d1
  have hSu := ssum_any gw K cw (wtL zs heat ps) w3 HR.out (by omega)
  generalize wtL zs heat ps = ws at *
  have HDb : Hid (belowZ s p (sumK ws K) ≤ 2147483647) := by
   have := below_bd s p s0
   unfold Hid
   omega
  go_wp2_with fail
  refine hSu.mono ?_
  rintro e w' ⟨rfl, rfl⟩
  clear hSu HR
  rename World => w3
  generalize sumK ws K = S at *
  go_wp2_with fail
  refine (dbelow_any s p S _ (by omega) (by omega)).mono ?_
  rintro e w' ⟨rfl, rfl⟩
  have d1 := HDb.out
  clear HDb
  generalize belowZ s p S = d at *
  go_wp2_with fail
  refine HF.out.mono ?_
  rintro e w4 ⟨k, rfl, hF, hb⟩
  have HE := hid (HD.out k hF)
  have ck := (HO.out.stays hb).cell hF.lt
  have hk := hF.lt
  replace HB := hid (HB.out.trans (hb.mono HB.out.size))
  clear HF HD HO hF hb HP
  generalize ps[k]?.getD 0 = t at *
  go_wp2
  go_ret
  exact ⟨t, rfl, HE.out, HB.out⟩
theorem draw_any (a : Option Addr) (len cap : Nat) (zs : List Int) (top heat s p : Int) (w : World) (ha : Reads .i64 w a len cap zs) (hlen : len ≤ 1000) :
  Calls Tryz.prog 175 #[.slice a len cap, .int .i64 top, .int .i64 heat, .int .u64 s, .int .u64 p] w fun e w' => e = .returned (.int .i64 (drawZ zs top heat s p)) ∧ Below w.heap.size w w' :=
 (draw_of a len cap zs top heat s p w ha hlen).mono fun e w' ⟨t, h1, h2, h3⟩ => ⟨by rw [h2.eq]; exact h1, h3⟩
end Go.Proofs.YtjgggialnegddaaGreat
namespace Go.Proofs.YtjgggialnegddaaGreat
open Go.RowKit
def smarkZ (c : Cf) (zs : List Int) (t : Nat) : Int := dotK (normL zs) (tokL c t) (min zs.length (tokL c t).length)
theorem cf_field1 (s v d l tt h : Int) (W : World) : (Instr.field 24 (.agg #[.int .u64 s, .int .i64 v, .int .i64 d, .int .i64 l, .int .i64 tt, .int .i64 h]) 1).run Tryz.prog W = .ok (.int .i64 v) W := by kernel_rfl
set_option maxHeartbeats 1000000 in
theorem marks_g (p : Option Addr) (c : Cf) (V : Nat) (a : Option Addr) (len cap : Nat) (zs : List Int) (w : World) (hp : MdAt w p c) (hV : c.vocab = V) (hV64 : V ≤ 64) (hm : 0 < V → mayB c = true) (ha : Reads .i64 w a len cap zs) (hlen : len ≤ 1000) :
  Calls Tryz.prog 176 #[.pointer p, .slice a len cap] w fun e w' => Made w V (rowK (smarkZ c zs) V) e w' := by
 have hmk : ∀ W : World, (Instr.makeSlice 131 (.int .i64 (V : Int)) (.int .i64 (V : Int))).run Tryz.prog W = .ok (.slice (some ⟨W.heap.size, 0, none⟩) V V) (W.alloc (.cells (madeCells #[.int .i64 0] V) 2)) := fun W => make_ints W V (by omega)
 have hz := ha.size
 have hN := norm_any a len cap zs w ha hlen
 have HC := hid fun W (hb : Below w.heap.size w W) => config_any p c W (hp.below hb)
 have HT := hid fun (t : Nat) (ht : t < V) W (hb : Below w.heap.size w W) => token_g p c t W (hp.below hb) (hm (by omega))
 have HT16 := hid fun (t : Nat) (ht : t < V) => tokL_len (hm (by omega)) t
 have HM : Hid (∀ t : Nat, smarkZ c zs t = dotK (normL zs) (tokL c t) (min len (tokL c t).length)) := fun t => by rw [← hz]; rfl
 clear ha hp hm
 generalize normL zs = ns at *
 obtain ⟨f, hf⟩ : ∃ f : Nat → Int, f = smarkZ c zs := ⟨_, rfl⟩
 rw [← hf] at HM ⊢
 obtain ⟨F, hF⟩ : ∃ F : Nat → List Int, F = fun t => tokL c (t : Nat) := ⟨_, rfl⟩
 have hFt : ∀ t : Nat, tokL c (t : Nat) = F t := fun t => by rw [hF]
 simp only [hFt] at HT HT16 HM
 clear hf hF hFt
 obtain ⟨s, v, d, l, tt, h⟩ := c
 simp only at hV
 subst hV
 unfold CfV at HC
 simp only at HC
 have hfd := cf_field1 s (V : Int) d l tt h
 go_enter Tryz.func176, Tryz.ntmps176
 go_wp2_with fail
 refine hN.mono ?_
 rintro e w1 ⟨gn, cn, rfl, hO, hb⟩
 have HN := hid hO.reads
 have HB := hid hb
 clear hN hO hb
 go_wp2_with fail
 refine (HC.out _ HB.out).mono ?_
 rintro e w2 ⟨rfl, hb⟩
 replace HN := hid (HN.out.below hb)
 replace HB := hid (HB.out.trans (hb.mono HB.out.size))
 clear hb HC
 have HO0 : Hid (OwnK 2 w2.heap.size w2.heap.size V V (rowK f 0 ++ List.replicate (V - 0) 0) (w2.alloc (.cells (madeCells #[.int .i64 0] V) 2))) := own_made 2 w2 V (by omega)
 have HV0 : Hid (Below w2.heap.size w2 (w2.alloc (.cells (madeCells #[.int .i64 0] V) 2))) := (Below.refl _ _).alloc (Nat.le_refl _) _
 go_wp2_with fail
 clear hmk
 go_loopw [16] (fun i W => ∃ k : Nat, k ≤ V ∧ i = .int .i64 k ∧ Hid (OwnK 2 w2.heap.size w2.heap.size V V (rowK f k ++ List.replicate (V - k) 0) W) ∧ Hid (Below w2.heap.size w2 W)) (fun i _ => V - (intOf i).toNat)
 case atStart => exact ⟨0, Nat.zero_le _, rfl, HO0, HV0⟩
 case round =>
  obtain ⟨k, hk, rfl, HO, HW⟩ := hrel
  clear HO0 HV0
  rename World => wr
  by_cases hlt : k < V
  ·have hT := HT.out k hlt wr (HB.out.trans (HW.out.mono HB.out.size))
   have h16 := HT16.out k hlt
   have HE := HM.out k
   have HSet := hid (rowK_set f hlt)
   have q1 : (k : Int) < (V : Int) := by omega
   clear HT HT16 HM
   generalize F k = ts at *
   go_wp2_with fail
   refine hT.mono ?_
   rintro e w3 ⟨u, rfl, hO3, hb⟩
   obtain ⟨at_, ct, rfl, hrt⟩ := Reads.own (k := .i64) hO3
   have HN3 := hid ((HN.out.below HW.out).below hb)
   replace HO := hid (HO.out.stays hb)
   replace HW := hid (HW.out.trans (hb.mono HW.out.size))
   have hD := dot_any (some ⟨gn, 0, none⟩) at_ len cn _ ct ns ts w3 HN3.out hrt hlen (by omega)
   rw [← HE] at hD
   clear hT hO3 hb hrt HN3
   go_wp2_with fail
   refine hD.mono ?_
   rintro e w4 ⟨rfl, hb⟩
   replace HO := hid (HO.out.stays hb)
   replace HW := hid (HW.out.trans (hb.mono HW.out.size))
   have ck := HO.out.cell hlt
   have fk := HO.out.frozen k
   have HO5 : Hid (OwnK 2 w2.heap.size w2.heap.size V V (rowK f (k + 1) ++ List.replicate (V - (k + 1)) 0) (w4.setCell ⟨w2.heap.size, k, none⟩ (.int .i64 (f k)))) := by
    rw [← HSet.out]; exact HO.out.set k (f k)
   have HW5 := hid (HW.out.setCell (p := ⟨w2.heap.size, k, none⟩) (Nat.le_refl _) (.int .i64 (f k)))
   clear hD hb HO HW HE HSet
   generalize f k = y at *
   go_wp2_with fail
   go_round
   case rel => exact ⟨k + 1, by omega, by go_num, HO5, HW5⟩
   case measure => simp [intOf]; omega
  ·obtain rfl : k = V := by omega
   have hO := HO.out
   rw [Nat.sub_self] at hO
   have HO5 : Hid (OwnK 2 w.heap.size w2.heap.size k k (rowK f k) wr) := by unfold Hid; simpa using hO.low HB.out.size
   have HW5 := hid (HB.out.trans (HW.out.mono HB.out.size))
   clear HO hO HW HB HT HT16 HM HN
   go_wp2
   go_ret
   exact ⟨_, _, rfl, HO5.out, HW5.out⟩
theorem smarks_any (p : Option Addr) (c : Cf) (a : Option Addr) (len cap : Nat) (zs : List Int) (w : World) (hp : MdAt w p c) (hm : mayB c = true) (ha : Reads .i64 w a len cap zs) (hlen : len ≤ 1000) :
  Calls Tryz.prog 176 #[.pointer p, .slice a len cap] w fun e w' => Made w c.vocab.toNat (rowK (smarkZ c zs) c.vocab.toNat) e w' := by
 have := may_parts hm
 exact marks_g p c c.vocab.toNat a len cap zs w hp (by omega) (by omega) (fun _ => hm) ha hlen
end Go.Proofs.YtjgggialnegddaaGreat
namespace Go.Proofs.YtjgggialnegddaaGreat
open Go.RowKit
noncomputable def nextZ (c : Cf) (zs : List Int) (s p : Int) : Int := drawZ (rowK (smarkZ c zs) c.vocab.toNat) c.top c.heat s p
set_option maxHeartbeats 1000000 in
theorem snext_any (pm : Option Addr) (c : Cf) (a : Option Addr) (len cap : Nat) (zs : List Int) (s0 p0 : Int) (w : World) (hp : MdAt w pm c) (hm : mayB c = true) (ha : Reads .i64 w a len cap zs) (hlen : len ≤ 1000) :
  Calls Tryz.prog 149 #[.pointer pm, .slice a len cap, .int .u64 s0, .int .u64 p0] w fun e w' => e = .returned (.int .i64 (nextZ c zs s0 p0)) ∧ Below w.heap.size w w' := by
 have hmp := may_parts hm
 obtain ⟨V, hV⟩ : ∃ V, c.vocab.toNat = V := ⟨_, rfl⟩
 have hV64 : V ≤ 64 := by omega
 have hC := config_any pm c w hp
 have HMk := hid fun (W : World) (hb : Below w.heap.size w W) => smarks_any pm c a len cap zs W (hp.below hb) hm (ha.below hb) hlen
 rw [hV] at HMk
 have HDr := hid fun (W : World) a' c' (hr : Reads .i64 W a' V c' (rowK (smarkZ c zs) V)) => draw_any a' V c' (rowK (smarkZ c zs) V) c.top c.heat s0 p0 W hr (by omega)
 have HNx : Hid (drawZ (rowK (smarkZ c zs) V) c.top c.heat s0 p0 = nextZ c zs s0 p0) := by unfold Hid nextZ; rw [hV]
 rw [HNx.out] at HDr
 clear ha hm hmp hV HNx hp
 generalize rowK (smarkZ c zs) V = ms at *
 generalize nextZ c zs s0 p0 = td at *
 obtain ⟨s, v, d, l, tt, h⟩ := c
 unfold CfV at hC
 simp only at hC HDr ⊢
 go_enter Tryz.func149, Tryz.ntmps149
 go_wp2_with fail
 refine hC.mono ?_
 rintro e w1 ⟨rfl, hb⟩
 obtain ⟨wA, hwA⟩ : ∃ wA, wA = w1.alloc (.cells #[.int .u64 s, .int .i64 v, .int .i64 d, .int .i64 l, .int .i64 tt, .int .i64 h] 24) := ⟨_, rfl⟩
 have hB1 : Below w1.heap.size w1 wA := by rw [hwA]; exact (Below.refl _ _).alloc (Nat.le_refl _) _
 have HBA := hid (hb.trans (hB1.mono hb.size))
 have HK := hid fun (W : World) (hbW : Below wA.heap.size wA W) => Cf_cells (c := ⟨s, v, d, l, tt, h⟩) (block_below (show wA.heap[w1.heap.size]? = some (.cells (CfV ⟨s, v, d, l, tt, h⟩) 24 (0, 0)) by rw [hwA]; exact heap_alloc_new w1 _) hbW)
 simp only at HK
 have HX : Hid (∀ W : World, Below wA.heap.size wA W → Below w.heap.size w W) := fun W hW => HBA.out.trans (hW.mono HBA.out.size)
 have HV : Hid (Below wA.heap.size wA wA.drew) := (Below.refl _ _).drew
 clear hC hb hB1 HBA
 go_wp2_with fail
 rw [← hwA]
 clear hwA
 go_region_held3 (fun W : World => W.cell? ⟨w1.heap.size, 0, none⟩ = some (.int .u64 s) ∧ W.cell? ⟨w1.heap.size, 1, none⟩ = some (.int .i64 v) ∧ W.cell? ⟨w1.heap.size, 2, none⟩ = some (.int .i64 d) ∧ W.cell? ⟨w1.heap.size, 3, none⟩ = some (.int .i64 l) ∧ W.cell? ⟨w1.heap.size, 4, none⟩ = some (.int .i64 tt) ∧ W.cell? ⟨w1.heap.size, 5, none⟩ = some (.int .i64 h)) (first | (with_reducible exact HK.out _ (Below.refl _ _)) | (with_reducible exact HK.out _ HV.out))
  (first
   | (go_at_call 176; (with_reducible refine (HMk.out _ (HX.out _ HV.out)).mono ?_); rintro e y1 ⟨g1, q1, rfl, ho, hb⟩; replace HV := hid (HV.out.trans (hb.mono HV.out.size)); have HR1 := hid ho.reads; clear hb ho)
   | (go_at_call 175; (with_reducible refine (HDr.out _ _ _ HR1.out).mono ?_); rintro e y2 ⟨rfl, hb⟩; replace HV := hid (HV.out.trans (hb.mono HV.out.size)); clear hb))
 all_goals
  go_wp2_with fail
  go_ret
  exact ⟨rfl, HX.out _ HV.out⟩
end Go.Proofs.YtjgggialnegddaaGreat
namespace Go.Proofs.YtjgggialnegddaaGreat
open Go.RowKit
def tvL (c : Cf) (ts : List Int) (i : Nat) : List Int := addL (tokL c (ts[i]?.getD 0)) (plL c i)
def tvsL (c : Cf) (ts : List Int) : List (List Int) := tblK (tvL c ts) ts.length
theorem tvsL_at (c : Cf) (ts : List Int) {i : Nat} (h : i < ts.length) : (tvsL c ts)[i]?.getD [] = tvL c ts i := tblK_at _ h
def outK (c : Cf) (ts : List Int) : Nat → List Int
 | 0 => []
 | k + 1 => madeL c c.layers.toNat (tvsL c ts) k
noncomputable def toldZ (c : Cf) (ts : List Int) (seed : Int) : Int := nextZ c (outK c ts ts.length) seed ts.length
noncomputable def refL (c : Cf) (seed : Int) : List Int → Nat → List Int
 | _, 0 => []
 | ts, m + 1 => if 256 ≤ ts.length then [] else if toldZ c ts seed = 0 then [] else toldZ c ts seed :: refL c seed (ts ++ [toldZ c ts seed]) m
def mayJ (v most : Int) (ts : List Int) : Bool := decide (0 ≤ most) && (decide (most ≤ 256) && (decide (ts.length ≤ 255) && ts.all fun t => decide (0 ≤ t) && decide (t < v)))
theorem tvL_len {c : Cf} (h : mayB c = true) (ts : List Int) (i : Nat) : (tvL c ts i).length ≤ 16 := by
 unfold tvL; rw [addL_len]; have := tokL_len h (ts[i]?.getD 0); omega
theorem tvs_len {c : Cf} (h : mayB c = true) (ts : List Int) (i : Nat) : ((tvsL c ts)[i]?.getD []).length ≤ 16 := by
 by_cases hi : i < ts.length
 ·rw [tvsL_at c ts hi]; exact tvL_len h ts i
 ·rw [List.getElem?_eq_none (by unfold tvsL; rw [tblK_len]; omega)]; simp
theorem outK_len {c : Cf} (h : mayB c = true) (ts : List Int) (k : Nat) : (outK c ts k).length ≤ 16 := by
 cases k with
 | zero => simp [outK]
 | succ k => exact Nat.le_trans (thrX_len _ _ _ _) (tvs_len h ts k)
theorem memL_ext (c : Cf) (L : Nat) {xs ys : List (List Int)} : ∀ k, (∀ i, i < k → xs[i]?.getD [] = ys[i]?.getD []) → memL c L xs k = memL c L ys k := by
 intro k
 induction k with
 | zero => intro _; rfl
 | succ k ih => intro h; simp only [memL]; rw [ih fun i hi => h i (by omega), h k (by omega)]
theorem madeL_ext (c : Cf) (L : Nat) {xs ys : List (List Int)} {k : Nat} (h : ∀ i, i < k + 1 → xs[i]?.getD [] = ys[i]?.getD []) : madeL c L xs k = madeL c L ys k := by
 unfold madeL; rw [memL_ext c L k fun i hi => h i (by omega), h k (by omega)]
theorem tvs_app (c : Cf) (ts us : List Int) {i : Nat} (h : i < ts.length) : (tvsL c (ts ++ us))[i]?.getD [] = (tvsL c ts)[i]?.getD [] := by
 rw [tvsL_at _ _ h, tvsL_at _ _ (by rw [List.length_append]; omega)]
 unfold tvL
 rw [List.getElem?_append_left h]
theorem memL_app (c : Cf) (L : Nat) (ts us : List Int) {k : Nat} (h : k ≤ ts.length) : memL c L (tvsL c (ts ++ us)) k = memL c L (tvsL c ts) k := memL_ext c L k fun i hi => tvs_app c ts us (by omega)
theorem outK_app (c : Cf) (ts us : List Int) {k : Nat} (h : k ≤ ts.length) : outK c (ts ++ us) k = outK c ts k := by
 cases k with
 | zero => rfl
 | succ k => exact madeL_ext c _ fun i hi => tvs_app c ts us (by omega)
theorem refL_succ (c : Cf) (seed : Int) (ts : List Int) (m : Nat) : refL c seed ts (m + 1) = if 256 ≤ ts.length then [] else if toldZ c ts seed = 0 then [] else toldZ c ts seed :: refL c seed (ts ++ [toldZ c ts seed]) m := rfl
theorem refL_len (c : Cf) (seed : Int) : ∀ m ts, (refL c seed ts m).length ≤ m := by
 intro m
 induction m with
 | zero => intro ts; simp [refL]
 | succ m ih =>
  intro ts
  rw [refL_succ]
  split
  ·simp
  ·split
   ·simp
   ·have := ih (ts ++ [toldZ c ts seed]); simp; omega
theorem refL_less (c : Cf) (seed : Int) : ∀ m ts k, k ≤ m → refL c seed ts k = (refL c seed ts m).take k := by
 intro m
 induction m with
 | zero =>
  intro ts k hk
  obtain rfl : k = 0 := by omega
  simp [refL]
 | succ m ih =>
  intro ts k hk
  cases k with
  | zero => simp [refL]
  | succ k =>
   rw [refL_succ, refL_succ]
   by_cases h1 : 256 ≤ ts.length
   ·rw [if_pos h1, if_pos h1]; simp
   ·rw [if_neg h1, if_neg h1]
    by_cases h2 : toldZ c ts seed = 0
    ·rw [if_pos h2, if_pos h2]; simp
    ·rw [if_neg h2, if_neg h2, List.take_succ_cons, ih _ k (by omega)]
theorem refL_rest (c : Cf) (seed : Int) : ∀ k m ts, k ≤ (refL c seed ts m).length → (refL c seed ts m).drop k = refL c seed (ts ++ (refL c seed ts m).take k) (m - k) := by
 intro k
 induction k with
 | zero => intro m ts _; simp
 | succ k ih =>
  intro m ts h
  cases m with
  | zero => simp [refL] at h
  | succ m =>
   rw [refL_succ] at h ⊢
   by_cases h1 : 256 ≤ ts.length
   ·rw [if_pos h1] at h; simp at h
   ·rw [if_neg h1] at h ⊢
    by_cases h2 : toldZ c ts seed = 0
    ·rw [if_pos h2] at h; simp at h
    ·rw [if_neg h2] at h ⊢
     simp only [List.length_cons] at h
     rw [List.drop_succ_cons, List.take_succ_cons, Nat.add_sub_add_right, ih m _ (by omega), List.append_assoc]
     rfl
theorem refL_stop {c : Cf} {seed : Int} {ts : List Int} {m : Nat} (h : m = 0 ∨ 256 ≤ ts.length ∨ toldZ c ts seed = 0) : refL c seed ts m = [] := by
 cases m with
 | zero => rfl
 | succ m =>
  rw [refL_succ]
  by_cases h1 : 256 ≤ ts.length
  ·rw [if_pos h1]
  ·rw [if_neg h1, if_pos (by omega)]
theorem refL_go {c : Cf} {seed : Int} {ts : List Int} {m : Nat} (h1 : ts.length < 256) (h2 : toldZ c ts seed ≠ 0) : refL c seed ts (m + 1) = toldZ c ts seed :: refL c seed (ts ++ [toldZ c ts seed]) m := by
 rw [refL_succ, if_neg (by omega), if_neg h2]
end Go.Proofs.YtjgggialnegddaaGreat
namespace Go.Proofs.YtjgggialnegddaaGreat
open Go.RowKit
theorem falls_insert (x : Mk) : ∀ qs : List Mk, Falls qs → ∃ rs : List Mk, rs.Perm (x :: qs) ∧ Falls rs := by
 intro qs
 induction qs with
 | nil => intro _; exact ⟨[x], List.Perm.refl _, List.pairwise_singleton _ _⟩
 | cons q qs ih =>
  intro h
  obtain ⟨h1, h2⟩ := List.pairwise_cons.1 h
  rcases leM_total q x with hq | hq
  ·refine ⟨x :: q :: qs, List.Perm.refl _, List.pairwise_cons.2 ⟨fun y hy => ?_, h⟩⟩
   rcases List.mem_cons.1 hy with rfl | hy
   ·exact hq
   ·exact leM_trans (h1 y hy) hq
  ·obtain ⟨rs, hp, hf⟩ := ih h2
   refine ⟨q :: rs, (hp.cons q).trans (List.Perm.swap _ _ _), List.pairwise_cons.2 ⟨fun y hy => ?_, hf⟩⟩
   rcases List.mem_cons.1 (hp.subset hy) with rfl | hy
   ·exact hq
   ·exact h1 y hy
theorem falls_any (ms : List Mk) : ∃ qs : List Mk, qs.Perm ms ∧ Falls qs := by
 induction ms with
 | nil => exact ⟨[], List.Perm.refl _, List.Pairwise.nil⟩
 | cons m ms ih =>
  obtain ⟨qs, hp, hf⟩ := ih
  obtain ⟨rs, hp2, hf2⟩ := falls_insert m qs hf
  exact ⟨rs, hp2.trans (hp.cons m), hf2⟩
theorem top_ex (zs : List Int) (n K : Nat) (h : K ≤ n) : ∃ ps, TopOf zs n K ps := by
 obtain ⟨qs, hp, hf⟩ := falls_any (marksK zs n)
 have hl : qs.length = n := by rw [hp.length_eq, marksK_len]
 refine ⟨(qs.take K).map Prod.fst, qs.take K, qs.drop K, rfl, by rw [List.length_take]; omega, hf.take, by rw [List.take_append_drop]; exact hp, fun r hr q hq => ?_⟩
 have : Falls (qs.take K ++ qs.drop K) := by rw [List.take_append_drop]; exact hf
 exact (List.pairwise_append.1 this).2.2 q hq r hr
theorem first_ex {ws : List Int} {d : Int} : ∀ n, 0 ≤ d → d < sumK ws n → ∃ k, FirstAt ws n d k := by
 intro n
 induction n with
 | zero => intro d0 hd; simp only [sumK] at hd; omega
 | succ n ih =>
  intro d0 hd
  by_cases h : ∀ j, j < n → sumK ws (j + 1) ≤ d
  ·exact ⟨n, by omega, hd, h⟩
  ·cases n with
   | zero => exact absurd (fun j hj => absurd hj (by omega)) h
   | succ m =>
    by_cases h2 : d < sumK ws (m + 1)
    ·obtain ⟨k, hk⟩ := ih d0 h2
     exact ⟨k, by have := hk.lt; omega, hk.up, hk.low⟩
    ·have : ∃ j, j < m + 1 ∧ d < sumK ws (j + 1) := Classical.byContradiction fun hn => h fun j hj => Int.not_lt.1 fun hlt => hn ⟨j, hj, hlt⟩
     obtain ⟨j, hj, hlt⟩ := this
     -- the least such place
     have key : ∀ j, j < m + 2 → d < sumK ws (j + 1) → ∃ k, FirstAt ws (m + 2) d k := by
      intro j
      induction j using Nat.strongRecOn with
      | _ j ihj =>
       intro hj hlt
       by_cases hl : ∀ i, i < j → sumK ws (i + 1) ≤ d
       ·exact ⟨j, hj, hlt, hl⟩
       ·have : ∃ i, i < j ∧ d < sumK ws (i + 1) := Classical.byContradiction fun hn => hl fun i hi => Int.not_lt.1 fun hlt => hn ⟨i, hi, hlt⟩
        obtain ⟨i, hi, hlt'⟩ := this
        exact ihj i hi (by omega) hlt'
     exact key j (by omega) hlt
theorem best_ex (zs : List Int) : ∃ t, BestOf zs t := by
 by_cases h : zs = []
 ·exact ⟨-1, .inl ⟨h, rfl⟩⟩
 ·have hl : 0 < zs.length := List.length_pos_iff.2 h
  obtain ⟨ps, hp⟩ := top_ex zs zs.length 1 hl
  have := hp.len
  match ps, this with
  | [x], _ => exact ⟨x, .inr ⟨hl, hp⟩⟩
theorem draw_ex (zs : List Int) (top heat s p : Int) : ∃ t, DrawOf zs top heat s p t := by
 by_cases h : zs = [] ∨ heat < 1
 ·obtain ⟨t, ht⟩ := best_ex zs
  exact ⟨t, .inl ⟨h, ht⟩⟩
 ·have h0 : 0 < zs.length := List.length_pos_iff.2 fun e => h (.inl e)
  obtain ⟨K, hK, hKl⟩ := kof_any (mx1 top) zs.length
  have hK0 := kof_pos hK h0
  obtain ⟨ps, hp⟩ := top_ex zs zs.length K hKl
  obtain ⟨d0, d1⟩ := below_sum (zs := zs) (heat := heat) s p hp.len hK0
  obtain ⟨k, hk⟩ := first_ex K d0 d1
  exact ⟨_, .inr ⟨h0, by omega, K, k, ps, hK, hp, hk, rfl⟩⟩
theorem best_bd {zs : List Int} {t : Int} (h : BestOf zs t) (h0 : 0 < zs.length) : 0 ≤ t ∧ t < zs.length := by
 rcases h with ⟨rfl, _⟩ | ⟨_, hp⟩
 ·simp at h0
 ·obtain ⟨m, h1, h2⟩ := hp.at (i := 0) (by omega)
  simp at h1
  omega
theorem draw_bd {zs : List Int} {top heat s p t : Int} (h : DrawOf zs top heat s p t) (h0 : 0 < zs.length) : 0 ≤ t ∧ t < zs.length := by
 rcases h with ⟨_, hb⟩ | ⟨_, _, K, k, ps, _, hp, hk, rfl⟩
 ·exact best_bd hb h0
 ·obtain ⟨m, h1, h2⟩ := hp.at hk.lt
  omega
theorem next_bd {c : Cf} (hc : mayB c = true) (zs : List Int) (s p : Int) : 0 ≤ nextZ c zs s p ∧ nextZ c zs s p < c.vocab := by
 have hm := may_parts hc
 obtain ⟨t, ht⟩ := draw_ex (rowK (smarkZ c zs) c.vocab.toNat) c.top c.heat s p
 unfold nextZ
 rw [ht.eq]
 have := draw_bd ht (by rw [rowK_len]; omega)
 rw [rowK_len] at this
 omega
theorem told_bd {c : Cf} (hc : mayB c = true) (ts : List Int) (seed : Int) : 0 ≤ toldZ c ts seed ∧ toldZ c ts seed < c.vocab := next_bd hc _ _ _
theorem refL_in {c : Cf} (hc : mayB c = true) (seed : Int) : ∀ m ts i, i < (refL c seed ts m).length → 0 ≤ (refL c seed ts m)[i]?.getD 0 ∧ (refL c seed ts m)[i]?.getD 0 < c.vocab := by
 intro m
 induction m with
 | zero => intro ts i h; simp [refL] at h
 | succ m ih =>
  intro ts i h
  rw [refL_succ] at h ⊢
  by_cases h1 : 256 ≤ ts.length
  ·rw [if_pos h1] at h; simp at h
  ·rw [if_neg h1] at h ⊢
   by_cases h2 : toldZ c ts seed = 0
   ·rw [if_pos h2] at h; simp at h
   ·rw [if_neg h2] at h ⊢
    cases i with
    | zero => simpa using told_bd hc ts seed
    | succ i => simpa using ih _ i (by simpa using h)
theorem refL_most (c : Cf) (seed : Int) : ∀ m ts, ts.length ≤ 256 → ts.length + (refL c seed ts m).length ≤ 256 := by
 intro m
 induction m with
 | zero => intro ts h; simp [refL]; omega
 | succ m ih =>
  intro ts h
  rw [refL_succ]
  by_cases h1 : 256 ≤ ts.length
  ·rw [if_pos h1]; simp; omega
  ·rw [if_neg h1]
   by_cases h2 : toldZ c ts seed = 0
   ·rw [if_pos h2]; simp; omega
   ·rw [if_neg h2]
    have := ih (ts ++ [toldZ c ts seed]) (by simp; omega)
    simp at this ⊢
    omega
theorem refL_step (c : Cf) (seed : Int) (ts : List Int) (m k : Nat) : refL c seed ts m = refL c seed ts (min m k) ++ refL c seed (ts ++ refL c seed ts (min m k)) (m - (refL c seed ts (min m k)).length) := by
 have h1 := refL_less c seed m ts (min m k) (Nat.min_le_left _ _)
 have hl : (refL c seed ts (min m k)).length ≤ (refL c seed ts m).length := by rw [h1, List.length_take]; omega
 have h2 := refL_rest c seed (refL c seed ts (min m k)).length m ts hl
 have h3 : (refL c seed ts m).take (refL c seed ts (min m k)).length = refL c seed ts (min m k) := by
  conv => lhs; rw [h1]
  rw [List.length_take]
  conv => rhs; rw [h1]
  rcases Nat.le_total (min m k) (refL c seed ts m).length with hh | hh
  ·rw [Nat.min_eq_left hh]
  ·rw [Nat.min_eq_right hh, List.take_length, List.take_of_length_le hh]
 rw [h3] at h2
 rw [← h2]
 conv => lhs; rw [← List.take_append_drop (refL c seed ts (min m k)).length (refL c seed ts m), h3]
end Go.Proofs.YtjgggialnegddaaGreat
