/-
  Contracts: weigh, Best, Draw.
-/
import Derived.Test.YtpllffekebkacaaSaDraws
import Derived.Test.YtpllffekebkacaaDraws
namespace Go.Proofs.Ytpllffekebkacaa
open Go.RowKit
set_option linter.unusedVariables false
set_option maxRecDepth 1000000

theorem block_up {w w' : World} {k : Nat} {o : Obj} (h : w.heap[k]? = some o) (hb : Below w.heap.size w w') : w'.heap[k]? = some o := (hb.block k (lt_of_block h)).trans h
set_option maxHeartbeats 1000000 in
theorem weigh_any (a : Option Addr) (len cap gt K ct : Nat) (zs ps : List Int) (heat : Int) (B1 B2 : Nat) (w : World) (ha : Reads .i64 w a len cap zs) (hlen : len ≤ 1000) (ht : Reads .i64 w (some ⟨gt, 0, none⟩) K ct ps) (hK : K ≤ 1000)
    (hp : ∀ i, i < K → ∃ m : Nat, ps[i]?.getD 0 = m ∧ m < len)
    (h1 : w.heap[B1]? = some (.cells #[.slice a len cap] 22 (0, 0))) (h2 : w.heap[B2]? = some (.cells #[.int .i64 heat] 3 (0, 0))) :
    Calls Try.prog 20 #[.slice (some ⟨gt, 0, none⟩) K ct, .func (.func 21) #[] #[.pointer (some ⟨B1, 0, none⟩), .pointer (some ⟨B2, 0, none⟩)]] w fun e w' => Made w K (wtL zs heat ps) e w' := by
  have hmk : ∀ W : World, (Instr.makeSlice 22 (.int .i64 (K : Int)) (.int .i64 (K : Int))).run Try.prog W = .ok (.slice (some ⟨W.heap.size, 0, none⟩) K K) (W.alloc (.cells (madeCells #[.int .i64 0] K) 2)) := fun W => make_ints W K (by omega)
  have hpl := ht.size
  have hroom := ht.room
  have hmost := ht.most
  have HO0 : Hid (OwnK 2 w.heap.size w.heap.size K K (madeK (cntZ zs heat) ps K 0) (w.alloc (.cells (madeCells #[.int .i64 0] K) 2))) := by
    have := own_made 2 w K (by omega)
    unfold Hid madeK
    simpa using this
  have HB0 : Hid (Below w.heap.size w (w.alloc (.cells (madeCells #[.int .i64 0] K) 2))) := (Below.refl _ _).alloc (Nat.le_refl _) _
  have HC : Hid (∀ k, k < K → ∀ W, Below w.heap.size w W → Calls Try.prog 21 #[.int .i64 (ps[k]?.getD 0), .pointer (some ⟨B1, 0, none⟩), .pointer (some ⟨B2, 0, none⟩)] W fun e w' => e = .returned (.int .i64 (cntZ zs heat (ps[k]?.getD 0))) ∧ Below W.heap.size W w') := by
    intro k hk W hb
    obtain ⟨m, e, hm⟩ := hp k hk
    rw [e]
    exact count1_any a len cap m zs heat B1 B2 W (ha.below hb) hlen hm ((hb.block _ (lt_of_block h1)).trans h1) ((hb.block _ (lt_of_block h2)).trans h2)
  have HT := hid fun W (hb : Below w.heap.size w W) => ht.below hb
  have hEn := enters_of Try.func21 (by kernel_rfl) rfl
  have HS := hid fun g W (hO : OwnK 2 w.heap.size g K K (cntL zs heat ps) W) => soft_any _ K K (cntL zs heat ps) W hO.reads hK
  have HMK : Hid (∀ k, k < K → (madeK (cntZ zs heat) ps K k).set k (cntZ zs heat (ps[k]?.getD 0)) = madeK (cntZ zs heat) ps K (k + 1)) := fun k hk => by rw [← hpl]; exact madeK_set (by omega)
  have HMA : Hid (madeK (cntZ zs heat) ps K K = cntL zs heat ps) := by unfold Hid cntL; rw [← hpl]; exact madeK_all _ _
  clear ha ht hp h1 h2 hpl
  go_enter Try.func20, Try.ntmps20
  go_wp2_with fail
  clear hmk
  go_loopw [13] (fun i W => ∃ k : Nat, k ≤ K ∧ i = .int .i64 k ∧ Hid (OwnK 2 w.heap.size w.heap.size K K (madeK (cntZ zs heat) ps K k) W) ∧ Hid (Below w.heap.size w W)) (fun i _ => K - (intOf i).toNat)
  case atStart => exact ⟨0, Nat.zero_le _, rfl, HO0, HB0⟩
  case round =>
    obtain ⟨k, hk, rfl, HO, HW⟩ := hrel
    clear HO0 HB0
    rename World => wr
    by_cases hlt : k < K
    · have ck := (HT.out _ HW.out).at hlt
      rw [Nat.zero_add] at ck
      have hC := HC.out k hlt wr HW.out
      have HE := HMK.out k hlt
      have q1 : (k : Int) < (K : Int) := by omega
      clear HS HMA HC HMK HT
      generalize cntZ zs heat (ps[k]?.getD 0) = y at *
      generalize ps[k]?.getD 0 = x at *
      go_wp2_with fail
      refine hC.mono ?_
      rintro e w2 ⟨rfl, hb⟩
      have HO2 := hid (HO.out.stays hb)
      have ck2 := HO2.out.cell hlt
      have fk := HO2.out.frozen k
      have HO3 : Hid (OwnK 2 w.heap.size w.heap.size K K (madeK (cntZ zs heat) ps K (k + 1)) (w2.setCell ⟨w.heap.size, k, none⟩ (.int .i64 y))) := by
        rw [← HE]; exact HO2.out.set k y
      have HW2 := hid ((HW.out.trans (hb.mono HW.out.size)).setCell (p := ⟨w.heap.size, k, none⟩) (Nat.le_refl _) (.int .i64 y))
      clear hb hC HO HW HO2 HE ck
      go_wp2_with fail
      go_round
      case rel => exact ⟨k + 1, by omega, by go_num, HO3, HW2⟩
      case measure => simp [intOf]; omega
    · obtain rfl : k = K := by omega
      have hO := HO.out
      rw [HMA.out] at hO
      have hS := HS.out _ wr hO
      clear HS HMA HC HMK HT HO hO
      go_wp2_with fail
      refine hS.mono ?_
      rintro e w2 ⟨g2, c2, rfl, hO2, hb⟩
      have HO2 := hid (hO2.low HW.out.size)
      have HW2 := hid (HW.out.trans (hb.mono HW.out.size))
      clear hS hO2 hb HW
      go_wp2
      go_ret
      exact ⟨_, _, rfl, HO2.out, HW2.out⟩

theorem best_of (a : Option Addr) (len cap : Nat) (zs : List Int) (w : World) (ha : Reads .i64 w a len cap zs) (hlen : len ≤ 1000) :
    Calls Try.prog 9 #[.slice a len cap] w fun e w' => ∃ t, e = .returned (.int .i64 t) ∧ BestOf zs t ∧ Below w.heap.size w w' := by
  have hz := ha.size
  by_cases h0 : len = 0
  · subst h0
    have hz : zs = [] := List.eq_nil_of_length_eq_zero hz
    subst hz
    clear ha
    go_enter Try.func9, Try.ntmps9
    go_wp2
    go_ret
    exact ⟨_, rfl, best_nil, Below.refl _ _⟩
  · have hK : Kof 1 len 1 := by unfold Kof; omega
    have hT := top_any a len cap 1 1 zs w ha hlen hK (by omega)
    have q1 : ¬ (len : Int) = 0 := by omega
    clear ha hK
    go_enter Try.func9, Try.ntmps9
    go_wp2_with fail
    refine hT.mono ?_
    rintro e w2 ⟨g, ps, rfl, hO, hP, hb⟩
    have c0 := hO.cell (k := 0) (by omega)
    have HE : Hid (BestOf zs (ps[0]?.getD 0)) := by
      have hl := hP.len
      match ps, hl with
      | [x], _ =>
        refine .inr ⟨by omega, ?_⟩
        rw [hz]
        exact hP
    generalize ps[0]?.getD 0 = t at *
    have HB := hid hb
    clear hT hO hP hb
    go_wp2
    go_ret
    exact ⟨t, rfl, HE.out, HB.out⟩
theorem best_any (a : Option Addr) (len cap : Nat) (zs : List Int) (w : World) (ha : Reads .i64 w a len cap zs) (hlen : len ≤ 1000) :
    Calls Try.prog 9 #[.slice a len cap] w fun e w' => e = .returned (.int .i64 (bestZ zs)) ∧ Below w.heap.size w w' :=
  (best_of a len cap zs w ha hlen).mono fun e w' ⟨t, h1, h2, h3⟩ => ⟨by rw [h2.eq]; exact h1, h3⟩

set_option maxHeartbeats 1000000 in
theorem draw_of (a : Option Addr) (len cap : Nat) (zs : List Int) (top heat s p : Int) (w : World) (ha : Reads .i64 w a len cap zs) (hlen : len ≤ 1000) :
    Calls Try.prog 11 #[.slice a len cap, .int .i64 top, .int .i64 heat, .int .u64 s, .int .u64 p] w fun e w' => ∃ t, e = .returned (.int .i64 t) ∧ DrawOf zs top heat s p t ∧ Below w.heap.size w w' := by
  have hz := ha.size
  obtain ⟨wA, hwA⟩ : ∃ wA, wA = (w.alloc (.cells #[.slice a len cap] 22)).alloc (.cells #[.int .i64 heat] 3) := ⟨_, rfl⟩
  have hB0 : Below w.heap.size w wA := by rw [hwA]; exact ((Below.refl _ _).alloc (Nat.le_refl _) _).alloc (by simp) _
  have e1 : wA.heap[w.heap.size]? = some (.cells #[.slice a len cap] 22 (0, 0)) := by
    rw [hwA, Below.heap_alloc _ _ _ (by simp)]; exact heap_alloc_new w _
  have e2 : wA.heap[w.heap.size + 1]? = some (.cells #[.int .i64 heat] 3 (0, 0)) := by
    have := heap_alloc_new (w.alloc (.cells #[.slice a len cap] 22)) (.cells #[.int .i64 heat] 3)
    rw [hwA]
    simpa using this
  have HC : Hid (∀ W, Below wA.heap.size wA W → W.cell? ⟨w.heap.size, 0, none⟩ = some (.slice a len cap) ∧ W.cell? ⟨w.heap.size + 1, 0, none⟩ = some (.int .i64 heat)) := fun W hb => ⟨cell_of_one (block_up e1 hb), cell_of_one (block_up e2 hb)⟩
  obtain ⟨c1, c2⟩ := HC.out wA (Below.refl _ _)
  have hroom := ha.room
  have hmost := ha.most
  by_cases hc : len = 0 ∨ heat < 1
  · have hBe := best_of a len cap zs wA (ha.below hB0) hlen
    have HD : Hid (∀ t, BestOf zs t → DrawOf zs top heat s p t) := fun t ht => by
      refine .inl ⟨?_, ht⟩
      rcases hc with hc | hc
      · left; exact List.eq_nil_of_length_eq_zero (by omega)
      · right; exact hc
    have HB := hid hB0
    clear ha e1 e2 hB0 HC
    rw [hwA] at c1 c2
    by_cases h0 : len = 0
    · subst h0
      clear hc
      go_enter Try.func11, Try.ntmps11
      go_wp2_with fail
      rw [← hwA]
      refine hBe.mono ?_
      rintro e w2 ⟨t, rfl, hT, hb⟩
      have HT := hid (HD.out t hT)
      replace HB := hid (HB.out.trans (hb.mono HB.out.size))
      clear hT hb hBe HD hwA c1 c2
      go_wp2
      go_ret
      exact ⟨t, rfl, HT.out, HB.out⟩
    · have hh : heat < 1 := by omega
      have q1 : ¬ (len : Int) = 0 := by omega
      clear hc
      go_enter Try.func11, Try.ntmps11
      go_wp2_with fail
      rw [← hwA]
      refine hBe.mono ?_
      rintro e w2 ⟨t, rfl, hT, hb⟩
      have HT := hid (HD.out t hT)
      replace HB := hid (HB.out.trans (hb.mono HB.out.size))
      clear hT hb hBe HD hwA c1 c2
      go_wp2
      go_ret
      exact ⟨t, rfl, HT.out, HB.out⟩
  · have h0 : 0 < len := by omega
    have hh : ¬ heat < 1 := by omega
    have q1 : ¬ (len : Int) = 0 := by omega
    obtain ⟨K, hK, hKl⟩ := kof_any (mx1 top) len
    have hK0 := kof_pos hK h0
    have hT := top_any a len cap K (mx1 top) zs wA (ha.below hB0) hlen hK hKl
    have hmx : (if top < 1 then 1 else top) = mx1 top := by unfold mx1; split <;> omega
    have HW := hid fun (W : World) gt ct ps (hb : Below wA.heap.size wA W) (ht : Reads .i64 W (some ⟨gt, 0, none⟩) K ct ps) (hP : TopOf zs len K ps) => weigh_any a len cap gt K ct zs ps heat w.heap.size (w.heap.size + 1) W ((ha.below hB0).below hb) hlen ht (by omega) (fun i hi => hP.at hi) (block_up e1 hb) (block_up e2 hb)
    have HD : Hid (∀ (k : Nat) ps, TopOf zs len K ps → FirstAt (wtL zs heat ps) K (belowZ s p (sumK (wtL zs heat ps) K)) k → DrawOf zs top heat s p (ps[k]?.getD 0)) := fun k ps hP hF => .inr ⟨by omega, by omega, K, k, ps, by rw [hz]; exact hK, by rw [hz]; exact hP, hF, rfl⟩
    have HS : Hid (∀ ps, TopOf zs len K ps → (0 < sumK (wtL zs heat ps) K ∧ sumK (wtL zs heat ps) K ≤ 2147483647) ∧ 0 ≤ belowZ s p (sumK (wtL zs heat ps) K) ∧ belowZ s p (sumK (wtL zs heat ps) K) < sumK (wtL zs heat ps) K) := fun ps hP => ⟨wt_sum hP.len hK0, below_sum s p hP.len hK0⟩
    have HB := hid hB0
    clear ha e1 e2 hB0 hK hc
    rw [hwA] at c1 c2
    generalize mx1 top = T at *
    go_enter Try.func11, Try.ntmps11
    go_wp2_with fail
    rw [← hwA]
    refine hT.mono ?_
    rintro e w2 ⟨gt, ps, rfl, hO, hP, hb⟩
    have HO := hid hO
    have hw := HW.out w2 gt K ps hb hO.reads hP
    obtain ⟨⟨s0, s1⟩, d0, d1⟩ := HS.out ps hP
    replace HD := hid fun k => HD.out k ps hP
    have HP := hid hP
    replace HB := hid (HB.out.trans (hb.mono HB.out.size))
    clear hT hO hP hb HW HS HC hwA c1 c2 hmx
    go_wp2_with fail
    refine hw.mono ?_
    rintro e w3 ⟨gw, cw, rfl, hO, hb⟩
    have HR := hid hO.reads
    replace HO := hid (HO.out.stays hb)
    replace HB := hid (HB.out.trans (hb.mono HB.out.size))
    have HF := hid (first_any gw K cw (wtL zs heat ps) _ w3 hO.reads (by omega) d0 d1)
    have hcw := hO.reads.room
    have hcm := hO.reads.most
    clear hw hO hb d1
    have hSu := ssum_any gw K cw (wtL zs heat ps) w3 HR.out (by omega)
    generalize wtL zs heat ps = ws at *
    have HDb : Hid (belowZ s p (sumK ws K) ≤ 2147483647) := by
      have := below_bd s p s0
      unfold Hid
      omega
    go_wp2_with fail
    refine hSu.mono ?_
    rintro e w' ⟨rfl, rfl⟩
    clear hSu HR
    rename World => w3
    generalize sumK ws K = S at *
    go_wp2_with fail
    refine (dbelow_any s p S _ (by omega) (by omega)).mono ?_
    rintro e w' ⟨rfl, rfl⟩
    have d1 := HDb.out
    clear HDb
    generalize belowZ s p S = d at *
    go_wp2_with fail
    refine HF.out.mono ?_
    rintro e w4 ⟨k, rfl, hF, hb⟩
    have HE := hid (HD.out k hF)
    have ck := (HO.out.stays hb).cell hF.lt
    have hk := hF.lt
    replace HB := hid (HB.out.trans (hb.mono HB.out.size))
    clear HF HD HO hF hb HP
    generalize ps[k]?.getD 0 = t at *
    go_wp2
    go_ret
    exact ⟨t, rfl, HE.out, HB.out⟩
theorem draw_any (a : Option Addr) (len cap : Nat) (zs : List Int) (top heat s p : Int) (w : World) (ha : Reads .i64 w a len cap zs) (hlen : len ≤ 1000) :
    Calls Try.prog 11 #[.slice a len cap, .int .i64 top, .int .i64 heat, .int .u64 s, .int .u64 p] w fun e w' => e = .returned (.int .i64 (drawZ zs top heat s p)) ∧ Below w.heap.size w w' :=
  (draw_of a len cap zs top heat s p w ha hlen).mono fun e w' ⟨t, h1, h2, h3⟩ => ⟨by rw [h2.eq]; exact h1, h3⟩
end Go.Proofs.Ytpllffekebkacaa
