/-
  RSa: Contracts: the document's Best and Draw.
-/
import Derived.Test.YtjgggialnegddaaGreatPx14
import Derived.Test.YtjgggialnegddaaGreatPk04
import Derived.Deep.RegionHeld3
namespace Go.Proofs.YtjgggialnegddaaGreat
open Go.RowKit
set_option linter.unusedVariables false
set_option maxRecDepth 1000000

theorem rbest_of (a : Option Addr) (len cap : Nat) (zs : List Int) (w : World) (ha : Reads .i64 w a len cap zs) (hlen : len ≤ 1000) :
    Calls Tryz.prog 144 #[.slice a len cap] w fun e w' => ∃ t, e = .returned (.int .i64 t) ∧ BestOf zs t ∧ Below w.heap.size w w' := by
  have hz := ha.size
  by_cases h0 : len = 0
  · subst h0
    have hz : zs = [] := List.eq_nil_of_length_eq_zero hz
    subst hz
    have hK : Kof 1 0 0 := by unfold Kof; omega
    have hT := rvtop_any a 0 cap 0 1 [] w ha hlen hK (by omega)
    clear ha hK
    go_enter Tryz.func144, Tryz.ntmps144
    go_wp2_with fail
    refine hT.mono ?_
    rintro e w2 ⟨ad, c, ps, rfl, hR, hP, hb⟩
    have HB := hid hb
    clear hT hR hP hb
    go_wp2
    go_ret
    exact ⟨_, rfl, best_nil, HB.out⟩
  · have hK : Kof 1 len 1 := by unfold Kof; omega
    have hT := rvtop_any a len cap 1 1 zs w ha hlen hK (by omega)
    clear ha hK
    go_enter Tryz.func144, Tryz.ntmps144
    go_wp2_with fail
    refine hT.mono ?_
    rintro e w2 ⟨ad, c, ps, rfl, hR, hP, hb⟩
    obtain ⟨b, o, rfl, c0⟩ := hR.cell 0 (by omega)
    rw [Nat.add_zero] at c0
    have r1 := hR.room
    have m1 := hR.most
    have HE : Hid (BestOf zs (ps[0]?.getD 0)) := by
      have hl := hP.len
      match ps, hl with
      | [x], _ =>
        refine .inr ⟨by omega, ?_⟩
        rw [hz]
        exact hP
    generalize ps[0]?.getD 0 = t at *
    have HB := hid hb
    clear hT hR hP hb
    go_wp2
    go_ret
    exact ⟨t, rfl, HE.out, HB.out⟩
theorem rbest_any (a : Option Addr) (len cap : Nat) (zs : List Int) (w : World) (ha : Reads .i64 w a len cap zs) (hlen : len ≤ 1000) :
    Calls Tryz.prog 144 #[.slice a len cap] w fun e w' => e = .returned (.int .i64 (bestZ zs)) ∧ Below w.heap.size w w' :=
  (rbest_of a len cap zs w ha hlen).mono fun e w' ⟨t, h1, h2, h3⟩ => ⟨by rw [h2.eq]; exact h1, h3⟩

set_option maxHeartbeats 4000000 in
theorem rdraw_of (a : Option Addr) (len cap : Nat) (zs : List Int) (top heat s p : Int) (w : World) (ha : Reads .i64 w a len cap zs) (hlen : len ≤ 1000) :
    Calls Tryz.prog 102 #[.slice a len cap, .int .i64 top, .int .i64 heat, .int .u64 s, .int .u64 p] w fun e w' => ∃ t, e = .returned (.int .i64 t) ∧ DrawOf zs top heat s p t ∧ Below w.heap.size w w' := by
  have hz := ha.size
  have hroom := ha.room
  have hmost := ha.most
  by_cases hc : len = 0 ∨ heat < 1
  · have hBe := rbest_of a len cap zs w ha hlen
    have HD : Hid (∀ t, BestOf zs t → DrawOf zs top heat s p t) := fun t ht => by
      refine .inl ⟨?_, ht⟩
      rcases hc with hc | hc
      · left; exact List.eq_nil_of_length_eq_zero (by omega)
      · right; exact hc
    clear ha
    by_cases h0 : len = 0
    · subst h0
      clear hc
      go_enter Tryz.func102, Tryz.ntmps102
      go_wp2_with fail
      refine hBe.mono ?_
      rintro e w2 ⟨t, rfl, hT, hb⟩
      have HT := hid (HD.out t hT)
      have HB := hid hb
      clear hT hb hBe HD
      go_wp2
      go_ret
      exact ⟨t, rfl, HT.out, HB.out⟩
    · have hh : heat < 1 := by omega
      have q1 : ¬ (len : Int) = 0 := by omega
      clear hc
      go_enter Tryz.func102, Tryz.ntmps102
      go_wp2_with fail
      refine hBe.mono ?_
      rintro e w2 ⟨t, rfl, hT, hb⟩
      have HT := hid (HD.out t hT)
      have HB := hid hb
      clear hT hb hBe HD
      go_wp2
      go_ret
      exact ⟨t, rfl, HT.out, HB.out⟩
  · have h0 : 0 < len := by omega
    have hh : ¬ heat < 1 := by omega
    have q1 : ¬ (len : Int) = 0 := by omega
    obtain ⟨i0, hi, hz0, hz1, hz2⟩ := info_parts Tryz.info2
    obtain ⟨K, hK, hKl⟩ := kof_any (mx1 top) len
    have hK0 := kof_pos hK h0
    have hT := rvtop_any a len cap K (mx1 top) zs w ha hlen hK hKl
    have hmx : (if top < 1 then 1 else top) = mx1 top := by unfold mx1; split <;> omega
    have HD : Hid (∀ (k : Nat) ps, TopOf zs len K ps → FirstAt (wtL zs heat ps) K (belowZ s p (sumK (wtL zs heat ps) K)) k → DrawOf zs top heat s p (ps[k]?.getD 0)) := fun k ps hP hF => .inr ⟨by omega, by omega, K, k, ps, by rw [hz]; exact hK, by rw [hz]; exact hP, hF, rfl⟩
    have HS : Hid (∀ ps, TopOf zs len K ps → (0 < sumK (wtL zs heat ps) K ∧ sumK (wtL zs heat ps) K ≤ 2147483647) ∧ 0 ≤ belowZ s p (sumK (wtL zs heat ps) K) ∧ belowZ s p (sumK (wtL zs heat ps) K) < sumK (wtL zs heat ps) K) := fun ps hP => ⟨wt_sum hP.len hK0, below_sum s p hP.len hK0⟩
    have HA := hid ha
    clear ha hK hc
    generalize mx1 top = T at *
    go_enter Tryz.func102, Tryz.ntmps102
    go_wp2_with fail
    refine hT.mono ?_
    rintro e w1 ⟨ad, ct, ps, rfl, hR, hP, hb⟩
    replace HA := hid (HA.out.below hb)
    have HP := hid hP
    have HR := hid hR
    have HB := hid hb
    have r1 := hR.room
    have m1 := hR.most
    have HL := hid hR.size
    have hSS := HS.out ps hP
    replace HD := hid fun k => HD.out k ps hP
    have HSS := hid hSS
    clear hT hR hP hb HS hmx hSS
    go_wp2_with fail
    go_loopw [12, 13] (fun u i W => ∃ k : Nat, k ≤ K ∧ i = .int .i64 k ∧ Hid (W.ownsRow w1.heap.size 2 1 u k (((ps.take k).map (cntZ zs heat)).map (Value.int .i64))) ∧ Hid (Below w1.heap.size w1 W)) (fun _ i _ => K - (intOf i).toNat)
    case atStart => exact ⟨0, Nat.zero_le _, rfl, World.ownsRow_nil _ _ _ _, Below.refl _ _⟩
    case round =>
    obtain ⟨k, hk, rfl, HO, HW⟩ := hrel
    rename World => wr
    by_cases hlt : k < K
    · obtain ⟨m, hpm, hm⟩ := HP.out.at hlt
      obtain ⟨b1, o1, rfl, c1⟩ := (HR.out.below HW.out).cell k hlt
      obtain ⟨b2, o2, rfl, c2⟩ := (HA.out.below HW.out).cell m hm
      have HK : Hid (∀ W, Below w1.heap.size w1 W → W.cell? ⟨b1, o1 + k, none⟩ = some (.int .i64 (ps[k]?.getD 0)) ∧ W.cell? ⟨b2, o2 + m, none⟩ = some (.int .i64 (zs[m]?.getD 0))) := by
        intro W h
        obtain ⟨b, o, e, c⟩ := (HR.out.below h).cell k hlt
        obtain ⟨b', o', e', c'⟩ := (HA.out.below h).cell m hm
        cases e
        cases e'
        exact ⟨c, c'⟩
      have q2 : (k : Int) < (K : Int) := by omega
      have q3 : (m : Int) < (len : Int) := by omega
      have HE : Hid ((ps.take k).map (cntZ zs heat) ++ [divZ (mulZ (zs[m]?.getD 0) (fromZ 4)) (fromZ heat)] = (ps.take (k + 1)).map (cntZ zs heat)) := by
        have := map_snoc (f := cntZ zs heat) (zs := ps) (k := k) (by have := HL.out; omega)
        unfold Hid
        rw [← this, hpm]
        unfold cntZ
        rw [Int.toNat_natCast]
      have HSz : Hid (w1.heap.size ≤ wr.heap.size) := HW.out.size
      rw [hpm] at HK c1
      clear HA HR HP HL HD HSS hpm
      generalize zs[m]?.getD 0 = x at *
      generalize (ps.take k).map (cntZ zs heat) = us at *
      go_wp2_with fail
      go_region_held3 (fun W : World => W.cell? ⟨b1, o1 + k, none⟩ = some (.int .i64 m) ∧ W.cell? ⟨b2, o2 + m, none⟩ = some (.int .i64 x)) (first | exact ⟨c1, c2⟩ | assumption | exact HK.out _ (HW.out.alloc HSz.out _) | exact HK.out _ (HW.out.drew.alloc HSz.out _) | exact HK.out _ HB3.out) (first | (go_at_call 134; refine (rfrom_any _ _).mono ?_; rintro e w' ⟨rfl, rfl⟩) | (go_at_call 101; refine (rmul_any _ _ _).mono ?_; rintro e w' ⟨rfl, rfl⟩) | (go_at_call 135; refine (rdiv_any _ _ _).mono ?_; rintro e w' ⟨rfl, rfl⟩) | (refine step_append_reads (by rfl) 53 (by rfl) (.tmp 39) (.tmp 52) 131 (by rfl) w1.heap.size 2 i0 (.int .i64 0) 8 Tryz.underlying131 hi hz0 hz1 hz2 rfl .i64 _ k us (by rfl) (HO.out.alloc _) _ 1 1 [divZ (mulZ x (fromZ 4)) (fromZ heat)] (by rfl) (Reads.oned _ _ _) (by omega) (by omega) (by omega) (Nat.le_trans HSz.out (by simp)) ?_; intro v' w3 hO3 hb3; have HB3 := hid ((HW.out.alloc HSz.out _).drew.trans hb3)))
      have HO3 : Hid (w3.ownsRow w1.heap.size 2 1 v' (k + 1) (((ps.take (k + 1)).map (cntZ zs heat)).map (Value.int .i64))) := by rw [← HE.out]; exact hO3
      clear hO3 hb3 HK c1 c2
      go_wp2_with fail
      go_round
      case rel => exact ⟨k + 1, by omega, by go_num, HO3, HB3⟩
      case measure => simp [intOf]; omega
    · obtain rfl : k = K := by omega
      have hO := HO.out
      rw [map_all HL.out] at hO
      obtain ⟨aa, ca, rfl, hra⟩ := Reads.own (k := .i64) hO
      have hS := rvsoft_any aa k ca (cntL zs heat ps) wr hra (by omega)
      have HRW := hid (HR.out.below HW.out)
      have HBW := hid (HB.out.trans (HW.out.mono HB.out.size))
      clear hO HO hra HA HR HB HP HW hi hz0 hz1 hz2
      go_wp2_with fail
      refine hS.mono ?_
      rintro e w2 ⟨aw, cw, rfl, hW, hb⟩
      have HWs : Hid (Reads .i64 w2 aw k cw (wtL zs heat ps)) := hW
      obtain ⟨bw, ow, rfl, _⟩ := hW.cell 0 (by omega)
      have r2 := hW.room
      have m2 := hW.most
      replace HRW := hid (HRW.out.below hb)
      replace HBW := hid (HBW.out.trans (hb.mono HBW.out.size))
      clear hS hW hb
      generalize wtL zs heat ps = ws at *
      go_wp2_with fail
      go_loopw [15, 16] (fun q i W => ∃ j : Nat, j ≤ k ∧ q = .int .i64 (sumK ws j) ∧ i = .int .i64 j ∧ Hid (Below w2.heap.size w2 W)) (fun _ i _ => k - (intOf i).toNat)
      case atStart => exact ⟨0, Nat.zero_le _, rfl, rfl, Below.refl _ _⟩
      case round =>
      obtain ⟨j, hj, rfl, rfl, HV⟩ := hrel
      rename World => wj
      by_cases hjl : j < k
      · have cj := (HWs.out.below HV.out).at hjl
        have HSu : Hid (addZ (sumK ws j) (ws[j]?.getD 0) = sumK ws (j + 1)) := rfl
        have q2 : (j : Int) < (k : Int) := by omega
        clear HSS HD HRW HBW HWs HL
        generalize sumK ws j = q at *
        generalize ws[j]?.getD 0 = x at *
        go_wp2_with fail
        refine (radd_any _ _ _).mono ?_
        rintro e w' ⟨rfl, rfl⟩
        rw [HSu.out]
        go_wp2_with fail
        go_round
        case rel => exact ⟨j + 1, by omega, rfl, by go_num, HV⟩
        case measure => simp [intOf]; omega
      · obtain rfl : j = k := by omega
        obtain ⟨⟨s0, s1⟩, d0, d1⟩ := HSS.out
        have HDL := hid d1
        have d2 : belowZ s p (sumK ws j) ≤ 2147483647 := by omega
        clear HSS hjl d1
        obtain ⟨S, hSd⟩ : ∃ S, sumK ws j = S := ⟨_, rfl⟩
        rw [hSd] at s0 s1 d0 d2 HD ⊢
        have HSd := hid hSd
        clear hSd
        go_wp2_with fail
        refine (rdbelow_any s p S _ (by omega) (by omega)).mono ?_
        rintro e w' ⟨rfl, rfl⟩
        rename World => wj
        obtain ⟨d, hd⟩ : ∃ d, belowZ s p S = d := ⟨_, rfl⟩
        rw [HSd.out, hd] at HDL
        rw [hd] at d0 d2 HD
        rw [hd]
        clear hd
        go_wp2_with fail
        go_loopw [18, 19] (fun q i W => ∃ n : Nat, n ≤ j ∧ q = .int .i64 (sumK ws n) ∧ i = .int .i64 n ∧ Hid (Below w2.heap.size w2 W) ∧ Hid (∀ m, m < n → sumK ws (m + 1) ≤ d)) (fun _ i _ => j - (intOf i).toNat)
        case atStart => exact ⟨0, Nat.zero_le _, rfl, rfl, HV.out.drew.drew, fun m hm => absurd hm (by omega)⟩
        case round =>
        obtain ⟨n, hn, rfl, rfl, HVn, HLo⟩ := hrel
        rename World => wn
        by_cases hnl : n < j
        · have cn := (HWs.out.below HVn.out).at hnl
          have hSu : addZ (sumK ws n) (ws[n]?.getD 0) = sumK ws (n + 1) := rfl
          have HSu := hid hSu
          have q2 : (n : Int) < (j : Int) := by omega
          by_cases hup : d < sumK ws (n + 1)
          · have HEn := hid (HD.out n ⟨hnl, hup, HLo.out⟩)
            obtain ⟨b1, o1, rfl, c1⟩ := (HRW.out.below HVn.out).cell n hnl
            have HBn := hid (HBW.out.trans (HVn.out.mono HBW.out.size))
            generalize ps[n]?.getD 0 = t at *
            clear HD HRW HBW HWs HL HSd HDL HLo HVn HV hSu
            generalize ws[n]?.getD 0 = x at *
            generalize sumK ws (n + 1) = y at *
            generalize sumK ws n = q at *
            go_wp2_with fail
            refine (radd_any _ _ _).mono ?_
            rintro e w' ⟨rfl, rfl⟩
            rw [HSu.out]
            go_wp2
            go_ret
            exact ⟨t, rfl, HEn.out, HBn.out⟩
          · have HLn : Hid (∀ m, m < n + 1 → sumK ws (m + 1) ≤ d) := fun m hm => by
              rcases (by omega : m < n ∨ m = n) with h | rfl
              · exact HLo.out m h
              · omega
            clear HD HRW HBW HWs HL HSd HDL HLo HV hSu
            generalize ws[n]?.getD 0 = x at *
            go_wp2_with fail
            refine (radd_any _ _ _).mono ?_
            rintro e w' ⟨rfl, rfl⟩
            rw [HSu.out]
            go_wp2_with fail
            go_round
            case rel => exact ⟨n + 1, by omega, rfl, by go_num, HVn, HLn⟩
            case measure => simp [intOf]; omega
        · obtain rfl : n = j := by omega
          exact (first_no d0 (by rw [HSd.out]; exact HDL.out) HLo.out).elim
theorem rdraw_any (a : Option Addr) (len cap : Nat) (zs : List Int) (top heat s p : Int) (w : World) (ha : Reads .i64 w a len cap zs) (hlen : len ≤ 1000) :
    Calls Tryz.prog 102 #[.slice a len cap, .int .i64 top, .int .i64 heat, .int .u64 s, .int .u64 p] w fun e w' => e = .returned (.int .i64 (drawZ zs top heat s p)) ∧ Below w.heap.size w w' :=
  (rdraw_of a len cap zs top heat s p w ha hlen).mono fun e w' ⟨t, h1, h2, h3⟩ => ⟨by rw [h2.eq]; exact h1, h3⟩
end Go.Proofs.YtjgggialnegddaaGreat
