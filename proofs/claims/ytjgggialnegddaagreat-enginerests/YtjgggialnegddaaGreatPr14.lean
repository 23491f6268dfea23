/-
  The texts RSofts of this proof.
-/
import Derived.Test.YtjgggialnegddaaGreatPr12
set_option linter.unusedVariables false
set_option maxRecDepth 1000000
namespace Go.Proofs.YtjgggialnegddaaGreat
open Go.RowKit
def maxK (zs : List Int) : Nat → Int
 | 0 => wi (zs[0]?.getD 0)
 | k + 1 => max (maxK zs k) (wi (zs[k]?.getD 0))
theorem maxK_great (zs : List Int) (k : Nat) : maxK zs (k + 1) = greatK zs (k + 1) := by
 induction k with
 | zero => simp [maxK, greatK]
 | succ k ih =>
  have e : greatK zs (k + 1 + 1) = if k + 1 = 0 ∨ greatK zs (k + 1) < wi (zs[k + 1]?.getD 0) then wi (zs[k + 1]?.getD 0) else greatK zs (k + 1) := rfl
  rw [maxK, ih, e]
  by_cases h : greatK zs (k + 1) < wi (zs[k + 1]?.getD 0)
  ·rw [if_pos (.inr h)]; omega
  ·rw [if_neg (by omega)]; omega
theorem maxK_bd (zs : List Int) (k : Nat) : -2147483648 ≤ maxK zs k ∧ maxK zs k ≤ 2147483647 := by
 induction k with
 | zero => exact ⟨wi_0 _, wi_1 _⟩
 | succ k ih =>
  have := wi_0 (zs[k]?.getD 0)
  have := wi_1 (zs[k]?.getD 0)
  simp only [maxK]
  omega
theorem map_at {f : Int → Int} {zs : List Int} {k : Nat} (h : k < zs.length) : ((zs.map f)[k]?).getD 0 = f (zs[k]?.getD 0) := by simp [h]
def turnK (f : Int → Int) (ps : List Int) (k : Nat) : List Int := (ps.take k).map f ++ ps.drop k
theorem turnK_0 (f : Int → Int) (ps : List Int) : turnK f ps 0 = ps := by simp [turnK]
theorem turnK_all {f : Int → Int} {ps : List Int} {n : Nat} (h : ps.length = n) : turnK f ps n = ps.map f := by subst h; simp [turnK]
theorem turnK_at {f : Int → Int} {ps : List Int} {k : Nat} (h : k < ps.length) : (turnK f ps k)[k]?.getD 0 = ps[k]?.getD 0 := by
 unfold turnK
 rw [List.getElem?_append_right (by simp; omega)]
 simp
 rw [show k + (k - min k ps.length) = k by omega]
theorem turnK_set {f : Int → Int} {ps : List Int} {k : Nat} (h : k < ps.length) : (turnK f ps k).set k (f (ps[k]?.getD 0)) = turnK f ps (k + 1) := by
 unfold turnK
 have hl : ((ps.take k).map f).length = k := by simp; omega
 rw [List.set_append_right _ _ (by omega), hl, Nat.sub_self, take_snoc h, List.map_append, List.append_assoc]
 congr 1
 rw [List.drop_eq_getElem_cons h, List.set_cons_zero]
 rfl
theorem own_block {t : TypeId} {base m : Nat} {v : Value} {xs : List Int} {w : World} (h : w.ownsRow base t 1 v m (xs.map (Value.int .i64))) (hm : 0 < m) : ∃ g cap, v = .slice (some ⟨g, 0, none⟩) m cap ∧ OwnK t base g m cap xs w := by
 rcases h.2 with ⟨h1, h2⟩ | ⟨g, cap, cur, rfl, r⟩
 ·omega
 ·exact ⟨g, cap, rfl, h⟩
set_option maxHeartbeats 2000000 in
theorem rvsoft_any (a : Option Addr) (len cap : Nat) (zs : List Int) (w : World) (ha : Reads .i64 w a len cap zs) (hlen : len ≤ 1000) :
  Calls Tryz.prog 138 #[.slice a len cap] w fun e w' => Gives w len (softL zs) e w' := by
 obtain ⟨i0, hi, hz0, hz1, hz2⟩ := info_parts Tryz.info2
 have hC := rcut_any a len cap zs w ha hlen
 have HL : Hid (zs.length = len) := ha.size
 have HA := hid ha
 by_cases h0 : len = 0
 ·subst h0
  have hz : zs = [] := List.eq_nil_of_length_eq_zero HL.out
  subst hz
  clear HL HA ha
  go_enter Tryz.func138, Tryz.ntmps138
  go_wp2_with fail
  refine hC.mono ?_
  rintro e w' ⟨rfl, rfl⟩
  clear hC
  go_wp2
  go_ret
  exact ⟨none, 0, rfl, Reads.nil _ _, Below.refl _ _⟩
 ·obtain ⟨b1, o1, rfl, c0⟩ := ha.cell 0 (by omega)
  have r1 := ha.room
  have m1 := ha.most
  have hne : ¬ (len : Int) = 0 := by omega
  have hne' : ((len : Int) == 0) = false := by simpa using hne
  have HM0 : Hid (wi (zs[0]?.getD 0) = maxK zs 0) := rfl
  rw [Nat.add_zero] at c0
  clear ha
  go_enter Tryz.func138, Tryz.ntmps138
  go_wp2_with fail
  refine hC.mono ?_
  rintro e w' ⟨rfl, rfl⟩
  clear hC
  rename World => w
  go_wp2_with fail
  refine (rwithin_any _ _).mono ?_
  rintro e w' ⟨rfl, rfl⟩
  rw [HM0.out]
  rename World => w
  clear c0
  go_wp2_with fail
  go_loop [3, 4] (fun t i => ∃ k : Nat, k ≤ len ∧ t = .int .i64 (maxK zs k) ∧ i = .int .i64 k) (fun _ i => len - (intOf i).toNat)
  case atStart => exact ⟨0, Nat.zero_le _, rfl, rfl⟩
  case round =>
   obtain ⟨k, hk, rfl, rfl⟩ := hrel
   by_cases hlt : k < len
   ·obtain ⟨b, o, e, c1⟩ := HA.out.cell k hlt
    cases e
    have HE : Hid (max (maxK zs k) (wi (zs[k]?.getD 0)) = maxK zs (k + 1)) := rfl
    clear HA
    generalize zs[k]?.getD 0 = x at *
    generalize maxK zs k = t at *
    rcases Int.lt_or_le t (wi x) with hx | hx
    ·have HX : Hid (wi x = maxK zs (k + 1)) := by rw [← HE.out]; unfold Hid; omega
     go_wp2_with fail
     refine (rwithin_any _ _).mono ?_
     rintro e w' ⟨rfl, rfl⟩
     go_wp2
     go_round
     case rel => exact ⟨k + 1, by omega, by rw [HX.out], by go_num⟩
     case measure => simp [intOf]; omega
    ·have HX : Hid (t = maxK zs (k + 1)) := by rw [← HE.out]; unfold Hid; omega
     go_wp2_with fail
     refine (rwithin_any _ _).mono ?_
     rintro e w' ⟨rfl, rfl⟩
     go_wp2
     go_round
     case rel => exact ⟨k + 1, by omega, by rw [← HX.out], by go_num⟩
     case measure => simp [intOf]; omega
   ·obtain rfl : k = len := by omega
    have hbd := maxK_bd zs k
    have t0 := hbd.1
    have t1 := hbd.2
    have HG : Hid (maxK zs k = greatK zs zs.length) := by
     unfold Hid
     rw [HL.out]
     obtain ⟨j, rfl⟩ : ∃ j, k = j + 1 := ⟨k - 1, by omega⟩
     exact maxK_great zs j
    obtain ⟨t, ht⟩ : ∃ t, maxK zs k = t := ⟨_, rfl⟩
    rw [ht] at t0 t1 HG ⊢
    have HPL : Hid (powL zs = zs.map fun x => expZ (addZ x (-t))) := by unfold powL; rw [HG.out]; exact rfl
    have HPN : Hid ((powL zs).length = k) := by rw [powL_len]; exact HL
    clear hbd ht hlt
    go_wp2_with fail
    go_loopw [5, 6, 7] (fun u s i W => ∃ j : Nat, j ≤ k ∧ s = .int .i64 (sumK (powL zs) j) ∧ i = .int .i64 j ∧ Hid (W.ownsRow w.heap.size 2 1 u j (((powL zs).take j).map (Value.int .i64))) ∧ Hid (Below w.heap.size w W)) (fun _ _ i _ => k - (intOf i).toNat)
    case atStart => exact ⟨0, Nat.zero_le _, rfl, rfl, World.ownsRow_nil _ _ _ _, Below.refl _ _⟩
    case round =>
     obtain ⟨j, hj, rfl, rfl, HO, HW⟩ := hrel
     rename World => wr
     by_cases hjl : j < k
     ·obtain ⟨b, o, e, c1⟩ := (HA.out.below HW.out).cell j hjl
      cases e
      have HPj : Hid ((powL zs)[j]?.getD 0 = expZ (addZ (zs[j]?.getD 0) (-t))) := by unfold Hid; rw [HPL.out]; exact map_at (f := fun x => expZ (addZ x (-t))) (by have := HL.out; omega)
      have HE : Hid ((powL zs).take j ++ [expZ (addZ (zs[j]?.getD 0) (-t))] = (powL zs).take (j + 1)) := by unfold Hid; rw [← HPj.out, take_snoc (by have := HPN.out; omega)]
      have HSu : Hid (addZ (sumK (powL zs) j) (expZ (addZ (zs[j]?.getD 0) (-t))) = sumK (powL zs) (j + 1)) := by unfold Hid; rw [← HPj.out]; rfl
      have HS : Hid (w.heap.size ≤ wr.heap.size) := HW.out.size
      clear HA HPj
      generalize zs[j]?.getD 0 = x at *
      generalize sumK (powL zs) j = s at *
      generalize (powL zs).take j = us at *
      go_wp2_with fail
      refine (radd_any _ _ _).mono ?_
      rintro e w' ⟨rfl, rfl⟩
      go_wp2_with fail
      refine (rexp_any _ _).mono ?_
      rintro e w' ⟨rfl, rfl⟩
      rename World => wr
      generalize expZ (addZ x (-t)) = p at *
      go_wp2_with (first | (at_builtin; refine append_any _ rfl (.tmp 46) (.tmp 48) 131 rfl w.heap.size 2 i0 (.int .i64 0) 8 Tryz.underlying131 hi hz0 hz1 hz2 rfl .i64 _ j us rfl (HO.out.alloc _) _ 1 1 [p] rfl (Reads.one _ _ _) (by omega) (by omega) (Nat.le_trans HS.out (by simp)) ?_; intro v' w3 hO3 hb3) | fail)
      refine (radd_any _ _ _).mono ?_
      rintro e w' ⟨rfl, rfl⟩
      rename World => w3
      rw [HSu.out]
      have HB3 := hid ((HW.out.alloc HS.out _).trans hb3)
      have HO3 : Hid (w3.ownsRow w.heap.size 2 1 v' (j + 1) (((powL zs).take (j + 1)).map (Value.int .i64))) := by rw [← HE.out]; exact hO3
      clear hO3 hb3
      go_wp2_with fail
      go_round
      case rel => exact ⟨j + 1, by omega, rfl, by go_num, HO3, HB3⟩
      case measure => simp [intOf]; omega
     ·obtain rfl : j = k := by omega
      obtain ⟨g, cg, rfl, hO⟩ := own_block HO.out (by omega)
      rw [List.take_of_length_le (by have := HPN.out; omega)] at hO
      obtain ⟨S, hS⟩ : ∃ S, sumK (powL zs) j = S := ⟨_, rfl⟩
      have HSL : Hid (turnK (divZ · S) (powL zs) j = softL zs) := by
       unfold Hid
       rw [turnK_all HPN.out, ← hS]
       unfold softL
       rw [HL.out]
      have H0 : Hid (OwnK 2 w.heap.size g j cg (turnK (divZ · S) (powL zs) 0) wr) := by rw [turnK_0]; exact hO
      have hcg := hO.reads.room
      have hcm := hO.reads.most
      rw [hS]
      clear hO HO hS hjl HA HG HPL
      go_wp2_with fail
      go_loopw [9] (fun i W => ∃ n : Nat, n ≤ j ∧ i = .int .i64 n ∧ Hid (OwnK 2 w.heap.size g j cg (turnK (divZ · S) (powL zs) n) W) ∧ Hid (Below w.heap.size w W)) (fun i _ => j - (intOf i).toNat)
      case atStart => exact ⟨0, Nat.zero_le _, rfl, H0, HW⟩
      case round =>
       obtain ⟨n, hn, rfl, HN, HWn⟩ := hrel
       clear H0 HW
       rename World => wn
       by_cases hnl : n < j
       ·have hln : n < (powL zs).length := by have := HPN.out; omega
        have cn := HN.out.cell (k := n) hnl
        rw [turnK_at hln] at cn
        have fn := HN.out.frozen n
        have HT : Hid (OwnK 2 w.heap.size g j cg (turnK (divZ · S) (powL zs) (n + 1)) (wn.setCell ⟨g, n, none⟩ (.int .i64 (divZ ((powL zs)[n]?.getD 0) S)))) := by
         unfold Hid
         rw [← turnK_set hln]
         exact HN.out.set n _
        have HBg : Hid (w.heap.size ≤ g) := HN.out.base
        clear HN hln
        generalize (powL zs)[n]?.getD 0 = x at *
        go_wp2_with fail
        refine (rdiv_any _ _ _).mono ?_
        rintro e w' ⟨rfl, rfl⟩
        go_wp2_with fail
        go_round
        case rel => exact ⟨n + 1, by omega, by go_num, HT, HWn.out.setCell HBg.out _⟩
        case measure => simp [intOf]; omega
       ·obtain rfl : n = j := by omega
        have HE : Hid (OwnK 2 w.heap.size g n cg (softL zs) wn) := by rw [← HSL.out]; exact HN.out
        clear HN
        go_wp2
        go_ret
        exact ⟨_, _, rfl, HE.out.reads, HWn.out⟩
end Go.Proofs.YtjgggialnegddaaGreat
