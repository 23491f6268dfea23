/-
  The texts De1 of this proof.
-/
import Derived.Test.YtjgggialnegddaaGreatPr33
import Derived.Deep.QuietTactic
import Derived.BigQuiet
set_option linter.unusedVariables false
set_option maxRecDepth 1000000
namespace Go.Proofs.YtjgggialnegddaaGreat
open Go.RowKit
def tokB (v t : Int) : Bool := decide (0 ≤ t) && decide (t < v)
theorem tokB_yes {v t : Int} (h0 : 0 ≤ t) (h1 : t < v) : tokB v t = true := by unfold tokB; simp [h0, h1]
theorem tokB_no {v t : Int} (h : t < 0 ∨ v ≤ t) : tokB v t = false := by
 unfold tokB
 rcases h with h | h
 ·simp [show ¬ 0 ≤ t by omega]
 ·simp [show ¬ t < v by omega]
theorem istoken_any (c : Cf) (t : Int) (w : World) :
  Calls Tryz.prog 108 #[.agg (CfV c), .int .i64 t] w fun e w' => e = .returned (.bool (tokB c.vocab t)) ∧ Below w.heap.size w w' := by
 have HB : Hid (Below w.heap.size w (w.alloc (.cells (CfV c) 24))) := (Below.refl _ _).alloc (Nat.le_refl _) _
 obtain ⟨s, v, d, l, tt, h⟩ := c
 unfold CfV at *
 simp only at *
 by_cases h1 : (0 : Int) ≤ t
 ·by_cases h2 : t < v
  ·rw [tokB_yes h1 h2]
   go_enter Tryz.func108, Tryz.ntmps108
   go_wp2
   go_ret
   exact ⟨rfl, HB.out⟩
  ·rw [tokB_no (by omega)]
   go_enter Tryz.func108, Tryz.ntmps108
   go_wp2
   go_ret
   exact ⟨rfl, HB.out⟩
 ·rw [tokB_no (by omega)]
  go_enter Tryz.func108, Tryz.ntmps108
  go_wp2
  go_ret
  exact ⟨rfl, HB.out⟩
theorem ismodel_any (p : Option Addr) (c : Cf) (w : World) (h : MdAt w p c) :
  Calls Tryz.prog 147 #[.pointer p] w fun e w' => e = .returned (.bool (mayB c)) ∧ Below w.heap.size w w' := by
 have hC := config_any p c w h
 clear h
 go_enter Tryz.func147, Tryz.ntmps147
 go_wp2_with fail
 refine hC.mono ?_
 rintro e w1 ⟨rfl, hb⟩
 go_wp2_with fail
 refine (may_any c w1).mono ?_
 rintro e w2 ⟨rfl, hb2⟩
 have HB := hid (hb.trans (hb2.mono hb.size))
 clear hb hb2 hC
 go_wp2
 go_ret
 exact ⟨rfl, HB.out⟩
set_option maxHeartbeats 1000000 in
theorem dmay_any (c : Cf) (j : Jb) (w : World) (hj : JbIn w j) :
  Calls Tryz.prog 91 #[.agg (CfV c), .agg (JbV j)] w fun e w' => e = .returned (.bool (mayJ c.vocab j.most j.ts)) ∧ Below w.heap.size w w' := by
 obtain ⟨wA, hwA⟩ : ∃ wA, wA = (w.alloc (.cells (CfV c) 24)).alloc (.cells (JbV j) 43) := ⟨_, rfl⟩
 have HB0 : Hid (Below w.heap.size w wA) := by unfold Hid; rw [hwA]; exact ((Below.refl _ _).alloc (Nat.le_refl _) _).alloc (by simp) _
 have HK : Hid (∀ W : World, Below wA.heap.size wA W → (W.cell? ⟨w.heap.size, 0, none⟩ = some (.int .u64 c.seed) ∧ W.cell? ⟨w.heap.size, 1, none⟩ = some (.int .i64 c.vocab) ∧ W.cell? ⟨w.heap.size, 2, none⟩ = some (.int .i64 c.dim) ∧ W.cell? ⟨w.heap.size, 3, none⟩ = some (.int .i64 c.layers) ∧ W.cell? ⟨w.heap.size, 4, none⟩ = some (.int .i64 c.top) ∧ W.cell? ⟨w.heap.size, 5, none⟩ = some (.int .i64 c.heat)) ∧ W.cell? ⟨w.heap.size + 1, 1, none⟩ = some (.slice j.ap j.lp j.cp) ∧ W.cell? ⟨w.heap.size + 1, 2, none⟩ = some (.int .i64 j.most)) := by
  intro W hb
  have e1 : wA.heap[w.heap.size]? = some (.cells (CfV c) 24 (0, 0)) := by rw [hwA, Below.heap_alloc _ _ _ (by simp)]; exact heap_alloc_new w _
  have e2 : wA.heap[w.heap.size + 1]? = some (.cells (JbV j) 43 (0, 0)) := by
   have := heap_alloc_new (w.alloc (.cells (CfV c) 24)) (.cells (JbV j) 43)
   rw [hwA]
   simpa using this
  exact ⟨Cf_cells (block_below e1 hb), (Jb_cells (block_below e2 hb)).2.1, (Jb_cells (block_below e2 hb)).2.2⟩
 have hz := hj.size
 have r1 := hj.room
 have m1 := hj.most
 have HA := hid fun (W : World) (hb : Below wA.heap.size wA W) => (hj.below HB0.out).below hb
 have HT := hid fun (t : Int) (W : World) => istoken_any c t W
 clear hj
 obtain ⟨sd, ap, lp, cp, ts, mo⟩ := j
 obtain ⟨s, v, d, l, tt, h⟩ := c
 obtain ⟨x0, x1, x2⟩ := HK.out wA (Below.refl _ _)
 unfold CfV JbV at hwA
 unfold CfV at HT
 simp only at HK hz r1 m1 HA hwA x1 x2 HT
 unfold CfV JbV
 simp only
 rw [hwA] at x1 x2
 clear x0
 by_cases h3 : 255 < lp
 ·rw [mayJ_no (by omega)]
  have HBo := HB0
  have h3' : (255 : Int) < (lp : Int) := by omega
  clear HK HA HT
  go_enter Tryz.func91, Tryz.ntmps91
  go_wp2_with fail
  rw [← hwA]
  clear hwA x1 x2
  go_ret
  exact ⟨rfl, HBo.out⟩
 have h3' : ¬ (255 : Int) < (lp : Int) := by omega
 by_cases h1 : mo < 0
 ·rw [mayJ_no (by omega)]
  have HBo := HB0
  clear HK HA HT
  go_enter Tryz.func91, Tryz.ntmps91
  go_wp2_with fail
  rw [← hwA]
  clear hwA x1 x2
  go_ret
  exact ⟨rfl, HBo.out⟩
 by_cases h2 : 256 < mo
 ·rw [mayJ_no (by omega)]
  have HBo := HB0
  clear HK HA HT
  go_enter Tryz.func91, Tryz.ntmps91
  go_wp2_with fail
  rw [← hwA]
  clear hwA x1 x2
  go_ret
  exact ⟨rfl, HBo.out⟩
 have HNo := hid fun (i : Nat) (hi : i < lp) (hb : ts[i]?.getD 0 < 0 ∨ v ≤ ts[i]?.getD 0) => mayJ_no (v := v) (most := mo) (ts := ts) (fun hh => by have := hh.2.2.2 i (by omega); omega)
 have HYe : Hid ((∀ i, i < lp → 0 ≤ ts[i]?.getD 0 ∧ ts[i]?.getD 0 < v) → mayJ v mo ts = true) := fun hh => mayJ_iff.2 ⟨by omega, by omega, by omega, by rw [hz]; exact hh⟩
 generalize mayJ v mo ts = bb at *
 go_enter Tryz.func91, Tryz.ntmps91
 go_wp2_with fail
 rw [← hwA]
 clear hwA x1 x2
 go_loopw [24] (fun i W => ∃ k : Nat, k ≤ lp ∧ i = .int .i64 k ∧ Hid (∀ i, i < k → 0 ≤ ts[i]?.getD 0 ∧ ts[i]?.getD 0 < v) ∧ Hid (Below wA.heap.size wA W)) (fun i _ => lp - (intOf i).toNat)
 case atStart => exact ⟨0, Nat.zero_le _, rfl, fun i hi => absurd hi (by omega), Below.refl _ _⟩
 case round =>
 obtain ⟨k, hk, rfl, HL, HW⟩ := hrel
 rename World => wr
 obtain ⟨⟨y0, y1, y2, y3, y4, y5⟩, x1, x2⟩ := HK.out _ HW.out
 by_cases hlt : k < lp
 ·obtain ⟨b1, o1, rfl, c1⟩ := (HA.out _ HW.out).cell k hlt
  have q1 : (k : Int) < (lp : Int) := by omega
  replace HT := hid (HT.out (ts[k]?.getD 0))
  by_cases ht : 0 ≤ ts[k]?.getD 0 ∧ ts[k]?.getD 0 < v
  ·have HL2 : Hid (∀ i, i < k + 1 → 0 ≤ ts[i]?.getD 0 ∧ ts[i]?.getD 0 < v) := fun i hi => by
    rcases (by omega : i < k ∨ i = k) with h' | rfl
    ·exact HL.out i h'
    ·exact ht
   rw [tokB_yes ht.1 ht.2] at HT
   clear HNo HYe HK HA HL ht
   generalize ts[k]?.getD 0 = t at *
   go_wp2_with fail
   refine (HT.out _).mono ?_
   rintro e w2 ⟨rfl, hb⟩
   replace HW := hid (HW.out.trans (hb.mono HW.out.size))
   clear hb HT c1 y0 y1 y2 y3 y4 y5 x1 x2
   go_wp2_with fail
   go_round
   case rel => exact ⟨k + 1, by omega, by go_num, HL2, HW⟩
   case measure => simp [intOf]; omega
  ·have hn : ts[k]?.getD 0 < 0 ∨ v ≤ ts[k]?.getD 0 := by omega
   obtain rfl := HNo.out k hlt hn
   rw [tokB_no hn] at HT
   clear HNo HYe HK HA HL ht hn
   generalize ts[k]?.getD 0 = t at *
   go_wp2_with fail
   refine (HT.out _).mono ?_
   rintro e w2 ⟨rfl, hb⟩
   have HBW := hid (HB0.out.trans ((HW.out.trans (hb.mono HW.out.size)).mono HB0.out.size))
   clear hb HT HW HB0 c1 y0 y1 y2 y3 y4 y5 x1 x2
   go_wp2
   go_ret
   exact ⟨rfl, HBW.out⟩
 ·obtain rfl : k = lp := by omega
  have hb := HYe.out HL.out
  subst hb
  have HBW := hid (HB0.out.trans (HW.out.mono HB0.out.size))
  clear HNo HYe HK HA HL HW HB0 y0 y1 y2 y3 y4 y5 x1 x2 HT
  go_wp2
  go_ret
  exact ⟨rfl, HBW.out⟩
theorem dlen_in {W : World} {g : Nat} {pm ta : Option Addr} {tc : Nat} {ha : Option Addr} {hc : Nat} {pq : Option Addr} {c : Cf} {ts : List Int} (h : StIn W g pm ta tc ha hc pq c ts) :
  Calls Tryz.prog 82 #[.pointer (some ⟨g, 0, none⟩)] W fun e w' => e = .returned (.int .i64 ts.length) ∧ w' = W := by
 obtain ⟨c0, c1, c2, c3⟩ := h.cells
 have r1 := h.tk.room
 have m1 := h.tk.most
 clear h
 generalize ts.length = n at *
 go_enter Tryz.func82, Tryz.ntmps82
 go_wp2
 go_ret
 exact ⟨rfl, rfl⟩
theorem dlen_any {F : Nat → Prop} (p : Option Addr) (c : Cf) (ts : List Int) (w : World) (hs : StAt w p c ts F) :
  Calls Tryz.prog 82 #[.pointer p] w fun e w' => e = .returned (.int .i64 ts.length) ∧ Below w.heap.size w w' := by
 obtain ⟨g, pm, ta, tc, ha, hc, pq, rfl, h, _⟩ := hs.get
 exact (dlen_in h).mono fun e w' ⟨h1, h2⟩ => ⟨h1, by rw [h2]; exact Below.refl _ _⟩
theorem firsti_any (a : Option Addr) (n cap k : Nat) (w : World) (h1 : k ≤ cap) (m1 : cap ≤ 9223372036854775807) :
  Calls Tryz.prog 113 #[.slice a n cap, .int .i64 k] w fun e w' => e = .returned (.slice a k k) ∧ w = w' := by
 go_enter Tryz.func113, Tryz.ntmps113
 go_wp2
 go_ret
 exact ⟨rfl, rfl⟩
theorem firstr_any (a : Option Addr) (n cap k : Nat) (w : World) (h1 : k ≤ cap) (m1 : cap ≤ 9223372036854775807) :
  Calls Tryz.prog 114 #[.slice a n cap, .int .i64 k] w fun e w' => e = .returned (.slice a k k) ∧ w = w' := by
 go_enter Tryz.func114, Tryz.ntmps114
 go_wp2
 go_ret
 exact ⟨rfl, rfl⟩
end Go.Proofs.YtjgggialnegddaaGreat
