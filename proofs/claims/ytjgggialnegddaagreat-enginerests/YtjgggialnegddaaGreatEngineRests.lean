/-
  Proved: what an attempt tells, from any place on, is what follows there, and no more: EngineRests hands back true for whatever setting, jobs and place.
-/
import Derived.Test.YtjgggialnegddaaGreatRows
import Derived.Test.YtjgggialnegddaaGreatPr50
import Derived.Test.YtjgggialnegddaaGreatPr33
import Derived.Test.YtjgggialnegddaaGreatPr12
import Derived.Deep.QuietTactic
import Derived.BigQuiet
import Derived.WalkKit
import Derived.ProofKit
import Derived.OpenShut
import Derived.ShutString
import Derived.ChangeOld
import Derived.Below
namespace Go.Proofs.YtjgggialnegddaaGreat.engineRests
open Go.ChangeShapes Go.WideShapes Go.ChangeAt Go.RowKit
open Go.ChangeMaps (open_string shut_string)
set_option linter.unusedVariables false

theorem own : ownKnob Tryz.prog.godebug = none := by kernel_rfl
theorem laidOut : laidOutB Tryz.prog = true := by kernel_rfl

/-! ### The walk -/
set_option maxRecDepth 1000000 in
set_option maxHeartbeats 8000000 in
theorem walk (s : Sg) (a1 : Option Addr) (l1 c1 : Nat) (js : List Jb) (n2 : Int) (w : World) (gs : SgOk s) (ga1 : Lst w a1 l1 c1 3 js JbV (fun j => JbIn w j ∧ isU j.seed ∧ isI j.most)) (gn2 : isU n2) :
  Calls Tryz.prog 4 #[.agg (SgV s), .slice a1 l1 c1, .int .u64 n2] w fun e w' => e = .returned (.bool true) ∧ Below w.heap.size w w' := by
 have HLj : Hid (∀ W : World, Below w.heap.size w W → Lst W a1 l1 c1 3 js JbV (fun j => JbIn W j ∧ isU j.seed ∧ isI j.most)) := fun W hb => ga1.below hb JbV_size fun x hx => ⟨Reads.below hx.1 hb, hx.2⟩
 have HJo : Hid (∀ i (hi : i < js.length) k, mJ js[i] k → k < w.heap.size) := fun i hi k hk => by
  obtain ⟨b', off', e1, e2⟩ := Reads.cell (ga1.inn i hi).1 0 hk.1
  obtain ⟨q, e3, rfl⟩ := hk.2
  rw [e1] at e3
  cases e3
  exact World.block_lt_of_cell? _ _ e2
 have r1 := ga1.room
 have m1 := ga1.most
 have HS := hid ga1.size
 have HN2 := hid gn2
 have HTs := hid fun W : World => theirSet_any s W
 have HNn := hid fun (W : World) (h : setB s = false) => en_new_no s W h
 have HNy := hid fun (W : World) (h : setB s = true) => en_new_yes s W h
 have HMy := hid fun (W : World) (j : Jb) (hj : JbIn W j) => rmayj_any s.c j W hj
 have HRf := hid fun (W : World) (j : Jb) (hc : mayB s.c = true) (hj : JbIn W j) (hm : mayJ s.c.vocab j.most j.ts = true) => (show Calls Tryz.prog 27 #[.agg (CfV s.c), .agg (JbV j)] W fun e w' => GivesF W (txL s j).length (txL s j) e w' from rref_own s.c j W hc hj hm)
 unfold SgV at HTs HNn HNy
 unfold CfV JbV at HMy HRf
 obtain ⟨wA, hwA⟩ : ∃ wA, wA = w.alloc (.cells #[.int .u64 s.c.seed, .int .i64 s.c.vocab, .int .i64 s.c.dim, .int .i64 s.c.layers, .int .i64 s.c.top, .int .i64 s.c.heat, .int .i64 s.q, .int .i64 s.b, .int .i64 s.pg, .int .i64 s.sz, .int .i64 s.ch] 26) := ⟨_, rfl⟩
 have hA : wA.heap[w.heap.size]? = some (.cells #[.int .u64 s.c.seed, .int .i64 s.c.vocab, .int .i64 s.c.dim, .int .i64 s.c.layers, .int .i64 s.c.top, .int .i64 s.c.heat, .int .i64 s.q, .int .i64 s.b, .int .i64 s.pg, .int .i64 s.sz, .int .i64 s.ch] 26 (0, 0)) := by rw [hwA]; exact heap_alloc_new w _
 have hbA : Below w.heap.size w wA := by rw [hwA]; exact (Below.refl _ _).alloc (Nat.le_refl _) _
 have HX : Hid (∀ W : World, Below wA.heap.size wA W → Below w.heap.size w W) := fun W hW => hbA.trans (hW.mono hbA.size)
 have HC : Hid (∀ W : World, Below wA.heap.size wA W → W.heap[w.heap.size]? = some (.cells #[.int .u64 s.c.seed, .int .i64 s.c.vocab, .int .i64 s.c.dim, .int .i64 s.c.layers, .int .i64 s.c.top, .int .i64 s.c.heat, .int .i64 s.q, .int .i64 s.b, .int .i64 s.pg, .int .i64 s.sz, .int .i64 s.ch] 26 (0, 0))) := fun W hb => (hb.block _ (lt_of_block hA)).trans hA
 obtain ⟨x0, x1, x2, x3, x4, x5, x6, x7, x8, x9, x10⟩ := cells_11 hA
 have HsA : Hid (w.heap.size < wA.heap.size) := lt_of_block hA
 clear ga1 gs gn2 hA hbA
 go_enter Tryz.func4, Tryz.ntmps4
 unfold SgV
 rw [hwA] at x0 x1 x2 x3 x4 x5 x6 x7 x8 x9 x10
 go_wp2_with fail
 rw [← hwA]
 refine (HTs.out wA).mono ?_
 rintro e w1 ⟨rfl, hb⟩
 have HU := hid hb
 clear hb x0 x1 x2 x3 x4 x5 x6 x7 x8 x9 x10 hwA HTs
 cases hset : setB s with
 | false =>
  have hN := HNn.out w1 hset
  clear HNn HNy HMy HRf hset HC
  go_wp2_with fail
  refine hN.mono ?_
  rintro e w2 ⟨rfl, hb⟩
  have HW0 := hid (HX.out _ (HU.out.trans (hb.mono HU.out.size)))
  clear hb hN HX HU HLj HJo HsA
  go_wp2_with fail
  refine (alive15_any _).mono ?_
  rintro e wz ⟨rfl, hb⟩
  have HZ := hid (HW0.out.trans (hb.mono HW0.out.size))
  clear hb
  go_wp2
  go_ret
  exact ⟨rfl, HZ.out⟩
 | true =>
 have hN := HNy.out w1 hset
 have HSet := hid hset
 have HMb := hid (setB_bds hset).1
 clear HNn HNy hset
 go_wp2_with fail
 refine hN.mono ?_
 rintro e w2 ⟨g, F, It, rfl, hE, hF, hI, hb⟩
 have HO : Hid (RsO wA (some ⟨g, 0, none⟩) s 0 w2) := ⟨F, It, 0, Nat.le_refl _, hE, fun k hk => Nat.le_trans HU.out.size (hF k hk), HU.out.trans (hb.mono HU.out.size)⟩
 clear hN hE hF hI hb HU F It
 by_cases h6 : 6 < l1
 ·have q6 : (6 : Int) < (l1 : Int) := by omega
  have HW0 := hid (HX.out _ (by obtain ⟨_, _, _, _, _, _, h⟩ := HO.out; exact h))
  clear HO HC HX HLj HJo HsA HMy HRf HSet HMb
  go_wp2_with fail
  refine (alive15_any _).mono ?_
  rintro e wz ⟨rfl, hb⟩
  have HZ := hid (HW0.out.trans (hb.mono HW0.out.size))
  clear hb
  go_wp2
  go_ret
  exact ⟨rfl, HZ.out⟩
 have q6 : ¬ (6 : Int) < (l1 : Int) := by omega
 go_wp2_with fail
 go_loopw [34] (fun i W => ∃ k : Nat, k ≤ l1 ∧ i = .int .i64 k ∧ Hid (RsO wA (some ⟨g, 0, none⟩) s (448 * k) W)) (fun i _ => l1 - (intOf i).toNat)
 case atStart => exact ⟨0, by omega, rfl, HO⟩
 case round =>
 obtain ⟨k, hk, rfl, HO2⟩ := hrel
 rename World => wr
 clear HO
 by_cases hlt : k < l1
 ·have q1 : (k : Int) < (l1 : Int) := by omega
  have hkl : k < js.length := by rw [HS.out]; exact hlt
  have hBr : Below wA.heap.size wA wr := by obtain ⟨_, _, _, _, _, _, h⟩ := HO2.out; exact h
  obtain ⟨b, off, rfl, z0, z1, z2⟩ := (HLj.out wr (HX.out _ hBr)).jb hkl
  obtain ⟨hj1, hj2, hj3⟩ := (HLj.out wr (HX.out _ hBr)).inn k hkl
  have HJk := hid (HJo.out k hkl)
  have HJn := hid (fun (W : World) (hb : Below wA.heap.size wA W) => ((HLj.out W (HX.out _ hb)).inn k hkl).1)
  generalize js[k] = j at *
  have p1 := Reads.room hj1
  have p2 := Reads.most hj1
  obtain ⟨wB, hwB⟩ : ∃ wB, wB = wr.alloc (.cells #[.int .u64 j.seed, .slice j.ap j.lp j.cp, .int .i64 j.most] 43) := ⟨_, rfl⟩
  have hbB : Below wr.heap.size wr wB := by rw [hwB]; exact (Below.refl _ _).alloc (Nat.le_refl _) _
  have hB : wB.heap[wr.heap.size]? = some (.cells #[.int .u64 j.seed, .slice j.ap j.lp j.cp, .int .i64 j.most] 43 (0, 0)) := by rw [hwB]; exact heap_alloc_new wr _
  have HBr := hid (hBr.trans (hbB.mono hBr.size))
  obtain ⟨x0, x1, x2, x3, x4, x5, x6, x7, x8, x9, x10⟩ := cells_11 (HC.out wB HBr.out)
  obtain ⟨y0, y1, y2⟩ := Jb_cells (j := j) hB
  have HBb := hid hbB
  have HB := hid hB
  have hM := HMy.out wB j (HJn.out wB HBr.out)
  rw [hwB] at x0 x1 x2 x3 x4 x5 x6 x7 x8 x9 x10 y0 y1 y2
  clear hbB hB hj1 hBr HMy
  go_wp2_with fail
  rw [← hwB]
  refine hM.mono ?_
  rintro e w3 ⟨rfl, hb3⟩
  have HB3 := hid (HBr.out.trans (hb3.mono HBr.out.size))
  have HO3 := hid ((HO2.out.below HBb.out).below hb3)
  have HBx := hid (block_bel HB.out hb3)
  have HSr : Hid (wr.heap.size < w3.heap.size) := lt_of_block HBx.out
  clear hb3 hM x0 x1 x2 x3 x4 x5 x6 x7 x8 x9 x10 y0 y1 y2 hwB HB HBb HBr z0 z1 z2 HO2
  clear wB
  obtain ⟨x0, x1, x2, x3, x4, x5, x6, x7, x8, x9, x10⟩ := cells_11 (HC.out w3 HB3.out)
  obtain ⟨y0, y1, y2⟩ := Jb_cells (j := j) HBx.out
  cases hmy : mayJ s.c.vocab j.most j.ts with
  | false =>
   go_wp2_with fail
   go_round
   case rel => exact ⟨k + 1, by omega, by go_num, hid (HO3.out.up (by omega))⟩
   case measure => simp [intOf]; omega
  | true =>
  by_cases h8 : 8 < j.lp
  ·have q8 : (8 : Int) < (j.lp : Int) := by omega
   go_wp2_with fail
   go_round
   case rel => exact ⟨k + 1, by omega, by go_num, hid (HO3.out.up (by omega))⟩
   case measure => simp [intOf]; omega
  have q8 : ¬ (8 : Int) < (j.lp : Int) := by omega
  by_cases h10 : 10 < j.most
  ·clear hmy
   go_wp2_with fail
   go_round
   case rel => exact ⟨k + 1, by omega, by go_num, hid (HO3.out.up (by omega))⟩
   case measure => simp [intOf]; omega
  have hR := HRf.out w3 j HMb.out (HJn.out w3 HB3.out) hmy
  have HMj := hid hmy
  have hT10 := txL_len (s := s) (j := j) (by omega)
  have HTl := hid hT10
  obtain ⟨L, hL⟩ : ∃ L, (txL s j).length = L := ⟨_, rfl⟩
  rw [hL] at hR hT10
  have HL := hid hL
  clear HRf hmy hL
  go_wp2_with fail
  refine hR.mono ?_
  rintro e wT ⟨aT, cT, rfl, hrT, hfT, hbT⟩
  have HRT := hid hrT
  have HfT := hid hfT
  have HbT := hid hbT
  have rT := hrT.room
  have mT := hrT.most
  clear hR x0 x1 x2 x3 x4 x5 x6 x7 x8 x9 x10 y0 y1 y2 hrT hfT hbT
  obtain ⟨n0, n1⟩ := HN2.out
  obtain ⟨n, hn⟩ : ∃ n : Nat, n2 % ((L : Int) + 1) = (n : Int) := ⟨(n2 % ((L : Int) + 1)).toNat, by have := Int.emod_nonneg n2 (show (L : Int) + 1 ≠ 0 by omega); omega⟩
  have hnL : n ≤ L := by have := Int.emod_lt_of_pos n2 (show (0 : Int) < (L : Int) + 1 by omega); omega
  have HRk := hid (HRT.out.cut hnL)
  obtain ⟨F0, It0, t0, ht0, hE3, hF0, hBw⟩ := HO3.out
  have HT0 : Hid (t0 ≤ 448 * k ∧ t0 ≤ 3000) := ⟨ht0, by omega⟩
  clear ht0
  have HE3 := hid hE3
  have HF0 := hid hF0
  have HFo : Hid (∀ x, F0 x → x < w3.heap.size) := hE3.old
  have HBT := hid (HB3.out.trans (HbT.out.mono HB3.out.size))
  have HJc : Hid (∀ W : World, Below wT.heap.size wT W → W.cell? ⟨wr.heap.size, 0, none⟩ = some (.int .u64 j.seed) ∧ W.cell? ⟨wr.heap.size, 1, none⟩ = some (.slice j.ap j.lp j.cp) ∧ W.cell? ⟨wr.heap.size, 2, none⟩ = some (.int .i64 j.most)) := fun W hb => Jb_cells (j := j) (block_bel (block_bel HBx.out HbT.out) hb)
  have HAr := hid fun (v : Value) (W : World) (hb : Below wT.heap.size wT W) (hO : W.ownsRow wT.heap.size 3 1 v n (((txL s j).take n).map (Value.int .i64))) => rs_arr (i := (k : Int)) (j := j) (n := n) HSet.out HMj.out (by omega) (by omega) (by rw [HL.out]; exact hnL) (HE3.out.below HbT.out) hb hO (HJn.out W (HBT.out.trans (hb.mono HBT.out.size))) (fun x hx => by have e1 := HJk.out x hx; have e2 := HsA.out; have e3 := HBT.out.size; exact ⟨by omega, fun hf => by have := HF0.out x hf; omega⟩) ⟨by omega, by omega⟩ hj2 hj3
  unfold MsV stM at HAr
  simp only at HAr
  have HTx : Hid (∀ W : World, Fb F0 wT W → ∀ q, q < L → ∃ b' off', aT = some ⟨b', off', none⟩ ∧ W.cell? ⟨b', off' + q, none⟩ = some (.int .i64 ((txL s j)[q]?.getD 0))) := fun W hb q hq => by
   obtain ⟨b', off', e1, e2⟩ := HRT.out.cell q hq
   refine ⟨b', off', e1, hb.cell e2 fun hf => ?_⟩
   have e3 : w3.heap.size ≤ b' := HfT.out _ e1
   have e4 : b' < w3.heap.size := HFo.out _ hf
   omega
  obtain ⟨i0, hi, hz0, hz1, hz2⟩ := info_parts Tryz.info3
  clear hE3 hF0 hBw HO3 HRT HJk HJn HMj HBx HTl hj2 hj3 HB3
  go_wp2_with (at_builtin; refine append_ints2 _ rfl (.const (.slice none 0 0)) (.tmp 67) 41 rfl wT.heap.size 3 i0 (.int .i64 0) 8 Tryz.underlying41 hi hz0 hz1 hz2 rfl (by omega) .i64 _ 0 [] rfl (World.ownsRow_nil _ _ _ _) aT n cT ((txL s j).take n) rfl HRk.out (by omega) (Nat.le_refl _) ?_; intro v6 w6 hO6 hg6 hm6; have hb6 := below_grown hg6; obtain ⟨y0, y1, y2⟩ := HJc.out _ hb6)
  have hA := HAr.out v6 w6 hb6 (by simpa using hO6)
  clear hO6 hg6 hm6 hb6 y0 y1 y2 HRk HAr HJc hn n0 n1
  refine hA.mono ?_
  rintro e w7 ⟨a7, c7, rfl, hc7, hI⟩
  have HI0 := hid hI
  clear hI hA
  go_wp2_with fail
  go_loopw [13, 14, 78] (fun v o i W => ∃ r ov : Nat, r ≤ 14 ∧ o = .int .i64 ov ∧ i = .int .i64 r ∧ Hid (RsI wT F0 (some ⟨g, 0, none⟩) s t0 k (txL s j) r ov v W)) (fun _ _ i _ => 14 - (intOf i).toNat)
  case atStart => exact ⟨0, 0, by omega, rfl, rfl, HI0⟩
  case round =>
  obtain ⟨r, ov, hr14, rfl, rfl, HI⟩ := hrel
  rename World => wq
  clear HI0
  by_cases hr : r < 14
  ·have q14 : (r : Int) < 14 := by omega
   have hSt := rs_step HSet.out (by have := HT0.out.2; omega) HI.out
   clear HI
   go_wp2_with fail
   refine hSt.mono ?_
   rintro e w8 ⟨a8, c8, ms, rfl, hr8, hm8, hL8⟩
   obtain ⟨N, hN⟩ : ∃ N, ms.length = N := ⟨_, rfl⟩
   rw [hN] at hr8 ⊢
   have HN8 := hid hN
   have HL8 := hid hL8
   clear hN hL8 hSt
   go_wp2_with fail
   go_loopw [13, 14, 83] (fun v o i W => ∃ q ov : Nat, q ≤ N ∧ o = .int .i64 ov ∧ i = .int .i64 q ∧ Hid (RsL wT F0 (some ⟨g, 0, none⟩) s t0 k (txL s j) (r + 1) a8 c8 ms q ov v W)) (fun _ _ i _ => N - (intOf i).toNat)
   case atStart => exact ⟨0, ov, by omega, rfl, rfl, HL8⟩
   case round =>
   obtain ⟨q, ov2, hqN, rfl, rfl, HQ⟩ := hrel
   rename World => wx
   clear HL8
   by_cases hq : q < N
   ·have qN : (q : Int) < (N : Int) := by omega
    obtain ⟨e0, b8, o8, la, ll, lc, kd, nn, y, z, got, rfl, hkd, h8', h9', hrz, hlen, hO, ⟨cn, d0, d1, d2, d3, d4, d5, d6, d7, d8, d9, d10, d11⟩, hNext⟩ := HQ.out.at (by rw [HN8.out]; exact hq)
    subst e0
    rw [Nat.add_zero] at d0
    obtain ⟨a13, c13, rfl, hr13⟩ := Reads.own (k := .i64) hO
    have r13 := hr13.room
    have m13 := hr13.most
    have rz := hrz.room
    have mz := hrz.most
    have hlz := hrz.size
    rw [HL.out, List.length_append, hlz] at hlen
    obtain ⟨G, hG⟩ : ∃ G, got.length = G := ⟨_, rfl⟩
    have HO := hid hO
    rw [hG] at h8' r13 hlen HO hNext ⊢
    have HZ := hid hrz
    have HNx := hid hNext
    have HWx : Hid (wT.heap.size ≤ wx.heap.size) := by
     obtain ⟨_, _, _, _, _, _, _, _, _, _, _, _, z5, _, _, _, z9, _⟩ := HQ.out
     exact Nat.le_trans z5.size z9.size
    have HG := hid hG
    have HAl : Hid (∀ (o : Obj), Below wx.heap.size wx (wx.alloc o)) := fun o => (Below.refl _ _).alloc (Nat.le_refl _) _
    rw [show ((0 : Nat) : Int) = 0 from rfl]
    rw [HL.out] at h9'
    have HNe : Hid (some wx.heap.size ≠ (Value.slice a13 G c13).ownBlock) := fun e => by have := (HO.out.lt _ e.symm).2; omega
    clear HQ hO hr13 hrz hNext hlz hG
    rcases hkd with rfl | rfl
    ·obtain rfl := h8' rfl
     clear h8' h9'
     go_wp2_with (at_builtin; refine append_ints2 _ rfl (.tmp 114) (.tmp 116) 41 rfl wT.heap.size 3 i0 (.int .i64 0) 8 Tryz.underlying41 hi hz0 hz1 hz2 rfl (by omega) .i64 _ G got rfl (own_below HO.out (HAl.out _)) la ll lc z rfl (HZ.out.below (HAl.out _)) (by omega) (Nat.le_trans HWx.out (HAl.out _).size) ?_; intro v9 w9 hO9 hg9 hm9; have HNn := hid (HNx.out v9 _ w9 (HAl.out _) hg9 hm9 (by rw [List.length_append, HG.out, HZ.out.size]; exact hO9)); obtain ⟨cc0, cc1, cc2, cc3, cc4, cc5, cc6, cc7, cc8, cc9, cc10, cc11⟩ := cells_12 ((hg9.block wx.heap.size (by simp) HNe.out).trans (heap_alloc_new wx _)))
     clear hO9 hg9 hm9 HNx HO HZ HAl
     go_wp2_with fail
     go_round
     case rel => exact ⟨q + 1, 0, by omega, rfl, by go_num, HNn⟩
     case measure => simp [intOf]; omega
    ·obtain ⟨rfl, rfl⟩ := h9' rfl
     clear h8' h9'
     go_wp2_with (at_builtin; refine append_ints2 _ rfl (.tmp 114) (.tmp 116) 41 rfl wT.heap.size 3 i0 (.int .i64 0) 8 Tryz.underlying41 hi hz0 hz1 hz2 rfl (by omega) .i64 _ G got rfl (own_below HO.out (HAl.out _)) la ll lc z rfl (HZ.out.below (HAl.out _)) (by omega) (Nat.le_trans HWx.out (HAl.out _).size) ?_; intro v9 w9 hO9 hg9 hm9; have HNn := hid (HNx.out v9 _ w9 (HAl.out _) hg9 hm9 (by rw [List.length_append, HG.out, HZ.out.size]; exact hO9)); obtain ⟨cc0, cc1, cc2, cc3, cc4, cc5, cc6, cc7, cc8, cc9, cc10, cc11⟩ := cells_12 ((hg9.block wx.heap.size (by simp) HNe.out).trans (heap_alloc_new wx _)))
     clear hO9 hg9 hm9 HNx HO HZ HAl
     go_wp2_with fail
     go_round
     case rel => exact ⟨q + 1, 1, by omega, rfl, by go_num, HNn⟩
     case measure => simp [intOf]; omega
   ·obtain rfl : q = N := by omega
    have qN : ¬ (q : Int) < (q : Int) := by omega
    have HI2 : Hid (RsI wT F0 (some ⟨g, 0, none⟩) s t0 k (txL s j) (r + 1) ov2 _ wx) := RsL.done (by rw [HN8.out]; exact HQ.out)
    clear HQ
    go_wp2_with fail
    go_round
    case rel => exact ⟨r + 1, ov2, by omega, rfl, by go_num, HI2⟩
    case measure => simp [intOf]; omega
  ·obtain rfl : r = 14 := by omega
   obtain ⟨rfl, hFb, hOw, F1, It1, t1, ht1, hE1, hF1⟩ := rs_end HI.out (by rw [HL.out]; omega)
   obtain ⟨a13, c13, rfl, hr13⟩ := Reads.own (k := .i64) hOw
   rw [HL.out] at hr13 ⊢
   have HR13 := hid hr13
   have r13 := hr13.room
   have m13 := hr13.most
   have hLd : Calls Tryz.prog 22 #[.pointer (some ⟨g, 0, none⟩)] wq fun e w' => e = .returned (.int .i64 0) ∧ Below wq.heap.size wq w' := en_load wq hE1
   have hBq := HBT.out.trans (hFb.to HF0.out HBT.out.size)
   have HTx2 : Hid (∀ W : World, Below wq.heap.size wq W → ∀ q, q < L → ∃ b' off', aT = some ⟨b', off', none⟩ ∧ W.cell? ⟨b', off' + q, none⟩ = some (.int .i64 ((txL s j)[q]?.getD 0))) := fun W hb q hq => HTx.out W (hFb.below hb) q hq
   have HOn : Hid (∀ W : World, Below wq.heap.size wq W → RsO wA (some ⟨g, 0, none⟩) s (448 * (k + 1)) W) := fun W hb => ⟨F1, It1, t1, by have := HT0.out.1; omega, hE1.below hb, fun x hx => (hF1 x hx).elim (HF0.out x) fun h' => Nat.le_trans HBT.out.size h', hBq.trans (hb.mono hBq.size)⟩
   rw [show ((1 : Nat) : Int) = 1 from rfl, show ((14 : Nat) : Int) = 14 from rfl]
   clear HI hFb hOw hE1 hF1 ht1 HT0 hr13 hBq HTx HfT HbT HE3 HF0 HFo HBT hr hr14
   go_wp2_with fail
   refine hLd.mono ?_
   rintro e w10 ⟨rfl, hb⟩
   have HV := hid hb
   clear hb hLd
   go_wp2_with fail
   go_loopw [152] (fun i W => ∃ q : Nat, q ≤ L ∧ i = .int .i64 q ∧ Hid (Below wq.heap.size wq W)) (fun i _ => L - (intOf i).toNat)
   case atStart => exact ⟨0, by omega, rfl, HV⟩
   case round =>
   obtain ⟨q, hq, rfl, HV2⟩ := hrel
   rename World => wz
   clear HV
   by_cases hqL : q < L
   ·have qL : (q : Int) < (L : Int) := by omega
    obtain ⟨b1, f1, rfl, t1⟩ := HTx2.out wz HV2.out q hqL
    obtain ⟨b2, f2, rfl, t2⟩ := (HR13.out.below HV2.out).cell q hqL
    clear HTx2 HR13 HOn
    generalize (txL s j)[q]?.getD 0 = tt at t1 t2
    go_wp2_with fail
    go_quiet (fail)
    go_wp2_with fail
    go_round
    case rel => exact ⟨q + 1, by omega, by go_num, HV2.out.trans ⟨rfl, rfl, rfl, Nat.le_refl _, fun _ _ => rfl⟩⟩
    case measure => simp [intOf]; omega
   ·obtain rfl : q = L := by omega
    have qL : ¬ (q : Int) < (q : Int) := by omega
    have HO4 := hid (HOn.out _ HV2.out)
    clear HTx2 HR13 HOn HV2
    go_wp2_with fail
    go_round
    case rel => exact ⟨k + 1, by omega, by go_num, HO4⟩
    case measure => simp [intOf]; omega
 ·obtain rfl : k = l1 := by omega
  have q1 : ¬ (k : Int) < (k : Int) := by omega
  have HW0 := hid (HX.out _ (by obtain ⟨_, _, _, _, _, _, h⟩ := HO2.out; exact h))
  clear HO2 HC HX HLj HJo HsA HMy HRf HSet HMb
  go_wp2_with fail
  refine (alive15_any _).mono ?_
  rintro e wz ⟨rfl, hb⟩
  have HZ := hid (HW0.out.trans (hb.mono HW0.out.size))
  clear hb
  go_wp2
  go_ret
  exact ⟨rfl, HZ.out⟩

/-! ### The row's step -/
set_option maxRecDepth 1000000 in
theorem lifted (os : Os) (started : os.Started) (H : Type) (enc : TypeId × Value → H) :
  ReturnsInHanded {} Tryz.checked os 4 .any (Rows.engineRestsSpec.pre6 enc Tryz.prog Tryz.f4 Rows.engineRestsRow.domain false) (Rows.engineRestsSpec.post enc Tryz.prog Tryz.f4 false true false false) := by
 refine returnsInHanded_of_change (C := Tryz.checked) own started (by kernel_rfl) Tryz.func4
  (ChangeSpec.witness6 (enc := enc) (C := Tryz.checked) false ⟨#[], #[.agg #[.int .u64 0, .int .i64 0, .int .i64 0, .int .i64 0, .int .i64 0, .int .i64 0, .int .i64 0, .int .i64 0, .int .i64 0, .int .i64 0, .int .i64 0], .slice none 0 0, .int .u64 0], []⟩ 8 (by kernel_rfl) (by kernel_rfl) (by kernel_rfl) (by kernel_rfl)) ?_
 intro W base args ds gs before hval0 hW hcnd _
 have hval : ∀ (j : Nat) t v, Tryz.f4.params[j]? = some t → args[j]? = some v → Value.okWide Tryz.prog W .any base t v := hval0
 have hW' := hW
 obtain ⟨p, q, hA0, hV, rfl, hfz, hnd⟩ := hW
 have hA : DataW.TrodAll enc Tryz.prog W 0 (fun _ => true) true Tryz.f4.params.toList args.toList ds p := hA0
 rw [Tryz.params4] at hA hval
 obtain ⟨v0, vs0, d0, ds0, p0, q0, hargs, rfl, rfl, h0, r0⟩ := trodAll_cons hA
 obtain ⟨v1, vs1, d1, ds1, p1, q1, rfl, rfl, rfl, h1, r1⟩ := trodAll_cons r0
 obtain ⟨v2, vs2, d2, ds2, p2, q2, rfl, rfl, rfl, h2, r2⟩ := trodAll_cons r1
 obtain ⟨rfl, rfl, rfl⟩ := trodAll_nil r2
 obtain rfl : args = #[v0, v1, v2] := by cases args; simp_all
 obtain ⟨rfl, rfl⟩ := trodVars_none hV
 have k0 := h0
 have lt0 : ∀ x ∈ p0, x.block < W.heap.size := by obtain ⟨m, hm⟩ := k0; exact DataW.trod_lt m _ _ _ hm
 obtain ⟨s, rfl, gs⟩ := sg_open (hval 0 26 v0 rfl rfl) h0
 have k1 := h1
 have lt1 : ∀ x ∈ p1, x.block < W.heap.size := by obtain ⟨m, hm⟩ := k1; exact DataW.trod_lt m _ _ _ hm
 obtain ⟨a1, l1, c1, js, rfl, ga1⟩ := jobs_open (hval 1 62 v1 rfl rfl) h1
 have k2 := h2
 have lt2 : ∀ x ∈ p2, x.block < W.heap.size := by obtain ⟨m, hm⟩ := k2; exact DataW.trod_lt m _ _ _ hm
 obtain ⟨n2, rfl, gn2⟩ := eunum_open (hval 2 22 v2 rfl rfl) h2
 clear hA0 hval0
 refine (walk s a1 l1 c1 js n2 W gs ga1 gn2).mono fun e W' ⟨he, bel⟩ => ?_
 subst he
 exact ⟨_, rfl, _, _, _, [], _, [], hW', trodAll_mk1 (shut_bool Tryz.underlying4 _), (trodAll_cons_mk (Below.trod laidOut (by kernel_rfl) (of_decide_eq_true (by kernel_rfl)) k0 bel lt0) (trodAll_cons_mk (Below.trod laidOut (by kernel_rfl) (of_decide_eq_true (by kernel_rfl)) k1 bel lt1) (trodAll_cons_mk (Below.trod laidOut (by kernel_rfl) (of_decide_eq_true (by kernel_rfl)) k2 bel lt2) trodAll_mk0))), rfl, bel.frame _, fun h => by cases h⟩

theorem over : Rows.engineRestsRow.holds Tryz.pinned (OpenSpec.ofChange Rows.engineRestsSpec) :=
 OpenClaim.holds_of_wide 4 Tryz.f4 rfl rfl rfl rfl rfl rfl rfl ⟨rfl, rfl, rfl, rfl, rfl⟩ rfl rfl rfl rfl rfl (by kernel_rfl) Tryz.func4 (by kernel_rfl)
  (of_decide_eq_true (by kernel_rfl)) (by unfold Func.isWrapper; first | (rw [if_pos (by decide +kernel)]; kernel_rfl) | (rw [if_neg (by decide +kernel)]; exact ⟨rfl, rfl⟩))
  (fun os started H enc _ => lifted os started H enc)

theorem proved : Rows.EngineRestsSaid := over
#print axioms proved
end Go.Proofs.YtjgggialnegddaaGreat.engineRests
