/-
  The texts EnCons of this proof.
-/
import Derived.Test.YtjgggialnegddaaGreatPn48
set_option linter.unusedVariables false
set_option maxRecDepth 1000000
namespace Go.Proofs.YtjgggialnegddaaGreat
open Go.RowKit Go.Maps
section
variable {w W W' : World} {B mb : Nat} {pm pc : Option Addr} {qv bv : Value} {nd : Int → Nat} {S : Rs} {bs qs : List At} {Fc It : Nat → Prop}
theorem EnI.later (h : EnI W B mb pm pc qv bv nd S bs qs Fc It) {t : Nat} (ht : S.tk ≤ t) : EnI W B mb pm pc qv bv nd { S with tk := t } bs qs Fc It :=
 ⟨⟨h.ok.set, h.ok.inc, h.ok.one, h.ok.few, h.ok.ok⟩, h.bsl, h.qsl, h.L, h.rb, h.rq, h.var, h.md, h.ca.mono (fun k hk => hk) ht, h.map, h.mbc, h.qrow, h.brow, h.qb, h.att, h.itI⟩
theorem EnI.out (h : EnI W B mb pm pc qv bv nd S bs qs Fc It) {v : Value} {ms : List Mg} {ds : List (Option Addr × Nat × Nat)} (hr : MRow w.heap.size W v ms ds It) {F It0 Ex : Nat → Prop} (hF : ∀ k, enF B mb qv bv nd S Fc k → F k ∨ w.heap.size ≤ k) (hI : ∀ k, It k → It0 k ∨ w.heap.size ≤ k) (hb : Fb F w W) : EnO w F It0 Ex (some ⟨B, 0, none⟩) S ms (.returned v) W := by
 obtain ⟨a, cap, rfl, hM⟩ := hr.mgs
 refine ⟨a, cap, _, It, rfl, hM, fun q hq => ?_, h.at, hF, fun k hk => (hI k hk).imp_right .inr, hb⟩
 subst hq
 obtain ⟨h1, cur, h2⟩ := own_kind hr.own (k := q.block) rfl
 exact ⟨h1, h.msgF h2⟩
end
theorem en_arr {F It : Nat → Prop} {p : Option Addr} {S : Rs} (m : Ms) (w : World) (h : EnAt w p S F It) (hm : MsIn w m) (ho : MsOk m) (hF : ∀ k, mJ m.job k → ¬ F k) : Calls Tryz.prog 18 #[.pointer p, .agg (MsV m)] w fun e w' => EnO w F It (mJ m.job) p (arrS S m) (arrM S m) e w' := by
 obtain ⟨B, mb, pm, pc, qv, bv, nd, bs, qs, Fc, rfl, h1, rfl⟩ := h.rest
 refine (earr_any h1 m hm.1 ho).mono ?_
 rintro e w' ⟨v, ds, qv1, bv1, nd1, bs1, qs1, Fc1, It1, rfl, g1, g2, g3, g4, g5⟩
 exact g1.out g2 g3 g4 g5
theorem en_step {F It : Nat → Prop} {p : Option Addr} {S : Rs} (w : World) (h : EnAt w p S F It) (ht : S.tk ≤ 90000) : Calls Tryz.prog 14 #[.pointer p] w fun e w' => ∃ ms S', StepR S ms S' ∧ EnO w F It (fun _ => False) p S' ms e w' := by
 obtain ⟨B, mb, pm, pc, qv, bv, nd, bs, qs, Fc, rfl, h1, rfl⟩ := h.rest
 refine (estep_any h1 (by omega)).mono ?_
 rintro e w' ⟨v, bs1, qs1, ac, cc, ms, rfl, hL, hq, h16, done, ds, qv1, bv1, Fc1, It1, g1, g2, g3, _, _, g4, g5, g6, _⟩
 rw [List.take_length] at g1
 simp only [List.drop_length, List.append_nil] at g2 g4
 refine ⟨ms, { S with L := done ++ qs1, tk := S.tk + 32 }, ⟨done ++ qs1, ?_, rfl⟩, ?_⟩
 ·rw [hL]
  have := tells_app g1 (tells_wait (c := S.s.c) (ch := S.s.ch.toNat) (inc := S.inc) hq)
  rwa [List.append_nil] at this
 ·exact (g2.later (t := S.tk + 32) (by show S.tk + 2 * bs1.length ≤ S.tk + 32; omega)).out g3 g4 g5 g6
theorem en_load {F It : Nat → Prop} {p : Option Addr} {S : Rs} (w : World) (h : EnAt w p S F It) : Calls Tryz.prog 22 #[.pointer p] w fun e w' => e = .returned (.int .i64 S.L.length) ∧ Below w.heap.size w w' := by
 obtain ⟨B, mb, pm, pc, qv, bv, nd, bs, qs, Fc, rfl, h1, rfl⟩ := h.rest
 exact (eload_any h1).mono fun e w' ⟨h1, h2⟩ => ⟨h1, h2 ▸ Below.refl _ _⟩
def zeroR : Array Value := #[.pointer none, .pointer none, .int .i64 0, .int .i64 0, .int .i64 0, .int .u64 0, .bool false, .map none, .slice none 0 0, .slice none 0 0]
def EnNo (W : World) (p : Option Addr) : Prop := p = none ∨ ∃ g, p = some ⟨g, 0, none⟩ ∧ W.heap[g]? = some (.cells zeroR 73 (0, 0))
theorem EnNo.below {W W' : World} {p : Option Addr} (h : EnNo W p) (hb : Below W.heap.size W W') : EnNo W' p := by
 rcases h with h | ⟨g, hp, hg⟩
 ·exact .inl h
 ·exact .inr ⟨g, hp, (hb.block g (lt_of_block hg)).trans hg⟩
theorem emade_no {W : World} {p : Option Addr} (h : EnNo W p) : Calls Tryz.prog 36 #[.pointer p] W fun e w' => e = .returned (.bool false) ∧ W = w' := by
 rcases h with rfl | ⟨g, rfl, hg⟩
 ·go_enter Tryz.func36, Tryz.ntmps36
  go_wp2
  go_ret
  exact ⟨rfl, rfl⟩
 ·have c0 : W.cell? ⟨g, 0, none⟩ = some (.pointer none) := by rw [cell_of_row _ _ _ _ _ _ hg]; rfl
  clear hg
  go_enter Tryz.func36, Tryz.ntmps36
  go_wp2
  go_ret
  exact ⟨rfl, rfl⟩
theorem eno_arr (p : Option Addr) (m : Ms) (w : World) (h : EnNo w p) : Calls Tryz.prog 18 #[.pointer p, .agg (MsV m)] w fun e w' => ∃ a cap, e = .returned (.slice a 0 cap) ∧ cap ≤ 9223372036854775807 ∧ Below w.heap.size w w' := by
 obtain ⟨wA, hwA⟩ : ∃ wA, wA = w.alloc (.cells (MsV m) 55) := ⟨_, rfl⟩
 have HB : Hid (Below w.heap.size w wA) := by unfold Hid; rw [hwA]; exact (Below.refl _ _).alloc (Nat.le_refl _) _
 have hM := emade_no (h.below HB.out)
 clear h
 unfold MsV at hwA
 go_enter Tryz.func18, Tryz.ntmps18
 unfold MsV
 go_wp2_with fail
 rw [← hwA]
 refine hM.mono ?_
 rintro e w' ⟨rfl, rfl⟩
 clear hM hwA
 go_wp2
 go_ret
 exact ⟨none, 0, rfl, by omega, HB.out⟩
theorem eno_step (p : Option Addr) (w : World) (h : EnNo w p) : Calls Tryz.prog 14 #[.pointer p] w fun e w' => ∃ a cap, e = .returned (.slice a 0 cap) ∧ cap ≤ 9223372036854775807 ∧ Below w.heap.size w w' := by
 have hM := emade_no h
 clear h
 go_enter Tryz.func14, Tryz.ntmps14
 go_wp2_with fail
 refine hM.mono ?_
 rintro e w' ⟨rfl, rfl⟩
 clear hM
 go_wp2
 go_ret
 exact ⟨none, 0, rfl, by omega, Below.refl _ _⟩
theorem eno_crash (p : Option Addr) (w : World) (h : EnNo w p) : Calls Tryz.prog 16 #[.pointer p] w fun e w' => e = .returned (.int .u64 0) ∧ Below w.heap.size w w' := by
 have hM := emade_no h
 clear h
 go_enter Tryz.func16, Tryz.ntmps16
 go_wp2_with fail
 refine hM.mono ?_
 rintro e w' ⟨rfl, rfl⟩
 clear hM
 go_wp2
 go_ret
 exact ⟨rfl, Below.refl _ _⟩
theorem eno_inc (p : Option Addr) (w : World) (h : EnNo w p) : Calls Tryz.prog 21 #[.pointer p] w fun e w' => e = .returned (.int .u64 0) ∧ Below w.heap.size w w' := by
 have hM := emade_no h
 clear h
 go_enter Tryz.func21, Tryz.ntmps21
 go_wp2_with fail
 refine hM.mono ?_
 rintro e w' ⟨rfl, rfl⟩
 clear hM
 go_wp2
 go_ret
 exact ⟨rfl, Below.refl _ _⟩
theorem eno_load (p : Option Addr) (w : World) (h : EnNo w p) : Calls Tryz.prog 22 #[.pointer p] w fun e w' => e = .returned (.int .i64 0) ∧ Below w.heap.size w w' := by
 have hM := emade_no h
 clear h
 go_enter Tryz.func22, Tryz.ntmps22
 go_wp2_with fail
 refine hM.mono ?_
 rintro e w' ⟨rfl, rfl⟩
 clear hM
 go_wp2
 go_ret
 exact ⟨rfl, Below.refl _ _⟩
theorem eno_att (p : Option Addr) (w : World) (h : EnNo w p) : Calls Tryz.prog 25 #[.pointer p] w fun e w' => ∃ a cap, e = .returned (.slice a 0 cap) ∧ cap ≤ 9223372036854775807 ∧ Below w.heap.size w w' := by
 have hM := emade_no h
 clear h
 go_enter Tryz.func25, Tryz.ntmps25
 go_wp2_with fail
 refine hM.mono ?_
 rintro e w' ⟨rfl, rfl⟩
 clear hM
 go_wp2
 go_ret
 exact ⟨none, 0, rfl, by omega, Below.refl _ _⟩
theorem eno_drains (p : Option Addr) (w : World) (h : EnNo w p) : Calls Tryz.prog 23 #[.pointer p] w fun e w' => e = .returned (.bool false) ∧ Below w.heap.size w w' := by
 have hM := emade_no h
 clear h
 go_enter Tryz.func23, Tryz.ntmps23
 go_wp2_with fail
 refine hM.mono ?_
 rintro e w' ⟨rfl, rfl⟩
 clear hM
 go_wp2
 go_ret
 exact ⟨rfl, Below.refl _ _⟩
theorem eno_cached (p : Option Addr) (w : World) (h : EnNo w p) : Calls Tryz.prog 24 #[.pointer p] w fun e w' => e = .returned (.int .i64 0) ∧ Below w.heap.size w w' := by
 have hM := emade_no h
 clear h
 go_enter Tryz.func24, Tryz.ntmps24
 go_wp2_with fail
 refine hM.mono ?_
 rintro e w' ⟨rfl, rfl⟩
 clear hM
 go_wp2
 go_ret
 exact ⟨rfl, Below.refl _ _⟩
set_option maxHeartbeats 2000000 in
theorem en_new_yes (s : Sg) (w : World) (h : setB s = true) : Calls Tryz.prog 7 #[.agg (SgV s)] w fun e w' => ∃ g F It, e = .returned (.tuple #[.pointer (some ⟨g, 0, none⟩), .int .i64 0]) ∧ EnAt w' (some ⟨g, 0, none⟩) ⟨s, 1, false, [], 0⟩ F It ∧ (∀ k, F k → w.heap.size ≤ k) ∧ (∀ k, It k → w.heap.size ≤ k) ∧ Below w.heap.size w w' := by
 obtain ⟨wA, hwA⟩ : ∃ wA, wA = w.alloc (.cells (SgV s) 32) := ⟨_, rfl⟩
 have hbA : Below w.heap.size w wA := by rw [hwA]; exact (Below.refl _ _).alloc (Nat.le_refl _) _
 have hA : wA.heap[w.heap.size]? = some (.cells (SgV s) 32 (0, 0)) := by rw [hwA]; exact heap_alloc_new w _
 have HX : Hid (∀ W : World, Below wA.heap.size wA W → Below w.heap.size w W) := fun W hb => hbA.trans (hb.mono hbA.size)
 have HM := hid fun (W : World) (hb : Below wA.heap.size wA W) => block_bel hA hb
 have H1 := hid fun (W : World) => ebtw_any s.q 64 W
 have H2 := hid fun (W : World) => ebtw_any s.b 16 W
 have H3 := hid fun (W : World) => ebtw_any s.ch 16 W
 have hs2 := h
 unfold setB at hs2
 simp only [Bool.and_eq_true, Bool.or_eq_true, decide_eq_true_eq] at hs2
 obtain ⟨hmay, e1, e2, e3, e4⟩ := hs2
 rw [e1] at H1
 rw [e2] at H2
 rw [e3] at H3
 have HYes := hid fun (W : World) => new_yes s.c W hmay
 have HCa := hid fun (p : Option Addr) (W : World) (hp : MdAt W p s.c) => encache_yes p s W hp hmay (by unfold btw at e4; simp only [Bool.and_eq_true, decide_eq_true_eq] at e4; omega)
 have HEnd := hid fun (W : World) (g : Nat) (hb : Below wA.heap.size wA W) (hg : W.heap[g]? = some (.cells (CfV s.c) 100 (0, 0))) (pc : Option Addr) (F : Nat → Prop) (hc : CaAt W pc s 0 F (fun _ => False)) (hF : ∀ k, F k → wA.heap.size ≤ k) (w1 w2 : World) (h1 : w1 = W.alloc (.map #[] 0)) (h2 : w2 = w1.alloc (.cells (RpV (some ⟨g, 0, none⟩) pc ⟨s, 1, false, [], 0⟩ W.heap.size (.slice none 0 0) (.slice none 0 0)) 73)) =>
  show ∃ g F It, Ending.returned (.tuple #[.pointer (some ⟨w1.heap.size, 0, none⟩), .int .i64 0]) = .returned (.tuple #[.pointer (some ⟨g, 0, none⟩), .int .i64 0]) ∧ EnAt w2 (some ⟨g, 0, none⟩) ⟨s, 1, false, [], 0⟩ F It ∧ (∀ k, F k → w.heap.size ≤ k) ∧ (∀ k, It k → w.heap.size ≤ k) ∧ Below w.heap.size w w2 by
   obtain ⟨g1, g2, g3⟩ := en_new h hg hc h1 h2
   exact ⟨_, _, _, rfl, g1.at, fun k hk => (g2 k hk).elim (fun h' => Nat.le_trans hbA.size (hF k h')) (fun h' => Nat.le_trans (HX.out W hb).size h'), (fun k hk => hk.elim), HX.out _ (hb.trans (g3.mono hb.size))⟩
 clear h hbA hmay e1 e2 e3 e4
 unfold RpV at HEnd
 obtain ⟨⟨sd, vo, di, la, tp, he⟩, q, b, pg, sz, ch⟩ := s
 unfold SgV at hA hwA HM
 obtain ⟨x0, x1, x2, x3, x4, x5, x6, x7, x8, x9, x10⟩ := cells_11 hA
 simp only at *
 obtain ⟨mx, hmx⟩ : ∃ mx, w.heap.size = mx := ⟨_, rfl⟩
 clear hA hmx
 unfold CfV SgV at *
 simp only at *
 go_enter Tryz.func7, Tryz.ntmps7
 rw [hwA] at x0 x1 x2 x3 x4 x5 x6 x7 x8 x9 x10
 go_wp2_with fail
 rw [← hwA]
 rw [← hwA] at x0 x1 x2 x3 x4 x5 x6 x7 x8 x9 x10
 clear hwA
 refine (H1.out _).mono ?_
 rintro e w' ⟨rfl, rfl⟩
 clear H1
 go_wp2_with fail
 refine (H2.out _).mono ?_
 rintro e w' ⟨rfl, rfl⟩
 clear H2
 go_wp2_with fail
 refine (H3.out _).mono ?_
 rintro e w' ⟨rfl, rfl⟩
 clear H3
 go_wp2_with fail
 refine (HYes.out _).mono ?_
 rintro e w1 ⟨g, rfl, hg1, hg, hb⟩
 have hC := HCa.out (some ⟨g, 0, none⟩) w1 (.inr ⟨g, rfl, hg⟩)
 have HB := hid hb
 have HG := hid hg
 clear HYes HCa hb hg hg1 x0 x1 x2 x3 x4 x5 x6 x7 x8 x9 x10
 obtain ⟨x0, x1, x2, x3, x4, x5, x6, x7, x8, x9, x10⟩ := cells_11 (HM.out w1 HB.out)
 go_wp2_with fail
 refine hC.mono ?_
 rintro e w2 ⟨pc, F, rfl, hca, hF, hb⟩
 have HB2 := hid (HB.out.trans (hb.mono HB.out.size))
 have hF2 : ∀ k, F k → wA.heap.size ≤ k := fun k hk => Nat.le_trans HB.out.size (hF k hk)
 have HG2 := hid (block_below HG.out hb)
 clear x0 x1 x2 x3 x4 x5 x6 x7 x8 x9 x10 hC hb HG
 obtain ⟨x0, x1, x2, x3, x4, x5, x6, x7, x8, x9, x10⟩ := cells_11 (HM.out w2 HB2.out)
 obtain ⟨w3, hw3⟩ : ∃ w3, w3 = w2.alloc (.map #[] 0) := ⟨_, rfl⟩
 have hmk : (Instr.makeMap 71 none).run Tryz.prog w2 = .ok (.map (some w2.heap.size)) w3 := by rw [hw3]; rfl
 obtain ⟨w4, hw4⟩ : ∃ w4, w4 = w3.alloc (.cells #[.pointer (some ⟨g, 0, none⟩), .pointer pc, .int .i64 q, .int .i64 b, .int .i64 ch, .int .u64 1, .bool false, .map (some w2.heap.size), .slice none 0 0, .slice none 0 0] 73) := ⟨_, rfl⟩
 have HR := hid (HEnd.out w2 g HB2.out HG2.out pc F hca hF2 w3 w4 hw3 hw4)
 clear HEnd HM HX HB HB2 HG2 hca hF hF2 hw3
 go_wp2_with fail
 rw [← hw4]
 go_ret2
 exact HR.out
end Go.Proofs.YtjgggialnegddaaGreat
