/-
  The texts EnCons, EnLaw, EnKeep, EnRests of this proof.
-/
import Derived.Test.YtjgggialnegddaaGreatPr49
import Derived.Test.YtjgggialnegddaaGreatPr31
import Derived.Test.YtjgggialnegddaaGreatPr30
import Derived.Test.YtjgggialnegddaaGreatPr33
import Derived.Test.YtjgggialnegddaaGreatPr24
import Derived.Test.YtjgggialnegddaaGreatPr02
set_option linter.unusedVariables false
set_option maxRecDepth 1000000
namespace Go.Proofs.YtjgggialnegddaaGreat
open Go.RowKit Go.Maps
section
variable {w W W' : World} {B mb : Nat} {pm pc : Option Addr} {qv bv : Value} {nd : Int → Nat} {S : Rs} {bs qs : List At} {Fc It : Nat → Prop}
theorem EnI.later (h : EnI W B mb pm pc qv bv nd S bs qs Fc It) {t : Nat} (ht : S.tk ≤ t) : EnI W B mb pm pc qv bv nd { S with tk := t } bs qs Fc It :=
 ⟨⟨h.ok.set, h.ok.inc, h.ok.one, h.ok.few, h.ok.ok⟩, h.bsl, h.qsl, h.L, h.rb, h.rq, h.var, h.md, h.ca.mono (fun k hk => hk) ht, h.map, h.mbc, h.qrow, h.brow, h.qb, h.att, h.itI⟩
theorem EnI.out (h : EnI W B mb pm pc qv bv nd S bs qs Fc It) {v : Value} {ms : List Mg} {ds : List (Option Addr × Nat × Nat)} (hr : MRow w.heap.size W v ms ds It) {F It0 Ex : Nat → Prop} (hF : ∀ k, enF B mb qv bv nd S Fc k → F k ∨ w.heap.size ≤ k) (hI : ∀ k, It k → It0 k ∨ w.heap.size ≤ k) (hb : Fb F w W) : EnO w F It0 Ex (some ⟨B, 0, none⟩) S ms (.returned v) W := by
 obtain ⟨a, cap, rfl, hM⟩ := hr.mgs
 refine ⟨a, cap, _, It, rfl, hM, fun q hq => ?_, h.at, hF, fun k hk => (hI k hk).imp_right .inr, hb⟩
 subst hq
 obtain ⟨h1, cur, h2⟩ := own_kind hr.own (k := q.block) rfl
 exact ⟨h1, h.msgF h2⟩
end
theorem en_arr {F It : Nat → Prop} {p : Option Addr} {S : Rs} (m : Ms) (w : World) (h : EnAt w p S F It) (hm : MsIn w m) (ho : MsOk m) (hF : ∀ k, mJ m.job k → ¬ F k) : Calls Tryz.prog 18 #[.pointer p, .agg (MsV m)] w fun e w' => EnO w F It (mJ m.job) p (arrS S m) (arrM S m) e w' := by
 obtain ⟨B, mb, pm, pc, qv, bv, nd, bs, qs, Fc, rfl, h1, rfl⟩ := h.rest
 refine (earr_any h1 m hm.1 ho).mono ?_
 rintro e w' ⟨v, ds, qv1, bv1, nd1, bs1, qs1, Fc1, It1, rfl, g1, g2, g3, g4, g5⟩
 exact g1.out g2 g3 g4 g5
theorem en_step {F It : Nat → Prop} {p : Option Addr} {S : Rs} (w : World) (h : EnAt w p S F It) (ht : S.tk ≤ 90000) : Calls Tryz.prog 14 #[.pointer p] w fun e w' => ∃ ms S', StepR S ms S' ∧ EnO w F It (fun _ => False) p S' ms e w' := by
 obtain ⟨B, mb, pm, pc, qv, bv, nd, bs, qs, Fc, rfl, h1, rfl⟩ := h.rest
 refine (estep_any h1 (by omega)).mono ?_
 rintro e w' ⟨v, bs1, qs1, ac, cc, ms, rfl, hL, hq, h16, done, ds, qv1, bv1, Fc1, It1, g1, g2, g3, _, _, g4, g5, g6, _⟩
 rw [List.take_length] at g1
 simp only [List.drop_length, List.append_nil] at g2 g4
 refine ⟨ms, { S with L := done ++ qs1, tk := S.tk + 32 }, ⟨done ++ qs1, ?_, rfl⟩, ?_⟩
 ·rw [hL]
  have := tells_app g1 (tells_wait (c := S.s.c) (ch := S.s.ch.toNat) (inc := S.inc) hq)
  rwa [List.append_nil] at this
 ·exact (g2.later (t := S.tk + 32) (by show S.tk + 2 * bs1.length ≤ S.tk + 32; omega)).out g3 g4 g5 g6
theorem en_load {F It : Nat → Prop} {p : Option Addr} {S : Rs} (w : World) (h : EnAt w p S F It) : Calls Tryz.prog 22 #[.pointer p] w fun e w' => e = .returned (.int .i64 S.L.length) ∧ Below w.heap.size w w' := by
 obtain ⟨B, mb, pm, pc, qv, bv, nd, bs, qs, Fc, rfl, h1, rfl⟩ := h.rest
 exact (eload_any h1).mono fun e w' ⟨h1, h2⟩ => ⟨h1, h2 ▸ Below.refl _ _⟩
set_option maxHeartbeats 2000000 in
theorem en_new_no (s : Sg) (w : World) (h : setB s = false) : Calls Tryz.prog 7 #[.agg (SgV s)] w fun e w' => e = .returned (.tuple #[.pointer none, .int .i64 1]) ∧ Below w.heap.size w w' := by
 obtain ⟨wA, hwA⟩ : ∃ wA, wA = w.alloc (.cells (SgV s) 32) := ⟨_, rfl⟩
 have hbA : Below w.heap.size w wA := by rw [hwA]; exact (Below.refl _ _).alloc (Nat.le_refl _) _
 have hA : wA.heap[w.heap.size]? = some (.cells (SgV s) 32 (0, 0)) := by rw [hwA]; exact heap_alloc_new w _
 have HX : Hid (∀ W : World, Below wA.heap.size wA W → Below w.heap.size w W) := fun W hb => hbA.trans (hb.mono hbA.size)
 have HM := hid fun (W : World) (hb : Below wA.heap.size wA W) => block_bel hA hb
 have H1 := hid fun (W : World) => ebtw_any s.q 64 W
 have H2 := hid fun (W : World) => ebtw_any s.b 16 W
 have H3 := hid fun (W : World) => ebtw_any s.ch 16 W
 have HNo := hid fun (W : World) (hc : mayB s.c = false) => new_no s.c W hc
 have HYes := hid fun (W : World) (hc : mayB s.c = true) => new_yes s.c W hc
 have HCa := hid fun (p : Option Addr) (W : World) (hp : MdAt W p s.c) (hc : mayB s.c = true) (h0 : ¬ s.pg = 0) (hn : s.pg < 1 ∨ 256 < s.pg ∨ s.sz < 1 ∨ 16 < s.sz) => encache_no p s W hp hc h0 hn
 have HS : Hid (setB s = false) := h
 clear h hbA
 unfold setB at HS
 obtain ⟨⟨sd, vo, di, la, tp, he⟩, q, b, pg, sz, ch⟩ := s
 unfold SgV at hA hwA HM
 obtain ⟨x0, x1, x2, x3, x4, x5, x6, x7, x8, x9, x10⟩ := cells_11 hA
 simp only at *
 obtain ⟨mx, hmx⟩ : ∃ mx, w.heap.size = mx := ⟨_, rfl⟩
 generalize hb1 : btw q 1 64 = b1 at *
 generalize hb2 : btw b 1 16 = b2 at *
 generalize hb3 : btw ch 1 16 = b3 at *
 clear hA hmx hb1 hb2 hb3
 unfold CfV SgV at *
 simp only at *
 go_enter Tryz.func7, Tryz.ntmps7
 rw [hwA] at x0 x1 x2 x3 x4 x5 x6 x7 x8 x9 x10
 go_wp2_with fail
 rw [← hwA]
 rw [← hwA] at x0 x1 x2 x3 x4 x5 x6 x7 x8 x9 x10
 clear hwA
 refine (H1.out _).mono ?_
 rintro e w' ⟨rfl, rfl⟩
 clear H1
 cases b1 with
 | false =>
  clear H2 H3 HNo HYes HCa HS HM
  go_wp2
  go_ret2
  exact ⟨rfl, HX.out _ (Below.refl _ _)⟩
 | true =>
 go_wp2_with fail
 refine (H2.out _).mono ?_
 rintro e w' ⟨rfl, rfl⟩
 clear H2
 cases b2 with
 | false =>
  clear H3 HNo HYes HCa HS HM
  go_wp2
  go_ret2
  exact ⟨rfl, HX.out _ (Below.refl _ _)⟩
 | true =>
 go_wp2_with fail
 refine (H3.out _).mono ?_
 rintro e w' ⟨rfl, rfl⟩
 clear H3
 cases b3 with
 | false =>
  clear HNo HYes HCa HS HM
  go_wp2
  go_ret2
  exact ⟨rfl, HX.out _ (Below.refl _ _)⟩
 | true =>
 go_wp2_with fail
 cases hmay : mayB ⟨sd, vo, di, la, tp, he⟩ with
 | false =>
  refine (HNo.out _ hmay).mono ?_
  rintro e w1 ⟨rfl, hb⟩
  have HB := hid (HX.out _ hb)
  clear HNo HYes HCa HS HM hb HX hmay
  go_wp2
  go_ret2
  exact ⟨rfl, HB.out⟩
 | true =>
  refine (HYes.out _ hmay).mono ?_
  rintro e w1 ⟨g, rfl, hg1, hg, hb⟩
  rw [hmay] at HS
  have hS := HS.out
  simp only [Bool.true_and, Bool.or_eq_false_iff, decide_eq_false_iff_not] at hS
  obtain ⟨k1, k2⟩ := hS
  have hC := HCa.out (some ⟨g, 0, none⟩) w1 (.inr ⟨g, rfl, hg⟩) hmay k1 (by unfold btw at k2; simp only [Bool.and_eq_false_iff, decide_eq_false_iff_not] at k2; omega)
  have HB := hid hb
  clear HNo HYes HCa HS hb k1 k2 hmay hg hg1 x0 x1 x2 x3 x4 x5 x6 x7 x8 x9 x10
  obtain ⟨x0, x1, x2, x3, x4, x5, x6, x7, x8, x9, x10⟩ := cells_11 (HM.out w1 HB.out)
  clear HM
  go_wp2_with fail
  refine hC.mono ?_
  rintro e w2 ⟨rfl, hb⟩
  have HB2 := hid (HX.out _ (HB.out.trans (hb.mono HB.out.size)))
  clear hC hb HX HB
  go_wp2
  go_ret2
  exact ⟨rfl, HB2.out⟩
set_option maxHeartbeats 2000000 in
theorem en_new_yes (s : Sg) (w : World) (h : setB s = true) : Calls Tryz.prog 7 #[.agg (SgV s)] w fun e w' => ∃ g F It, e = .returned (.tuple #[.pointer (some ⟨g, 0, none⟩), .int .i64 0]) ∧ EnAt w' (some ⟨g, 0, none⟩) ⟨s, 1, false, [], 0⟩ F It ∧ (∀ k, F k → w.heap.size ≤ k) ∧ (∀ k, It k → w.heap.size ≤ k) ∧ Below w.heap.size w w' := by
 obtain ⟨wA, hwA⟩ : ∃ wA, wA = w.alloc (.cells (SgV s) 32) := ⟨_, rfl⟩
 have hbA : Below w.heap.size w wA := by rw [hwA]; exact (Below.refl _ _).alloc (Nat.le_refl _) _
 have hA : wA.heap[w.heap.size]? = some (.cells (SgV s) 32 (0, 0)) := by rw [hwA]; exact heap_alloc_new w _
 have HX : Hid (∀ W : World, Below wA.heap.size wA W → Below w.heap.size w W) := fun W hb => hbA.trans (hb.mono hbA.size)
 have HM := hid fun (W : World) (hb : Below wA.heap.size wA W) => block_bel hA hb
 have H1 := hid fun (W : World) => ebtw_any s.q 64 W
 have H2 := hid fun (W : World) => ebtw_any s.b 16 W
 have H3 := hid fun (W : World) => ebtw_any s.ch 16 W
 have hs2 := h
 unfold setB at hs2
 simp only [Bool.and_eq_true, Bool.or_eq_true, decide_eq_true_eq] at hs2
 obtain ⟨hmay, e1, e2, e3, e4⟩ := hs2
 rw [e1] at H1
 rw [e2] at H2
 rw [e3] at H3
 have HYes := hid fun (W : World) => new_yes s.c W hmay
 have HCa := hid fun (p : Option Addr) (W : World) (hp : MdAt W p s.c) => encache_yes p s W hp hmay (by unfold btw at e4; simp only [Bool.and_eq_true, decide_eq_true_eq] at e4; omega)
 have HEnd := hid fun (W : World) (g : Nat) (hb : Below wA.heap.size wA W) (hg : W.heap[g]? = some (.cells (CfV s.c) 100 (0, 0))) (pc : Option Addr) (F : Nat → Prop) (hc : CaAt W pc s 0 F (fun _ => False)) (hF : ∀ k, F k → wA.heap.size ≤ k) (w1 w2 : World) (h1 : w1 = W.alloc (.map #[] 0)) (h2 : w2 = w1.alloc (.cells (RpV (some ⟨g, 0, none⟩) pc ⟨s, 1, false, [], 0⟩ W.heap.size (.slice none 0 0) (.slice none 0 0)) 73)) =>
  show ∃ g F It, Ending.returned (.tuple #[.pointer (some ⟨w1.heap.size, 0, none⟩), .int .i64 0]) = .returned (.tuple #[.pointer (some ⟨g, 0, none⟩), .int .i64 0]) ∧ EnAt w2 (some ⟨g, 0, none⟩) ⟨s, 1, false, [], 0⟩ F It ∧ (∀ k, F k → w.heap.size ≤ k) ∧ (∀ k, It k → w.heap.size ≤ k) ∧ Below w.heap.size w w2 by
   obtain ⟨g1, g2, g3⟩ := en_new h hg hc h1 h2
   exact ⟨_, _, _, rfl, g1.at, fun k hk => (g2 k hk).elim (fun h' => Nat.le_trans hbA.size (hF k h')) (fun h' => Nat.le_trans (HX.out W hb).size h'), (fun k hk => hk.elim), HX.out _ (hb.trans (g3.mono hb.size))⟩
 clear h hbA hmay e1 e2 e3 e4
 unfold RpV at HEnd
 obtain ⟨⟨sd, vo, di, la, tp, he⟩, q, b, pg, sz, ch⟩ := s
 unfold SgV at hA hwA HM
 obtain ⟨x0, x1, x2, x3, x4, x5, x6, x7, x8, x9, x10⟩ := cells_11 hA
 simp only at *
 obtain ⟨mx, hmx⟩ : ∃ mx, w.heap.size = mx := ⟨_, rfl⟩
 clear hA hmx
 unfold CfV SgV at *
 simp only at *
 go_enter Tryz.func7, Tryz.ntmps7
 rw [hwA] at x0 x1 x2 x3 x4 x5 x6 x7 x8 x9 x10
 go_wp2_with fail
 rw [← hwA]
 rw [← hwA] at x0 x1 x2 x3 x4 x5 x6 x7 x8 x9 x10
 clear hwA
 refine (H1.out _).mono ?_
 rintro e w' ⟨rfl, rfl⟩
 clear H1
 go_wp2_with fail
 refine (H2.out _).mono ?_
 rintro e w' ⟨rfl, rfl⟩
 clear H2
 go_wp2_with fail
 refine (H3.out _).mono ?_
 rintro e w' ⟨rfl, rfl⟩
 clear H3
 go_wp2_with fail
 refine (HYes.out _).mono ?_
 rintro e w1 ⟨g, rfl, hg1, hg, hb⟩
 have hC := HCa.out (some ⟨g, 0, none⟩) w1 (.inr ⟨g, rfl, hg⟩)
 have HB := hid hb
 have HG := hid hg
 clear HYes HCa hb hg hg1 x0 x1 x2 x3 x4 x5 x6 x7 x8 x9 x10
 obtain ⟨x0, x1, x2, x3, x4, x5, x6, x7, x8, x9, x10⟩ := cells_11 (HM.out w1 HB.out)
 go_wp2_with fail
 refine hC.mono ?_
 rintro e w2 ⟨pc, F, rfl, hca, hF, hb⟩
 have HB2 := hid (HB.out.trans (hb.mono HB.out.size))
 have hF2 : ∀ k, F k → wA.heap.size ≤ k := fun k hk => Nat.le_trans HB.out.size (hF k hk)
 have HG2 := hid (block_below HG.out hb)
 clear x0 x1 x2 x3 x4 x5 x6 x7 x8 x9 x10 hC hb HG
 obtain ⟨x0, x1, x2, x3, x4, x5, x6, x7, x8, x9, x10⟩ := cells_11 (HM.out w2 HB2.out)
 obtain ⟨w3, hw3⟩ : ∃ w3, w3 = w2.alloc (.map #[] 0) := ⟨_, rfl⟩
 have hmk : (Instr.makeMap 71 none).run Tryz.prog w2 = .ok (.map (some w2.heap.size)) w3 := by rw [hw3]; rfl
 obtain ⟨w4, hw4⟩ : ∃ w4, w4 = w3.alloc (.cells #[.pointer (some ⟨g, 0, none⟩), .pointer pc, .int .i64 q, .int .i64 b, .int .i64 ch, .int .u64 1, .bool false, .map (some w2.heap.size), .slice none 0 0, .slice none 0 0] 73) := ⟨_, rfl⟩
 have HR := hid (HEnd.out w2 g HB2.out HG2.out pc F hca hF2 w3 w4 hw3 hw4)
 clear HEnd HM HX HB HB2 HG2 hca hF hF2 hw3
 go_wp2_with fail
 rw [← hw4]
 go_ret2
 exact HR.out
end Go.Proofs.YtjgggialnegddaaGreat
namespace Go.Proofs.YtjgggialnegddaaGreat
open Go.RowKit
theorem us15_ok : setB us15 = true := by decide
def jb0 : Jb := ⟨0, none, 0, 0, [], 0⟩
def am1 : Ms := ⟨10, 0, 0, 0, 0, 7, 0, 0, jb0, none, 0, 0, []⟩
def am2 (b : Nat) : Ms := ⟨6, 0, 0, 3, 1, 0, 0, 0, ⟨0, some ⟨b, 0, none⟩, 1, 1, [9], 0⟩, none, 0, 0, []⟩
def am3 : Ms := ⟨6, 0, 0, 3, 1, 0, 0, 0, jb0, none, 0, 0, []⟩
theorem am_ok1 : MsOk am1 := by constructor <;> (unfold am1 jb0; simp [isU, isI])
theorem am_ok2 (b : Nat) : MsOk (am2 b) := by constructor <;> (unfold am2; simp [isU, isI])
theorem am_ok3 : MsOk am3 := by constructor <;> (unfold am3 jb0; simp [isU, isI])
def rs0 : Rs := ⟨us15, 1, false, [], 0⟩
def rs3 : Rs := ⟨us15, 1, false, [⟨3, 0, [], 0, 0, false⟩], 0⟩
theorem am1_m : arrM rs0 am1 = [poM 7 1 0] := by rfl
theorem am1_s : arrS rs0 am1 = rs0 := rfl
theorem am2_m (b : Nat) : arrM rs0 (am2 b) = [ovM 3 1 0 2] := by rfl
theorem am2_s (b : Nat) : arrS rs0 (am2 b) = rs0 := by rfl
theorem am3_m : arrM rs0 am3 = [] := by rfl
theorem am3_s : arrS rs0 am3 = rs3 := by rfl
theorem rs3_step {S' : Rs} {ms : List Mg} (h : StepR rs3 ms S') : ms = [ovM 3 1 0 1] ∧ S' = ⟨us15, 1, false, [], 32⟩ := by
 have ht : At.text us15.c ⟨3, 0, [], 0, 0, false⟩ = [] := rfl
 obtain ⟨told, e1, e2⟩ := step_one (a := ⟨3, 0, [], 0, 0, false⟩) h rfl (by decide) (by simp)
 rw [show rs3.s.c = us15.c from rfl, ht] at e1
 simp at e1
 subst e1
 rcases e2 with ⟨e2, _⟩ | ⟨_, e3, e4⟩
 ·exact absurd e2 (by decide)
 ·exact ⟨by rw [e3]; rfl, e4⟩
theorem msin_none (w : World) (kd st se ate ic n ct wh sd mo : Int) : MsIn w ⟨kd, st, se, ate, ic, n, ct, wh, ⟨sd, none, 0, 0, [], mo⟩, none, 0, 0, []⟩ := ⟨Reads.nil _ _, Reads.nil _ _⟩
set_option maxHeartbeats 4000000 in
theorem alive15_any (w : World) : Calls Tryz.prog 11 #[] w fun e w' => e = .returned (.bool true) ∧ Below w.heap.size w w' := by
 have HA1 := hid fun (p : Option Addr) (F It : Nat → Prop) (W : World) (h : EnAt W p rs0 F It) => en_arr am1 W h (msin_none _ _ _ _ _ _ _ _ _ _ _) am_ok1 (fun k hk => by obtain ⟨_, a, e, _⟩ := hk; cases e)
 have HA2 := hid fun (p : Option Addr) (F It : Nat → Prop) (b : Nat) (W : World) (h : EnAt W p rs0 F It) (hr : Reads .i64 W (some ⟨b, 0, none⟩) 1 1 [9]) (hF : ¬ F b) => en_arr (am2 b) W h ⟨hr, Reads.nil _ _⟩ (am_ok2 b) (fun k hk => by obtain ⟨_, a, e, rfl⟩ := hk; cases e; exact hF)
 have HA3 := hid fun (p : Option Addr) (F It : Nat → Prop) (W : World) (h : EnAt W p rs0 F It) => en_arr am3 W h (msin_none _ _ _ _ _ _ _ _ _ _ _) am_ok3 (fun k hk => by obtain ⟨_, a, e, _⟩ := hk; cases e)
 simp only [am1_m, am1_s, am2_m, am2_s, am3_m, am3_s, EnO, List.length_singleton, List.length_nil] at HA1 HA2 HA3
 unfold MsV am1 jb0 at HA1
 unfold MsV am2 at HA2
 unfold MsV am3 jb0 at HA3
 simp only at HA1 HA2 HA3
 go_enter Tryz.func11, Tryz.ntmps11
 go_wp2_with fail
 refine (usual_any w).mono ?_
 rintro e w1 ⟨rfl, hb⟩
 have HU := hid hb
 clear hb
 go_wp2_with fail
 refine (theirSet_any us15 w1).mono ?_
 rintro e w2 ⟨rfl, hb⟩
 replace HU := hid (HU.out.trans (hb.mono HU.out.size))
 clear hb
 go_wp2_with fail
 refine (en_new_yes us15 w2 us15_ok).mono ?_
 rintro e w3 ⟨g, F, It, rfl, hE, hF, hI, hb⟩
 have HF : Hid (∀ k, F k → w.heap.size ≤ k) := fun k hk => Nat.le_trans HU.out.size (hF k hk)
 have HE := hid hE
 replace HU := hid (HU.out.trans (hb.mono HU.out.size))
 have hA1 := HA1.out _ F It w3 hE
 clear hE hF hI hb HA1
 go_wp2_with fail
 refine hA1.mono ?_
 rintro e w4 ⟨a1, c1, F1, It1, rfl, hM, hO, hE, hF, hI, hb⟩
 obtain ⟨b1, o1, la1, ll1, lc1, ea1, _, _, k0, _, _, _, _, k5, _⟩ := hM.at (i := 0) (by decide)
 subst ea1
 have n1 : ¬ F1 b1 := (hO _ rfl).2
 have s1 := hM.room
 have s2 := hM.most
 have hbl1 : b1 < w4.heap.size := World.block_lt_of_cell? _ _ k0
 have K0 := hid k0
 have K5 := hid k5
 have N1 := hid n1
 have HE4 := hid hE
 have HF4 : Hid (∀ k, F1 k → w.heap.size ≤ k) := fun k hk => (hF k hk).elim (HF.out k) fun h' => Nat.le_trans HU.out.size h'
 replace HU := hid (HU.out.trans (hb.to HF.out HU.out.size))
 clear hM hO hE hF hI hb hA1 n1 k0 k5 HF HE
 have hAl : Below w4.heap.size w4 (w4.alloc (.cells #[.int .i64 9] 3)) := (Below.refl _ _).alloc (Nat.le_refl _) _
 have hr9 : Reads .i64 (w4.alloc (.cells #[.int .i64 9] 3)) (some ⟨w4.heap.size, 0, none⟩) 1 1 [9] := Reads.one _ _ _
 have hA2 := HA2.out _ F1 It1 w4.heap.size _ (HE4.out.below hAl) hr9 (fun hf => by have := HE4.out.old _ hf; omega)
 have HAl := hid hAl
 clear hAl hr9 HA2
 go_wp2_with fail
 refine hA2.mono ?_
 rintro e w5 ⟨a2, c2, F2, It2, rfl, hM, hO, hE, hF, hI, hb⟩
 obtain ⟨b2, o2, la2, ll2, lc2, ea2, _, _, _, _, _, _, _, _, _, k7, _⟩ := hM.at (i := 0) (by decide)
 subst ea2
 have s3 := hM.room
 have s4 := hM.most
 have hsz : w4.heap.size ≤ (w4.alloc (.cells #[.int .i64 9] 3)).heap.size := HAl.out.size
 have hno : ∀ x, x < w4.heap.size → ¬ F1 x → ¬ F2 x := fun x hx h1 h2 => by
  rcases hF x h2 with h' | h'
  ·exact h1 h'
  ·omega
 have n1 : ¬ F2 b1 := hno b1 hbl1 N1.out
 replace K0 := hid (hb.cell ((HAl.out.cell hbl1).trans K0.out) N1.out)
 replace K5 := hid (hb.cell ((HAl.out.cell hbl1).trans K5.out) N1.out)
 replace N1 := hid n1
 have N2 : Hid (¬ F2 b2) := (hO _ rfl).2
 have hbl2 : b2 < w5.heap.size := World.block_lt_of_cell? _ _ k7
 have hbl1' : b1 < w5.heap.size := Nat.lt_of_lt_of_le hbl1 (Nat.le_trans hsz hb.size)
 have K7 := hid k7
 have HF5 : Hid (∀ k, F2 k → w.heap.size ≤ k) := fun k hk => (hF k hk).elim (HF4.out k) fun h' => Nat.le_trans (Nat.le_trans HU.out.size hsz) h'
 replace HU := hid ((HU.out.trans (HAl.out.mono HU.out.size)).trans (hb.to HF4.out (Nat.le_trans HU.out.size hsz)))
 have hA3 := HA3.out _ F2 It2 w5 hE
 clear hM hO hE hF hI hb hA2 n1 k7 HF4 HE4 HAl hno hbl1 HA3 hsz
 go_wp2_with fail
 refine hA3.mono ?_
 rintro e w6 ⟨a3, c3, F3, It3, rfl, hM, hO, hE, hF, hI, hb⟩
 have s5 := hM.room
 have s6 := hM.most
 have hno : ∀ x, x < w5.heap.size → ¬ F2 x → ¬ F3 x := fun x hx h1 h2 => by
  rcases hF x h2 with h' | h'
  ·exact h1 h'
  ·omega
 replace K0 := hid (hb.cell K0.out N1.out)
 replace K5 := hid (hb.cell K5.out N1.out)
 replace K7 := hid (hb.cell K7.out N2.out)
 replace N1 := hid (hno b1 hbl1' N1.out)
 replace N2 := hid (hno b2 hbl2 N2.out)
 have HF6 : Hid (∀ k, F3 k → w.heap.size ≤ k) := fun k hk => (hF k hk).elim (HF5.out k) fun h' => Nat.le_trans HU.out.size h'
 replace HU := hid (HU.out.trans (hb.to HF5.out HU.out.size))
 have hSt := en_step w6 hE (show rs3.tk ≤ 90000 by decide)
 clear hM hO hE hF hI hb hA3 HF5 hno hbl1' hbl2
 go_wp2_with fail
 refine hSt.mono ?_
 rintro e w7 ⟨ms, S', hR, a4, c4, F4, It4, rfl, hM, hO, hE, hF, hI, hb⟩
 obtain ⟨rfl, rfl⟩ := rs3_step hR
 obtain ⟨b4, o4, la4, ll4, lc4, ea4, _, _, _, _, _, _, _, _, _, x7, _⟩ := hM.at (i := 0) (by decide)
 subst ea4
 have s7 := hM.room
 have s8 := hM.most
 have x0 := hb.cell K0.out N1.out
 have x5 := hb.cell K5.out N1.out
 have y7 := hb.cell K7.out N2.out
 replace HU := hid (HU.out.trans (hb.to HF6.out HU.out.size))
 have hLd := en_load w7 hE
 simp only [Nat.zero_mul, Nat.add_zero, List.getElem_cons_zero, poM, ovM] at x0 x5 x7 y7
 simp only [List.length_singleton]
 clear hM hO hE hF hI hb hSt hR K0 K5 K7 N1 N2 HF6
 go_wp2_with fail
 refine hLd.mono ?_
 rintro e w8 ⟨rfl, hb⟩
 have HZ := hid (HU.out.trans (hb.mono HU.out.size))
 clear hb hLd HU
 go_wp2
 go_ret
 exact ⟨rfl, HZ.out⟩
end Go.Proofs.YtjgggialnegddaaGreat
namespace Go.Proofs.YtjgggialnegddaaGreat
open Go.RowKit
theorem MgsAt.fb {lo : Nat} {W W' : World} {a : Option Addr} {len cap : Nat} {ms : List Mg} (h : MgsAt lo W a len cap ms) (ha : ∀ q, a = some q → lo ≤ q.block) (hk : ∀ k, lo ≤ k → k < W.heap.size → W'.heap[k]? = W.heap[k]?) : MgsAt lo W' a len cap ms :=
 ⟨h.size, h.room, h.most, h.bare, fun i hi => by
  obtain ⟨b, off, la, ll, lc, h1, h2, h3, h4⟩ := h.cell i hi
  have hlo := ha _ h1
  refine ⟨b, off, la, ll, lc, h1, fun j hj => ?_, ?_, h4⟩
  ·have h5 := h2 j hj
   have hsz : j < (MgC ms[i] la ll lc).size := hj
   obtain ⟨v, hv⟩ : ∃ v, (MgC ms[i] la ll lc)[j]? = some v := ⟨_, Array.getElem?_eq_getElem hsz⟩
   rw [hv] at h5
   have hb : W'.heap[b]? = W.heap[b]? := hk b hlo (World.block_lt_of_cell? _ _ h5)
   rw [← h2 j hj]
   unfold World.cell?
   rw [hb]
  ·by_cases h0 : ll = 0
   ·exact ⟨h3.size, h3.room, h3.most, h3.bare, fun i hi => by omega⟩
   ·refine h3.blk fun p hp => hk _ (h4 p hp) ?_
    obtain ⟨b', off', e1, e2⟩ := h3.cell 0 (by omega)
    rw [e1] at hp
    cases hp
    exact World.block_lt_of_cell? _ _ e2⟩
theorem EnAt.but {W W' : World} {p : Option Addr} {S : Rs} {F It : Nat → Prop} {G : Nat → Prop} (h : EnAt W p S F It) (hb : Fb G W W') (hG : ∀ k, G k → ¬ F k ∧ ¬ It k ∧ ∀ cur t fz, W.heap[k]? = some (.cells cur t fz) → t = 3) : EnAt W' p S F It :=
 h.keep hb.size (fun k hk => hb.block k (h.old k hk) fun hg => (hG k hg).1 hk) (fun k hk => hb.block k (h.oldI k hk) fun hg => (hG k hg).2.1 hk) (KpL.fb hb fun k cur t fz hf hc ho => by
  have := (hG k hf).2.2 cur t fz hc
  subst this
  revert ho
  decide)
end Go.Proofs.YtjgggialnegddaaGreat
namespace Go.Proofs.YtjgggialnegddaaGreat
open Go.RowKit
def ob (v : Value) (k : Nat) : Prop := v.ownBlock = some k
theorem fb_grown {W W' : World} {v : Value} (h : W.grownBy W' v.ownBlock) : Fb (ob v) W W' := ⟨h.os, h.tape, h.output, h.size, fun k hk hn => h.block k hk fun e => hn e.symm⟩
theorem own_ty {W : World} {base e n : Nat} {v : Value} {xs : List Value} (h : W.ownsRow base e 1 v n xs) {k : Nat} (hk : ob v k) : base ≤ k ∧ k < W.heap.size ∧ ∀ cur t fz, W.heap[k]? = some (.cells cur t fz) → t = e := by
 rcases id h.2 with ⟨rfl, _⟩ | ⟨g, cap, cur, rfl, hb, hg, _⟩
 ·cases hk
 ·cases hk
  refine ⟨hb, lt_of_block hg, fun cur' t fz h' => ?_⟩
  rw [hg] at h'
  cases h'
  rfl
def RsI (wT : World) (F0 : Nat → Prop) (p : Option Addr) (s : Sg) (t0 : Nat) (i : Int) (text : List Int) (r ov : Nat) (v : Value) (W : World) : Prop :=
 ∃ S got F It, RestI s t0 i text r S ov got ∧ EnAt W p S F It ∧ (∀ k, F k → F0 k ∨ wT.heap.size ≤ k) ∧ Fb F0 wT W ∧ W.ownsRow wT.heap.size 3 1 v got.length (got.map (Value.int .i64)) ∧ ∀ k, ob v k → ¬ F k ∧ ¬ It k
def RsL (wT : World) (F0 : Nat → Prop) (p : Option Addr) (s : Sg) (t0 : Nat) (i : Int) (text : List Int) (r : Nat) (a : Option Addr) (cap : Nat) (ms : List Mg) (q ov : Nat) (v : Value) (W : World) : Prop :=
 ∃ S' F' It' lo wS v0 got0 ov0, okM i text.length got0 ov0 ms ∧ RestI s t0 i text r S' (endO ov0 ms) (endG got0 ms) ∧ EnAt wS p S' F' It' ∧ (∀ k, F' k → F0 k ∨ wT.heap.size ≤ k) ∧ Fb F0 wT wS ∧ MgsAt lo wS a ms.length cap ms ∧ (∀ z, a = some z → lo ≤ z.block) ∧
  (∀ k, ob v0 k → wT.heap.size ≤ k ∧ k < lo ∧ lo ≤ wS.heap.size ∧ ¬ F' k ∧ ¬ It' k ∧ ∀ cur t fz, wS.heap[k]? = some (.cells cur t fz) → t = 3) ∧
  Fb (ob v0) wS W ∧ (∀ k, ob v k → ob v0 k ∨ wS.heap.size ≤ k) ∧ ov = endO ov0 (ms.take q) ∧ W.ownsRow wT.heap.size 3 1 v (endG got0 (ms.take q)).length ((endG got0 (ms.take q)).map (Value.int .i64))
theorem rs_step {wT W : World} {F0 : Nat → Prop} {p : Option Addr} {s : Sg} {t0 : Nat} {i : Int} {text : List Int} {r ov : Nat} {v : Value} (hs : setB s = true) (ht : t0 + 32 * r ≤ 90000) (h : RsI wT F0 p s t0 i text r ov v W) :
  Calls Tryz.prog 14 #[.pointer p] W fun e w' => ∃ a cap ms, e = .returned (.slice a ms.length cap) ∧ ms.length ≤ cap ∧ cap ≤ 9223372036854775807 ∧ RsL wT F0 p s t0 i text (r + 1) a cap ms 0 ov v w' := by
 obtain ⟨S, got, F, It, hR, hE, hF, hb, hO, hv⟩ := h
 refine (en_step W hE (by have := hR.2.2.2.1; omega)).mono ?_
 rintro e w' ⟨ms, S', hS, a, cap, F', It', rfl, hM, ha, hE', hF', hI', hb'⟩
 obtain ⟨k1, k2⟩ := rest_step hs hR hS
 have hob : ∀ k, ob v k → wT.heap.size ≤ k ∧ k < W.heap.size ∧ ¬ F' k ∧ ¬ It' k := fun k hk => by
  obtain ⟨t1, t2, _⟩ := own_ty hO hk
  obtain ⟨n1, n2⟩ := hv k hk
  refine ⟨t1, t2, fun hf => ?_, fun hf => ?_⟩
  ·rcases hF' k hf with h' | h'
   ·exact n1 h'
   ·omega
  ·rcases hI' k hf with h' | h' | h'
   ·exact n2 h'
   ·exact h'
   ·omega
 have hO' : w'.ownsRow wT.heap.size 3 1 v got.length (got.map (Value.int .i64)) := by
  refine ⟨hO.1, ?_⟩
  rcases id hO.2 with h' | ⟨g, c, cur, e, h1, h2, h3⟩
  ·exact .inl h'
  ·exact .inr ⟨g, c, cur, e, h1, hb'.one h2 (hv g (by rw [e]; rfl)).1, h3⟩
 refine ⟨a, cap, ms, rfl, hM.room, hM.most, S', F', It', W.heap.size, w', v, got, ov, k1, k2, hE', fun k hk => ?_, hb.trans hb' hF, hM, fun z hz => (ha z hz).1, fun k hk => ?_, Fb.refl _ _, fun k hk => .inl hk, rfl, hO'⟩
 ·rcases hF' k hk with h' | h'
  ·exact hF k h'
  ·exact .inr (Nat.le_trans hb.size h')
 ·obtain ⟨t1, t2, t3, t4⟩ := hob k hk
  exact ⟨t1, t2, hb'.size, t3, t4, (own_ty hO' hk).2.2⟩
theorem RsL.at {wT W : World} {F0 : Nat → Prop} {p : Option Addr} {s : Sg} {t0 : Nat} {i : Int} {text : List Int} {r q ov cap : Nat} {a : Option Addr} {ms : List Mg} {v : Value} (h : RsL wT F0 p s t0 i text r a cap ms q ov v W) (hq : q < ms.length) :
  ov = 0 ∧ ∃ b off la ll lc kd n y z got, a = some ⟨b, off, none⟩ ∧ (kd = 8 ∨ kd = 9) ∧ (kd = 8 → n = (got.length : Int)) ∧ (kd = 9 → y = 1 ∧ n = (text.length : Int)) ∧ Reads .i64 W la ll lc z ∧ (got ++ z).length ≤ text.length ∧ W.ownsRow wT.heap.size 3 1 v got.length (got.map (Value.int .i64)) ∧
  (∃ cn : Int, W.cell? ⟨b, off + q * 12 + 0, none⟩ = some (.int .i64 kd) ∧ W.cell? ⟨b, off + q * 12 + 1, none⟩ = some (.int .u64 0) ∧ W.cell? ⟨b, off + q * 12 + 2, none⟩ = some (.int .u64 0) ∧ W.cell? ⟨b, off + q * 12 + 3, none⟩ = some (.int .u64 i) ∧ W.cell? ⟨b, off + q * 12 + 4, none⟩ = some (.int .u64 1) ∧ W.cell? ⟨b, off + q * 12 + 5, none⟩ = some (.int .u64 n) ∧ W.cell? ⟨b, off + q * 12 + 6, none⟩ = some (.int .u64 cn) ∧ W.cell? ⟨b, off + q * 12 + 7, none⟩ = some (.int .i64 y) ∧ W.cell? ⟨b, off + q * 12 + 8, none⟩ = some (.int .u64 0) ∧ W.cell? ⟨b, off + q * 12 + 9, none⟩ = some (.slice none 0 0) ∧ W.cell? ⟨b, off + q * 12 + 10, none⟩ = some (.int .i64 0) ∧ W.cell? ⟨b, off + q * 12 + 11, none⟩ = some (.slice la ll lc)) ∧
  ∀ (v' : Value) (W1 W' : World), Below W.heap.size W W1 → W1.grownBy W' v.ownBlock → Moved W1 v v' → W'.ownsRow wT.heap.size 3 1 v' (got ++ z).length ((got ++ z).map (Value.int .i64)) → RsL wT F0 p s t0 i text r a cap ms (q + 1) (if kd = 9 then 1 else 0) v' W' := by
 obtain ⟨S', F', It', lo, wS, v0, got0, ov0, h1, h2, h3, h4, h5, h6, h7, h8, h9, h10, h11, h12⟩ := h
 obtain ⟨m1, m2, m3, m4, m5, m6⟩ := okM_at h1 q hq
 have hM : MgsAt lo W a ms.length cap ms := h6.fb h7 fun k hk hlt => h9.block k hlt fun hv => by have := (h8 k hv).2.1; omega
 obtain ⟨b, off, la, ll, lc, ea, hr, _, c0, c1, c2, c3, c4, c5, c6, c7, c8, c9, c10, c11⟩ := hM.at hq
 rw [m2] at c3
 rw [m3] at c4
 have ht : ms.take (q + 1) = ms.take q ++ [ms[q]] := List.take_succ_eq_append_getElem hq
 have hg : endG got0 (ms.take (q + 1)) = endG got0 (ms.take q) ++ ms[q].li := by rw [ht, endG_snoc]
 have hl : (endG got0 (ms.take q) ++ ms[q].li).length ≤ text.length := by rw [← hg]; exact Nat.le_trans (endG_le _ _ _) h2.len
 refine ⟨h11.trans m5, b, off, la, ll, lc, ms[q].kind, ms[q].n, ms[q].why, ms[q].li, endG got0 (ms.take q), ea, m1, m4, m6, hr, hl, h12, ⟨_, c0, c1, c2, c3, c4, c5, c6, c7, c8, c9, c10, c11⟩, fun v' W1 W' hb hgr hmv hO => ?_⟩
 refine ⟨S', F', It', lo, wS, v0, got0, ov0, h1, h2, h3, h4, h5, h6, h7, h8, ?_, fun k hk => ?_, ?_, by rw [hg]; exact hO⟩
 ·exact (h9.below hb).trans (fb_grown hgr) fun x hx => (h10 x hx)
 ·rcases hmv with e | ⟨o, e, hle⟩
  ·exact h10 k (by unfold ob at *; rw [← e]; exact hk)
  ·right
   unfold ob at hk
   rw [e] at hk
   cases hk
   exact Nat.le_trans (h9.below hb).size hle
 ·rw [ht, endO_snoc]
theorem RsL.done {wT W : World} {F0 : Nat → Prop} {p : Option Addr} {s : Sg} {t0 : Nat} {i : Int} {text : List Int} {r ov cap : Nat} {a : Option Addr} {ms : List Mg} {v : Value} (h : RsL wT F0 p s t0 i text r a cap ms ms.length ov v W) : RsI wT F0 p s t0 i text r ov v W := by
 obtain ⟨S', F', It', lo, wS, v0, got0, ov0, h1, h2, h3, h4, h5, h6, h7, h8, h9, h10, rfl, h12⟩ := h
 rw [List.take_length] at h12 ⊢
 refine ⟨S', _, F', It', h2, h3.but h9 fun k hk => ⟨(h8 k hk).2.2.2.1, (h8 k hk).2.2.2.2.1, (h8 k hk).2.2.2.2.2⟩, h4, h5.trans h9 fun x hx => .inr (h8 x hx).1, h12, fun k hk => ?_⟩
 rcases h10 k hk with h' | h'
 ·exact ⟨(h8 k h').2.2.2.1, (h8 k h').2.2.2.2.1⟩
 ·exact ⟨fun hf => by have := h3.old k hf; omega, fun hf => by have := h3.oldI k hf; omega⟩
theorem stM_ok {i n : Int} {j : Jb} (hi : isU i) (hn : isU n) (hsd : isU j.seed) (hmo : isI j.most) : MsOk (stM i n j) := ⟨by unfold stM isI; simp, by unfold stM isU; simp, by unfold stM isU; simp, hi, by unfold stM isU; simp, hn, by unfold stM isU; simp, by unfold stM isI; simp, hsd, hmo⟩
noncomputable def txL (s : Sg) (j : Jb) : List Int := refL s.c j.seed (0 :: j.ts) j.most.toNat
theorem txL_len {s : Sg} {j : Jb} (h : j.most ≤ 10) : (txL s j).length ≤ 10 := by
 have := refL_len s.c j.seed j.most.toNat (0 :: j.ts)
 unfold txL
 omega
theorem rs_arr {wT w6 : World} {F0 It0 : Nat → Prop} {p : Option Addr} {s : Sg} {t0 : Nat} {i : Int} {j : Jb} {n : Nat} {v : Value} (hs : setB s = true) (hm : mayJ s.c.vocab j.most j.ts = true) (hp : j.lp ≤ 8) (hmo : j.most ≤ 10) (hn : n ≤ (txL s j).length)
  (hE : EnAt wT p ⟨s, 1, false, [], t0⟩ F0 It0) (hb : Below wT.heap.size wT w6) (hO : w6.ownsRow wT.heap.size 3 1 v n (((txL s j).take n).map (Value.int .i64))) (hj : JbIn w6 j) (hjo : ∀ k, mJ j k → k < wT.heap.size ∧ ¬ F0 k) (hi : isU i) (hsd : isU j.seed) (hmi : isI j.most) :
  Calls Tryz.prog 18 #[.pointer p, .agg (MsV (stM i n j))] w6 fun e w' => ∃ a cap, e = .returned (.slice a 0 cap) ∧ cap ≤ 9223372036854775807 ∧ RsI wT F0 p s t0 i (txL s j) 0 0 v w' := by
 have hts : j.ts.length = j.lp := Reads.size hj
 obtain ⟨k1, k2⟩ := rest_arr (i := i) hs hm (by omega) hmo hn
 have hl := txL_len (s := s) hmo
 refine (en_arr (stM i n j) w6 (hE.below hb) ⟨hj, Reads.nil _ _⟩ (stM_ok hi ⟨by omega, by omega⟩ hsd hmi) (fun k hk => (hjo k hk).2)).mono ?_
 rintro e w' ⟨a, cap, F', It', rfl, hM, ha, hE', hF', hI', hb'⟩
 rw [k1] at hM ⊢
 have hO' : w'.ownsRow wT.heap.size 3 1 v n (((txL s j).take n).map (Value.int .i64)) := by
  refine ⟨hO.1, ?_⟩
  rcases id hO.2 with h' | ⟨g, c, cur, e, h1, h2, h3⟩
  ·exact .inl h'
  ·exact .inr ⟨g, c, cur, e, h1, hb'.one h2 (fun hf => by have := hE.old g hf; omega), h3⟩
 refine ⟨a, cap, rfl, hM.most, _, _, F', It', k2, hE', fun k hk => ?_, (Fb.of hb).trans hb' fun x hx => .inl hx, ?_, fun k hk => ?_⟩
 ·rcases hF' k hk with h' | h'
  ·exact .inl h'
  ·exact .inr (Nat.le_trans hb.size h')
 ·rw [show (List.take n (refL s.c j.seed (0 :: j.ts) j.most.toNat)).length = n by rw [List.length_take]; unfold txL at hn; omega]
  exact hO'
 ·obtain ⟨t1, t2, _⟩ := own_ty hO hk
  refine ⟨fun hf => ?_, fun hf => ?_⟩
  ·rcases hF' k hf with h' | h'
   ·have := hE.old k h'; omega
   ·omega
  ·rcases hI' k hf with h' | h' | h'
   ·have := hE.oldI k h'; omega
   ·have := (hjo k h').1; omega
   ·omega
theorem rs_end {wT W : World} {F0 : Nat → Prop} {p : Option Addr} {s : Sg} {t0 : Nat} {i : Int} {text : List Int} {r ov : Nat} {v : Value} (h : RsI wT F0 p s t0 i text r ov v W) (hr : text.length < r) :
  ov = 1 ∧ Fb F0 wT W ∧ W.ownsRow wT.heap.size 3 1 v text.length (text.map (Value.int .i64)) ∧ ∃ F It t, t ≤ t0 + 32 * r ∧ EnAt W p ⟨s, 1, false, [], t⟩ F It ∧ ∀ k, F k → F0 k ∨ wT.heap.size ≤ k := by
 obtain ⟨S, got, F, It, hR, hE, hF, hb, hO, hv⟩ := h
 obtain ⟨rfl, ⟨t, ht, rfl⟩, rfl⟩ := rest_end hR hr
 exact ⟨rfl, hb, hO, F, It, t, ht, hE, hF⟩
def RsO (wA : World) (p : Option Addr) (s : Sg) (T : Nat) (W : World) : Prop := ∃ F It t, t ≤ T ∧ EnAt W p ⟨s, 1, false, [], t⟩ F It ∧ (∀ k, F k → wA.heap.size ≤ k) ∧ Below wA.heap.size wA W
theorem RsO.below {wA W W' : World} {p : Option Addr} {s : Sg} {T : Nat} (h : RsO wA p s T W) (hb : Below W.heap.size W W') : RsO wA p s T W' := by
 obtain ⟨F, It, t, ht, h1, h2, h3⟩ := h
 exact ⟨F, It, t, ht, h1.below hb, h2, h3.trans (hb.mono h3.size)⟩
theorem RsO.up {wA W : World} {p : Option Addr} {s : Sg} {T T' : Nat} (h : RsO wA p s T W) (hT : T ≤ T') : RsO wA p s T' W := by
 obtain ⟨F, It, t, ht, h1, h2, h3⟩ := h
 exact ⟨F, It, t, Nat.le_trans ht hT, h1, h2, h3⟩
theorem JbV_size (j : Jb) : (JbV j).size = 3 := rfl
theorem Lst.jb {w : World} {a : Option Addr} {len cap : Nat} {xs : List Jb} {I : Jb → Prop} (h : Lst w a len cap 3 xs JbV I) {i : Nat} (hi : i < xs.length) : ∃ b off, a = some ⟨b, off, none⟩ ∧
  w.cell? ⟨b, off + i * 3, none⟩ = some (.int .u64 xs[i].seed) ∧ w.cell? ⟨b, off + i * 3 + 1, none⟩ = some (.slice xs[i].ap xs[i].lp xs[i].cp) ∧ w.cell? ⟨b, off + i * 3 + 2, none⟩ = some (.int .i64 xs[i].most) := by
 obtain ⟨b, off, h1, h2⟩ := h.cell i hi
 exact ⟨b, off, h1, h2 0 (by omega), h2 1 (by omega), h2 2 (by omega)⟩
end Go.Proofs.YtjgggialnegddaaGreat
