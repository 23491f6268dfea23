/-
  The texts EnTk of this proof.
-/
import Derived.Test.YtjgggialnegddaaGreatPq35
import Derived.Deep.RegionHeld3
set_option linter.unusedVariables false
set_option maxRecDepth 1000000
namespace Go.Proofs.YtjgggialnegddaaGreat
open Go.RowKit Go.Maps
theorem runS {P : Program} {md : Region.Mode} {ops : Array Oper} {Q : Exit → Act → World → Prop} {S : World → Prop} {fuel : Nat} {listed : Array Bool} {a : Act} {w : World} (i : Nat) {oi : Oper} (hi : ops[i]? = some oi)
  (hr : Region.ready md ops listed = [i])
  (h : ∀ K' : Act → World → Prop, Shut (∀ a w, S w → (S w → wpAnyH P md ops Q S fuel (listed.setIfInBounds i true) a w) → K' a w) → if Region.wanted oi (yielded ops a.tmps) = true then Oper.wp P oi a w K' Q else K' (a.put oi.dst undef) w) :
  wpAnyH P md ops Q S (fuel + 1) listed a w :=
 wpAnyH_ready hr (by simp) (AllReadyH.cons hi h AllReadyH.nil)
theorem skipT {P : Program} {md : Region.Mode} {ops : Array Oper} {Q : Exit → Act → World → Prop} {S : World → Prop} {fuel : Nat} {listed : Array Bool} {a : Act} {w : World} (i : Nat) {oi : Oper} (hS : S w)
  (h : wpAnyH P md ops Q S fuel (listed.setIfInBounds i true) (a.put oi.dst undef) w)
  (hi : ops[i]? = some oi := by (simp only [List.getElem?_toArray, List.getElem?_cons_succ, List.getElem?_cons_zero]; exact rfl))
  (hs : Region.noSelect ops = true := by kernel_rfl) (hf : Region.free md ops listed i = true := by kernel_rfl) (hr : (Region.ready md ops listed).contains i = true := by kernel_rfl)
  (hQ : ∀ c a w, Q (.panic c) (a.put oi.dst undef) w → Q (.panic c) a w := by exact fun _ _ _ h => h) (hw : Region.wanted oi (yielded ops a.tmps) = false := by rfl) : wpAnyH P md ops Q S (fuel + 1) listed a w :=
 wpAnyH_take hi hs hf hr hQ (Or.inr ⟨hw, rfl⟩) hS h
theorem takeT {P : Program} {md : Region.Mode} {ops : Array Oper} {Q : Exit → Act → World → Prop} {S : World → Prop} {fuel : Nat} {listed : Array Bool} {a : Act} {w : World} (i : Nat) {oi : Oper} {v : Value} (hS : S w)
  (h : wpAnyH P md ops Q S fuel (listed.setIfInBounds i true) (a.put oi.dst v) w)
  (hi : ops[i]? = some oi := by (simp only [List.getElem?_toArray, List.getElem?_cons_succ, List.getElem?_cons_zero]; exact rfl))
  (hs : Region.noSelect ops = true := by kernel_rfl) (hf : Region.free md ops listed i = true := by kernel_rfl) (hr : (Region.ready md ops listed).contains i = true := by kernel_rfl)
  (hw : Region.wanted oi (yielded ops a.tmps) = true := by rfl) (hy : ∀ w, S w → (execOp a.eval oi).run P w = .ok (.value v) w := by (intro w hSw; (try dsimp only at hSw); go_simp; all_goals (with_reducible rfl)))
  (hQ : ∀ c a w, Q (.panic c) (a.put oi.dst v) w → Q (.panic c) a w := by exact fun _ _ _ h => h) : wpAnyH P md ops Q S (fuel + 1) listed a w :=
 wpAnyH_take hi hs hf hr hQ (Or.inl ⟨hw, hy⟩) hS h
theorem Ms_cells {W : World} {g : Nat} {m : Ms} {T : TypeId} (h : W.heap[g]? = some (.cells (MsV m) T (0, 0))) : W.cell? ⟨g, 0, none⟩ = some (.int .i64 m.kind) ∧ W.cell? ⟨g, 3, none⟩ = some (.int .u64 m.att) ∧ W.cell? ⟨g, 4, none⟩ = some (.int .u64 m.inc) ∧ W.cell? ⟨g, 5, none⟩ = some (.int .u64 m.n) ∧ W.cell? ⟨g, 8, none⟩ = some (.int .u64 m.job.seed) ∧ W.cell? ⟨g, 9, none⟩ = some (.slice m.job.ap m.job.lp m.job.cp) ∧ W.cell? ⟨g, 10, none⟩ = some (.int .i64 m.job.most) := by
 refine ⟨?_, ?_, ?_, ?_, ?_, ?_, ?_⟩ <;> (rw [cell_of_row _ _ _ _ _ _ h]; rfl)
theorem waitN_eq {bs qs : List At} (hb : ∀ a ∈ bs, a.run = true) (hq : ∀ a ∈ qs, a.run = false) : waitN (bs ++ qs) = qs.length := by
 unfold waitN
 rw [List.filter_append, List.filter_eq_nil_iff.2 (fun a ha => by simp [hb a ha]), List.filter_eq_self.2 (fun a ha => by simp [hq a ha]), List.nil_append]
section
variable {w : World} {B mb : Nat} {pm pc : Option Addr} {qv bv : Value} {nd : Int → Nat} {S : Rs} {bs qs : List At} {Fc It : Nat → Prop}
set_option maxHeartbeats 8000000 in
theorem etakes_any (h : EnI w B mb pm pc qv bv nd S bs qs Fc It) (m : Ms) (hj : JbIn w m.job) (hm : MsOk m) :
  Calls Tryz.prog 63 #[.pointer (some ⟨B, 0, none⟩), .agg (MsV m)] w fun e w' => e = .returned (.bool (startB S m)) ∧ Below w.heap.size w w' := by
 obtain ⟨wA, hwA⟩ : ∃ wA, wA = w.alloc (.cells (MsV m) 55) := ⟨_, rfl⟩
 have hbA : Below w.heap.size w wA := by rw [hwA]; exact (Below.refl _ _).alloc (Nat.le_refl _) _
 have hA : wA.heap[w.heap.size]? = some (.cells (MsV m) 55 (0, 0)) := by rw [hwA]; exact heap_alloc_new w _
 obtain ⟨aq, cq, eq, hrq⟩ := h.qrow.reads
 rw [List.length_map] at eq
 have hqr := hrq.room
 have hqm := hrq.most
 rw [List.length_map] at hqr
 obtain ⟨q1, q64, _⟩ := h.bnd
 have hql := h.qsl
 have hlp : m.job.ts.length = m.job.lp := Reads.size hj
 have hjr := Reads.room hj
 have hjm := Reads.most hj
 obtain ⟨n0, n1⟩ := hm.n
 obtain ⟨o0, o1⟩ := hm.most
 have hst : startB S m = (mayJ S.s.c.vocab m.job.most m.job.ts && (decide (m.n ≤ m.job.most) && decide (m.n + m.job.lp < 256)) && (!S.dr && decide ((qs.length : Int) < S.s.q))) := by
  unfold startB fitB
  rw [h.L, waitN_eq h.rb h.rq, hlp]
 have hmj := @mayJ_iff S.s.c.vocab m.job.most m.job.ts
 obtain ⟨mx, hmx⟩ : ∃ mx, w.heap.size = mx := ⟨_, rfl⟩
 obtain ⟨q0, hq0⟩ : ∃ q0 : Nat, S.s.q = q0 := ⟨S.s.q.toNat, by omega⟩
 have HKK : Hid (∀ W : World, Below wA.heap.size wA W → W.cell? ⟨mx, 5, none⟩ = some (.int .u64 m.n) ∧ W.cell? ⟨mx, 8, none⟩ = some (.int .u64 m.job.seed) ∧ W.cell? ⟨mx, 9, none⟩ = some (.slice m.job.ap m.job.lp m.job.cp) ∧ W.cell? ⟨mx, 10, none⟩ = some (.int .i64 m.job.most) ∧ W.cell? ⟨B, 0, none⟩ = some (.pointer pm) ∧ W.cell? ⟨B, 2, none⟩ = some (.int .i64 (q0 : Int)) ∧ W.cell? ⟨B, 6, none⟩ = some (.bool S.dr) ∧ W.cell? ⟨B, 8, none⟩ = some (.slice aq qs.length cq)) := fun W hb => by
  obtain ⟨_, _, _, k5, k8, k9, k10⟩ := Ms_cells (block_bel hA hb)
  obtain ⟨c0, c1, c2, c3, c4, c5, c6, c7, c8, c9⟩ := ((h.below hbA).below hb).cells
  rw [hmx] at k5 k8 k9 k10
  rw [hq0] at c2
  rw [eq] at c8
  exact ⟨k5, k8, k9, k10, c0, c2, c6, c8⟩
 have HCf := hid fun (W : World) (hb : Below wA.heap.size wA W) => config_any pm S.s.c W ((h.below hbA).below hb).mdAt
 have HMy := hid fun (W : World) (hb : Below wA.heap.size wA W) => dmay_any S.s.c m.job W ((Reads.below hj hbA).below hb)
 have HTx : Hid (m.job.lp ≤ 255 → ∀ W : World, Below wA.heap.size wA W → Calls Tryz.prog 79 #[.agg (JbV m.job)] W fun e w' => ∃ g cap, e = .returned (.slice (some ⟨g, 0, none⟩) (1 + m.job.lp) cap) ∧ Reads .i64 w' (some ⟨g, 0, none⟩) (1 + m.job.lp) cap (0 :: m.job.ts) ∧ W.heap.size ≤ g ∧ Below W.heap.size W w') := fun hl W hb => etext_any m.job W ((Reads.below hj hbA).below hb) (by omega)
 have HX : Hid (∀ W : World, Below wA.heap.size wA W → Below w.heap.size w W) := fun W hb => hbA.trans (hb.mono hbA.size)
 obtain ⟨x5, x8, x9, x10, xb0, xb2, xb6, xb8⟩ := HKK.out wA (Below.refl _ _)
 have HLp := hid hlp
 obtain ⟨bx, hbx⟩ : ∃ bx, startB S m = bx := ⟨_, rfl⟩
 rw [hbx]
 rw [hst, hq0] at hbx
 have HBX := hid hbx
 clear hbx
 rw [hq0] at hql q64
 obtain ⟨kd, st, se, ate, ic, nn, ct, wh, ⟨sd, ap, lp, cp, pr, mo⟩, la, ll, lc, li⟩ := m
 unfold MsV JbV at *
 simp only at *
 generalize hnq : qs.length = nq at *
 generalize hdr : S.dr = dr at *
 clear h hA hbA eq hrq hj hm hst hnq hdr hlp hq0
 generalize CfV S.s.c = cfv at *
 go_enter Tryz.func63, Tryz.ntmps63
 rw [hwA] at x5 x8 x9 x10 xb0 xb2 xb6 xb8
 go_wp2_with fail
 rw [← hwA]
 clear x5 x8 x9 x10 xb0 xb2 xb6 xb8 hwA hmx
 have HV : Hid (Below wA.heap.size wA wA.drew) := (Below.refl _ _).drew
 cases hA : mayJ S.s.c.vocab mo pr with
 | false =>
  rw [hA] at HMy
  have HE : Hid (bx = false) := by unfold Hid; rw [← HBX.out, hA]; simp
  clear HBX
  clear HTx hmj
  refine wp_region_noPanic ?_
  refine wp_region_held_drew (S := fun W : World => W.cell? ⟨mx, 5, none⟩ = some (.int .u64 nn) ∧ W.cell? ⟨mx, 8, none⟩ = some (.int .u64 sd) ∧ W.cell? ⟨mx, 9, none⟩ = some (.slice ap lp cp) ∧ W.cell? ⟨mx, 10, none⟩ = some (.int .i64 mo) ∧ W.cell? ⟨B, 0, none⟩ = some (.pointer pm) ∧ W.cell? ⟨B, 2, none⟩ = some (.int .i64 (q0 : Int)) ∧ W.cell? ⟨B, 6, none⟩ = some (.bool dr) ∧ W.cell? ⟨B, 8, none⟩ = some (.slice aq nq cq)) (by kernel_rfl) (HKK.out _ HV.out) (fun hHeld => ?_)
  refine takeT 0 hHeld ?_
  try simp only [Act.put, List.setIfInBounds_toArray, List.set_cons_zero, List.set_cons_succ]
  refine takeT 1 hHeld ?_
  try simp only [Act.put, List.setIfInBounds_toArray, List.set_cons_zero, List.set_cons_succ]
  refine takeT 2 hHeld ?_
  try simp only [Act.put, List.setIfInBounds_toArray, List.set_cons_zero, List.set_cons_succ]
  refine takeT 3 hHeld ?_
  try simp only [Act.put, List.setIfInBounds_toArray, List.set_cons_zero, List.set_cons_succ]
  refine takeT 5 hHeld ?_
  try simp only [Act.put, List.setIfInBounds_toArray, List.set_cons_zero, List.set_cons_succ]
  refine takeT 6 hHeld ?_
  try simp only [Act.put, List.setIfInBounds_toArray, List.set_cons_zero, List.set_cons_succ]
  refine runS 4 (oi := ?oia4) ?hia4 (by kernel_rfl) (fun K hK => ?_)
  case hia4 => (simp only [List.getElem?_toArray, List.getElem?_cons_succ, List.getElem?_cons_zero]; exact rfl)
  go_simp
  go_at_call 76; (with_reducible refine (HCf.out _ HV.out).mono ?_); rintro e y2 ⟨rfl, hb⟩; replace HV := hid (HV.out.trans (hb.mono HV.out.size)); clear hb
  go_wp2_with fail
  refine hK.out _ _ ?_ (fun hHeld2 => ?_)
  ·(try dsimp only); (first | (with_reducible exact HKK.out _ (Below.refl _ _)) | (with_reducible exact HKK.out _ HV.out))
  clear hK K hHeld
  have hHeld := hHeld2
  clear hHeld2
  try simp only [Act.put, List.setIfInBounds_toArray, List.set_cons_zero, List.set_cons_succ]
  refine runS 7 (oi := ?oia7) ?hia7 (by kernel_rfl) (fun K hK => ?_)
  case hia7 => (simp only [List.getElem?_toArray, List.getElem?_cons_succ, List.getElem?_cons_zero]; exact rfl)
  go_simp
  go_at_call 91; (with_reducible refine (HMy.out _ HV.out).mono ?_); rintro e y3 ⟨rfl, hb⟩; replace HV := hid (HV.out.trans (hb.mono HV.out.size)); clear hb
  go_wp2_with fail
  refine hK.out _ _ ?_ (fun hHeld2 => ?_)
  ·(try dsimp only); (first | (with_reducible exact HKK.out _ (Below.refl _ _)) | (with_reducible exact HKK.out _ HV.out))
  clear hK K hHeld
  have hHeld := hHeld2
  clear hHeld2
  try simp only [Act.put, List.setIfInBounds_toArray, List.set_cons_zero, List.set_cons_succ]
  refine takeT 8 hHeld ?_
  try simp only [Act.put, List.setIfInBounds_toArray, List.set_cons_zero, List.set_cons_succ]
  refine skipT 9 hHeld ?_
  try simp only [Act.put, List.setIfInBounds_toArray, List.set_cons_zero, List.set_cons_succ]
  refine skipT 10 hHeld ?_
  try simp only [Act.put, List.setIfInBounds_toArray, List.set_cons_zero, List.set_cons_succ]
  refine skipT 11 hHeld ?_
  try simp only [Act.put, List.setIfInBounds_toArray, List.set_cons_zero, List.set_cons_succ]
  refine skipT 12 hHeld ?_
  try simp only [Act.put, List.setIfInBounds_toArray, List.set_cons_zero, List.set_cons_succ]
  refine skipT 13 hHeld ?_
  try simp only [Act.put, List.setIfInBounds_toArray, List.set_cons_zero, List.set_cons_succ]
  refine skipT 14 hHeld ?_
  try simp only [Act.put, List.setIfInBounds_toArray, List.set_cons_zero, List.set_cons_succ]
  refine skipT 15 hHeld ?_
  try simp only [Act.put, List.setIfInBounds_toArray, List.set_cons_zero, List.set_cons_succ]
  refine takeT 16 hHeld ?_
  try simp only [Act.put, List.setIfInBounds_toArray, List.set_cons_zero, List.set_cons_succ]
  refine takeT 17 hHeld ?_
  try simp only [Act.put, List.setIfInBounds_toArray, List.set_cons_zero, List.set_cons_succ]
  refine skipT 18 hHeld ?_
  try simp only [Act.put, List.setIfInBounds_toArray, List.set_cons_zero, List.set_cons_succ]
  refine skipT 19 hHeld ?_
  try simp only [Act.put, List.setIfInBounds_toArray, List.set_cons_zero, List.set_cons_succ]
  refine skipT 22 hHeld ?_
  try simp only [Act.put, List.setIfInBounds_toArray, List.set_cons_zero, List.set_cons_succ]
  refine skipT 23 hHeld ?_
  try simp only [Act.put, List.setIfInBounds_toArray, List.set_cons_zero, List.set_cons_succ]
  refine skipT 24 hHeld ?_
  try simp only [Act.put, List.setIfInBounds_toArray, List.set_cons_zero, List.set_cons_succ]
  refine runS 20 (oi := ?oia20) ?hia20 (by kernel_rfl) (fun K hK => ?_)
  case hia20 => (simp only [List.getElem?_toArray, List.getElem?_cons_succ, List.getElem?_cons_zero]; exact rfl)
  go_simp
  refine hK.out _ _ ?_ (fun hHeld2 => ?_)
  ·(try dsimp only); (first | (with_reducible exact HKK.out _ (Below.refl _ _)) | (with_reducible exact HKK.out _ HV.out))
  clear hK K hHeld
  have hHeld := hHeld2
  clear hHeld2
  try simp only [Act.put, List.setIfInBounds_toArray, List.set_cons_zero, List.set_cons_succ]
  refine runS 21 (oi := ?oia21) ?hia21 (by kernel_rfl) (fun K hK => ?_)
  case hia21 => (simp only [List.getElem?_toArray, List.getElem?_cons_succ, List.getElem?_cons_zero]; exact rfl)
  go_simp
  refine hK.out _ _ ?_ (fun hHeld2 => ?_)
  ·(try dsimp only); (first | (with_reducible exact HKK.out _ (Below.refl _ _)) | (with_reducible exact HKK.out _ HV.out))
  clear hK K hHeld
  have hHeld := hHeld2
  clear hHeld2
  try simp only [Act.put, List.setIfInBounds_toArray, List.set_cons_zero, List.set_cons_succ]
  refine skipT 25 hHeld ?_
  try simp only [Act.put, List.setIfInBounds_toArray, List.set_cons_zero, List.set_cons_succ]
  refine skipT 26 hHeld ?_
  try simp only [Act.put, List.setIfInBounds_toArray, List.set_cons_zero, List.set_cons_succ]
  refine takeT 27 hHeld ?_
  try simp only [Act.put, List.setIfInBounds_toArray, List.set_cons_zero, List.set_cons_succ]
  refine takeT 28 hHeld ?_
  try simp only [Act.put, List.setIfInBounds_toArray, List.set_cons_zero, List.set_cons_succ]
  refine skipT 29 hHeld ?_
  try simp only [Act.put, List.setIfInBounds_toArray, List.set_cons_zero, List.set_cons_succ]
  refine skipT 30 hHeld ?_
  try simp only [Act.put, List.setIfInBounds_toArray, List.set_cons_zero, List.set_cons_succ]
  refine skipT 31 hHeld ?_
  try simp only [Act.put, List.setIfInBounds_toArray, List.set_cons_zero, List.set_cons_succ]
  refine skipT 32 hHeld ?_
  try simp only [Act.put, List.setIfInBounds_toArray, List.set_cons_zero, List.set_cons_succ]
  refine skipT 33 hHeld ?_
  try simp only [Act.put, List.setIfInBounds_toArray, List.set_cons_zero, List.set_cons_succ]
  refine takeT 34 hHeld ?_
  try simp only [Act.put, List.setIfInBounds_toArray, List.set_cons_zero, List.set_cons_succ]
  refine takeT 35 hHeld ?_
  try simp only [Act.put, List.setIfInBounds_toArray, List.set_cons_zero, List.set_cons_succ]
  refine skipT 36 hHeld ?_
  try simp only [Act.put, List.setIfInBounds_toArray, List.set_cons_zero, List.set_cons_succ]
  refine skipT 37 hHeld ?_
  try simp only [Act.put, List.setIfInBounds_toArray, List.set_cons_zero, List.set_cons_succ]
  refine skipT 38 hHeld ?_
  try simp only [Act.put, List.setIfInBounds_toArray, List.set_cons_zero, List.set_cons_succ]
  refine skipT 39 hHeld ?_
  try simp only [Act.put, List.setIfInBounds_toArray, List.set_cons_zero, List.set_cons_succ]
  refine skipT 41 hHeld ?_
  try simp only [Act.put, List.setIfInBounds_toArray, List.set_cons_zero, List.set_cons_succ]
  refine skipT 42 hHeld ?_
  try simp only [Act.put, List.setIfInBounds_toArray, List.set_cons_zero, List.set_cons_succ]
  refine skipT 43 hHeld ?_
  try simp only [Act.put, List.setIfInBounds_toArray, List.set_cons_zero, List.set_cons_succ]
  refine skipT 44 hHeld ?_
  try simp only [Act.put, List.setIfInBounds_toArray, List.set_cons_zero, List.set_cons_succ]
  refine skipT 45 hHeld ?_
  try simp only [Act.put, List.setIfInBounds_toArray, List.set_cons_zero, List.set_cons_succ]
  refine runS 40 (oi := ?oia40) ?hia40 (by kernel_rfl) (fun K hK => ?_)
  case hia40 => (simp only [List.getElem?_toArray, List.getElem?_cons_succ, List.getElem?_cons_zero]; exact rfl)
  go_simp
  refine hK.out _ _ ?_ (fun hHeld2 => ?_)
  ·(try dsimp only); (first | (with_reducible exact HKK.out _ (Below.refl _ _)) | (with_reducible exact HKK.out _ HV.out))
  clear hK K hHeld
  have hHeld := hHeld2
  clear hHeld2
  try simp only [Act.put, List.setIfInBounds_toArray, List.set_cons_zero, List.set_cons_succ]
  refine skipT 46 hHeld ?_
  try simp only [Act.put, List.setIfInBounds_toArray, List.set_cons_zero, List.set_cons_succ]
  refine takeT 47 hHeld ?_
  try simp only [Act.put, List.setIfInBounds_toArray, List.set_cons_zero, List.set_cons_succ]
  refine takeT 48 hHeld ?_
  try simp only [Act.put, List.setIfInBounds_toArray, List.set_cons_zero, List.set_cons_succ]
  refine wpAnyH_done (by kernel_rfl) ?_ _
  refine NoPanic.normal ?_
  clear hHeld
  go_wp2_with fail
  go_ret
  exact ⟨by rw [HE.out]; first | done | rfl, HX.out _ HV.out⟩
 | true =>
  rw [hA] at HMy
  obtain ⟨a0, a1, a2, _⟩ := hmj.1 hA
  have hl255 : lp ≤ 255 := by have := HLp.out; omega
  replace HTx := hid (HTx.out hl255)
  have hu : IntKind.u64.wrap mo = mo := by rw [IntKind.wrap_u64]; omega
  clear hmj
  by_cases hB : nn ≤ mo
  ·have d1 : decide (nn ≤ mo) = true := decide_eq_true hB
   have hi : IntKind.i64.wrap nn = nn := wrap64_in (by omega) (by omega)
   have hs1 : IntKind.i64.wrap (1 + (lp : Int) + nn) = 1 + (lp : Int) + nn := wrap64_in (by omega) (by omega)
   by_cases hC : nn + (lp : Int) < 256
   ·have d2 : decide (1 + (lp : Int) + nn ≤ 256) = true := decide_eq_true (by omega)
    have d3 : 1 + (lp : Int) + nn ≤ 256 := by omega
    cases dr with
    | true =>
     have HE : Hid (bx = false) := by unfold Hid; rw [← HBX.out]; simp
     clear HBX
     refine wp_region_noPanic ?_
     refine wp_region_held_drew (S := fun W : World => W.cell? ⟨mx, 5, none⟩ = some (.int .u64 nn) ∧ W.cell? ⟨mx, 8, none⟩ = some (.int .u64 sd) ∧ W.cell? ⟨mx, 9, none⟩ = some (.slice ap lp cp) ∧ W.cell? ⟨mx, 10, none⟩ = some (.int .i64 mo) ∧ W.cell? ⟨B, 0, none⟩ = some (.pointer pm) ∧ W.cell? ⟨B, 2, none⟩ = some (.int .i64 (q0 : Int)) ∧ W.cell? ⟨B, 6, none⟩ = some (.bool true) ∧ W.cell? ⟨B, 8, none⟩ = some (.slice aq nq cq)) (by kernel_rfl) (HKK.out _ HV.out) (fun hHeld => ?_)
     refine takeT 0 hHeld ?_
     try simp only [Act.put, List.setIfInBounds_toArray, List.set_cons_zero, List.set_cons_succ]
     refine takeT 1 hHeld ?_
     try simp only [Act.put, List.setIfInBounds_toArray, List.set_cons_zero, List.set_cons_succ]
     refine takeT 2 hHeld ?_
     try simp only [Act.put, List.setIfInBounds_toArray, List.set_cons_zero, List.set_cons_succ]
     refine takeT 3 hHeld ?_
     try simp only [Act.put, List.setIfInBounds_toArray, List.set_cons_zero, List.set_cons_succ]
     refine takeT 5 hHeld ?_
     try simp only [Act.put, List.setIfInBounds_toArray, List.set_cons_zero, List.set_cons_succ]
     refine takeT 6 hHeld ?_
     try simp only [Act.put, List.setIfInBounds_toArray, List.set_cons_zero, List.set_cons_succ]
     refine runS 4 (oi := ?oid4) ?hid4 (by kernel_rfl) (fun K hK => ?_)
     case hid4 => (simp only [List.getElem?_toArray, List.getElem?_cons_succ, List.getElem?_cons_zero]; exact rfl)
     go_simp
     go_at_call 76; (with_reducible refine (HCf.out _ HV.out).mono ?_); rintro e y2 ⟨rfl, hb⟩; replace HV := hid (HV.out.trans (hb.mono HV.out.size)); clear hb
     go_wp2_with fail
     refine hK.out _ _ ?_ (fun hHeld2 => ?_)
     ·(try dsimp only); (first | (with_reducible exact HKK.out _ (Below.refl _ _)) | (with_reducible exact HKK.out _ HV.out))
     clear hK K hHeld
     have hHeld := hHeld2
     clear hHeld2
     try simp only [Act.put, List.setIfInBounds_toArray, List.set_cons_zero, List.set_cons_succ]
     refine runS 7 (oi := ?oid7) ?hid7 (by kernel_rfl) (fun K hK => ?_)
     case hid7 => (simp only [List.getElem?_toArray, List.getElem?_cons_succ, List.getElem?_cons_zero]; exact rfl)
     go_simp
     go_at_call 91; (with_reducible refine (HMy.out _ HV.out).mono ?_); rintro e y3 ⟨rfl, hb⟩; replace HV := hid (HV.out.trans (hb.mono HV.out.size)); clear hb
     go_wp2_with fail
     refine hK.out _ _ ?_ (fun hHeld2 => ?_)
     ·(try dsimp only); (first | (with_reducible exact HKK.out _ (Below.refl _ _)) | (with_reducible exact HKK.out _ HV.out))
     clear hK K hHeld
     have hHeld := hHeld2
     clear hHeld2
     try simp only [Act.put, List.setIfInBounds_toArray, List.set_cons_zero, List.set_cons_succ]
     refine takeT 8 hHeld ?_
     try simp only [Act.put, List.setIfInBounds_toArray, List.set_cons_zero, List.set_cons_succ]
     refine takeT 9 hHeld ?_
     try simp only [Act.put, List.setIfInBounds_toArray, List.set_cons_zero, List.set_cons_succ]
     refine takeT 10 hHeld ?_
     try simp only [Act.put, List.setIfInBounds_toArray, List.set_cons_zero, List.set_cons_succ]
     refine takeT 11 hHeld ?_
     try simp only [Act.put, List.setIfInBounds_toArray, List.set_cons_zero, List.set_cons_succ]
     refine takeT 12 hHeld ?_
     try simp only [Act.put, List.setIfInBounds_toArray, List.set_cons_zero, List.set_cons_succ]
     refine takeT 13 hHeld ?_
     try simp only [Act.put, List.setIfInBounds_toArray, List.set_cons_zero, List.set_cons_succ]
     refine takeT 14 hHeld ?_
     try simp only [Act.put, List.setIfInBounds_toArray, List.set_cons_zero, List.set_cons_succ]
     refine takeT 15 hHeld ?_
     try simp only [Act.put, List.setIfInBounds_toArray, List.set_cons_zero, List.set_cons_succ]
     refine takeT 16 hHeld ?_
     try simp only [Act.put, List.setIfInBounds_toArray, List.set_cons_zero, List.set_cons_succ]
     refine takeT 17 hHeld ?_
     try simp only [Act.put, List.setIfInBounds_toArray, List.set_cons_zero, List.set_cons_succ]
     refine takeT 18 hHeld ?_
     try simp only [Act.put, List.setIfInBounds_toArray, List.set_cons_zero, List.set_cons_succ]
     refine takeT 19 hHeld ?_
     try simp only [Act.put, List.setIfInBounds_toArray, List.set_cons_zero, List.set_cons_succ]
     refine takeT 22 hHeld ?_
     try simp only [Act.put, List.setIfInBounds_toArray, List.set_cons_zero, List.set_cons_succ]
     refine takeT 23 hHeld ?_
     try simp only [Act.put, List.setIfInBounds_toArray, List.set_cons_zero, List.set_cons_succ]
     refine takeT 24 hHeld ?_
     try simp only [Act.put, List.setIfInBounds_toArray, List.set_cons_zero, List.set_cons_succ]
     refine runS 20 (oi := ?oid20) ?hid20 (by kernel_rfl) (fun K hK => ?_)
     case hid20 => (simp only [List.getElem?_toArray, List.getElem?_cons_succ, List.getElem?_cons_zero]; exact rfl)
     go_simp
     go_at_call 79; (with_reducible refine (HTx.out _ HV.out).mono ?_); rintro e y4 ⟨g4, d4, rfl, _, _, hb⟩; replace HV := hid (HV.out.trans (hb.mono HV.out.size)); clear hb
     go_wp2_with fail
     refine hK.out _ _ ?_ (fun hHeld2 => ?_)
     ·(try dsimp only); (first | (with_reducible exact HKK.out _ (Below.refl _ _)) | (with_reducible exact HKK.out _ HV.out))
     clear hK K hHeld
     have hHeld := hHeld2
     clear hHeld2
     try simp only [Act.put, List.setIfInBounds_toArray, List.set_cons_zero, List.set_cons_succ]
     refine runS 21 (oi := ?oid21) ?hid21 (by kernel_rfl) (fun K hK => ?_)
     case hid21 => (simp only [List.getElem?_toArray, List.getElem?_cons_succ, List.getElem?_cons_zero]; exact rfl)
     go_simp
     refine hK.out _ _ ?_ (fun hHeld2 => ?_)
     ·(try dsimp only); (first | (with_reducible exact HKK.out _ (Below.refl _ _)) | (with_reducible exact HKK.out _ HV.out))
     clear hK K hHeld
     have hHeld := hHeld2
     clear hHeld2
     try simp only [Act.put, List.setIfInBounds_toArray, List.set_cons_zero, List.set_cons_succ]
     refine takeT 25 hHeld ?_
     try simp only [Act.put, List.setIfInBounds_toArray, List.set_cons_zero, List.set_cons_succ]
     refine takeT 26 hHeld ?_
     try simp only [Act.put, List.setIfInBounds_toArray, List.set_cons_zero, List.set_cons_succ]
     refine takeT 27 hHeld ?_
     try simp only [Act.put, List.setIfInBounds_toArray, List.set_cons_zero, List.set_cons_succ]
     refine takeT 28 hHeld ?_
     try simp only [Act.put, List.setIfInBounds_toArray, List.set_cons_zero, List.set_cons_succ]
     refine takeT 29 hHeld ?_
     try simp only [Act.put, List.setIfInBounds_toArray, List.set_cons_zero, List.set_cons_succ]
     refine takeT 30 hHeld ?_
     try simp only [Act.put, List.setIfInBounds_toArray, List.set_cons_zero, List.set_cons_succ]
     refine takeT 31 hHeld ?_
     try simp only [Act.put, List.setIfInBounds_toArray, List.set_cons_zero, List.set_cons_succ]
     refine takeT 32 hHeld ?_
     try simp only [Act.put, List.setIfInBounds_toArray, List.set_cons_zero, List.set_cons_succ]
     refine takeT 33 hHeld ?_
     try simp only [Act.put, List.setIfInBounds_toArray, List.set_cons_zero, List.set_cons_succ]
     refine takeT 34 hHeld ?_
     try simp only [Act.put, List.setIfInBounds_toArray, List.set_cons_zero, List.set_cons_succ]
     refine takeT 35 hHeld ?_
     try simp only [Act.put, List.setIfInBounds_toArray, List.set_cons_zero, List.set_cons_succ]
     refine skipT 36 hHeld ?_
     try simp only [Act.put, List.setIfInBounds_toArray, List.set_cons_zero, List.set_cons_succ]
     refine skipT 37 hHeld ?_
     try simp only [Act.put, List.setIfInBounds_toArray, List.set_cons_zero, List.set_cons_succ]
     refine skipT 38 hHeld ?_
     try simp only [Act.put, List.setIfInBounds_toArray, List.set_cons_zero, List.set_cons_succ]
     refine skipT 39 hHeld ?_
     try simp only [Act.put, List.setIfInBounds_toArray, List.set_cons_zero, List.set_cons_succ]
     refine skipT 41 hHeld ?_
     try simp only [Act.put, List.setIfInBounds_toArray, List.set_cons_zero, List.set_cons_succ]
     refine skipT 42 hHeld ?_
     try simp only [Act.put, List.setIfInBounds_toArray, List.set_cons_zero, List.set_cons_succ]
     refine skipT 43 hHeld ?_
     try simp only [Act.put, List.setIfInBounds_toArray, List.set_cons_zero, List.set_cons_succ]
     refine skipT 44 hHeld ?_
     try simp only [Act.put, List.setIfInBounds_toArray, List.set_cons_zero, List.set_cons_succ]
     refine skipT 45 hHeld ?_
     try simp only [Act.put, List.setIfInBounds_toArray, List.set_cons_zero, List.set_cons_succ]
     refine runS 40 (oi := ?oid40) ?hid40 (by kernel_rfl) (fun K hK => ?_)
     case hid40 => (simp only [List.getElem?_toArray, List.getElem?_cons_succ, List.getElem?_cons_zero]; exact rfl)
     go_simp
     refine hK.out _ _ ?_ (fun hHeld2 => ?_)
     ·(try dsimp only); (first | (with_reducible exact HKK.out _ (Below.refl _ _)) | (with_reducible exact HKK.out _ HV.out))
     clear hK K hHeld
     have hHeld := hHeld2
     clear hHeld2
     try simp only [Act.put, List.setIfInBounds_toArray, List.set_cons_zero, List.set_cons_succ]
     refine skipT 46 hHeld ?_
     try simp only [Act.put, List.setIfInBounds_toArray, List.set_cons_zero, List.set_cons_succ]
     refine takeT 47 hHeld ?_
     try simp only [Act.put, List.setIfInBounds_toArray, List.set_cons_zero, List.set_cons_succ]
     refine takeT 48 hHeld ?_
     try simp only [Act.put, List.setIfInBounds_toArray, List.set_cons_zero, List.set_cons_succ]
     refine wpAnyH_done (by kernel_rfl) ?_ _
     refine NoPanic.normal ?_
     clear hHeld
     go_wp2_with fail
     go_ret
     exact ⟨by rw [HE.out]; first | done | rfl, HX.out _ HV.out⟩
    | false =>
     have HE : Hid (bx = decide (nq < q0)) := by unfold Hid; rw [← HBX.out, hA]; simp [hB, hC]
     clear HBX
     refine wp_region_noPanic ?_
     refine wp_region_held_drew (S := fun W : World => W.cell? ⟨mx, 5, none⟩ = some (.int .u64 nn) ∧ W.cell? ⟨mx, 8, none⟩ = some (.int .u64 sd) ∧ W.cell? ⟨mx, 9, none⟩ = some (.slice ap lp cp) ∧ W.cell? ⟨mx, 10, none⟩ = some (.int .i64 mo) ∧ W.cell? ⟨B, 0, none⟩ = some (.pointer pm) ∧ W.cell? ⟨B, 2, none⟩ = some (.int .i64 (q0 : Int)) ∧ W.cell? ⟨B, 6, none⟩ = some (.bool false) ∧ W.cell? ⟨B, 8, none⟩ = some (.slice aq nq cq)) (by kernel_rfl) (HKK.out _ HV.out) (fun hHeld => ?_)
     refine takeT 0 hHeld ?_
     try simp only [Act.put, List.setIfInBounds_toArray, List.set_cons_zero, List.set_cons_succ]
     refine takeT 1 hHeld ?_
     try simp only [Act.put, List.setIfInBounds_toArray, List.set_cons_zero, List.set_cons_succ]
     refine takeT 2 hHeld ?_
     try simp only [Act.put, List.setIfInBounds_toArray, List.set_cons_zero, List.set_cons_succ]
     refine takeT 3 hHeld ?_
     try simp only [Act.put, List.setIfInBounds_toArray, List.set_cons_zero, List.set_cons_succ]
     refine takeT 5 hHeld ?_
     try simp only [Act.put, List.setIfInBounds_toArray, List.set_cons_zero, List.set_cons_succ]
     refine takeT 6 hHeld ?_
     try simp only [Act.put, List.setIfInBounds_toArray, List.set_cons_zero, List.set_cons_succ]
     refine runS 4 (oi := ?oie4) ?hie4 (by kernel_rfl) (fun K hK => ?_)
     case hie4 => (simp only [List.getElem?_toArray, List.getElem?_cons_succ, List.getElem?_cons_zero]; exact rfl)
     go_simp
     go_at_call 76; (with_reducible refine (HCf.out _ HV.out).mono ?_); rintro e y2 ⟨rfl, hb⟩; replace HV := hid (HV.out.trans (hb.mono HV.out.size)); clear hb
     go_wp2_with fail
     refine hK.out _ _ ?_ (fun hHeld2 => ?_)
     ·(try dsimp only); (first | (with_reducible exact HKK.out _ (Below.refl _ _)) | (with_reducible exact HKK.out _ HV.out))
     clear hK K hHeld
     have hHeld := hHeld2
     clear hHeld2
     try simp only [Act.put, List.setIfInBounds_toArray, List.set_cons_zero, List.set_cons_succ]
     refine runS 7 (oi := ?oie7) ?hie7 (by kernel_rfl) (fun K hK => ?_)
     case hie7 => (simp only [List.getElem?_toArray, List.getElem?_cons_succ, List.getElem?_cons_zero]; exact rfl)
     go_simp
     go_at_call 91; (with_reducible refine (HMy.out _ HV.out).mono ?_); rintro e y3 ⟨rfl, hb⟩; replace HV := hid (HV.out.trans (hb.mono HV.out.size)); clear hb
     go_wp2_with fail
     refine hK.out _ _ ?_ (fun hHeld2 => ?_)
     ·(try dsimp only); (first | (with_reducible exact HKK.out _ (Below.refl _ _)) | (with_reducible exact HKK.out _ HV.out))
     clear hK K hHeld
     have hHeld := hHeld2
     clear hHeld2
     try simp only [Act.put, List.setIfInBounds_toArray, List.set_cons_zero, List.set_cons_succ]
     refine takeT 8 hHeld ?_
     try simp only [Act.put, List.setIfInBounds_toArray, List.set_cons_zero, List.set_cons_succ]
     refine takeT 9 hHeld ?_
     try simp only [Act.put, List.setIfInBounds_toArray, List.set_cons_zero, List.set_cons_succ]
     refine takeT 10 hHeld ?_
     try simp only [Act.put, List.setIfInBounds_toArray, List.set_cons_zero, List.set_cons_succ]
     refine takeT 11 hHeld ?_
     try simp only [Act.put, List.setIfInBounds_toArray, List.set_cons_zero, List.set_cons_succ]
     refine takeT 12 hHeld ?_
     try simp only [Act.put, List.setIfInBounds_toArray, List.set_cons_zero, List.set_cons_succ]
     refine takeT 13 hHeld ?_
     try simp only [Act.put, List.setIfInBounds_toArray, List.set_cons_zero, List.set_cons_succ]
     refine takeT 14 hHeld ?_
     try simp only [Act.put, List.setIfInBounds_toArray, List.set_cons_zero, List.set_cons_succ]
     refine takeT 15 hHeld ?_
     try simp only [Act.put, List.setIfInBounds_toArray, List.set_cons_zero, List.set_cons_succ]
     refine takeT 16 hHeld ?_
     try simp only [Act.put, List.setIfInBounds_toArray, List.set_cons_zero, List.set_cons_succ]
     refine takeT 17 hHeld ?_
     try simp only [Act.put, List.setIfInBounds_toArray, List.set_cons_zero, List.set_cons_succ]
     refine takeT 18 hHeld ?_
     try simp only [Act.put, List.setIfInBounds_toArray, List.set_cons_zero, List.set_cons_succ]
     refine takeT 19 hHeld ?_
     try simp only [Act.put, List.setIfInBounds_toArray, List.set_cons_zero, List.set_cons_succ]
     refine takeT 22 hHeld ?_
     try simp only [Act.put, List.setIfInBounds_toArray, List.set_cons_zero, List.set_cons_succ]
     refine takeT 23 hHeld ?_
     try simp only [Act.put, List.setIfInBounds_toArray, List.set_cons_zero, List.set_cons_succ]
     refine takeT 24 hHeld ?_
     try simp only [Act.put, List.setIfInBounds_toArray, List.set_cons_zero, List.set_cons_succ]
     refine runS 20 (oi := ?oie20) ?hie20 (by kernel_rfl) (fun K hK => ?_)
     case hie20 => (simp only [List.getElem?_toArray, List.getElem?_cons_succ, List.getElem?_cons_zero]; exact rfl)
     go_simp
     go_at_call 79; (with_reducible refine (HTx.out _ HV.out).mono ?_); rintro e y4 ⟨g4, d4, rfl, _, _, hb⟩; replace HV := hid (HV.out.trans (hb.mono HV.out.size)); clear hb
     go_wp2_with fail
     refine hK.out _ _ ?_ (fun hHeld2 => ?_)
     ·(try dsimp only); (first | (with_reducible exact HKK.out _ (Below.refl _ _)) | (with_reducible exact HKK.out _ HV.out))
     clear hK K hHeld
     have hHeld := hHeld2
     clear hHeld2
     try simp only [Act.put, List.setIfInBounds_toArray, List.set_cons_zero, List.set_cons_succ]
     refine runS 21 (oi := ?oie21) ?hie21 (by kernel_rfl) (fun K hK => ?_)
     case hie21 => (simp only [List.getElem?_toArray, List.getElem?_cons_succ, List.getElem?_cons_zero]; exact rfl)
     go_simp
     refine hK.out _ _ ?_ (fun hHeld2 => ?_)
     ·(try dsimp only); (first | (with_reducible exact HKK.out _ (Below.refl _ _)) | (with_reducible exact HKK.out _ HV.out))
     clear hK K hHeld
     have hHeld := hHeld2
     clear hHeld2
     try simp only [Act.put, List.setIfInBounds_toArray, List.set_cons_zero, List.set_cons_succ]
     refine takeT 25 hHeld ?_
     try simp only [Act.put, List.setIfInBounds_toArray, List.set_cons_zero, List.set_cons_succ]
     refine takeT 26 hHeld ?_
     try simp only [Act.put, List.setIfInBounds_toArray, List.set_cons_zero, List.set_cons_succ]
     refine takeT 27 hHeld ?_
     try simp only [Act.put, List.setIfInBounds_toArray, List.set_cons_zero, List.set_cons_succ]
     refine takeT 28 hHeld ?_
     try simp only [Act.put, List.setIfInBounds_toArray, List.set_cons_zero, List.set_cons_succ]
     refine takeT 29 hHeld ?_
     try simp only [Act.put, List.setIfInBounds_toArray, List.set_cons_zero, List.set_cons_succ]
     refine takeT 30 hHeld ?_
     try simp only [Act.put, List.setIfInBounds_toArray, List.set_cons_zero, List.set_cons_succ]
     refine takeT 31 hHeld ?_
     try simp only [Act.put, List.setIfInBounds_toArray, List.set_cons_zero, List.set_cons_succ]
     refine takeT 32 hHeld ?_
     try simp only [Act.put, List.setIfInBounds_toArray, List.set_cons_zero, List.set_cons_succ]
     refine takeT 33 hHeld ?_
     try simp only [Act.put, List.setIfInBounds_toArray, List.set_cons_zero, List.set_cons_succ]
     refine takeT 34 hHeld ?_
     try simp only [Act.put, List.setIfInBounds_toArray, List.set_cons_zero, List.set_cons_succ]
     refine takeT 35 hHeld ?_
     try simp only [Act.put, List.setIfInBounds_toArray, List.set_cons_zero, List.set_cons_succ]
     refine takeT 36 hHeld ?_
     try simp only [Act.put, List.setIfInBounds_toArray, List.set_cons_zero, List.set_cons_succ]
     refine takeT 37 hHeld ?_
     try simp only [Act.put, List.setIfInBounds_toArray, List.set_cons_zero, List.set_cons_succ]
     refine takeT 38 hHeld ?_
     try simp only [Act.put, List.setIfInBounds_toArray, List.set_cons_zero, List.set_cons_succ]
     refine takeT 39 hHeld ?_
     try simp only [Act.put, List.setIfInBounds_toArray, List.set_cons_zero, List.set_cons_succ]
     refine takeT 41 hHeld ?_
     try simp only [Act.put, List.setIfInBounds_toArray, List.set_cons_zero, List.set_cons_succ]
     refine takeT 42 hHeld ?_
     try simp only [Act.put, List.setIfInBounds_toArray, List.set_cons_zero, List.set_cons_succ]
     refine takeT 43 hHeld ?_
     try simp only [Act.put, List.setIfInBounds_toArray, List.set_cons_zero, List.set_cons_succ]
     refine takeT 44 hHeld ?_
     try simp only [Act.put, List.setIfInBounds_toArray, List.set_cons_zero, List.set_cons_succ]
     refine takeT 45 hHeld ?_
     try simp only [Act.put, List.setIfInBounds_toArray, List.set_cons_zero, List.set_cons_succ]
     refine runS 40 (oi := ?oie40) ?hie40 (by kernel_rfl) (fun K hK => ?_)
     case hie40 => (simp only [List.getElem?_toArray, List.getElem?_cons_succ, List.getElem?_cons_zero]; exact rfl)
     go_simp
     refine hK.out _ _ ?_ (fun hHeld2 => ?_)
     ·(try dsimp only); (first | (with_reducible exact HKK.out _ (Below.refl _ _)) | (with_reducible exact HKK.out _ HV.out))
     clear hK K hHeld
     have hHeld := hHeld2
     clear hHeld2
     try simp only [Act.put, List.setIfInBounds_toArray, List.set_cons_zero, List.set_cons_succ]
     refine takeT 46 hHeld ?_
     try simp only [Act.put, List.setIfInBounds_toArray, List.set_cons_zero, List.set_cons_succ]
     refine takeT 47 hHeld ?_
     try simp only [Act.put, List.setIfInBounds_toArray, List.set_cons_zero, List.set_cons_succ]
     refine takeT 48 hHeld ?_
     try simp only [Act.put, List.setIfInBounds_toArray, List.set_cons_zero, List.set_cons_succ]
     refine wpAnyH_done (by kernel_rfl) ?_ _
     refine NoPanic.normal ?_
     clear hHeld
     go_wp2_with fail
     go_ret
     exact ⟨by rw [HE.out]; first | done | rfl, HX.out _ HV.out⟩
   ·have d2 : decide (1 + (lp : Int) + nn ≤ 256) = false := decide_eq_false (by omega)
    have d3 : ¬ 1 + (lp : Int) + nn ≤ 256 := by omega
    have HE : Hid (bx = false) := by unfold Hid; rw [← HBX.out]; simp [hC]
    clear HBX
    refine wp_region_noPanic ?_
    refine wp_region_held_drew (S := fun W : World => W.cell? ⟨mx, 5, none⟩ = some (.int .u64 nn) ∧ W.cell? ⟨mx, 8, none⟩ = some (.int .u64 sd) ∧ W.cell? ⟨mx, 9, none⟩ = some (.slice ap lp cp) ∧ W.cell? ⟨mx, 10, none⟩ = some (.int .i64 mo) ∧ W.cell? ⟨B, 0, none⟩ = some (.pointer pm) ∧ W.cell? ⟨B, 2, none⟩ = some (.int .i64 (q0 : Int)) ∧ W.cell? ⟨B, 6, none⟩ = some (.bool dr) ∧ W.cell? ⟨B, 8, none⟩ = some (.slice aq nq cq)) (by kernel_rfl) (HKK.out _ HV.out) (fun hHeld => ?_)
    refine takeT 0 hHeld ?_
    try simp only [Act.put, List.setIfInBounds_toArray, List.set_cons_zero, List.set_cons_succ]
    refine takeT 1 hHeld ?_
    try simp only [Act.put, List.setIfInBounds_toArray, List.set_cons_zero, List.set_cons_succ]
    refine takeT 2 hHeld ?_
    try simp only [Act.put, List.setIfInBounds_toArray, List.set_cons_zero, List.set_cons_succ]
    refine takeT 3 hHeld ?_
    try simp only [Act.put, List.setIfInBounds_toArray, List.set_cons_zero, List.set_cons_succ]
    refine takeT 5 hHeld ?_
    try simp only [Act.put, List.setIfInBounds_toArray, List.set_cons_zero, List.set_cons_succ]
    refine takeT 6 hHeld ?_
    try simp only [Act.put, List.setIfInBounds_toArray, List.set_cons_zero, List.set_cons_succ]
    refine runS 4 (oi := ?oic4) ?hic4 (by kernel_rfl) (fun K hK => ?_)
    case hic4 => (simp only [List.getElem?_toArray, List.getElem?_cons_succ, List.getElem?_cons_zero]; exact rfl)
    go_simp
    go_at_call 76; (with_reducible refine (HCf.out _ HV.out).mono ?_); rintro e y2 ⟨rfl, hb⟩; replace HV := hid (HV.out.trans (hb.mono HV.out.size)); clear hb
    go_wp2_with fail
    refine hK.out _ _ ?_ (fun hHeld2 => ?_)
    ·(try dsimp only); (first | (with_reducible exact HKK.out _ (Below.refl _ _)) | (with_reducible exact HKK.out _ HV.out))
    clear hK K hHeld
    have hHeld := hHeld2
    clear hHeld2
    try simp only [Act.put, List.setIfInBounds_toArray, List.set_cons_zero, List.set_cons_succ]
    refine runS 7 (oi := ?oic7) ?hic7 (by kernel_rfl) (fun K hK => ?_)
    case hic7 => (simp only [List.getElem?_toArray, List.getElem?_cons_succ, List.getElem?_cons_zero]; exact rfl)
    go_simp
    go_at_call 91; (with_reducible refine (HMy.out _ HV.out).mono ?_); rintro e y3 ⟨rfl, hb⟩; replace HV := hid (HV.out.trans (hb.mono HV.out.size)); clear hb
    go_wp2_with fail
    refine hK.out _ _ ?_ (fun hHeld2 => ?_)
    ·(try dsimp only); (first | (with_reducible exact HKK.out _ (Below.refl _ _)) | (with_reducible exact HKK.out _ HV.out))
    clear hK K hHeld
    have hHeld := hHeld2
    clear hHeld2
    try simp only [Act.put, List.setIfInBounds_toArray, List.set_cons_zero, List.set_cons_succ]
    refine takeT 8 hHeld ?_
    try simp only [Act.put, List.setIfInBounds_toArray, List.set_cons_zero, List.set_cons_succ]
    refine takeT 9 hHeld ?_
    try simp only [Act.put, List.setIfInBounds_toArray, List.set_cons_zero, List.set_cons_succ]
    refine takeT 10 hHeld ?_
    try simp only [Act.put, List.setIfInBounds_toArray, List.set_cons_zero, List.set_cons_succ]
    refine takeT 11 hHeld ?_
    try simp only [Act.put, List.setIfInBounds_toArray, List.set_cons_zero, List.set_cons_succ]
    refine takeT 12 hHeld ?_
    try simp only [Act.put, List.setIfInBounds_toArray, List.set_cons_zero, List.set_cons_succ]
    refine takeT 13 hHeld ?_
    try simp only [Act.put, List.setIfInBounds_toArray, List.set_cons_zero, List.set_cons_succ]
    refine takeT 14 hHeld ?_
    try simp only [Act.put, List.setIfInBounds_toArray, List.set_cons_zero, List.set_cons_succ]
    refine takeT 15 hHeld ?_
    try simp only [Act.put, List.setIfInBounds_toArray, List.set_cons_zero, List.set_cons_succ]
    refine takeT 16 hHeld ?_
    try simp only [Act.put, List.setIfInBounds_toArray, List.set_cons_zero, List.set_cons_succ]
    refine takeT 17 hHeld ?_
    try simp only [Act.put, List.setIfInBounds_toArray, List.set_cons_zero, List.set_cons_succ]
    refine takeT 18 hHeld ?_
    try simp only [Act.put, List.setIfInBounds_toArray, List.set_cons_zero, List.set_cons_succ]
    refine takeT 19 hHeld ?_
    try simp only [Act.put, List.setIfInBounds_toArray, List.set_cons_zero, List.set_cons_succ]
    refine takeT 22 hHeld ?_
    try simp only [Act.put, List.setIfInBounds_toArray, List.set_cons_zero, List.set_cons_succ]
    refine takeT 23 hHeld ?_
    try simp only [Act.put, List.setIfInBounds_toArray, List.set_cons_zero, List.set_cons_succ]
    refine takeT 24 hHeld ?_
    try simp only [Act.put, List.setIfInBounds_toArray, List.set_cons_zero, List.set_cons_succ]
    refine runS 20 (oi := ?oic20) ?hic20 (by kernel_rfl) (fun K hK => ?_)
    case hic20 => (simp only [List.getElem?_toArray, List.getElem?_cons_succ, List.getElem?_cons_zero]; exact rfl)
    go_simp
    go_at_call 79; (with_reducible refine (HTx.out _ HV.out).mono ?_); rintro e y4 ⟨g4, d4, rfl, _, _, hb⟩; replace HV := hid (HV.out.trans (hb.mono HV.out.size)); clear hb
    go_wp2_with fail
    refine hK.out _ _ ?_ (fun hHeld2 => ?_)
    ·(try dsimp only); (first | (with_reducible exact HKK.out _ (Below.refl _ _)) | (with_reducible exact HKK.out _ HV.out))
    clear hK K hHeld
    have hHeld := hHeld2
    clear hHeld2
    try simp only [Act.put, List.setIfInBounds_toArray, List.set_cons_zero, List.set_cons_succ]
    refine runS 21 (oi := ?oic21) ?hic21 (by kernel_rfl) (fun K hK => ?_)
    case hic21 => (simp only [List.getElem?_toArray, List.getElem?_cons_succ, List.getElem?_cons_zero]; exact rfl)
    go_simp
    refine hK.out _ _ ?_ (fun hHeld2 => ?_)
    ·(try dsimp only); (first | (with_reducible exact HKK.out _ (Below.refl _ _)) | (with_reducible exact HKK.out _ HV.out))
    clear hK K hHeld
    have hHeld := hHeld2
    clear hHeld2
    try simp only [Act.put, List.setIfInBounds_toArray, List.set_cons_zero, List.set_cons_succ]
    refine takeT 25 hHeld ?_
    try simp only [Act.put, List.setIfInBounds_toArray, List.set_cons_zero, List.set_cons_succ]
    refine takeT 26 hHeld ?_
    try simp only [Act.put, List.setIfInBounds_toArray, List.set_cons_zero, List.set_cons_succ]
    refine takeT 27 hHeld ?_
    try simp only [Act.put, List.setIfInBounds_toArray, List.set_cons_zero, List.set_cons_succ]
    refine takeT 28 hHeld ?_
    try simp only [Act.put, List.setIfInBounds_toArray, List.set_cons_zero, List.set_cons_succ]
    refine skipT 29 hHeld ?_
    try simp only [Act.put, List.setIfInBounds_toArray, List.set_cons_zero, List.set_cons_succ]
    refine skipT 30 hHeld ?_
    try simp only [Act.put, List.setIfInBounds_toArray, List.set_cons_zero, List.set_cons_succ]
    refine skipT 31 hHeld ?_
    try simp only [Act.put, List.setIfInBounds_toArray, List.set_cons_zero, List.set_cons_succ]
    refine skipT 32 hHeld ?_
    try simp only [Act.put, List.setIfInBounds_toArray, List.set_cons_zero, List.set_cons_succ]
    refine skipT 33 hHeld ?_
    try simp only [Act.put, List.setIfInBounds_toArray, List.set_cons_zero, List.set_cons_succ]
    refine takeT 34 hHeld ?_
    try simp only [Act.put, List.setIfInBounds_toArray, List.set_cons_zero, List.set_cons_succ]
    refine takeT 35 hHeld ?_
    try simp only [Act.put, List.setIfInBounds_toArray, List.set_cons_zero, List.set_cons_succ]
    refine skipT 36 hHeld ?_
    try simp only [Act.put, List.setIfInBounds_toArray, List.set_cons_zero, List.set_cons_succ]
    refine skipT 37 hHeld ?_
    try simp only [Act.put, List.setIfInBounds_toArray, List.set_cons_zero, List.set_cons_succ]
    refine skipT 38 hHeld ?_
    try simp only [Act.put, List.setIfInBounds_toArray, List.set_cons_zero, List.set_cons_succ]
    refine skipT 39 hHeld ?_
    try simp only [Act.put, List.setIfInBounds_toArray, List.set_cons_zero, List.set_cons_succ]
    refine skipT 41 hHeld ?_
    try simp only [Act.put, List.setIfInBounds_toArray, List.set_cons_zero, List.set_cons_succ]
    refine skipT 42 hHeld ?_
    try simp only [Act.put, List.setIfInBounds_toArray, List.set_cons_zero, List.set_cons_succ]
    refine skipT 43 hHeld ?_
    try simp only [Act.put, List.setIfInBounds_toArray, List.set_cons_zero, List.set_cons_succ]
    refine skipT 44 hHeld ?_
    try simp only [Act.put, List.setIfInBounds_toArray, List.set_cons_zero, List.set_cons_succ]
    refine skipT 45 hHeld ?_
    try simp only [Act.put, List.setIfInBounds_toArray, List.set_cons_zero, List.set_cons_succ]
    refine runS 40 (oi := ?oic40) ?hic40 (by kernel_rfl) (fun K hK => ?_)
    case hic40 => (simp only [List.getElem?_toArray, List.getElem?_cons_succ, List.getElem?_cons_zero]; exact rfl)
    go_simp
    refine hK.out _ _ ?_ (fun hHeld2 => ?_)
    ·(try dsimp only); (first | (with_reducible exact HKK.out _ (Below.refl _ _)) | (with_reducible exact HKK.out _ HV.out))
    clear hK K hHeld
    have hHeld := hHeld2
    clear hHeld2
    try simp only [Act.put, List.setIfInBounds_toArray, List.set_cons_zero, List.set_cons_succ]
    refine skipT 46 hHeld ?_
    try simp only [Act.put, List.setIfInBounds_toArray, List.set_cons_zero, List.set_cons_succ]
    refine takeT 47 hHeld ?_
    try simp only [Act.put, List.setIfInBounds_toArray, List.set_cons_zero, List.set_cons_succ]
    refine takeT 48 hHeld ?_
    try simp only [Act.put, List.setIfInBounds_toArray, List.set_cons_zero, List.set_cons_succ]
    refine wpAnyH_done (by kernel_rfl) ?_ _
    refine NoPanic.normal ?_
    clear hHeld
    go_wp2_with fail
    go_ret
    exact ⟨by rw [HE.out]; first | done | rfl, HX.out _ HV.out⟩
  ·have d1 : decide (nn ≤ mo) = false := decide_eq_false hB
   have HE : Hid (bx = false) := by unfold Hid; rw [← HBX.out]; simp [hB]
   clear HBX
   refine wp_region_noPanic ?_
   refine wp_region_held_drew (S := fun W : World => W.cell? ⟨mx, 5, none⟩ = some (.int .u64 nn) ∧ W.cell? ⟨mx, 8, none⟩ = some (.int .u64 sd) ∧ W.cell? ⟨mx, 9, none⟩ = some (.slice ap lp cp) ∧ W.cell? ⟨mx, 10, none⟩ = some (.int .i64 mo) ∧ W.cell? ⟨B, 0, none⟩ = some (.pointer pm) ∧ W.cell? ⟨B, 2, none⟩ = some (.int .i64 (q0 : Int)) ∧ W.cell? ⟨B, 6, none⟩ = some (.bool dr) ∧ W.cell? ⟨B, 8, none⟩ = some (.slice aq nq cq)) (by kernel_rfl) (HKK.out _ HV.out) (fun hHeld => ?_)
   refine takeT 0 hHeld ?_
   try simp only [Act.put, List.setIfInBounds_toArray, List.set_cons_zero, List.set_cons_succ]
   refine takeT 1 hHeld ?_
   try simp only [Act.put, List.setIfInBounds_toArray, List.set_cons_zero, List.set_cons_succ]
   refine takeT 2 hHeld ?_
   try simp only [Act.put, List.setIfInBounds_toArray, List.set_cons_zero, List.set_cons_succ]
   refine takeT 3 hHeld ?_
   try simp only [Act.put, List.setIfInBounds_toArray, List.set_cons_zero, List.set_cons_succ]
   refine takeT 5 hHeld ?_
   try simp only [Act.put, List.setIfInBounds_toArray, List.set_cons_zero, List.set_cons_succ]
   refine takeT 6 hHeld ?_
   try simp only [Act.put, List.setIfInBounds_toArray, List.set_cons_zero, List.set_cons_succ]
   refine runS 4 (oi := ?oib4) ?hib4 (by kernel_rfl) (fun K hK => ?_)
   case hib4 => (simp only [List.getElem?_toArray, List.getElem?_cons_succ, List.getElem?_cons_zero]; exact rfl)
   go_simp
   go_at_call 76; (with_reducible refine (HCf.out _ HV.out).mono ?_); rintro e y2 ⟨rfl, hb⟩; replace HV := hid (HV.out.trans (hb.mono HV.out.size)); clear hb
   go_wp2_with fail
   refine hK.out _ _ ?_ (fun hHeld2 => ?_)
   ·(try dsimp only); (first | (with_reducible exact HKK.out _ (Below.refl _ _)) | (with_reducible exact HKK.out _ HV.out))
   clear hK K hHeld
   have hHeld := hHeld2
   clear hHeld2
   try simp only [Act.put, List.setIfInBounds_toArray, List.set_cons_zero, List.set_cons_succ]
   refine runS 7 (oi := ?oib7) ?hib7 (by kernel_rfl) (fun K hK => ?_)
   case hib7 => (simp only [List.getElem?_toArray, List.getElem?_cons_succ, List.getElem?_cons_zero]; exact rfl)
   go_simp
   go_at_call 91; (with_reducible refine (HMy.out _ HV.out).mono ?_); rintro e y3 ⟨rfl, hb⟩; replace HV := hid (HV.out.trans (hb.mono HV.out.size)); clear hb
   go_wp2_with fail
   refine hK.out _ _ ?_ (fun hHeld2 => ?_)
   ·(try dsimp only); (first | (with_reducible exact HKK.out _ (Below.refl _ _)) | (with_reducible exact HKK.out _ HV.out))
   clear hK K hHeld
   have hHeld := hHeld2
   clear hHeld2
   try simp only [Act.put, List.setIfInBounds_toArray, List.set_cons_zero, List.set_cons_succ]
   refine takeT 8 hHeld ?_
   try simp only [Act.put, List.setIfInBounds_toArray, List.set_cons_zero, List.set_cons_succ]
   refine takeT 9 hHeld ?_
   try simp only [Act.put, List.setIfInBounds_toArray, List.set_cons_zero, List.set_cons_succ]
   refine takeT 10 hHeld ?_
   try simp only [Act.put, List.setIfInBounds_toArray, List.set_cons_zero, List.set_cons_succ]
   refine takeT 11 hHeld ?_
   try simp only [Act.put, List.setIfInBounds_toArray, List.set_cons_zero, List.set_cons_succ]
   refine takeT 12 hHeld ?_
   try simp only [Act.put, List.setIfInBounds_toArray, List.set_cons_zero, List.set_cons_succ]
   refine takeT 13 hHeld ?_
   try simp only [Act.put, List.setIfInBounds_toArray, List.set_cons_zero, List.set_cons_succ]
   refine takeT 14 hHeld ?_
   try simp only [Act.put, List.setIfInBounds_toArray, List.set_cons_zero, List.set_cons_succ]
   refine takeT 15 hHeld ?_
   try simp only [Act.put, List.setIfInBounds_toArray, List.set_cons_zero, List.set_cons_succ]
   refine takeT 16 hHeld ?_
   try simp only [Act.put, List.setIfInBounds_toArray, List.set_cons_zero, List.set_cons_succ]
   refine takeT 17 hHeld ?_
   try simp only [Act.put, List.setIfInBounds_toArray, List.set_cons_zero, List.set_cons_succ]
   refine skipT 18 hHeld ?_
   try simp only [Act.put, List.setIfInBounds_toArray, List.set_cons_zero, List.set_cons_succ]
   refine skipT 19 hHeld ?_
   try simp only [Act.put, List.setIfInBounds_toArray, List.set_cons_zero, List.set_cons_succ]
   refine skipT 22 hHeld ?_
   try simp only [Act.put, List.setIfInBounds_toArray, List.set_cons_zero, List.set_cons_succ]
   refine skipT 23 hHeld ?_
   try simp only [Act.put, List.setIfInBounds_toArray, List.set_cons_zero, List.set_cons_succ]
   refine skipT 24 hHeld ?_
   try simp only [Act.put, List.setIfInBounds_toArray, List.set_cons_zero, List.set_cons_succ]
   refine runS 20 (oi := ?oib20) ?hib20 (by kernel_rfl) (fun K hK => ?_)
   case hib20 => (simp only [List.getElem?_toArray, List.getElem?_cons_succ, List.getElem?_cons_zero]; exact rfl)
   go_simp
   refine hK.out _ _ ?_ (fun hHeld2 => ?_)
   ·(try dsimp only); (first | (with_reducible exact HKK.out _ (Below.refl _ _)) | (with_reducible exact HKK.out _ HV.out))
   clear hK K hHeld
   have hHeld := hHeld2
   clear hHeld2
   try simp only [Act.put, List.setIfInBounds_toArray, List.set_cons_zero, List.set_cons_succ]
   refine runS 21 (oi := ?oib21) ?hib21 (by kernel_rfl) (fun K hK => ?_)
   case hib21 => (simp only [List.getElem?_toArray, List.getElem?_cons_succ, List.getElem?_cons_zero]; exact rfl)
   go_simp
   refine hK.out _ _ ?_ (fun hHeld2 => ?_)
   ·(try dsimp only); (first | (with_reducible exact HKK.out _ (Below.refl _ _)) | (with_reducible exact HKK.out _ HV.out))
   clear hK K hHeld
   have hHeld := hHeld2
   clear hHeld2
   try simp only [Act.put, List.setIfInBounds_toArray, List.set_cons_zero, List.set_cons_succ]
   refine skipT 25 hHeld ?_
   try simp only [Act.put, List.setIfInBounds_toArray, List.set_cons_zero, List.set_cons_succ]
   refine skipT 26 hHeld ?_
   try simp only [Act.put, List.setIfInBounds_toArray, List.set_cons_zero, List.set_cons_succ]
   refine takeT 27 hHeld ?_
   try simp only [Act.put, List.setIfInBounds_toArray, List.set_cons_zero, List.set_cons_succ]
   refine takeT 28 hHeld ?_
   try simp only [Act.put, List.setIfInBounds_toArray, List.set_cons_zero, List.set_cons_succ]
   refine skipT 29 hHeld ?_
   try simp only [Act.put, List.setIfInBounds_toArray, List.set_cons_zero, List.set_cons_succ]
   refine skipT 30 hHeld ?_
   try simp only [Act.put, List.setIfInBounds_toArray, List.set_cons_zero, List.set_cons_succ]
   refine skipT 31 hHeld ?_
   try simp only [Act.put, List.setIfInBounds_toArray, List.set_cons_zero, List.set_cons_succ]
   refine skipT 32 hHeld ?_
   try simp only [Act.put, List.setIfInBounds_toArray, List.set_cons_zero, List.set_cons_succ]
   refine skipT 33 hHeld ?_
   try simp only [Act.put, List.setIfInBounds_toArray, List.set_cons_zero, List.set_cons_succ]
   refine takeT 34 hHeld ?_
   try simp only [Act.put, List.setIfInBounds_toArray, List.set_cons_zero, List.set_cons_succ]
   refine takeT 35 hHeld ?_
   try simp only [Act.put, List.setIfInBounds_toArray, List.set_cons_zero, List.set_cons_succ]
   refine skipT 36 hHeld ?_
   try simp only [Act.put, List.setIfInBounds_toArray, List.set_cons_zero, List.set_cons_succ]
   refine skipT 37 hHeld ?_
   try simp only [Act.put, List.setIfInBounds_toArray, List.set_cons_zero, List.set_cons_succ]
   refine skipT 38 hHeld ?_
   try simp only [Act.put, List.setIfInBounds_toArray, List.set_cons_zero, List.set_cons_succ]
   refine skipT 39 hHeld ?_
   try simp only [Act.put, List.setIfInBounds_toArray, List.set_cons_zero, List.set_cons_succ]
   refine skipT 41 hHeld ?_
   try simp only [Act.put, List.setIfInBounds_toArray, List.set_cons_zero, List.set_cons_succ]
   refine skipT 42 hHeld ?_
   try simp only [Act.put, List.setIfInBounds_toArray, List.set_cons_zero, List.set_cons_succ]
   refine skipT 43 hHeld ?_
   try simp only [Act.put, List.setIfInBounds_toArray, List.set_cons_zero, List.set_cons_succ]
   refine skipT 44 hHeld ?_
   try simp only [Act.put, List.setIfInBounds_toArray, List.set_cons_zero, List.set_cons_succ]
   refine skipT 45 hHeld ?_
   try simp only [Act.put, List.setIfInBounds_toArray, List.set_cons_zero, List.set_cons_succ]
   refine runS 40 (oi := ?oib40) ?hib40 (by kernel_rfl) (fun K hK => ?_)
   case hib40 => (simp only [List.getElem?_toArray, List.getElem?_cons_succ, List.getElem?_cons_zero]; exact rfl)
   go_simp
   refine hK.out _ _ ?_ (fun hHeld2 => ?_)
   ·(try dsimp only); (first | (with_reducible exact HKK.out _ (Below.refl _ _)) | (with_reducible exact HKK.out _ HV.out))
   clear hK K hHeld
   have hHeld := hHeld2
   clear hHeld2
   try simp only [Act.put, List.setIfInBounds_toArray, List.set_cons_zero, List.set_cons_succ]
   refine skipT 46 hHeld ?_
   try simp only [Act.put, List.setIfInBounds_toArray, List.set_cons_zero, List.set_cons_succ]
   refine takeT 47 hHeld ?_
   try simp only [Act.put, List.setIfInBounds_toArray, List.set_cons_zero, List.set_cons_succ]
   refine takeT 48 hHeld ?_
   try simp only [Act.put, List.setIfInBounds_toArray, List.set_cons_zero, List.set_cons_succ]
   refine wpAnyH_done (by kernel_rfl) ?_ _
   refine NoPanic.normal ?_
   clear hHeld
   go_wp2_with fail
   go_ret
   exact ⟨by rw [HE.out]; first | done | rfl, HX.out _ HV.out⟩
end
end Go.Proofs.YtjgggialnegddaaGreat
