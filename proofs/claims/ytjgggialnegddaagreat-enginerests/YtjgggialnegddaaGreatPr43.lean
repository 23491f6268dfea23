/-
  The texts EnW5, EnW6 of this proof.
-/
import Derived.Test.YtjgggialnegddaaGreatPr42
import Derived.Test.YtjgggialnegddaaGreatPr37
import Derived.Deep.RegionHeld3
set_option linter.unusedVariables false
set_option maxRecDepth 1000000
namespace Go.Proofs.YtjgggialnegddaaGreat
open Go.RowKit Go.Maps
def setR (a : At) : At := { a with run := true }
theorem runL_bs (b : Nat) : ∀ (bs qs : List At) (n : Nat), (∀ a ∈ bs, a.run = true) → runL b n (bs ++ qs) = bs ++ runL b (n + bs.length) qs
 | [], qs, n, _ => rfl
 | a :: bs, qs, n, h => by
  rw [List.cons_append]
  simp only [runL]
  rw [if_pos (h a (List.mem_cons_self ..)), runL_bs b bs qs (n + 1) (fun x hx => h x (List.mem_cons_of_mem _ hx)), List.length_cons, List.cons_append, show n + 1 + bs.length = n + (bs.length + 1) by omega]
theorem runL_qs (b : Nat) : ∀ (qs : List At) (n : Nat), (∀ a ∈ qs, a.run = false) → runL b n qs = (qs.take (b - n)).map setR ++ qs.drop (b - n)
 | [], n, _ => by simp [runL]
 | a :: qs, n, h => by
  simp only [runL]
  rw [if_neg (by rw [h a (List.mem_cons_self ..)]; simp)]
  have hq : ∀ x ∈ qs, x.run = false := fun x hx => h x (List.mem_cons_of_mem _ hx)
  split
  ·rename_i hl
   rw [runL_qs b qs (n + 1) hq, show b - n = (b - (n + 1)) + 1 by omega, List.take_succ_cons, List.drop_succ_cons, List.map_cons, List.cons_append]
   rfl
  ·rename_i hl
   rw [runL_qs b qs n hq, show b - n = 0 by omega]
   simp
theorem setR_ids (L : List At) : (L.map setR).map (·.id) = L.map (·.id) := by
 rw [List.map_map]
 rfl
theorem hasB_run (b n : Nat) (L : List At) (y : Int) : hasB (runL b n L) y = hasB L y := by
 rw [Bool.eq_iff_iff, hasB_iff, hasB_iff, runL_ids]
theorem runL_len (b n : Nat) (L : List At) : (runL b n L).length = L.length := by
 have := congrArg List.length (runL_ids b L n)
 simpa using this
section
variable {w : World} {B mb : Nat} {pm pc : Option Addr} {qv bv : Value} {nd : Int → Nat} {S : Rs} {bs qs : List At} {Fc It : Nat → Prop}
theorem OkR.run {S : Rs} (h : OkR S) (b n : Nat) : OkR { S with L := runL b n S.L } := by
 have hm : ∀ (L : List At) (n : Nat), ∀ a ∈ runL b n L, ∃ a0 ∈ L, a = { a0 with run := a.run } := by
  intro L
  induction L with
  | nil => intro n a ha; cases ha
  | cons x L ih =>
   intro n a ha
   simp only [runL] at ha
   split at ha
   ·rcases List.mem_cons.1 ha with rfl | ha
    ·exact ⟨_, List.mem_cons_self .., by cases a; rfl⟩
    ·obtain ⟨a0, h1, h2⟩ := ih _ a ha
     exact ⟨a0, List.mem_cons_of_mem _ h1, h2⟩
   ·split at ha
    ·rcases List.mem_cons.1 ha with rfl | ha
     ·exact ⟨x, List.mem_cons_self .., rfl⟩
     ·obtain ⟨a0, h1, h2⟩ := ih _ a ha
      exact ⟨a0, List.mem_cons_of_mem _ h1, h2⟩
    ·rcases List.mem_cons.1 ha with rfl | ha
     ·exact ⟨_, List.mem_cons_self .., by cases a; rfl⟩
     ·obtain ⟨a0, h1, h2⟩ := ih _ a ha
      exact ⟨a0, List.mem_cons_of_mem _ h1, h2⟩
 have hl : (runL b n S.L).length = S.L.length := by
  have := congrArg List.length (runL_ids b S.L n)
  simpa using this
 refine ⟨h.set, h.inc, ?_, ?_, fun a ha => ?_⟩
 ·show ((runL b n S.L).map (·.id)).Nodup
  rw [runL_ids]
  exact h.one
 ·show ((runL b n S.L).length : Int) ≤ S.s.q + S.s.b
  rw [hl]
  exact h.few
 ·obtain ⟨a0, h1, h2⟩ := hm _ _ a ha
  rw [h2]
  exact h.ok a0 h1
theorem EnI.bnd (h : EnI w B mb pm pc qv bv nd S bs qs Fc It) : 1 ≤ S.s.q ∧ S.s.q ≤ 64 ∧ 1 ≤ S.s.b ∧ S.s.b ≤ 16 ∧ 1 ≤ S.s.ch ∧ S.s.ch ≤ 16 := by
 have := h.ok.set
 unfold setB at this
 simp only [Bool.and_eq_true, btw_iff] at this
 obtain ⟨_, h2, h3, h4, _⟩ := this
 exact ⟨h2.1, h2.2, h3.1, h3.2, h4.1, h4.2⟩
set_option maxHeartbeats 1000000 in
theorem efill_any (h : EnI w B mb pm pc qv bv nd S bs qs Fc It) :
  Calls Tryz.prog 37 #[.pointer (some ⟨B, 0, none⟩)] w fun e w' => e = .returned (.tuple #[]) ∧ ∃ qv' bv' bs' qs', EnI w' B mb pm pc qv' bv' nd { S with L := runL S.s.b.toNat 0 S.L } bs' qs' Fc It ∧ qv'.ownBlock = qv.ownBlock ∧ (∀ k, bv'.ownBlock = some k → bv.ownBlock = some k ∨ w.heap.size ≤ k) ∧ Fb (reF B mb qv bv) w w' := by
 obtain ⟨c0, c1, c2, c3, c4, c5, c6, c7, c8, c9⟩ := h.cells
 obtain ⟨_, q64, b1, b16, _, _⟩ := h.bnd
 have hbl := h.bsl
 have hql := h.qsl
 obtain ⟨aq, cq, eq, hrq⟩ := h.qrow.reads
 obtain ⟨ab, cb, eb, hrb⟩ := h.brow.reads
 have rq := hrq.room
 have mq := hrq.most
 have rb := hrb.room
 have mb' := hrb.most
 rw [List.length_map] at eq eb rq rb
 obtain ⟨b0, hb0⟩ : ∃ b0 : Nat, S.s.b = b0 := ⟨S.s.b.toNat, by omega⟩
 obtain ⟨nq, hnq⟩ : ∃ nq, qs.length = nq := ⟨_, rfl⟩
 obtain ⟨nb, hnb⟩ : ∃ nb, bs.length = nb := ⟨_, rfl⟩
 rw [hnq] at eq rq hql
 rw [hnb] at eb rb hbl
 obtain ⟨r, hr⟩ : ∃ r, b0 - nb = r := ⟨_, rfl⟩
 obtain ⟨m, hm⟩ : ∃ m, min nq r = m := ⟨_, rfl⟩
 have hmq : m ≤ nq := by omega
 have hL : runL S.s.b.toNat 0 S.L = (bs ++ (qs.take m).map setR) ++ qs.drop m := by
  rw [h.L, runL_bs _ _ _ _ h.rb, runL_qs _ _ _ h.rq, hnb, hb0, Int.toNat_natCast, Nat.zero_add, hr, List.append_assoc]
  by_cases hc : nq ≤ r
  ·rw [show m = nq by omega, List.take_of_length_le (by omega), List.drop_of_length_le (by omega), List.take_of_length_le (by omega), List.drop_of_length_le (by omega)]
  ·rw [show m = r by omega]
 have HLb : Hid (((bs ++ (qs.take m).map setR).length : Int) ≤ S.s.b) := by
  unfold Hid
  rw [List.length_append, List.length_map, List.length_take, hnb, hnq, hb0]
  omega
 have HLq : Hid (((qs.drop m).length : Int) ≤ S.s.q) := by
  unfold Hid
  rw [List.length_drop, hnq]
  omega
 have hq2 : Reads .u64 w.drew.drew aq m cq ((qs.map (·.id)).take m) := by
  have := hrq.cut (m := m) (by rw [List.length_map, hnq]; exact hmq)
  exact this.below (Below.refl _ _).drew.drew
 obtain ⟨bv', w2, e2, hO2, hg2, hm2⟩ := run_uapp w.drew.drew bv (bs.map (·.id)) (show UQ w.drew.drew bv (bs.map (·.id)) from h.brow) aq m cq _ hq2 (by rw [List.length_map, hnb]; omega) 59
 have hb2 : Fb (fun k => bv.ownBlock = some k) w w2 := ⟨hg2.os, hg2.tape, hg2.output, hg2.size, fun k hk hn => hg2.block k hk fun e => hn e.symm⟩
 obtain ⟨ab', cb', eb', _⟩ := hO2.reads
 obtain ⟨nb', hnb'⟩ : ∃ n, (bs.map (·.id) ++ (qs.map (·.id)).take m).length = n := ⟨_, rfl⟩
 rw [hnb'] at eb'
 subst eb'
 have hv2 : w2.heap[B]? = some (.cells (RpV pm pc S mb qv bv) 73 (0, 0)) := hb2.one h.var fun e => h.Bb e
 have a9 : w2.cell? ⟨B, 9, none⟩ = some bv := by rw [cell_of_row _ _ _ _ _ _ hv2]; rfl
 have a8 : w2.cell? ⟨B, 8, none⟩ = some qv := by rw [cell_of_row _ _ _ _ _ _ hv2]; rfl
 have f9 : w2.frozen? ⟨B, 9, none⟩ = false := frozen_of_row _ _ 9 _ _ hv2
 obtain ⟨w3, hw3⟩ : ∃ w3, w3 = w2.setCell ⟨B, 9, none⟩ (.slice ab' nb' cb') := ⟨_, rfl⟩
 have hb3 : Fb (at1 B) w2 w3 := by rw [hw3]; exact Fb.set (by exact rfl) _
 have hv3 : w3.heap[B]? = some (.cells (RpV pm pc S mb qv (.slice ab' nb' cb')) 73 (0, 0)) := by rw [hw3]; exact row_set (k := 9) (u := .slice ab' nb' cb') hv2
 have s2 := hb2.size
 have s3 := hb3.size
 have hq3 : UQ w3 qv (qs.map (·.id)) := own_blk h.qrow fun b e => by
  have l1 := (World.ownsRow.lt h.qrow b e).2
  exact (hb3.block b (by omega) fun e2 => h.Bq (by rw [e, show b = B from e2])).trans (hb2.block b l1 fun e2 => h.qb b e e2)
 have hD := udrop_any qv (qs.map (·.id)) m w3 hq3 (by rw [List.length_map, hnq]; exact hmq) (by rw [List.length_map, hnq]; omega)
 have b8 : w3.cell? ⟨B, 8, none⟩ = some qv := by rw [cell_of_row _ _ _ _ _ _ hv3]; rfl
 have H := hid h
 have HL := hid hL
 have HO2 := hid hO2
 have HB2 := hid hb2
 have HB3 := hid hb3
 have HV3 := hid hv3
 have HM2 := hid hm2
 have HE2 := hid e2
 have HNB := hid hnb
 have HNQ := hid hnq
 have HB0 := hid hb0
 have hmin1 : (if (nq : Int) < (r : Int) then (nq : Int) else (r : Int)) = (m : Int) := by omega
 have hmin2 : (if (r : Int) < (nq : Int) then (r : Int) else (nq : Int)) = (m : Int) := by omega
 have hmin3 : (if nq < r then (nq : Int) else (r : Int)) = (m : Int) := by split <;> omega
 have hmin4 : (if r < nq then (r : Int) else (nq : Int)) = (m : Int) := by split <;> omega
 have hsub : (b0 : Int) - (nb : Int) = (r : Int) := by omega
 have hwr : IntKind.i64.wrap ((b0 : Int) - (nb : Int)) = (r : Int) := by rw [hsub]; exact wrap64_in (by omega) (by omega)
 have hcut := ucut_to aq nq cq m (by omega) mq
 have hw6 : wrap64 (r : Int) = (r : Int) := by unfold wrap64; omega
 rw [hb0] at c3
 rw [eq] at c8 b8 hD a8
 rw [eb] at c9 a9
 have HEq := hid eq
 have HEb := hid eb
 rw [eb] at HE2
 clear h hL hO2 hb2 hb3 hv2 hv3 hm2 e2 hq2 hg2 hq3 hrq hrb eq eb hnb' hb0 hnq hnb c0 c1 c2 c4 c5 c6 c7
 go_enter Tryz.func37, Tryz.ntmps37
 go_wp2_with fail
 go_region
 go_wp2_with fail
 go_region_law (refine step_app_eq (by rfl) 31 (by rfl) (.tmp 24) (.tmp 30) 59 (by rfl) _ _ _ _ (by simp [Act.eval, Act.put]) (by simp [Act.eval, Act.put]) HE2.out ?_)
 all_goals
  rw [hw3] at b8
  go_wp2_with fail
  rw [← hw3]
  refine hD.mono ?_
  rintro e w4 ⟨qv', rfl, hq4, ho4, hb4⟩
  obtain ⟨aq', cq', eq', _⟩ := hq4.reads
  obtain ⟨nq', hnq'⟩ : ∃ n, ((qs.map (·.id)).drop m).length = n := ⟨_, rfl⟩
  rw [hnq'] at eq'
  subst eq'
  have ho5 : (Value.slice aq' nq' cq').ownBlock = qv.ownBlock := by rw [HEq.out]; exact ho4
  replace hb4 : Fb (fun k => qv.ownBlock = some k) w3 w4 := by rw [HEq.out]; exact hb4
  have hv4 : w4.heap[B]? = some (.cells (RpV pm pc S mb qv (.slice ab' nb' cb')) 73 (0, 0)) := hb4.one HV3.out fun e => H.out.Bq e
  have g8 : w4.cell? ⟨B, 8, none⟩ = some qv := by rw [cell_of_row _ _ _ _ _ _ hv4]; rfl
  have f8 : w4.frozen? ⟨B, 8, none⟩ = false := frozen_of_row _ _ 8 _ _ hv4
  have HR : Hid (∃ qv1 bv1 bs1 qs1, EnI (w4.setCell ⟨B, 8, none⟩ (.slice aq' nq' cq')) B mb pm pc qv1 bv1 nd { S with L := runL S.s.b.toNat 0 S.L } bs1 qs1 Fc It ∧ qv1.ownBlock = qv.ownBlock ∧ (∀ k, bv1.ownBlock = some k → bv.ownBlock = some k ∨ w.heap.size ≤ k) ∧ Fb (reF B mb qv bv) w (w4.setCell ⟨B, 8, none⟩ (.slice aq' nq' cq'))) := by
   have hb5 : Fb (at1 B) w4 (w4.setCell ⟨B, 8, none⟩ (.slice aq' nq' cq')) := Fb.set (by exact rfl) _
   have hF : Fb (reF B mb qv bv) w (w4.setCell ⟨B, 8, none⟩ (.slice aq' nq' cq')) := by
    refine Fb.trans (G := at1 B) ?_ hb5 fun k hk => .inl (.inl hk)
    refine Fb.trans (G := fun k => qv.ownBlock = some k) ?_ hb4 fun k hk => .inl (.inr (.inr (.inl hk)))
    refine Fb.trans (G := at1 B) ?_ HB3.out fun k hk => .inl (.inl hk)
    exact HB2.out.mono fun k hk => .inr (.inr (.inr hk))
   have hmv : ∀ k, (Value.slice ab' nb' cb').ownBlock = some k → bv.ownBlock = some k ∨ w.heap.size ≤ k := fun k e => by
    rcases HM2.out with e2 | ⟨o, e2, hl⟩
    ·rw [e2] at e; exact .inl e
    ·rw [e2] at e
     cases e
     exact .inr hl
   have s2 := HB2.out.size
   have s3 := HB3.out.size
   have s4 := hb4.size
   refine ⟨.slice aq' nq' cq', .slice ab' nb' cb', bs ++ (qs.take m).map setR, qs.drop m, H.out.re hF (H.out.ok.run _ _) ?_ ?_ HL.out ?_ (fun a ha => H.out.rq a (List.mem_of_mem_drop ha)) rfl (Nat.le_refl _) ?_ ?_ ?_ ?_ ?_ ?_, ho5, hmv, hF⟩
   ·exact HLb.out
   ·exact HLq.out
   ·intro a ha
    rcases List.mem_append.1 ha with h' | h'
    ·exact H.out.rb a h'
    ·obtain ⟨a0, _, rfl⟩ := List.mem_map.1 h'
     rfl
   ·exact row_set (k := 8) (u := .slice aq' nq' cq') hv4
   ·have hl := runL_len S.s.b.toNat 0 S.L
    show AmAt _ mb (runL S.s.b.toNat 0 S.L).length (mapF (runL S.s.b.toNat 0 S.L) nd)
    rw [hl]
    have hmm := H.out.map.ext (g := mapF (runL S.s.b.toNat 0 S.L) nd) fun y _ => by
     unfold mapF
     rw [hasB_run]
    have l1 := H.out.map.lt
    exact hmm.same ((hb5.block mb (by omega) fun e => H.out.Bmb (Eq.symm e)).trans ((hb4.block mb (by omega) fun e => H.out.mq e).trans ((HB3.out.block mb (by omega) fun e => H.out.Bmb (Eq.symm e)).trans (HB2.out.block mb l1 fun e => H.out.mbv e))))
   ·rw [List.map_drop]
    refine own_blk hq4 fun b e => ?_
    have l2 := (World.ownsRow.lt hq4 b e).2
    rw [ho5] at e
    exact hb5.block b l2 fun e2 => H.out.Bq (by rw [e, show b = B from e2])
   ·rw [List.map_append, setR_ids, List.map_take]
    refine own_blk HO2.out fun b e => ?_
    have l2 := (World.ownsRow.lt HO2.out b e).2
    have hne : b ≠ B := fun e2 => by
     rcases hmv b e with h' | h'
     ·exact H.out.Bb (by rw [h', e2])
     ·have := H.out.old B (.inl rfl); omega
    refine (hb5.block b (by omega) hne).trans ((hb4.block b (by omega) fun e2 => ?_).trans (HB3.out.block b l2 hne))
    rcases hmv b e with h' | h'
    ·exact H.out.qb b e2 h'
    ·have := (World.ownsRow.lt H.out.qrow b e2).2; omega
   ·intro k e e2
    rw [ho5] at e
    rcases hmv k e2 with h' | h'
    ·exact H.out.qb k e h'
    ·have := (World.ownsRow.lt H.out.qrow k e).2; omega
   ·intro a ha
    have ha' : a ∈ (bs ++ (qs.take m).map setR) ++ qs.drop m := by rw [← HL.out]; exact ha
    rw [H.out.L]
    rcases List.mem_append.1 ha' with h' | h'
    ·rcases List.mem_append.1 h' with h'' | h''
     ·exact ⟨a, List.mem_append_left _ h'', by cases a; rfl⟩
     ·obtain ⟨a0, h0, rfl⟩ := List.mem_map.1 h''
      exact ⟨a0, List.mem_append_right _ (List.mem_of_mem_take h0), rfl⟩
    ·exact ⟨a, List.mem_append_right _ (List.mem_of_mem_drop h'), by cases a; rfl⟩
  clear hD H HL HO2 HB2 HB3 HV3 HM2 HNB HNQ HB0 HEq HEb HE2 hw3 hv4 hq4 hb4 ho4 ho5 hnq' hcut b8 a8 hmin1 hmin2 hmin3 hmin4 hsub hwr hw6
  go_wp2_with fail
  go_end0
  exact ⟨rfl, HR.out⟩
end
end Go.Proofs.YtjgggialnegddaaGreat
namespace Go.Proofs.YtjgggialnegddaaGreat
open Go.RowKit Go.Maps
theorem StT.at {W : World} {q : Option Addr} {c : Cf} {ts : List Int} {ta : Option Addr} (h : StT W q c ts ta) : StAt W q c ts (stF W ta) := by
 obtain ⟨g, pm, tc, ha, hc, pq, rfl, k2, k3, k4, k5⟩ := h
 exact k2.at k4 k5
theorem StT.one {W : World} {q : Option Addr} {c : Cf} {ts : List Int} {ta : Option Addr} (h : StT W q c ts ta) : 1 ≤ ts.length ∧ ts.length ≤ 256 := by
 obtain ⟨g, pm, tc, ha, hc, pq, rfl, k2, k3, k4, k5⟩ := h
 exact ⟨k4, k5⟩
theorem StT.ptr {W : World} {q : Option Addr} {c : Cf} {ts : List Int} {ta : Option Addr} (h : StT W q c ts ta) : ∃ g, q = some ⟨g, 0, none⟩ := by
 obtain ⟨g, pm, tc, ha, hc, pq, rfl, k2, k3, k4, k5⟩ := h
 exact ⟨g, rfl⟩
theorem StAt.from {w w' : World} {q' : Option Addr} {c : Cf} {ts' : List Int} {F F0 : Nat → Prop} (hS : StAt w' q' c ts' F) (hF : ∀ k, F k → F0 k ∨ w.heap.size ≤ k ∨ NotInt w k) (hb : Below w.heap.size w w') : ∃ ta', StT w' q' c ts' ta' ∧ ∀ k, mF ta' k → (F0 k ∧ ¬ NotInt w k) ∨ w.heap.size ≤ k := by
 obtain ⟨ta', hT, hta⟩ := hS.d
 refine ⟨ta', hT, fun k hk => ?_⟩
 have hnot : ¬ NotInt w k := fun ⟨cur, t, fz, e1, e2⟩ => by
  obtain ⟨cur', fz', hcur⟩ := hT.int hk
  rw [(hb.block _ (lt_of_block e1)).trans e1] at hcur
  simp at hcur
  exact e2 hcur.2.1
 rcases hF k (hta k hk) with h' | h' | h'
 ·exact .inl ⟨h', hnot⟩
 ·exact .inr h'
 ·exact absurd h' hnot
theorem elen_any {q : Option Addr} {c : Cf} {ts : List Int} {ta : Option Addr} (w : World) (h : StT w q c ts ta) : Calls Tryz.prog 82 #[.pointer q] w fun e w' => e = .returned (.int .i64 ts.length) ∧ w = w' := by
 obtain ⟨g, pm, tc, ha, hc, pq, rfl, k2, k3, k4, k5⟩ := h
 exact (dlen_in k2).mono fun e w' ⟨h1, h2⟩ => ⟨h1, h2.symm⟩
theorem enew_any (p : Option Addr) (c : Cf) (w : World) (hp : ∃ g, p = some ⟨g, 0, none⟩ ∧ w.heap[g]? = some (.cells (CfV c) 100 (0, 0))) (hc : mayB c = true) :
  Calls Tryz.prog 106 #[.pointer p] w fun e w' => ∃ q ta, e = .returned (.tuple #[.pointer q, .int .i64 0]) ∧ StT w' q c [0] ta ∧ (∀ k, mF ta k → w.heap.size ≤ k) ∧ Below w.heap.size w w' := by
 obtain ⟨g, rfl, hg⟩ := hp
 refine (dnew_yes _ c w (.inr ⟨g, rfl, hg⟩) hc).mono ?_
 rintro e w' ⟨g', F, rfl, hS, hF, hb⟩
 obtain ⟨ta, hT, hta⟩ := hS.from hF hb
 refine ⟨_, ta, rfl, hT, fun k hk => ?_, hb⟩
 rcases hta k hk with ⟨⟨a, e, rfl⟩, hn⟩ | h'
 ·cases e
  exact absurd ⟨_, _, _, hg, by decide⟩ hn
 ·exact h'
theorem efeed_any {q : Option Addr} {c : Cf} {ts : List Int} {ta : Option Addr} (t : Int) (w : World) (h : StT w q c ts ta) (hc : mayB c = true) (h0 : 0 ≤ t) (h1 : t < c.vocab) (hl : ts.length < 256) :
  Calls Tryz.prog 81 #[.pointer q, .int .i64 t] w fun e w' => ∃ q' ta', e = .returned (.tuple #[.pointer q', .int .i64 0]) ∧ StT w' q' c (ts ++ [t]) ta' ∧ (∀ k, mF ta' k → mF ta k ∨ w.heap.size ≤ k) ∧ Below w.heap.size w w' := by
 refine (dfeed_yes q c ts t w h.at hc h0 h1 hl).mono ?_
 rintro e w' ⟨g', F, rfl, hS, hF, hb⟩
 obtain ⟨ta', hT, hta⟩ := hS.from hF hb
 refine ⟨_, ta', rfl, hT, fun k hk => ?_, hb⟩
 rcases hta k hk with ⟨h' | h', hn⟩ | h'
 ·exact absurd h' hn
 ·exact .inl h'
 ·exact .inr h'
def FromG (w : World) (tb : Option Addr) (c : Cf) (seed : Int) (ts : List Int) (m k : Nat) (e : Ending) (w' : World) : Prop :=
 ∃ a cap q b ta, e = .returned (.tuple #[.slice a (refL c seed ts (min m k)).length cap, .pointer q, .bool b]) ∧ Reads .i64 w' a (refL c seed ts (min m k)).length cap (refL c seed ts (min m k)) ∧ (∀ p, a = some p → w.heap.size ≤ p.block ∧ IntB w' p.block) ∧ StT w' q c (ts ++ refL c seed ts (min m k)) ta ∧ (∀ k, mF ta k → mF tb k ∨ w.heap.size ≤ k) ∧
  (b = true → refL c seed (ts ++ refL c seed ts (min m k)) (m - (refL c seed ts (min m k)).length) = []) ∧ (b = false → (refL c seed ts (min m k)).length = k) ∧ Below w.heap.size w w'
theorem efrom_any (p : Option Addr) (q : Option Addr) (c : Cf) (j : Jb) (ts : List Int) (tb : Option Addr) (n k m : Nat) (w : World) (hp : ∃ g, p = some ⟨g, 0, none⟩ ∧ w.heap[g]? = some (.cells (CfV c) 100 (0, 0))) (hc : mayB c = true) (hj : JbIn w j) (hs : StT w q c ts tb) (hn : j.most = (n + m : Nat)) (hM : j.most ≤ 256) (hk : k ≤ 1000) :
  Calls Tryz.prog 56 #[.pointer p, .agg (JbV j), .pointer q, .int .i64 n, .int .i64 k] w fun e w' => FromG w tb c j.seed ts m k e w' := by
 obtain ⟨g, rfl, hg⟩ := hp
 rcases Nat.eq_zero_or_pos m with rfl | hm
 ·refine (from_stop _ q j n k w (by omega) (by omega) fun W hb => fol_out q j n W (by omega)).mono ?_
  rintro e w' ⟨rfl, hb⟩
  have h0 : refL c j.seed ts (min 0 k) = [] := by rw [Nat.zero_min]; rfl
  unfold FromG
  rw [h0]
  exact ⟨none, 0, q, true, tb, rfl, Reads.nil _ _, (fun p hp => by cases hp), by rw [List.append_nil]; exact hs.below hb, fun k hk => .inl hk, fun _ => rfl, (fun h => by cases h), hb⟩
 ·refine (dfrom_go _ q c j ts n k m w (.inr ⟨g, rfl, hg⟩) hc hj hs.at hn hm hM hk).mono ?_
  rintro e w' ⟨a, cap, g', b, F, rfl, h1, h2, h3, h4, h5, hb, h6⟩
  obtain ⟨ta', hT, hta⟩ := h2.from h3 hb
  refine ⟨a, cap, _, b, ta', rfl, h1, h6, hT, fun k hk => ?_, h4, h5, hb⟩
  rcases hta k hk with ⟨(h' | h') | ⟨a, e, rfl⟩, hn⟩ | h'
  ·exact absurd h' hn
  ·exact .inl h'
  ·cases e
   exact absurd ⟨_, _, _, hg, by decide⟩ hn
  ·exact .inr h'
theorem eover_any (id inc n why : Int) (w : World) : Calls Tryz.prog 58 #[.int .u64 id, .int .u64 inc, .int .u64 n, .int .i64 why] w fun e w' => e = .returned (.agg (MgC (ovM id inc n why) none 0 0)) ∧ Below w.heap.size w w' := by
 go_enter Tryz.func58, Tryz.ntmps58
 go_wp2
 exact bodyPost_ret (v := .agg (MgC (ovM id inc n why) none 0 0)) (by simp [results, Tryz.results58, go_sem, MgC, ovM]) rfl ⟨rfl, by go_grown⟩
theorem etext_any (j : Jb) (w : World) (hj : JbIn w j) (hl : j.lp ≤ 1000) :
  Calls Tryz.prog 79 #[.agg (JbV j)] w fun e w' => ∃ g cap, e = .returned (.slice (some ⟨g, 0, none⟩) (1 + j.lp) cap) ∧ Reads .i64 w' (some ⟨g, 0, none⟩) (1 + j.lp) cap (0 :: j.ts) ∧ w.heap.size ≤ g ∧ Below w.heap.size w w' := by
 obtain ⟨i0, hi, hz0, hz1, hz2⟩ := info_parts Tryz.info3
 obtain ⟨wA, hwA⟩ : ∃ wA, wA = w.alloc (.cells (JbV j) 43) := ⟨_, rfl⟩
 have hbA : Below w.heap.size w wA := by rw [hwA]; exact (Below.refl _ _).alloc (Nat.le_refl _) _
 obtain ⟨wB, hwB⟩ : ∃ wB, wB = wA.alloc (.cells #[.int .i64 0] 3) := ⟨_, rfl⟩
 have hbB : Below wA.heap.size wA wB := by rw [hwB]; exact (Below.refl _ _).alloc (Nat.le_refl _) _
 have hbw := hbA.trans (hbB.mono hbA.size)
 have hA : wB.heap[w.heap.size]? = some (.cells (JbV j) 43 (0, 0)) := block_bel (by rw [hwA]; exact heap_alloc_new w _) hbB
 obtain ⟨x0, x1, x2⟩ := Jb_cells hA
 have HR := hid (Reads.below hj hbw)
 have HO : Hid (wB.ownsRow w.heap.size 3 1 (.slice (some ⟨wA.heap.size, 0, none⟩) 1 1) 1 (([0] : List Int).map (Value.int .i64))) := by
  unfold Hid
  rw [hwB]
  exact World.ownsRow_lit (base := w.heap.size) (e := 3) (size := 1) wA #[.int .i64 0] 1 hbA.size (by unfold maxLen; omega) (by simp)
 have HB := hid hbw
 have hsA : wA.heap.size = w.heap.size + 1 := by rw [hwA]; simp
 have hWB : wB = (w.alloc (.cells (JbV j) 43)).alloc (.cells #[.int .i64 0] 3) := by rw [hwB, hwA]
 rw [hWB] at x0 x1 x2
 obtain ⟨sd, ap, lp, cp, ts, mo⟩ := j
 unfold JbV at *
 simp only at *
 clear hbA hbB hbw hA hj hwB
 rw [hsA] at HO
 clear hwA hsA wA
 go_enter Tryz.func79, Tryz.ntmps79
 go_wp2_with (at_builtin; rw [← hWB]; refine append_any _ rfl (.tmp 3) (.tmp 5) 41 rfl w.heap.size 3 i0 (.int .i64 0) 8 Tryz.underlying41 hi hz0 hz1 hz2 rfl .i64 _ 1 [0] rfl HO.out ap lp cp ts rfl HR.out (by omega) (by omega) HB.out.size ?_; intro v' w3 hO3 hb3)
 obtain ⟨g, cap, e3⟩ : ∃ g cap, v' = .slice (some ⟨g, 0, none⟩) (1 + lp) cap := by
  rcases id hO3.2 with ⟨_, h0⟩ | ⟨g, cap, cur, e, _⟩
  ·omega
  ·exact ⟨g, cap, e⟩
 subst e3
 obtain ⟨a4, c4, e4, hr4⟩ := Reads.own (k := .i64) hO3
 cases e4
 have HL : Hid (w.heap.size ≤ g) := (World.ownsRow.lt hO3 g rfl).1
 have HR4 : Hid (Reads .i64 w3 (some ⟨g, 0, none⟩) (1 + lp) cap (0 :: ts)) := hr4
 have HB3 := hid (HB.out.trans hb3)
 clear hO3 hb3 hr4 HR HB HO x0 x1 x2 hWB
 go_wp2
 go_ret
 exact ⟨_, _, rfl, HR4.out, HL.out, HB3.out⟩
theorem At_cells {W : World} {b : Nat} {a : At} {pa : Option Addr} {pc : Nat} {sp : Option Addr} (h : W.heap[b]? = some (.cells (AtV a pa pc sp) 106 (0, 0))) : W.cell? ⟨b, 0, none⟩ = some (.int .u64 a.id) ∧ W.cell? ⟨b, 1, none⟩ = some (.int .u64 a.seed) ∧ W.cell? ⟨b, 2, none⟩ = some (.slice pa a.ts.length pc) ∧ W.cell? ⟨b, 3, none⟩ = some (.int .i64 a.most) ∧ W.cell? ⟨b, 4, none⟩ = some (.int .i64 a.k) ∧ W.cell? ⟨b, 5, none⟩ = some (.pointer sp) := by
 refine ⟨?_, ?_, ?_, ?_, ?_, ?_⟩ <;> (rw [cell_of_row _ _ _ _ _ _ h]; rfl)
def jbA (a : At) (pa : Option Addr) (pc : Nat) : Jb := ⟨a.seed, pa, a.ts.length, pc, a.ts, a.most⟩
theorem ebehind_any {b : Nat} {a : At} {pa : Option Addr} {pc : Nat} {sp : Option Addr} {c : Cf} {ts : List Int} {ta : Option Addr} (w : World) (hv : w.heap[b]? = some (.cells (AtV a pa pc sp) 106 (0, 0))) (hr : Reads .i64 w pa a.ts.length pc a.ts) (hs : StT w sp c ts ta) (hl : a.ts.length ≤ 255) (n : Int) (hn : (ts.length : Int) - (1 + a.ts.length : Nat) = n) :
  Calls Tryz.prog 57 #[.pointer (some ⟨b, 0, none⟩)] w fun e w' => e = .returned (.int .i64 n) ∧ Below w.heap.size w w' := by
 have HK : Hid (∀ W : World, Below w.heap.size w W → W.cell? ⟨b, 1, none⟩ = some (.int .u64 a.seed) ∧ W.cell? ⟨b, 2, none⟩ = some (.slice pa a.ts.length pc) ∧ W.cell? ⟨b, 3, none⟩ = some (.int .i64 a.most) ∧ W.cell? ⟨b, 5, none⟩ = some (.pointer sp)) := fun W hb => by
  obtain ⟨_, h1, h2, h3, _, h5⟩ := At_cells (block_bel hv hb)
  exact ⟨h1, h2, h3, h5⟩
 have HL := hid fun (W : World) (hb : Below w.heap.size w W) => elen_any W (hs.below hb)
 have HT := hid fun (W : World) (hb : Below w.heap.size w W) => etext_any (jbA a pa pc) W (Reads.below hr hb) (by show a.ts.length ≤ 1000; omega)
 obtain ⟨t1, t2⟩ := hs.one
 obtain ⟨k0, k1, k2, k3⟩ := HK.out w (Below.refl _ _)
 unfold JbV jbA at HT
 simp only at HT
 clear hv hr hs
 obtain ⟨id, sd, ts', mo, kk, rn⟩ := a
 simp only at *
 generalize ts'.length = lp at *
 generalize ts.length = ln at *
 have hsub : (ln : Int) - ((1 + lp : Nat) : Int) = n := hn
 have hsub2 : (ln : Int) - (1 + (lp : Int)) = n := by omega
 have HWn : Hid (IntKind.i64.wrap n = n) := wrap64_in (by omega) (by omega)
 go_enter Tryz.func57, Tryz.ntmps57
 go_wp2_with fail
 have HV : Hid (Below w.heap.size w w.drew) := (Below.refl _ _).drew
 clear k0 k1 k2 k3
 go_region_held3 (fun W : World => W.cell? ⟨b, 1, none⟩ = some (.int .u64 sd) ∧ W.cell? ⟨b, 2, none⟩ = some (.slice pa lp pc) ∧ W.cell? ⟨b, 3, none⟩ = some (.int .i64 mo) ∧ W.cell? ⟨b, 5, none⟩ = some (.pointer sp)) (first | (with_reducible exact HK.out _ (Below.refl _ _)) | (with_reducible exact HK.out _ HV.out))
  (first
   | (go_at_call 82; (with_reducible refine (HL.out _ HV.out).mono ?_); rintro e w1 ⟨rfl, rfl⟩)
   | (go_at_call 79; (with_reducible refine (HT.out _ HV.out).mono ?_); rintro e w2 ⟨g2, d2, rfl, _, _, hb⟩; replace HV := hid (HV.out.trans (hb.mono HV.out.size)); clear hb)
   | fail)
 all_goals
  go_wp2_with fail
  go_ret
  exact ⟨by show Ending.returned (.int .i64 (IntKind.i64.wrap n)) = _; rw [HWn.out], HV.out⟩
end Go.Proofs.YtjgggialnegddaaGreat
