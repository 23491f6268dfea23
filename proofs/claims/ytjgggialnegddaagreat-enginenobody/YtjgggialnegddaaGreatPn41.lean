/-
  The texts EnW3, EnW4, EnW5, EnMs of this proof.
-/
import Derived.Test.YtjgggialnegddaaGreatPn40
set_option linter.unusedVariables false
set_option maxRecDepth 1000000
namespace Go.Proofs.YtjgggialnegddaaGreat
open Go.RowKit Go.Maps
section
variable {W W' : World} {B mb : Nat} {pm pc : Option Addr} {qv bv : Value} {nd : Int → Nat} {S : Rs} {bs qs : List At} {Fc It : Nat → Prop}
def reF (B mb : Nat) (qv bv : Value) (k : Nat) : Prop := k = B ∨ k = mb ∨ qv.ownBlock = some k ∨ bv.ownBlock = some k
theorem reF_en {k : Nat} (h : reF B mb qv bv k) : enF B mb qv bv nd S Fc k := by
 rcases h with h | h | h | h
 ·exact .inl h
 ·exact .inr (.inl h)
 ·exact .inr (.inr (.inl h))
 ·exact .inr (.inr (.inr (.inl h)))
theorem EnI.re (h : EnI W B mb pm pc qv bv nd S bs qs Fc It) (hb : Fb (reF B mb qv bv) W W') {S' : Rs} {bs' qs' : List At} {qv' bv' : Value} (ok : OkR S') (bsl : (bs'.length : Int) ≤ S'.s.b) (qsl : (qs'.length : Int) ≤ S'.s.q) (hL : S'.L = bs' ++ qs') (rb : ∀ a ∈ bs', a.run = true) (rq : ∀ a ∈ qs', a.run = false)
  (hs : S'.s = S.s) (tk : S.tk ≤ S'.tk) (var : W'.heap[B]? = some (.cells (RpV pm pc S' mb qv' bv') 73 (0, 0))) (map : AmAt W' mb S'.L.length (mapF S'.L nd)) (qrow : UQ W' qv' (qs'.map (·.id))) (brow : UQ W' bv' (bs'.map (·.id))) (qb : ∀ k, qv'.ownBlock = some k → bv'.ownBlock ≠ some k)
  (sub : ∀ a ∈ S'.L, ∃ a0 ∈ S.L, a = { a0 with run := a.run }) : EnI W' B mb pm pc qv' bv' nd S' bs' qs' Fc It := by
 have hk : KpL W W' := h.kpl hb fun k hk => .inl (reF_en hk)
 have hI := h.its hb fun k hk => .inl (reF_en hk)
 have hc : ∀ k, Fc k → W'.heap[k]? = W.heap[k]? := fun k hk => hb.block k (h.ca.old k hk) fun hg => by
  rcases hg with e | e | e | e
  ·exact h.Bc (e ▸ hk)
  ·exact h.mbc (e ▸ hk)
  ·exact h.cq e hk
  ·exact h.cb e hk
 refine ⟨ok, bsl, qsl, hL, rb, rq, var, ?_, by rw [hs]; exact (h.ca.keep hb.size hc hI hk).mono (fun _ hk => hk) tk, map, h.mbc, qrow, brow, qb, fun a ha => ?_, fun k hk' => ⟨(h.itI k hk').1.same (hI k hk'), (h.itI k hk').2⟩⟩
 ·obtain ⟨g, e, hg⟩ := h.md
  rw [hs]
  exact ⟨g, e, hk _ _ _ _ hg (by decide)⟩
 ·obtain ⟨a0, h0, e⟩ := sub a ha
  have hid : a.id = a0.id := by rw [e]
  have hlt : nd a0.id < W.heap.size := h.old _ (.inr (.inr (.inr (.inr (.inl ⟨a0, h0, rfl⟩)))))
  rw [hs, e]
  refine AtIn.run ((h.att a0 h0).keep (hb.block _ hlt fun hg => ?_) hI hk) _
  rcases hg with e | e | e | e
  ·exact h.Bn h0 e
  ·exact h.mn h0 e
  ·exact h.qn h0 e
  ·exact h.bn h0 e
theorem emade_yes (h : EnI W B mb pm pc qv bv nd S bs qs Fc It) : Calls Tryz.prog 36 #[.pointer (some ⟨B, 0, none⟩)] W fun e w' => e = .returned (.bool true) ∧ W = w' := by
 obtain ⟨g, rfl, _⟩ := h.md
 have c0 := h.cells.1
 clear h
 go_enter Tryz.func36, Tryz.ntmps36
 go_wp2
 go_ret
 exact ⟨rfl, rfl⟩
theorem eload_any (h : EnI W B mb pm pc qv bv nd S bs qs Fc It) : Calls Tryz.prog 22 #[.pointer (some ⟨B, 0, none⟩)] W fun e w' => e = .returned (.int .i64 S.L.length) ∧ W = w' := by
 have hM := emade_yes h
 have c7 := h.cells.2.2.2.2.2.2.2.1
 have hl := h.map.len 3
 clear h
 generalize S.L.length = n at *
 go_enter Tryz.func22, Tryz.ntmps22
 go_wp2_with fail
 refine hM.mono ?_
 rintro e w' ⟨rfl, rfl⟩
 clear hM
 go_wp2
 go_ret
 exact ⟨rfl, rfl⟩
end
end Go.Proofs.YtjgggialnegddaaGreat
namespace Go.Proofs.YtjgggialnegddaaGreat
open Go.RowKit Go.Maps
def dropL (L : List At) (x : Int) : List At := L.filter fun a => !(a.id == x)
theorem dropL_ids (L : List At) (x : Int) : (dropL L x).map (·.id) = butL (L.map (·.id)) x := by
 unfold dropL butL
 rw [List.filter_map]
 rfl
theorem dropL_app (L M : List At) (x : Int) : dropL (L ++ M) x = dropL L x ++ dropL M x := List.filter_append ..
theorem dropL_mem {L : List At} {x : Int} {a : At} (h : a ∈ dropL L x) : a ∈ L ∧ a.id ≠ x := by
 obtain ⟨h1, h2⟩ := List.mem_filter.1 h
 exact ⟨h1, by simpa using h2⟩
theorem hasB_drop (L : List At) (x y : Int) : hasB (dropL L x) y = (hasB L y && !(y == x)) := by
 have h1 : hasB (dropL L x) y = true ↔ (hasB L y && !(y == x)) = true := by
  rw [hasB_iff, Bool.and_eq_true, hasB_iff, List.mem_map]
  constructor
  ·rintro ⟨a, h1, rfl⟩
   obtain ⟨h2, h3⟩ := dropL_mem h1
   exact ⟨List.mem_map.2 ⟨a, h2, rfl⟩, by simpa using h3⟩
  ·rintro ⟨h1, h2⟩
   obtain ⟨a, h3, rfl⟩ := List.mem_map.1 h1
   exact ⟨a, List.mem_filter.2 ⟨h3, h2⟩, rfl⟩
 cases h : hasB (dropL L x) y <;> cases h' : (hasB L y && !(y == x)) <;> simp_all
theorem dropL_len (L : List At) (x : Int) (hn : (L.map (·.id)).Nodup) : (dropL L x).length = L.length - (if hasB L x = true then 1 else 0) := by
 induction L with
 | nil => simp [dropL, hasB]
 | cons a L ih =>
  rw [List.map_cons, List.nodup_cons] at hn
  have ih := ih hn.2
  by_cases e : a.id = x
  ·have h0 : hasB L x = false := by
    cases h : hasB L x with
    | false => rfl
    | true => exact absurd (e ▸ hasB_iff.1 h) hn.1
   rw [h0] at ih
   have : dropL (a :: L) x = dropL L x := by simp [dropL, e]
   rw [this, ih]
   simp [hasB, e]
  ·have : dropL (a :: L) x = a :: dropL L x := by simp [dropL, e]
   rw [this, List.length_cons, ih]
   have : hasB (a :: L) x = hasB L x := by simp [hasB, e]
   rw [this, List.length_cons]
   split
   ·rename_i h
    obtain ⟨b, hb, _⟩ := List.mem_map.1 (hasB_iff.1 h)
    have := List.length_pos_of_mem hb
    omega
   ·rfl
theorem dropL_le (L : List At) (x : Int) : (dropL L x).length ≤ L.length := List.length_filter_le ..
theorem OkR.drop {S : Rs} (h : OkR S) (x : Int) : OkR { S with L := dropL S.L x } := by
 refine ⟨h.set, h.inc, ?_, ?_, fun a ha => h.ok a (dropL_mem ha).1⟩
 ·show ((dropL S.L x).map (·.id)).Nodup
  rw [dropL_ids]
  exact List.Nodup.sublist List.filter_sublist h.one
 ·have h1 := h.few
  have h2 := dropL_le S.L x
  show ((dropL S.L x).length : Int) ≤ S.s.q + S.s.b
  omega
section
variable {w : World} {B mb : Nat} {pm pc : Option Addr} {qv bv : Value} {nd : Int → Nat} {S : Rs} {bs qs : List At} {Fc It : Nat → Prop}
theorem EnI.uq (h : EnI w B mb pm pc qv bv nd S bs qs Fc It) : ∀ y ∈ qs.map (·.id), isU y := fun y hy => by
 obtain ⟨a, ha, rfl⟩ := List.mem_map.1 hy
 exact (h.ok.ok a (by rw [h.L]; exact List.mem_append_right _ ha)).1
theorem EnI.ub (h : EnI w B mb pm pc qv bv nd S bs qs Fc It) : ∀ y ∈ bs.map (·.id), isU y := fun y hy => by
 obtain ⟨a, ha, rfl⟩ := List.mem_map.1 hy
 exact (h.ok.ok a (by rw [h.L]; exact List.mem_append_left _ ha)).1
theorem eletgo_any (h : EnI w B mb pm pc qv bv nd S bs qs Fc It) (x : Int) (hx : isU x) :
  Calls Tryz.prog 43 #[.pointer (some ⟨B, 0, none⟩), .int .u64 x] w fun e w' => e = .returned (.tuple #[]) ∧ ∃ qv' bv', EnI w' B mb pm pc qv' bv' nd { S with L := dropL S.L x } (dropL bs x) (dropL qs x) Fc It ∧ qv'.ownBlock = qv.ownBlock ∧ bv'.ownBlock = bv.ownBlock ∧ Fb (reF B mb qv bv) w w' := by
 obtain ⟨w1, e1, hm1, ht1⟩ := h.map.drop hx 0
 have hb1 := MvAt.fbm ht1
 obtain ⟨c0, c1, c2, c3, c4, c5, c6, c7, c8, c9⟩ := h.cells
 have hv1 : w1.heap[B]? = some (.cells (RpV pm pc S mb qv bv) 73 (0, 0)) := hb1.one h.var fun e => h.Bmb e
 have hq1 : UQ w1 qv (qs.map (·.id)) := own_blk h.qrow fun b e => hb1.block b (World.ownsRow.lt h.qrow b e).2 fun e2 => h.mq (by rw [e, show b = mb from e2])
 have hW1 := without_any qv (qs.map (·.id)) x w1 hq1 hx h.uq
 have d8 : w1.cell? ⟨B, 8, none⟩ = some qv := by rw [cell_of_row _ _ _ _ _ _ hv1]; rfl
 have H := hid h
 have HM1 := hid hm1
 have HB1 := hid hb1
 have HV1 := hid hv1
 clear h hm1 ht1 hb1 hv1 hq1 c0 c1 c2 c3 c4 c5 c6 c8 c9
 go_enter Tryz.func43, Tryz.ntmps43
 go_wp2_with fail
 refine hW1.mono ?_
 rintro e w2 ⟨qv', rfl, hq2, ho2, hb2⟩
 obtain ⟨aq, cq, eq, _⟩ := hq2.reads
 obtain ⟨nq, hnq⟩ : ∃ n, (butL (qs.map (·.id)) x).length = n := ⟨_, rfl⟩
 rw [hnq] at eq
 clear hnq
 subst eq
 have hv2 : w2.heap[B]? = some (.cells (RpV pm pc S mb qv bv) 73 (0, 0)) := hb2.one HV1.out fun e => H.out.Bq e
 have b8 : w2.cell? ⟨B, 8, none⟩ = some qv := by rw [cell_of_row _ _ _ _ _ _ hv2]; rfl
 have f8 : w2.frozen? ⟨B, 8, none⟩ = false := frozen_of_row _ _ 8 _ _ hv2
 obtain ⟨w3, hw3⟩ : ∃ w3, w3 = w2.setCell ⟨B, 8, none⟩ (.slice aq nq cq) := ⟨_, rfl⟩
 have hb3 : Fb (at1 B) w2 w3 := by rw [hw3]; exact Fb.set (by exact rfl) _
 have hv3 : w3.heap[B]? = some (.cells (RpV pm pc S mb (.slice aq nq cq) bv) 73 (0, 0)) := by rw [hw3]; exact row_set (k := 8) (u := .slice aq nq cq) hv2
 have b9 : w3.cell? ⟨B, 9, none⟩ = some bv := by rw [cell_of_row _ _ _ _ _ _ hv3]; rfl
 have hb13 : ∀ k, k < w.heap.size → bv.ownBlock = some k → w3.heap[k]? = w.heap[k]? := fun k hk e => by
  have s1 := HB1.out.size
  have s2 := hb2.size
  refine (hb3.block k (by omega) fun e2 => H.out.Bb (by rw [e, show k = B from e2])).trans ((hb2.block k (by omega) fun e2 => ?_).trans (HB1.out.block k hk fun e2 => ?_))
  ·exact H.out.qb k e2 e
  ·exact H.out.mbv (by rw [e, show k = mb from e2])
 have hbw3 : UQ w3 bv (bs.map (·.id)) := own_blk H.out.brow fun b e => hb13 b (World.ownsRow.lt H.out.brow b e).2 e
 have hW2 := without_any bv (bs.map (·.id)) x w3 hbw3 hx H.out.ub
 have HQ2 := hid hq2
 have HB2 := hid hb2
 have HB3 := hid hb3
 have HV3 := hid hv3
 clear hW1 d8 c7 e1 hq2 hb2 hv2 hb3 hv3 hb13 hbw3
 rw [hw3] at b9
 go_wp2_with fail
 rw [← hw3]
 refine hW2.mono ?_
 rintro e w4 ⟨bv', rfl, hbr4, ho4, hb4⟩
 obtain ⟨ab, cb, eb, _⟩ := hbr4.reads
 obtain ⟨nb, hnb⟩ : ∃ n, (butL (bs.map (·.id)) x).length = n := ⟨_, rfl⟩
 rw [hnb] at eb
 clear hnb
 subst eb
 have hv4 : w4.heap[B]? = some (.cells (RpV pm pc S mb (.slice aq nq cq) bv) 73 (0, 0)) := hb4.one HV3.out fun e => H.out.Bb e
 have a9 : w4.cell? ⟨B, 9, none⟩ = some bv := by rw [cell_of_row _ _ _ _ _ _ hv4]; rfl
 have f9 : w4.frozen? ⟨B, 9, none⟩ = false := frozen_of_row _ _ 9 _ _ hv4
 have HR : Hid (∃ qv1 bv1, EnI (w4.setCell ⟨B, 9, none⟩ (.slice ab nb cb)) B mb pm pc qv1 bv1 nd { S with L := dropL S.L x } (dropL bs x) (dropL qs x) Fc It ∧ qv1.ownBlock = qv.ownBlock ∧ bv1.ownBlock = bv.ownBlock ∧ Fb (reF B mb qv bv) w (w4.setCell ⟨B, 9, none⟩ (.slice ab nb cb))) := by
  have hb5 : Fb (at1 B) w4 (w4.setCell ⟨B, 9, none⟩ (.slice ab nb cb)) := Fb.set (by exact rfl) _
  have hF : Fb (reF B mb qv bv) w (w4.setCell ⟨B, 9, none⟩ (.slice ab nb cb)) := by
   refine Fb.trans (G := at1 B) ?_ hb5 fun k hk => .inl (.inl hk)
   refine Fb.trans (G := fun k => bv.ownBlock = some k) ?_ hb4 fun k hk => .inl (.inr (.inr (.inr hk)))
   refine Fb.trans (G := at1 B) ?_ HB3.out fun k hk => .inl (.inl hk)
   refine Fb.trans (G := fun k => qv.ownBlock = some k) ?_ HB2.out fun k hk => .inl (.inr (.inr (.inl hk)))
   exact HB1.out.mono fun k hk => .inr (.inl hk)
  refine ⟨(.slice aq nq cq), (.slice ab nb cb), H.out.re hF (H.out.ok.drop x) ?_ ?_ ?_ (fun a ha => H.out.rb a (dropL_mem ha).1) (fun a ha => H.out.rq a (dropL_mem ha).1) rfl (Nat.le_refl _) ?_ ?_ ?_ ?_ ?_ (fun a ha => ⟨a, (dropL_mem ha).1, by cases a; rfl⟩), ho2, ho4, hF⟩
  ·have := H.out.bsl; have := dropL_le bs x; simp only; omega
  ·have := H.out.qsl; have := dropL_le qs x; simp only; omega
  ·show dropL S.L x = _
   rw [H.out.L, dropL_app]
  ·exact row_set (k := 9) (u := .slice ab nb cb) hv4
  ·show AmAt _ mb (dropL S.L x).length (mapF (dropL S.L x) nd)
   have hm := HM1.out (mapF (dropL S.L x) nd) (by unfold mapF; rw [hasB_drop]; simp) fun u hu => by
    unfold mapF
    rw [hasB_drop]
    simp [hu]
   have hl : S.L.length - (if (mapF S.L nd x).isSome = true then 1 else 0) = (dropL S.L x).length := by
    rw [dropL_len S.L x H.out.ok.one]
    unfold mapF
    cases hasB S.L x <;> simp
   rw [hl] at hm
   refine hm.same ?_
   have l1 : mb < w1.heap.size := hm.lt
   have s2 := HB2.out.size
   have s3 := HB3.out.size
   have s4 := hb4.size
   exact (hb5.block mb (by omega) fun e => H.out.Bmb (Eq.symm e)).trans ((hb4.block mb (by omega) fun e => H.out.mbv e).trans ((HB3.out.block mb (by omega) fun e => H.out.Bmb (Eq.symm e)).trans (HB2.out.block mb l1 fun e => H.out.mq e)))
  ·rw [dropL_ids]
   have s3 := HB3.out.size
   have s4 := hb4.size
   refine own_blk HQ2.out fun b e => ?_
   have l2 := (World.ownsRow.lt HQ2.out b e).2
   rw [ho2] at e
   exact (hb5.block b (by omega) fun e2 => H.out.Bq (by rw [e, show b = B from e2])).trans ((hb4.block b (by omega) fun e2 => H.out.qb b e e2).trans (HB3.out.block b l2 fun e2 => H.out.Bq (by rw [e, show b = B from e2])))
  ·rw [dropL_ids]
   refine own_blk hbr4 fun b e => ?_
   have l2 := (World.ownsRow.lt hbr4 b e).2
   rw [ho4] at e
   exact hb5.block b l2 fun e2 => H.out.Bb (by rw [e, show b = B from e2])
  ·intro k e
   rw [ho4]
   rw [ho2] at e
   exact H.out.qb k e
 clear hW2 HM1 HB1 HV1 HQ2 HB2 HB3 HV3 H hv4 hbr4 hb4 ho2 ho4 hw3
 go_wp2_with fail
 go_end0
 exact ⟨rfl, HR.out⟩
end
end Go.Proofs.YtjgggialnegddaaGreat
namespace Go.Proofs.YtjgggialnegddaaGreat
open Go.RowKit Go.Maps
def setR (a : At) : At := { a with run := true }
theorem runL_bs (b : Nat) : ∀ (bs qs : List At) (n : Nat), (∀ a ∈ bs, a.run = true) → runL b n (bs ++ qs) = bs ++ runL b (n + bs.length) qs
 | [], qs, n, _ => rfl
 | a :: bs, qs, n, h => by
  rw [List.cons_append]
  simp only [runL]
  rw [if_pos (h a (List.mem_cons_self ..)), runL_bs b bs qs (n + 1) (fun x hx => h x (List.mem_cons_of_mem _ hx)), List.length_cons, List.cons_append, show n + 1 + bs.length = n + (bs.length + 1) by omega]
theorem runL_qs (b : Nat) : ∀ (qs : List At) (n : Nat), (∀ a ∈ qs, a.run = false) → runL b n qs = (qs.take (b - n)).map setR ++ qs.drop (b - n)
 | [], n, _ => by simp [runL]
 | a :: qs, n, h => by
  simp only [runL]
  rw [if_neg (by rw [h a (List.mem_cons_self ..)]; simp)]
  have hq : ∀ x ∈ qs, x.run = false := fun x hx => h x (List.mem_cons_of_mem _ hx)
  split
  ·rename_i hl
   rw [runL_qs b qs (n + 1) hq, show b - n = (b - (n + 1)) + 1 by omega, List.take_succ_cons, List.drop_succ_cons, List.map_cons, List.cons_append]
   rfl
  ·rename_i hl
   rw [runL_qs b qs n hq, show b - n = 0 by omega]
   simp
theorem setR_ids (L : List At) : (L.map setR).map (·.id) = L.map (·.id) := by
 rw [List.map_map]
 rfl
theorem hasB_run (b n : Nat) (L : List At) (y : Int) : hasB (runL b n L) y = hasB L y := by
 rw [Bool.eq_iff_iff, hasB_iff, hasB_iff, runL_ids]
theorem runL_len (b n : Nat) (L : List At) : (runL b n L).length = L.length := by
 have := congrArg List.length (runL_ids b L n)
 simpa using this
section
variable {w : World} {B mb : Nat} {pm pc : Option Addr} {qv bv : Value} {nd : Int → Nat} {S : Rs} {bs qs : List At} {Fc It : Nat → Prop}
theorem OkR.run {S : Rs} (h : OkR S) (b n : Nat) : OkR { S with L := runL b n S.L } := by
 have hm : ∀ (L : List At) (n : Nat), ∀ a ∈ runL b n L, ∃ a0 ∈ L, a = { a0 with run := a.run } := by
  intro L
  induction L with
  | nil => intro n a ha; cases ha
  | cons x L ih =>
   intro n a ha
   simp only [runL] at ha
   split at ha
   ·rcases List.mem_cons.1 ha with rfl | ha
    ·exact ⟨_, List.mem_cons_self .., by cases a; rfl⟩
    ·obtain ⟨a0, h1, h2⟩ := ih _ a ha
     exact ⟨a0, List.mem_cons_of_mem _ h1, h2⟩
   ·split at ha
    ·rcases List.mem_cons.1 ha with rfl | ha
     ·exact ⟨x, List.mem_cons_self .., rfl⟩
     ·obtain ⟨a0, h1, h2⟩ := ih _ a ha
      exact ⟨a0, List.mem_cons_of_mem _ h1, h2⟩
    ·rcases List.mem_cons.1 ha with rfl | ha
     ·exact ⟨_, List.mem_cons_self .., by cases a; rfl⟩
     ·obtain ⟨a0, h1, h2⟩ := ih _ a ha
      exact ⟨a0, List.mem_cons_of_mem _ h1, h2⟩
 have hl : (runL b n S.L).length = S.L.length := by
  have := congrArg List.length (runL_ids b S.L n)
  simpa using this
 refine ⟨h.set, h.inc, ?_, ?_, fun a ha => ?_⟩
 ·show ((runL b n S.L).map (·.id)).Nodup
  rw [runL_ids]
  exact h.one
 ·show ((runL b n S.L).length : Int) ≤ S.s.q + S.s.b
  rw [hl]
  exact h.few
 ·obtain ⟨a0, h1, h2⟩ := hm _ _ a ha
  rw [h2]
  exact h.ok a0 h1
theorem EnI.bnd (h : EnI w B mb pm pc qv bv nd S bs qs Fc It) : 1 ≤ S.s.q ∧ S.s.q ≤ 64 ∧ 1 ≤ S.s.b ∧ S.s.b ≤ 16 ∧ 1 ≤ S.s.ch ∧ S.s.ch ≤ 16 := by
 have := h.ok.set
 unfold setB at this
 simp only [Bool.and_eq_true, btw_iff] at this
 obtain ⟨_, h2, h3, h4, _⟩ := this
 exact ⟨h2.1, h2.2, h3.1, h3.2, h4.1, h4.2⟩
set_option maxHeartbeats 1000000 in
theorem efill_any (h : EnI w B mb pm pc qv bv nd S bs qs Fc It) :
  Calls Tryz.prog 37 #[.pointer (some ⟨B, 0, none⟩)] w fun e w' => e = .returned (.tuple #[]) ∧ ∃ qv' bv' bs' qs', EnI w' B mb pm pc qv' bv' nd { S with L := runL S.s.b.toNat 0 S.L } bs' qs' Fc It ∧ qv'.ownBlock = qv.ownBlock ∧ (∀ k, bv'.ownBlock = some k → bv.ownBlock = some k ∨ w.heap.size ≤ k) ∧ Fb (reF B mb qv bv) w w' := by
 obtain ⟨c0, c1, c2, c3, c4, c5, c6, c7, c8, c9⟩ := h.cells
 obtain ⟨_, q64, b1, b16, _, _⟩ := h.bnd
 have hbl := h.bsl
 have hql := h.qsl
 obtain ⟨aq, cq, eq, hrq⟩ := h.qrow.reads
 obtain ⟨ab, cb, eb, hrb⟩ := h.brow.reads
 have rq := hrq.room
 have mq := hrq.most
 have rb := hrb.room
 have mb' := hrb.most
 rw [List.length_map] at eq eb rq rb
 obtain ⟨b0, hb0⟩ : ∃ b0 : Nat, S.s.b = b0 := ⟨S.s.b.toNat, by omega⟩
 obtain ⟨nq, hnq⟩ : ∃ nq, qs.length = nq := ⟨_, rfl⟩
 obtain ⟨nb, hnb⟩ : ∃ nb, bs.length = nb := ⟨_, rfl⟩
 rw [hnq] at eq rq hql
 rw [hnb] at eb rb hbl
 obtain ⟨r, hr⟩ : ∃ r, b0 - nb = r := ⟨_, rfl⟩
 obtain ⟨m, hm⟩ : ∃ m, min nq r = m := ⟨_, rfl⟩
 have hmq : m ≤ nq := by omega
 have hL : runL S.s.b.toNat 0 S.L = (bs ++ (qs.take m).map setR) ++ qs.drop m := by
  rw [h.L, runL_bs _ _ _ _ h.rb, runL_qs _ _ _ h.rq, hnb, hb0, Int.toNat_natCast, Nat.zero_add, hr, List.append_assoc]
  by_cases hc : nq ≤ r
  ·rw [show m = nq by omega, List.take_of_length_le (by omega), List.drop_of_length_le (by omega), List.take_of_length_le (by omega), List.drop_of_length_le (by omega)]
  ·rw [show m = r by omega]
 have HLb : Hid (((bs ++ (qs.take m).map setR).length : Int) ≤ S.s.b) := by
  unfold Hid
  rw [List.length_append, List.length_map, List.length_take, hnb, hnq, hb0]
  omega
 have HLq : Hid (((qs.drop m).length : Int) ≤ S.s.q) := by
  unfold Hid
  rw [List.length_drop, hnq]
  omega
 have hq2 : Reads .u64 w.drew.drew aq m cq ((qs.map (·.id)).take m) := by
  have := hrq.cut (m := m) (by rw [List.length_map, hnq]; exact hmq)
  exact this.below (Below.refl _ _).drew.drew
 obtain ⟨bv', w2, e2, hO2, hg2, hm2⟩ := run_uapp w.drew.drew bv (bs.map (·.id)) (show UQ w.drew.drew bv (bs.map (·.id)) from h.brow) aq m cq _ hq2 (by rw [List.length_map, hnb]; omega) 59
 have hb2 : Fb (fun k => bv.ownBlock = some k) w w2 := ⟨hg2.os, hg2.tape, hg2.output, hg2.size, fun k hk hn => hg2.block k hk fun e => hn e.symm⟩
 obtain ⟨ab', cb', eb', _⟩ := hO2.reads
 obtain ⟨nb', hnb'⟩ : ∃ n, (bs.map (·.id) ++ (qs.map (·.id)).take m).length = n := ⟨_, rfl⟩
 rw [hnb'] at eb'
 subst eb'
 have hv2 : w2.heap[B]? = some (.cells (RpV pm pc S mb qv bv) 73 (0, 0)) := hb2.one h.var fun e => h.Bb e
 have a9 : w2.cell? ⟨B, 9, none⟩ = some bv := by rw [cell_of_row _ _ _ _ _ _ hv2]; rfl
 have a8 : w2.cell? ⟨B, 8, none⟩ = some qv := by rw [cell_of_row _ _ _ _ _ _ hv2]; rfl
 have f9 : w2.frozen? ⟨B, 9, none⟩ = false := frozen_of_row _ _ 9 _ _ hv2
 obtain ⟨w3, hw3⟩ : ∃ w3, w3 = w2.setCell ⟨B, 9, none⟩ (.slice ab' nb' cb') := ⟨_, rfl⟩
 have hb3 : Fb (at1 B) w2 w3 := by rw [hw3]; exact Fb.set (by exact rfl) _
 have hv3 : w3.heap[B]? = some (.cells (RpV pm pc S mb qv (.slice ab' nb' cb')) 73 (0, 0)) := by rw [hw3]; exact row_set (k := 9) (u := .slice ab' nb' cb') hv2
 have s2 := hb2.size
 have s3 := hb3.size
 have hq3 : UQ w3 qv (qs.map (·.id)) := own_blk h.qrow fun b e => by
  have l1 := (World.ownsRow.lt h.qrow b e).2
  exact (hb3.block b (by omega) fun e2 => h.Bq (by rw [e, show b = B from e2])).trans (hb2.block b l1 fun e2 => h.qb b e e2)
 have hD := udrop_any qv (qs.map (·.id)) m w3 hq3 (by rw [List.length_map, hnq]; exact hmq) (by rw [List.length_map, hnq]; omega)
 have b8 : w3.cell? ⟨B, 8, none⟩ = some qv := by rw [cell_of_row _ _ _ _ _ _ hv3]; rfl
 have H := hid h
 have HL := hid hL
 have HO2 := hid hO2
 have HB2 := hid hb2
 have HB3 := hid hb3
 have HV3 := hid hv3
 have HM2 := hid hm2
 have HE2 := hid e2
 have HNB := hid hnb
 have HNQ := hid hnq
 have HB0 := hid hb0
 have hmin1 : (if (nq : Int) < (r : Int) then (nq : Int) else (r : Int)) = (m : Int) := by omega
 have hmin2 : (if (r : Int) < (nq : Int) then (r : Int) else (nq : Int)) = (m : Int) := by omega
 have hmin3 : (if nq < r then (nq : Int) else (r : Int)) = (m : Int) := by split <;> omega
 have hmin4 : (if r < nq then (r : Int) else (nq : Int)) = (m : Int) := by split <;> omega
 have hsub : (b0 : Int) - (nb : Int) = (r : Int) := by omega
 have hwr : IntKind.i64.wrap ((b0 : Int) - (nb : Int)) = (r : Int) := by rw [hsub]; exact wrap64_in (by omega) (by omega)
 have hcut := ucut_to aq nq cq m (by omega) mq
 have hw6 : wrap64 (r : Int) = (r : Int) := by unfold wrap64; omega
 rw [hb0] at c3
 rw [eq] at c8 b8 hD a8
 rw [eb] at c9 a9
 have HEq := hid eq
 have HEb := hid eb
 rw [eb] at HE2
 clear h hL hO2 hb2 hb3 hv2 hv3 hm2 e2 hq2 hg2 hq3 hrq hrb eq eb hnb' hb0 hnq hnb c0 c1 c2 c4 c5 c6 c7
 go_enter Tryz.func37, Tryz.ntmps37
 go_wp2_with fail
 go_region
 go_wp2_with fail
 go_region_law (refine step_app_eq (by rfl) 31 (by rfl) (.tmp 24) (.tmp 30) 59 (by rfl) _ _ _ _ (by simp [Act.eval, Act.put]) (by simp [Act.eval, Act.put]) HE2.out ?_)
 all_goals
  rw [hw3] at b8
  go_wp2_with fail
  rw [← hw3]
  refine hD.mono ?_
  rintro e w4 ⟨qv', rfl, hq4, ho4, hb4⟩
  obtain ⟨aq', cq', eq', _⟩ := hq4.reads
  obtain ⟨nq', hnq'⟩ : ∃ n, ((qs.map (·.id)).drop m).length = n := ⟨_, rfl⟩
  rw [hnq'] at eq'
  subst eq'
  have ho5 : (Value.slice aq' nq' cq').ownBlock = qv.ownBlock := by rw [HEq.out]; exact ho4
  replace hb4 : Fb (fun k => qv.ownBlock = some k) w3 w4 := by rw [HEq.out]; exact hb4
  have hv4 : w4.heap[B]? = some (.cells (RpV pm pc S mb qv (.slice ab' nb' cb')) 73 (0, 0)) := hb4.one HV3.out fun e => H.out.Bq e
  have g8 : w4.cell? ⟨B, 8, none⟩ = some qv := by rw [cell_of_row _ _ _ _ _ _ hv4]; rfl
  have f8 : w4.frozen? ⟨B, 8, none⟩ = false := frozen_of_row _ _ 8 _ _ hv4
  have HR : Hid (∃ qv1 bv1 bs1 qs1, EnI (w4.setCell ⟨B, 8, none⟩ (.slice aq' nq' cq')) B mb pm pc qv1 bv1 nd { S with L := runL S.s.b.toNat 0 S.L } bs1 qs1 Fc It ∧ qv1.ownBlock = qv.ownBlock ∧ (∀ k, bv1.ownBlock = some k → bv.ownBlock = some k ∨ w.heap.size ≤ k) ∧ Fb (reF B mb qv bv) w (w4.setCell ⟨B, 8, none⟩ (.slice aq' nq' cq'))) := by
   have hb5 : Fb (at1 B) w4 (w4.setCell ⟨B, 8, none⟩ (.slice aq' nq' cq')) := Fb.set (by exact rfl) _
   have hF : Fb (reF B mb qv bv) w (w4.setCell ⟨B, 8, none⟩ (.slice aq' nq' cq')) := by
    refine Fb.trans (G := at1 B) ?_ hb5 fun k hk => .inl (.inl hk)
    refine Fb.trans (G := fun k => qv.ownBlock = some k) ?_ hb4 fun k hk => .inl (.inr (.inr (.inl hk)))
    refine Fb.trans (G := at1 B) ?_ HB3.out fun k hk => .inl (.inl hk)
    exact HB2.out.mono fun k hk => .inr (.inr (.inr hk))
   have hmv : ∀ k, (Value.slice ab' nb' cb').ownBlock = some k → bv.ownBlock = some k ∨ w.heap.size ≤ k := fun k e => by
    rcases HM2.out with e2 | ⟨o, e2, hl⟩
    ·rw [e2] at e; exact .inl e
    ·rw [e2] at e
     cases e
     exact .inr hl
   have s2 := HB2.out.size
   have s3 := HB3.out.size
   have s4 := hb4.size
   refine ⟨.slice aq' nq' cq', .slice ab' nb' cb', bs ++ (qs.take m).map setR, qs.drop m, H.out.re hF (H.out.ok.run _ _) ?_ ?_ HL.out ?_ (fun a ha => H.out.rq a (List.mem_of_mem_drop ha)) rfl (Nat.le_refl _) ?_ ?_ ?_ ?_ ?_ ?_, ho5, hmv, hF⟩
   ·exact HLb.out
   ·exact HLq.out
   ·intro a ha
    rcases List.mem_append.1 ha with h' | h'
    ·exact H.out.rb a h'
    ·obtain ⟨a0, _, rfl⟩ := List.mem_map.1 h'
     rfl
   ·exact row_set (k := 8) (u := .slice aq' nq' cq') hv4
   ·have hl := runL_len S.s.b.toNat 0 S.L
    show AmAt _ mb (runL S.s.b.toNat 0 S.L).length (mapF (runL S.s.b.toNat 0 S.L) nd)
    rw [hl]
    have hmm := H.out.map.ext (g := mapF (runL S.s.b.toNat 0 S.L) nd) fun y _ => by
     unfold mapF
     rw [hasB_run]
    have l1 := H.out.map.lt
    exact hmm.same ((hb5.block mb (by omega) fun e => H.out.Bmb (Eq.symm e)).trans ((hb4.block mb (by omega) fun e => H.out.mq e).trans ((HB3.out.block mb (by omega) fun e => H.out.Bmb (Eq.symm e)).trans (HB2.out.block mb l1 fun e => H.out.mbv e))))
   ·rw [List.map_drop]
    refine own_blk hq4 fun b e => ?_
    have l2 := (World.ownsRow.lt hq4 b e).2
    rw [ho5] at e
    exact hb5.block b l2 fun e2 => H.out.Bq (by rw [e, show b = B from e2])
   ·rw [List.map_append, setR_ids, List.map_take]
    refine own_blk HO2.out fun b e => ?_
    have l2 := (World.ownsRow.lt HO2.out b e).2
    have hne : b ≠ B := fun e2 => by
     rcases hmv b e with h' | h'
     ·exact H.out.Bb (by rw [h', e2])
     ·have := H.out.old B (.inl rfl); omega
    refine (hb5.block b (by omega) hne).trans ((hb4.block b (by omega) fun e2 => ?_).trans (HB3.out.block b l2 hne))
    rcases hmv b e with h' | h'
    ·exact H.out.qb b e2 h'
    ·have := (World.ownsRow.lt H.out.qrow b e2).2; omega
   ·intro k e e2
    rw [ho5] at e
    rcases hmv k e2 with h' | h'
    ·exact H.out.qb k e h'
    ·have := (World.ownsRow.lt H.out.qrow k e).2; omega
   ·intro a ha
    have ha' : a ∈ (bs ++ (qs.take m).map setR) ++ qs.drop m := by rw [← HL.out]; exact ha
    rw [H.out.L]
    rcases List.mem_append.1 ha' with h' | h'
    ·rcases List.mem_append.1 h' with h'' | h''
     ·exact ⟨a, List.mem_append_left _ h'', by cases a; rfl⟩
     ·obtain ⟨a0, h0, rfl⟩ := List.mem_map.1 h''
      exact ⟨a0, List.mem_append_right _ (List.mem_of_mem_take h0), rfl⟩
    ·exact ⟨a, List.mem_append_right _ (List.mem_of_mem_drop h'), by cases a; rfl⟩
  clear hD H HL HO2 HB2 HB3 HV3 HM2 HNB HNQ HB0 HEq HEb HE2 hw3 hv4 hq4 hb4 ho4 ho5 hnq' hcut b8 a8 hmin1 hmin2 hmin3 hmin4 hsub hwr hw6
  go_wp2_with fail
  go_end0
  exact ⟨rfl, HR.out⟩
end
end Go.Proofs.YtjgggialnegddaaGreat
namespace Go.Proofs.YtjgggialnegddaaGreat
open Go.RowKit Go.Maps
theorem Tryz.infoMsg : (Tryz.prog.info? 55).map (fun i => (i.zero, i.size, i.bytes)) = some (some (.agg #[.int .i64 0, .int .u64 0, .int .u64 0, .int .u64 0, .int .u64 0, .int .u64 0, .int .u64 0, .int .i64 0, .int .u64 0, .slice none 0 0, .int .i64 0, .slice none 0 0]), 12, 128) := by kernel_rfl
def flatM : List Mg → List (Option Addr × Nat × Nat) → List Value
 | m :: ms, d :: ds => (MgC m d.1 d.2.1 d.2.2).toList ++ flatM ms ds
 | _, _ => []
theorem MgC_len (m : Mg) (d : Option Addr × Nat × Nat) : (MgC m d.1 d.2.1 d.2.2).toList.length = 12 := rfl
theorem flatM_len : ∀ (ms : List Mg) (ds : List (Option Addr × Nat × Nat)), ds.length = ms.length → (flatM ms ds).length = ms.length * 12
 | [], [], _ => rfl
 | m :: ms, d :: ds, h => by
  simp only [flatM, List.length_append, MgC_len, List.length_cons]
  rw [flatM_len ms ds (by simpa using h)]
  omega
theorem flatM_app : ∀ (ms ms2 : List Mg) (ds ds2 : List (Option Addr × Nat × Nat)), ds.length = ms.length → flatM (ms ++ ms2) (ds ++ ds2) = flatM ms ds ++ flatM ms2 ds2
 | [], ms2, [], ds2, _ => rfl
 | m :: ms, ms2, d :: ds, ds2, h => by
  simp only [List.cons_append, flatM, List.append_assoc]
  rw [flatM_app ms ms2 ds ds2 (by simpa using h)]
theorem flatM_at : ∀ (ms : List Mg) (ds : List (Option Addr × Nat × Nat)) (i : Nat) (hi : i < ms.length) (hd : i < ds.length) (j : Nat), j < 12 → (flatM ms ds)[i * 12 + j]? = (MgC ms[i] ds[i].1 ds[i].2.1 ds[i].2.2)[j]?
 | m :: ms, d :: ds, 0, _, _, j, hj => by
  simp only [flatM, Nat.zero_mul, Nat.zero_add, List.getElem_cons_zero]
  rw [List.getElem?_append_left (by rw [MgC_len]; exact hj), Array.getElem?_toList]
 | m :: ms, d :: ds, i + 1, hi, hd, j, hj => by
  simp only [flatM, List.getElem_cons_succ]
  rw [List.getElem?_append_right (by rw [MgC_len]; omega), MgC_len, show (i + 1) * 12 + j - 12 = i * 12 + j by omega]
  exact flatM_at ms ds i (by simpa using hi) (by simpa using hd) j hj
theorem flatM_one : ∀ (ms : List Mg) (ds : List (Option Addr × Nat × Nat)), ∀ u ∈ flatM ms ds, u.oneCell' = true
 | [], _, u, h => by simp [flatM] at h
 | m :: ms, [], u, h => by simp [flatM] at h
 | m :: ms, d :: ds, u, h => by
  simp only [flatM] at h
  rcases List.mem_append.1 h with h | h
  ·unfold MgC at h
   simp at h
   rcases h with h | h | h | h | h | h | h | h | h | h | h <;> (rw [h]; rfl)
  ·exact flatM_one ms ds u h
structure MRow (lo : Nat) (W : World) (v : Value) (ms : List Mg) (ds : List (Option Addr × Nat × Nat)) (It : Nat → Prop) : Prop where
 own : W.ownsRow lo 55 12 v ms.length (flatM ms ds)
 len : ds.length = ms.length
 li : ∀ i (hi : i < ms.length) (hd : i < ds.length), Reads .i64 W ds[i].1 ds[i].2.1 ds[i].2.2 ms[i].li ∧ ∀ p, ds[i].1 = some p → lo ≤ p.block ∧ It p.block
theorem MRow.nil (lo : Nat) (W : World) (It : Nat → Prop) : MRow lo W (.slice none 0 0) [] [] It := ⟨World.ownsRow_nil _ _ _ _, rfl, fun i hi => by cases hi⟩
theorem MRow.same {lo : Nat} {W W' : World} {v : Value} {ms : List Mg} {ds : List (Option Addr × Nat × Nat)} {It It' : Nat → Prop} (h : MRow lo W v ms ds It) (hv : ∀ b, v.ownBlock = some b → W'.heap[b]? = W.heap[b]?) (hI : ∀ k, It k → W'.heap[k]? = W.heap[k]? ∧ It' k) : MRow lo W' v ms ds It' :=
 ⟨own_blk h.own hv, h.len, fun i hi hd => ⟨(h.li i hi hd).1.same fun x hx => by
  obtain ⟨a, e, rfl⟩ := hx
  exact (hI _ ((h.li i hi hd).2 a e).2).1, fun p hp => ⟨((h.li i hi hd).2 p hp).1, (hI _ ((h.li i hi hd).2 p hp).2).2⟩⟩⟩
theorem own_kind {W : World} {lo e sz n : Nat} {v : Value} {xs : List Value} (h : W.ownsRow lo e sz v n xs) {k : Nat} (hk : v.ownBlock = some k) : lo ≤ k ∧ ∃ cur, W.heap[k]? = some (.cells cur e (0, 0)) := by
 rcases h.2 with ⟨rfl, _⟩ | ⟨g, cap, cur, rfl, h1, h2, _⟩
 ·cases hk
 ·cases hk
  exact ⟨h1, cur, h2⟩
theorem MRow.mgs {lo : Nat} {W : World} {v : Value} {ms : List Mg} {ds : List (Option Addr × Nat × Nat)} {It : Nat → Prop} (h : MRow lo W v ms ds It) : ∃ a cap, v = .slice a ms.length cap ∧ MgsAt lo W a ms.length cap ms := by
 rcases id h.own.2 with ⟨rfl, h0⟩ | ⟨g, cap, cur, rfl, h1, h2, h3, h4, h5, h6⟩
 ·refine ⟨none, 0, by rw [h0], rfl, by omega, by omega, fun _ => ⟨h0, rfl⟩, fun i hi => by omega⟩
 ·refine ⟨some ⟨g, 0, none⟩, cap, rfl, rfl, h3, by simpa [maxLen] using h4, (fun e => by cases e), fun i hi => ?_⟩
  have hd : i < ds.length := by rw [h.len]; exact hi
  obtain ⟨k1, k2⟩ := h.li i hi hd
  refine ⟨g, 0, ds[i].1, ds[i].2.1, ds[i].2.2, rfl, fun j hj => ?_, k1, fun p hp => (k2 p hp).1⟩
  rw [World.ownsRow.cellAt h.own (0 + i * 12 + j) (by omega), Nat.zero_add]
  exact flatM_at ms ds i hi hd j hj
theorem run_mapp (W : World) (lo : Nat) (v : Value) (ms : List Mg) (ds : List (Option Addr × Nat × Nat)) (hown : W.ownsRow lo 55 12 v ms.length (flatM ms ds)) (hl : ds.length = ms.length) (ao : Option Addr) (m c : Nat) (ms2 : List Mg) (ds2 : List (Option Addr × Nat × Nat)) (hm : ms2.length = m) (hl2 : ds2.length = m) (hno : ao = none → m = 0 ∧ c = 0) (hn : ∀ ad, ao = some ad → ∀ j u, (flatM ms2 ds2)[j]? = some u → W.cell? (ad.add j) = some u) (hb : ms.length + m ≤ 1000) (hlo : lo ≤ W.heap.size) (ty : TypeId) :
  ∃ v' W', (Builtin.append_ #[49, 49] ty #[v, .slice ao m c]).run Tryz.prog W = .ok v' W' ∧ W'.ownsRow lo 55 12 v' (ms ++ ms2).length (flatM (ms ++ ms2) (ds ++ ds2)) ∧ W.grownBy W' v.ownBlock := by
 obtain ⟨i0, hi, hz0, hz1, hz2⟩ := info_parts Tryz.infoMsg
 have hln : (ms ++ ms2).length = ms.length + m := by rw [List.length_append, hm]
 rw [hln, flatM_app _ _ _ _ hl]
 cases ao with
 | none =>
  obtain ⟨rfl, rfl⟩ := hno rfl
  obtain rfl : ms2 = [] := List.eq_nil_of_length_eq_zero hm
  have he : flatM ms ds ++ flatM [] ds2 = flatM ms ds := by simp [flatM]
  rw [he]
  exact ⟨v, W, run_append_owned_none (P := Tryz.prog) W lo 49 ty 55 i0 12 Tryz.underlying49 hi v _ _ hown, hown, World.grownBy.refl _ _⟩
 | some ad =>
  obtain ⟨v', W', h1, h2, h3, _⟩ := run_append_own (P := Tryz.prog) W lo 49 ty 55 i0 _ 12 128 Tryz.underlying49 hi hz0 hz1 hz2 rfl (by decide) v ms.length (flatM ms ds) hown ad m c (flatM ms2 ds2) (by rw [flatM_len _ _ (by rw [hl2, hm]), hm]) (hn ad rfl) (flatM_one _ _) (by unfold maxLen; omega) (by omega) hlo
  exact ⟨v', W', h1, h2, h3⟩
theorem MRow.app {lo : Nat} {W W' : World} {v v' : Value} {ms ms2 : List Mg} {ds ds2 : List (Option Addr × Nat × Nat)} {It : Nat → Prop} (h : MRow lo W v ms ds It) (ho : W'.ownsRow lo 55 12 v' (ms ++ ms2).length (flatM (ms ++ ms2) (ds ++ ds2))) (hg : W.grownBy W' v.ownBlock) (hl2 : ds2.length = ms2.length) (hint : ∀ k, It k → IntB W k) (h2 : ∀ i (hi : i < ms2.length) (hd : i < ds2.length), Reads .i64 W ds2[i].1 ds2[i].2.1 ds2[i].2.2 ms2[i].li ∧ ∀ p, ds2[i].1 = some p → lo ≤ p.block ∧ It p.block) : MRow lo W' v' (ms ++ ms2) (ds ++ ds2) It := by
 have hsame : ∀ k, It k → W'.heap[k]? = W.heap[k]? := fun k hk => hg.block k (hint k hk).lt fun e => by
  obtain ⟨_, cur, hc⟩ := own_kind h.own e.symm
  obtain ⟨cur', fz, hc'⟩ := hint k hk
  rw [hc] at hc'
  simp at hc'
 refine ⟨ho, by rw [List.length_append, List.length_append, h.len, hl2], fun i hi hd => ?_⟩
 by_cases hlt : i < ms.length
 ·rw [List.getElem_append_left hlt, List.getElem_append_left (by rw [h.len]; exact hlt)]
  obtain ⟨k1, k2⟩ := h.li i hlt (by rw [h.len]; exact hlt)
  exact ⟨k1.same fun x ⟨a, e, e2⟩ => by rw [← e2]; exact hsame _ (k2 a e).2, k2⟩
 ·have hl := h.len
  rw [List.getElem_append_right (show ms.length ≤ i by omega), List.getElem_append_right (show ds.length ≤ i by omega)]
  obtain ⟨k1, k2⟩ := h2 (i - ms.length) (by rw [List.length_append] at hi; omega) (by rw [hl2]; rw [List.length_append] at hi; omega)
  simp only [hl]
  exact ⟨k1.same fun x ⟨a, e, e2⟩ => by rw [← e2]; exact hsame _ (k2 a e).2, k2⟩
end Go.Proofs.YtjgggialnegddaaGreat
