/-
  The document's table: Bind.
-/
import Derived.Test.YtfnbofhppfjmgaaAfRf
namespace Go.Proofs.Ytfnbofhppfjmgaa
open Go.RowKit
set_option linter.unusedVariables false
set_option maxRecDepth 1000000

theorem cells_three {W : World} {g : Nat} {x y z : Value} {T : TypeId} (h : W.heap[g]? = some (.cells #[x, y, z] T (0, 0))) : W.cell? ⟨g, 0, none⟩ = some x ∧ W.cell? ⟨g, 1, none⟩ = some y ∧ W.cell? ⟨g, 2, none⟩ = some z :=
  ⟨by rw [cell_of_row _ _ _ _ _ _ h]; rfl, by rw [cell_of_row _ _ _ _ _ _ h]; rfl, by rw [cell_of_row _ _ _ _ _ _ h]; rfl⟩
theorem RtB.put {W : World} {B room : Nat} {keep T : Int} {qs : List Bd} {g n cap : Nat} (h : RtB W B room keep T (.slice (some ⟨g, 0, none⟩) n cap) qs) {k : Nat} (hk : k < qs.length) (b : Bd) :
    RtB (((W.setCell ⟨g, k * 3, none⟩ (.int .u64 b.ses)).setCell ⟨g, k * 3 + 1, none⟩ (.int .u64 b.rep)).setCell ⟨g, k * 3 + 2, none⟩ (.int .i64 b.fin)) B room keep T (.slice (some ⟨g, 0, none⟩) n cap) (qs.set k b) ∧ Fb (rcF B (.slice (some ⟨g, 0, none⟩) n cap)) W (((W.setCell ⟨g, k * 3, none⟩ (.int .u64 b.ses)).setCell ⟨g, k * 3 + 1, none⟩ (.int .u64 b.rep)).setCell ⟨g, k * 3 + 2, none⟩ (.int .i64 b.fin)) := by
  have hgB : g ≠ B := h.apart (b := g) rfl
  obtain ⟨g', cap', cur, hv, hg, _, _⟩ := h.isSome hk
  have hgg : g' = g ∧ n = qs.length := by cases hv; exact ⟨rfl, rfl⟩
  obtain ⟨rfl, rfl⟩ := hgg
  have hfs : ∀ (X : World) (j : Nat) (u : Value), Fb (rcF B (.slice (some ⟨g', 0, none⟩) qs.length cap)) X (X.setCell ⟨g', j, none⟩ u) := fun X j u => Fb.set (F := rcF B _) (p := ⟨g', j, none⟩) (.inr rfl) u
  refine ⟨⟨?_, ?_, by rw [List.length_set]; exact h.few⟩, ((hfs _ _ _).trans (hfs _ _ _) fun x hx => .inl hx).trans (hfs _ _ _) fun x hx => .inl hx⟩
  · rw [Below.heap_setCell _ _ _ _ (by exact fun e => hgB e.symm), Below.heap_setCell _ _ _ _ (by exact fun e => hgB e.symm), Below.heap_setCell _ _ _ _ (by exact fun e => hgB e.symm)]; exact h.var
  · rw [List.length_set, flatB_put qs b k hk]
    exact (World.ownsRow.stored (World.ownsRow.stored (World.ownsRow.stored h.own (k * 3) (.int .u64 b.ses)).1 (k * 3 + 1) (.int .u64 b.rep)).1 (k * 3 + 2) (.int .i64 b.fin)).1
/-- The least of the first ones. -/
def LsU (L : List Bd) (m k : Nat) : Prop := k < m ∧ ∀ j, j < m → ¬ ltB (bk L j) (bk L k)
theorem LsU.one (L : List Bd) : LsU L 1 0 := ⟨by omega, fun j hj => by
  have e : j = 0 := by omega
  subst e
  unfold ltB
  omega⟩
theorem LsU.less {L : List Bd} {m k : Nat} (h : LsU L m k) (hl : ltB (bk L m) (bk L k)) : LsU L (m + 1) m := ⟨by omega, fun j hj => by
  rcases (by omega : j < m ∨ j = m) with hj | rfl
  · have := h.2 j hj
    unfold ltB at this hl ⊢
    omega
  · unfold ltB; omega⟩
theorem LsU.stay {L : List Bd} {m k : Nat} (h : LsU L m k) (hl : ¬ ltB (bk L m) (bk L k)) : LsU L (m + 1) k := ⟨by have := h.1; omega, fun j hj => by
  rcases (by omega : j < m ∨ j = m) with hj | rfl
  · exact h.2 j hj
  · exact hl⟩
theorem LsU.lst {L : List Bd} {k : Nat} (h : LsU L L.length k) : LstB L (bk L k) := ⟨bk_mem h.1, fun c hc => by
  obtain ⟨i, hi, rfl⟩ := List.mem_iff_getElem.1 hc
  have := h.2 i hi
  rw [bk_at hi] at this
  exact this⟩
theorem erase_but {L : List Bd} (hn : NdB L) {k : Nat} (hk : k < L.length) : L.eraseIdx k = butB L (bk L k).ses := by
  rw [bk_at hk]
  unfold NdB at hn
  induction L generalizing k with
  | nil => simp at hk
  | cons b L ih =>
    rw [List.map_cons, List.nodup_cons] at hn
    cases k with
    | zero =>
      unfold butB
      rw [List.filter_cons_of_neg (by simp)]
      refine (List.filter_eq_self.2 fun c hc => ?_).symm
      have : c.ses ≠ b.ses := fun e => hn.1 (List.mem_map.2 ⟨c, hc, e⟩)
      simpa using this
    | succ k =>
      have hk' : k < L.length := by simpa using hk
      have e1 : ¬ b.ses = L[k].ses := fun e => hn.1 (List.mem_map.2 ⟨L[k], List.getElem_mem hk', e.symm⟩)
      have := ih hn.2 hk'
      unfold butB at this ⊢
      simp only [List.getElem_cons_succ, List.eraseIdx_cons_succ]
      rw [List.filter_cons_of_pos (by simpa using e1), this]
theorem RtB.gone {W W' : World} {B room : Nat} {keep T : Int} {v v' : Value} {qs : List Bd} {base o : Nat} (h : RtB W B room keep T v qs) (hb : Below W.heap.size W W') (hlt : o < qs.length) (ho : W'.ownsRow base 62 3 v' (qs.length - 1) (flatB (qs.take o) ++ flatB (qs.drop (o + 1)))) (hbase : W.heap.size ≤ base) :
    RtO W B room keep v T (qs.eraseIdx o) (W'.setCell ⟨B, 3, none⟩ v') := by
  have hf := h.few
  have e1 : (qs.eraseIdx o).length = qs.length - 1 := by rw [List.length_eraseIdx, if_pos hlt]
  rw [← flatB_app, ← List.eraseIdx_eq_take_drop_succ] at ho
  exact h.list hb (by rw [e1]; exact ho) hbase (by omega)
set_option maxHeartbeats 16000000 in
theorem rbind_any {w : World} {B room : Nat} {keep T : Int} {v : Value} {qs : List Bd} (h : RtB w B room keep T v qs) (hnd : NdB qs) (hT : 0 ≤ T ∧ T ≤ 1099511627776) (hK : 1 ≤ keep ∧ keep ≤ 4294967296) (hrm : 1 ≤ room ∧ room ≤ 1024) (hlen : qs.length ≤ room) (now s r : Int) :
    Calls Try.prog 15 #[.pointer (some ⟨B, 0, none⟩), .int .i64 now, .int .u64 s, .int .u64 r] w fun e w' => e = .returned (.tuple #[]) ∧ Hid (∃ L', BindP room (endL (timeZ T now) qs) ⟨s, r, timeZ T now + keep⟩ L' ∧ RtO w B room keep v (timeZ T now) L' w') := by
  obtain ⟨j0, ji, jz0, jz1, jz2⟩ := info_parts Try.infoBi
  have hL := rlater_any h now
  have hTb := timeZ_bd (now := now) hT
  have hnd1 : NdB (endL (timeZ T now) qs) := hnd.filter _
  have hle1 : (endL (timeZ T now) qs).length ≤ room := Nat.le_trans (endL_len _ _) hlen
  clear h hnd hlen
  generalize timeZ T now = T1 at *
  generalize endL T1 qs = L1 at *
  obtain ⟨f, hf⟩ : ∃ f, T1 + keep = f := ⟨_, rfl⟩
  have hwf : IntKind.i64.wrap (T1 + keep) = f := by rw [← hf]; exact wrap64_in (by omega) (by omega)
  rw [hf]
  have Hnd := hid hnd1
  clear hnd1 hf hTb hT hK
  go_enter Try.func15, Try.ntmps15
  go_wp2_with fail
  with_reducible refine hL.mono ?_
  rintro e w1 ⟨rfl, H1⟩
  obtain ⟨v1, h1, hf1, hv1⟩ := H1.out
  obtain ⟨c0, c1, c2, c3⟩ := h1.cells
  have c1a : ∀ o : Obj, (w1.alloc o).cell? ⟨B, 1, none⟩ = some (.int .i64 keep) := fun o => (h1.below ((Below.refl _ _).alloc (Nat.le_refl _) o)).cells.2.1
  have c2a : ∀ o : Obj, (w1.alloc o).cell? ⟨B, 2, none⟩ = some (.int .i64 T1) := fun o => (h1.below ((Below.refl _ _).alloc (Nat.le_refl _) o)).cells.2.2.1
  go_wp2_with fail
  go_region
  obtain ⟨w2, hw2⟩ : ∃ w2, w2 = (w1.alloc (.cells #[.int .u64 s, .int .u64 r, .int .i64 f] 62)).drew := ⟨_, rfl⟩
  have hb2 : Below w1.heap.size w1 w2 := by rw [hw2]; exact ((Below.refl _ _).alloc (Nat.le_refl _) _).drew
  have hB2 : w2.heap[w1.heap.size]? = some (.cells #[.int .u64 s, .int .u64 r, .int .i64 f] 62 (0, 0)) := by rw [hw2]; exact heap_alloc_new w1 _
  have h2 := h1.below hb2
  have hP := rplace_any h2 s
  obtain ⟨sb, hsb⟩ : ∃ sb, w1.heap.size = sb := ⟨_, rfl⟩
  have hout : ¬ rcF B v1 sb := fun hk => Nat.lt_irrefl _ (hsb ▸ h1.lts (hsb ▸ hk))
  rw [hsb] at hB2
  have HT := hid fun (w' : World) (q' : List Bd) (ho : RtO w2 B room keep v1 T1 q' w') => RtO.trans h2 (hf1.below hb2) hv1 ho
  have H2 := hid h2
  have HB2 := hid (And.intro hB2 hout)
  clear hL H1 h1 hf1 hv1 c0 c1 c2 c3 c1a c2a hb2 h2 hB2 hout
  go_wp2_with fail
  rw [← hw2]
  try rw [hsb]
  clear hw2 hsb
  with_reducible refine hP.mono ?_
  rintro e w3 ⟨pz, rfl, HP, rfl⟩
  clear hP
  rcases HP.out with ⟨i, rfl, hi, hs⟩ | ⟨rfl, hno⟩
  · obtain ⟨g, cv, cur, rfl, hg, rv, mv⟩ := H2.out.isSome hi
    obtain ⟨c0, c1, c2, c3⟩ := H2.out.cells
    obtain ⟨ca, cr, cu⟩ := H2.out.at hi
    obtain ⟨x1, x2⟩ := H2.out.put hi ⟨s, r, f⟩
    have f0 : ∀ j, w3.frozen? ⟨g, j, none⟩ = false := fun j => frozen_of_row _ _ _ _ _ hg
    have hgs : g ≠ sb := fun e => HB2.out.2 (.inr (by rw [← e]; rfl))
    have cb : ∀ j, w3.cell? ⟨sb, j, none⟩ = (#[Value.int .u64 s, .int .u64 r, .int .i64 f] : Array Value)[j]? := fun j => by rw [cell_of_row _ _ _ _ _ _ HB2.out.1]
    have b0 : w3.cell? ⟨sb, 0, none⟩ = some (.int .u64 s) := cb 0
    have b1 : w3.cell? ⟨sb, 1, none⟩ = some (.int .u64 r) := cb 1
    have b2 : w3.cell? ⟨sb, 2, none⟩ = some (.int .i64 f) := cb 2
    have hne : lk L1 (⟨s, r, f⟩ : Bd).ses ≠ none := by
      show lk L1 s ≠ none
      rw [bk_lk Hnd.out hi hs]
      simp
    have HE : Hid (∃ L', BindP room L1 ⟨s, r, f⟩ L' ∧ RtO w B room keep v T1 L' (((w3.setCell ⟨g, i * 3, none⟩ (.int .u64 s)).setCell ⟨g, i * 3 + 1, none⟩ (.int .u64 r)).setCell ⟨g, i * 3 + 2, none⟩ (.int .i64 f)).drew) := by
      refine ⟨_, .inl ⟨hne, rfl⟩, HT.out _ _ ⟨_, ?_, x2.drew, fun b hb => .inl hb⟩⟩
      have := x1.below (Below.refl _ _).drew
      rw [set_rep Hnd.out hi (n := ⟨s, r, f⟩) hs] at this
      exact this
    obtain ⟨n, hN⟩ : ∃ n, L1.length = n := ⟨_, rfl⟩
    rw [hN] at hi c3 rv
    have q1 : (i : Int) < (n : Int) := by omega
    have q2 : (0 : Int) ≤ (i : Int) := by omega
    generalize (bk L1 i).rep = yr at *
    generalize (bk L1 i).ses = ys at *
    generalize (bk L1 i).fin = yf at *
    clear HP HT H2 hg cur x1 x2 Hnd hs HB2 hne cb
    go_wp2_with fail
    go_region
    go_wp2_with fail
    refine bodyPost_ret (results_none rfl _ _ _) rfl ?_
    exact ⟨rfl, HE⟩
  · have Hno := hid hno
    obtain ⟨av, cv, rfl, rv, mv⟩ := H2.out.isSl
    obtain ⟨c0, c1, c2, c3⟩ := H2.out.cells
    obtain ⟨n, hN⟩ : ∃ n, L1.length = n := ⟨_, rfl⟩
    rw [hN] at c3 rv hle1 H2 HT HB2
    clear HP hno
    by_cases hful : n < room
    · have hfl : ¬ (room : Int) ≤ (n : Int) := by omega
      have hfd : decide ((room : Int) ≤ (n : Int)) = false := by simp; omega
      have HBd : Hid (BindP room L1 ⟨s, r, f⟩ (L1 ++ [⟨s, r, f⟩])) := .inr (.inl ⟨Hno.out, by omega, rfl⟩)
      go_wp2_with fail
      go_quiet (fail)
      go_wp2_with fail
      have hb5 : Below w3.heap.size w3 (w3.drewN nq) := ⟨rfl, rfl, rfl, Nat.le_refl _, fun _ _ => rfl⟩
      have HR := hid (H2.out.below hb5)
      have HBs := hid (block_bel HB2.out.1 hb5)
      have HTx : Hid (∀ (w' : World) (q' : List Bd), RtO (w3.drewN nq) B room keep (.slice av n cv) T1 q' w' → RtO w B room keep v T1 q' w') := fun w' q' ho => HT.out w' q' (RtO.trans (H2.out.below hb5) (Fb.of hb5) (fun b hb => .inl hb) ho)
      clear hb5 H2 HT HB2 c0 c1 c2 c3 Hno Hnd
      generalize w3.drewN nq = w5 at *
      have HK := hid fun (W : World) (hb : Below w5.heap.size w5 W) => (⟨(HR.out.below hb).cells.2.2.2, frozen_of_row _ _ 3 _ _ (HR.out.below hb).var⟩ : W.cell? ⟨B, 3, none⟩ = some (.slice av n cv) ∧ W.frozen? ⟨B, 3, none⟩ = false)
      have HKb := hid fun (W : World) (hb : Below w5.heap.size w5 W) => (cells_three (block_bel HBs.out hb))
      have HNw := hid fun (W : World) (hb : Below w5.heap.size w5 W) => (HR.out.below hb).news
      have HBa := hid HR.out.bare
      have HLq : Hid ((flatB L1).length = n * 3) := by unfold Hid; rw [flatB_len, hN]
      have HOn := hid (flatB_one L1)
      have HFin : Hid (∀ (base : Nat) (v7 : Value) (W7 : World), w5.heap.size ≤ base → W7.ownsRow base 62 3 v7 (0 + n + 1) ([] ++ flatB L1 ++ [.int .u64 s, .int .u64 r, .int .i64 f]) → Below w5.heap.size w5 W7 → ∃ L', BindP room L1 ⟨s, r, f⟩ L' ∧ RtO w B room keep v T1 L' (W7.setCell ⟨B, 3, none⟩ v7)) := fun base v7 W7 hba hO7 hb7 => by
        have e2 : [] ++ flatB L1 ++ [.int .u64 s, .int .u64 r, .int .i64 f] = flatB (L1 ++ [⟨s, r, f⟩]) := by rw [flatB_app]; rfl
        have e1 : (L1 ++ [(⟨s, r, f⟩ : Bd)]).length = 0 + n + 1 := by simp [hN]
        rw [e2] at hO7
        exact ⟨_, HBd.out, HTx.out _ _ (HR.out.list hb7 (by rw [e1]; exact hO7) hba (by rw [e1]; omega))⟩
      have HV5 : Hid (Below w5.heap.size w5 w5.drew) := (Below.refl _ _).drew
      have HA5 := hid fun (o : Obj) => ((Below.refl w5.heap.size w5).alloc (Nat.le_refl _) o).drew
      have HUa := hid fun (W : World) (hb : Below w5.heap.size w5 W) (o : Obj) => hb.alloc hb.size o
      have HCn := hid fun (o : Obj) => (heap_alloc_new w5 o : (w5.alloc o).drew.heap[w5.heap.size]? = some o)
      have l3 : w5.cell? ⟨B, 3, none⟩ = some (.slice av n cv) := (HK.out _ HV5.out).1
      have l3a : ∀ o : Obj, (w5.alloc o).cell? ⟨B, 3, none⟩ = some (.slice av n cv) := fun o => (HK.out _ (HA5.out o)).1
      obtain ⟨b0, b1, b2⟩ := cells_three HBs.out
      clear HR hN HTx HBd HBs
      go_region_law
        (first
          | (refine step_append18 (by rfl) 137 (by rfl) (.const (.slice none 0 0)) (.tmp 136) 27 (by rfl) w5.heap.size 62 j0 (.agg #[.int .u64 0, .int .u64 0, .int .i64 0]) 3 24 Try.undBi ji jz0 jz1 jz2 rfl (by decide) (by decide) _ 0 [] (by rfl) (World.ownsRow_nil _ _ _ _) av n cv (flatB L1) (by rfl) HBa.out HLq.out (HNw.out _ HV5.out) HOn.out (by omega) HV5.out.size ?_; intro v6 w6 hO6 hb6; have HW6 := hid (HV5.out.trans hb6); have HO6 := hid hO6; obtain ⟨m0, m1, m2⟩ := HKb.out _ HW6.out; have HZ6 := hid (Nat.le_refl w5.heap.size); clear hO6 hb6)
          | (refine step_append18 (by rfl) 137 (by rfl) (.const (.slice none 0 0)) (.tmp 136) 27 (by rfl) (w5.heap.size + 1) 62 j0 (.agg #[.int .u64 0, .int .u64 0, .int .i64 0]) 3 24 Try.undBi ji jz0 jz1 jz2 rfl (by decide) (by decide) _ 0 [] (by rfl) (World.ownsRow_nil _ _ _ _) av n cv (flatB L1) (by rfl) HBa.out HLq.out (HNw.out _ (HA5.out _)) HOn.out (by omega) (by simp) ?_; intro v6 w6 hO6 hb6; have HW6 := hid ((HA5.out _).trans (hb6.mono (Nat.le_succ _))); have HO6 := hid hO6; have HZ6 := hid (Nat.le_succ w5.heap.size); have HZs := hid (Nat.le_trans (by simp : w5.heap.size + 1 ≤ (w5.alloc _).drew.heap.size) hb6.size); have HC6 := hid ((hb6.block _ (Nat.lt_succ_self _)).trans (HCn.out _)); clear hO6 hb6)
          | (refine step_append18 (by rfl) 140 (by rfl) (.tmp 137) (.tmp 139) 27 (by rfl) _ 62 j0 (.agg #[.int .u64 0, .int .u64 0, .int .i64 0]) 3 24 Try.undBi ji jz0 jz1 jz2 rfl (by decide) (by decide) v6 (0 + n) ([] ++ flatB L1) (by rfl) (HO6.out.alloc _) (some ⟨w6.heap.size, 0, none⟩) 1 1 [.int .u64 s, .int .u64 r, .int .i64 f] (by rfl) (fun e => by cases e) rfl (fun b hb => by cases hb; exact World.news_of_block (heap_alloc_new w6 _)) (by simp [Value.oneCell']) (by omega) (HUa.out _ HW6.out _).size ?_; intro v7 w7 hO7 hb7; obtain ⟨g7, e7, rfl⟩ := own_some18 hO7 (by omega); have HW7 := hid ((HUa.out _ HW6.out _).trans hb7); have HO7 := hid hO7; have s3 := (HK.out _ HW7.out).1; have s4 := (HK.out _ HW7.out).2; have HE7 := hid (HFin.out _ _ _ HZ6.out HO7.out HW7.out); clear hO7 hb7)
          | (refine step_append18 (by rfl) 140 (by rfl) (.tmp 137) (.tmp 139) 27 (by rfl) _ 62 j0 (.agg #[.int .u64 0, .int .u64 0, .int .i64 0]) 3 24 Try.undBi ji jz0 jz1 jz2 rfl (by decide) (by decide) v6 (0 + n) ([] ++ flatB L1) (by rfl) HO6.out (some ⟨w5.heap.size, 0, none⟩) 1 1 [.int .u64 s, .int .u64 r, .int .i64 f] (by rfl) (fun e => by cases e) rfl (fun b hb => by cases hb; exact World.news_of_block HC6.out) (by simp [Value.oneCell']) (by omega) HZs.out ?_; intro v7 w7 hO7 hb7; obtain ⟨g7, e7, rfl⟩ := own_some18 hO7 (by omega); have HW7 := hid (HW6.out.trans (hb7.mono HZ6.out)); have HO7 := hid hO7; have s3 := (HK.out _ HW7.out).1; have s4 := (HK.out _ HW7.out).2; have HE7 := hid (HFin.out _ _ _ HZ6.out HO7.out HW7.out); clear hO7 hb7)
          | fail)
      all_goals
        have HS2 := hid HE7.out
        rw [Nat.zero_add] at HS2
        clear HE7 HO7 HO6 HW6 HW7 HFin HK HKb HNw HA5 HUa HCn l3 l3a s3 s4
      all_goals
        go_wp2_with fail
        go_end0
        exact ⟨rfl, HS2⟩
    · obtain rfl : n = room := by omega
      have hfl : (n : Int) ≤ (n : Int) := Int.le_refl _
      have hfd : decide ((n : Int) ≤ (n : Int)) = true := by simp
      have HLst : Hid (∀ o, LsU L1 n o → LstB L1 (bk L1 o) ∧ L1.eraseIdx o = butB L1 (bk L1 o).ses) := fun o ho => ⟨by rw [← hN] at ho; exact ho.lst, erase_but Hnd.out (by rw [hN]; exact ho.1)⟩
      go_wp2_with fail
      go_quiet (fail)
      have hb5 : Below w3.heap.size w3 (w3.drewN nq) := ⟨rfl, rfl, rfl, Nat.le_refl _, fun _ _ => rfl⟩
      have H5 := hid (H2.out.below hb5)
      have HBs := hid (And.intro (block_bel HB2.out.1 hb5) HB2.out.2)
      have HTx : Hid (∀ (w' : World) (q' : List Bd), RtO (w3.drewN nq) B n keep (.slice av n cv) T1 q' w' → RtO w B n keep v T1 q' w') := fun w' q' ho => HT.out w' q' (RtO.trans (H2.out.below hb5) (Fb.of hb5) (fun b hb => .inl hb) ho)
      clear hb5 H2 HT HB2 c0 c1 c2 c3 Hnd
      generalize w3.drewN nq = w5 at *
      have HW0 := hid (Below.refl w5.heap.size w5)
      go_wp2_with fail
      go_loopw [10, 11] (fun x i W => ∃ (m o : Nat), 1 ≤ m ∧ m ≤ n ∧ i = .int .i64 m ∧ x = .int .i64 o ∧ Hid (LsU L1 m o) ∧ Hid (Below w5.heap.size w5 W)) (fun _ i _ => n - (intOf i).toNat)
      case atStart => exact ⟨1, 0, by omega, by omega, rfl, rfl, LsU.one L1, HW0⟩
      case round =>
      obtain ⟨m, o, hm1, hm, rfl, rfl, HLs, HW⟩ := hrel
      rename World => w6
      have hom := HLs.out.1
      have hR6 := H5.out.below HW.out
      obtain ⟨c0, c1, c2, c3⟩ := hR6.cells
      clear HW0
      by_cases hmn : m < n
      · have q1 : (m : Int) < (n : Int) := by omega
        have hon : o < n := by omega
        have q2 : (o : Int) < (n : Int) := by omega
        obtain ⟨g, cap', cur, hv, hg, _, _⟩ := hR6.isSome (k := m) (by omega)
        have hav : av = some ⟨g, 0, none⟩ := by cases hv; rfl
        subst hav
        obtain ⟨ca, cr, cu⟩ := hR6.at (k := m) (by omega)
        obtain ⟨da, dr, du⟩ := hR6.at (k := o) (by omega)
        have HD6 : Hid (∀ q, Below w5.heap.size w5 (w6.drewN q)) := fun q => ⟨HW.out.os, HW.out.tape, HW.out.output, HW.out.size, HW.out.block⟩
        rcases first_case (f := (bk L1 m).fin) (F := (bk L1 o).fin) (s := (bk L1 m).ses) (S := (bk L1 o).ses) with k1 | ⟨k1, k2, k3⟩ | ⟨k1, k2, k3⟩ | ⟨k1, k2⟩
        · have d1 : decide ((bk L1 m).fin < (bk L1 o).fin) = true := decide_eq_true k1
          have HL2 : Hid (LsU L1 (m + 1) m) := HLs.out.less (.inl k1)
          clear HLs hR6 hv hg cur H5 HBs HTx HLst
          generalize (bk L1 m).rep = r1 at *
          generalize (bk L1 m).ses = s1 at *
          generalize (bk L1 m).fin = f1 at *
          generalize (bk L1 o).rep = r2 at *
          generalize (bk L1 o).ses = s2 at *
          generalize (bk L1 o).fin = f2 at *
          go_wp2_with fail
          go_quiet (fail)
          go_wp2_with fail
          go_round
          case rel => exact ⟨m + 1, m, by omega, by omega, by go_num, rfl, HL2, HD6.out _⟩
          case measure => simp [intOf]; omega
        · have d1 : decide ((bk L1 m).fin < (bk L1 o).fin) = false := decide_eq_false k1
          have d2 : ((bk L1 m).fin == (bk L1 o).fin) = true := by simp [k2]
          have d3 : decide ((bk L1 m).ses < (bk L1 o).ses) = true := decide_eq_true k3
          have Hk2 := hid k2
          clear k2
          have HL2 : Hid (LsU L1 (m + 1) m) := HLs.out.less (.inr ⟨Hk2.out, k3⟩)
          clear HLs Hk2 hR6 hv hg cur H5 HBs HTx HLst
          generalize (bk L1 m).rep = r1 at *
          generalize (bk L1 m).ses = s1 at *
          generalize (bk L1 m).fin = f1 at *
          generalize (bk L1 o).rep = r2 at *
          generalize (bk L1 o).ses = s2 at *
          generalize (bk L1 o).fin = f2 at *
          go_wp2_with fail
          go_quiet (fail)
          go_wp2_with fail
          go_round
          case rel => exact ⟨m + 1, m, by omega, by omega, by go_num, rfl, HL2, HD6.out _⟩
          case measure => simp [intOf]; omega
        · have d1 : decide ((bk L1 m).fin < (bk L1 o).fin) = false := decide_eq_false k1
          have d2 : ((bk L1 m).fin == (bk L1 o).fin) = true := by simp [k2]
          have d3 : decide ((bk L1 m).ses < (bk L1 o).ses) = false := decide_eq_false k3
          have Hk2 := hid k2
          clear k2
          have HL2 : Hid (LsU L1 (m + 1) o) := HLs.out.stay (by have := Hk2.out; unfold ltB; omega)
          clear HLs Hk2 hR6 hv hg cur H5 HBs HTx HLst
          generalize (bk L1 m).rep = r1 at *
          generalize (bk L1 m).ses = s1 at *
          generalize (bk L1 m).fin = f1 at *
          generalize (bk L1 o).rep = r2 at *
          generalize (bk L1 o).ses = s2 at *
          generalize (bk L1 o).fin = f2 at *
          go_wp2_with fail
          go_quiet (fail)
          go_wp2_with fail
          go_round
          case rel => exact ⟨m + 1, o, by omega, by omega, by go_num, rfl, HL2, HD6.out _⟩
          case measure => simp [intOf]; omega
        · have d1 : decide ((bk L1 m).fin < (bk L1 o).fin) = false := decide_eq_false k1
          have d2 : ((bk L1 m).fin == (bk L1 o).fin) = false := by simp [k2]
          have HL2 : Hid (LsU L1 (m + 1) o) := HLs.out.stay (by unfold ltB; omega)
          clear HLs hR6 hv hg cur H5 HBs HTx HLst
          generalize (bk L1 m).rep = r1 at *
          generalize (bk L1 m).ses = s1 at *
          generalize (bk L1 m).fin = f1 at *
          generalize (bk L1 o).rep = r2 at *
          generalize (bk L1 o).ses = s2 at *
          generalize (bk L1 o).fin = f2 at *
          go_wp2_with fail
          go_quiet (fail)
          go_wp2_with fail
          go_round
          case rel => exact ⟨m + 1, o, by omega, by omega, by go_num, rfl, HL2, HD6.out _⟩
          case measure => simp [intOf]; omega
      · obtain rfl : n = m := by omega
        have hol : o < n := by omega
        have hol2 : (o : Int) < (n : Int) := by omega
        have hnb : n ≤ 2000 := by omega
        obtain ⟨hlst, hebut⟩ := HLst.out o HLs.out
        have HLo := hid (And.intro hlst hebut)
        clear hlst hebut HLst HLs
        obtain ⟨g, cap', cur, hv, hg, _, _⟩ := hR6.isSome (k := o) (by omega)
        have hav : av = some ⟨g, 0, none⟩ := by cases hv; rfl
        subst hav
        have HR6 := hid hR6
        have HBw : Hid (w6.heap[sb]? = some (.cells #[.int .u64 s, .int .u64 r, .int .i64 f] 62 (0, 0)) ∧ sb < w5.heap.size) := ⟨block_bel HBs.out.1 HW.out, lt_of_block HBs.out.1⟩
        have HTy : Hid (∀ (w' : World) (q' : List Bd), RtO w6 B n keep (.slice (some ⟨g, 0, none⟩) n cv) T1 q' w' → RtO w B n keep v T1 q' w') := fun w' q' ho => HTx.out w' q' (RtO.trans hR6 (Fb.of HW.out) (fun b hb => .inl hb) ho)
        have HNw := hid fun (W : World) (hb : Below w6.heap.size w6 W) => (HR6.out.below hb).news
        have HK := hid fun (W : World) (hb : Below w6.heap.size w6 W) => (⟨(HR6.out.below hb).cells.2.2.2, frozen_of_row _ _ 3 _ _ (HR6.out.below hb).var⟩ : W.cell? ⟨B, 3, none⟩ = some (.slice (some ⟨g, 0, none⟩) n cv) ∧ W.frozen? ⟨B, 3, none⟩ = false)
        have HL1 : Hid ((flatB (L1.take o)).length = o * 3) := by unfold Hid; rw [flatB_len, List.length_take]; congr 1; omega
        have HL2 : Hid ((flatB (L1.drop (o + 1))).length = (n - (o + 1)) * 3) := by unfold Hid; rw [flatB_len, List.length_drop, hN]
        have HFin : Hid (∀ (v8 : Value) (W8 : World), W8.ownsRow w6.heap.size 62 3 v8 (0 + o + (n - (o + 1))) ([] ++ flatB (L1.take o) ++ flatB (L1.drop (o + 1))) → Below w6.heap.size w6 W8 → RtO w6 B n keep (.slice (some ⟨g, 0, none⟩) n cv) T1 (L1.eraseIdx o) (W8.setCell ⟨B, 3, none⟩ v8) ∧ (W8.setCell ⟨B, 3, none⟩ v8).heap[sb]? = some (.cells #[.int .u64 s, .int .u64 r, .int .i64 f] 62 (0, 0))) := by
          intro v8 W8 hO8 hb8
          rw [List.nil_append, show 0 + o + (n - (o + 1)) = L1.length - 1 by omega] at hO8
          refine ⟨HR6.out.gone hb8 (by omega) hO8 (Nat.le_refl _), ?_⟩
          rw [Below.heap_setCell _ _ _ _ (fun e => HBs.out.2 (.inl e))]
          exact block_bel HBw.out.1 hb8
        have HN1 : Hid (∀ W : World, Below w6.heap.size w6 W → ∀ b, some (⟨g, 0, none⟩ : Addr) = some b → ∀ j u, (flatB (L1.take o))[j]? = some u → W.cell? (b.add j) = some u) := fun W hb b hbe j u hu => by
          rw [flatB_take, List.getElem?_take] at hu
          split at hu
          · exact HNw.out W hb b hbe j u hu
          · cases hu
        have hw1 : IntKind.i64.wrap ((o : Int) + 1) = (o : Int) + 1 := wrap64_in (by omega) (by omega)
        have hs1 := fun W : World => cutB_to g n cv o (by omega) W
        obtain ⟨A, hs2, hA⟩ := cutB_from g n cv o (by omega) (by omega)
        have HN2 : Hid (∀ W : World, Below w6.heap.size w6 W → ∀ b, some A = some b → ∀ j u, (flatB (L1.drop (o + 1)))[j]? = some u → W.cell? (b.add j) = some u) := fun W hb b hbe j u hu => by
          cases hbe
          have hj : j < (flatB (L1.drop (o + 1))).length := by
            rcases Nat.lt_or_ge j (flatB (L1.drop (o + 1))).length with h | h
            · exact h
            · rw [List.getElem?_eq_none h] at hu; cases hu
          rw [HL2.out] at hj
          rw [hA (by omega)]
          rw [flatB_drop, List.getElem?_drop] at hu
          have := HNw.out W hb _ rfl _ u hu
          rw [Addr.add_lit, Nat.zero_add] at this
          rw [Addr.add_lit]
          exact this
        clear hA
        have HO1 := hid (flatB_one (L1.take o))
        have HO2 := hid (flatB_one (L1.drop (o + 1)))
        have l3 : w6.cell? ⟨B, 3, none⟩ = some (.slice (some ⟨g, 0, none⟩) n cv) := (HK.out _ (Below.refl _ _)).1
        have HV6 : Hid (Below w6.heap.size w6 w6.drew) := (Below.refl _ _).drew
        have HlE : Hid ((L1.eraseIdx o).length = n - 1) := by unfold Hid; rw [List.length_eraseIdx, if_pos (by omega), hN]
        clear hR6 HR6 c0 c1 c2 c3 hv hg cur H5 HBs HTx HW HBw
        go_wp2_with fail
        go_cut [10] (fun x wx => x = .int .i64 (o : Int) ∧ Hid (RtO w6 B n keep (.slice (some ⟨g, 0, none⟩) n cv) T1 (L1.eraseIdx o) wx) ∧ Hid (wx.heap[sb]? = some (.cells #[.int .u64 s, .int .u64 r, .int .i64 f] 62 (0, 0))))
        case first =>
          go_region_law
            (first
              | (refine step_append18 (by rfl) 121 (by rfl) (.const (.slice none 0 0)) (.tmp 120) 27 (by rfl) w6.heap.size 62 j0 (.agg #[.int .u64 0, .int .u64 0, .int .i64 0]) 3 24 Try.undBi ji jz0 jz1 jz2 rfl (by decide) (by decide) _ 0 [] (by rfl) (World.ownsRow_nil _ _ _ _) (some ⟨g, 0, none⟩) o cv (flatB (L1.take o)) (by rfl) (fun e => by cases e) HL1.out (HN1.out _ HV6.out) HO1.out (by omega) HV6.out.size ?_; intro v7 w7 hO7 hb7; have HW7 := hid (HV6.out.trans hb7); have HO7 := hid hO7; have m3 := (HK.out _ HW7.out).1; clear hO7 hb7)
              | (refine step_append18 (by rfl) 129 (by rfl) (.tmp 121) (.tmp 128) 27 (by rfl) w6.heap.size 62 j0 (.agg #[.int .u64 0, .int .u64 0, .int .i64 0]) 3 24 Try.undBi ji jz0 jz1 jz2 rfl (by decide) (by decide) v7 (0 + o) ([] ++ flatB (L1.take o)) (by rfl) HO7.out (some A) (n - (o + 1)) (cv - (o + 1)) (flatB (L1.drop (o + 1))) (by rfl) (fun e => by cases e) HL2.out (HN2.out _ HW7.out) HO2.out (by omega) HW7.out.size ?_; intro v8 w8 hO8 hb8; obtain ⟨a8, e8, rfl⟩ := own_sl18 hO8; have HW8 := hid (HW7.out.trans hb8); have s3 := (HK.out _ HW8.out).1; have s4 := (HK.out _ HW8.out).2; have HP8 := hid (HFin.out _ _ hO8 HW8.out); clear hO8 hb8)
              | fail)
          all_goals
            rw [Nat.zero_add] at HP8
            clear HFin HNw HN1 HN2 HL1 HL2 HO1 HO2 HK l3 HV6 hs1 hs2 m3 s3 s4 HW7 HW8 HO7 HTy
          all_goals
            go_wp2_with fail
          all_goals
            go_meet
            exact ⟨rfl, hid HP8.out.1, hid HP8.out.2⟩
        case rest =>
        obtain ⟨rfl, HP9, HBs⟩ := hcut
        clear HFin HNw HN1 HN2 HL1 HL2 HO1 HO2 HK l3 HV6 hs1 hs2
        obtain ⟨v9, hR9, hf9, hv9⟩ := HP9.out
        have HBd : Hid (BindP n L1 ⟨s, r, f⟩ (L1.eraseIdx o ++ [⟨s, r, f⟩])) := .inr (.inr ⟨Hno.out, hN, bk L1 o, HLo.out.1, by rw [HLo.out.2]⟩)
        have HTx : Hid (∀ (w' : World) (q' : List Bd), RtO wc B n keep v9 T1 q' w' → RtO w B n keep v T1 q' w') := fun w' q' ho => HTy.out w' q' (RtO.trans hR9 hf9 hv9 ho)
        obtain ⟨av, cv, rfl, rv9, mv9⟩ := hR9.isSl
        have HR := hid hR9
        have HlE2 := hid HlE.out
        clear hR9 hf9 hv9 HP9 HTy HLo Hno
        generalize L1.eraseIdx o = L9 at *
        obtain ⟨n9, hN9⟩ : ∃ n9, L9.length = n9 := ⟨_, rfl⟩
        rw [hN9] at rv9 HR HTx
        have hn9 : n9 ≤ 1024 := by have := HlE.out; omega
        clear HlE HlE2 hfl hfd
        go_wp2_with fail
        have HK := hid fun (W : World) (hb : Below wc.heap.size wc W) => (⟨(HR.out.below hb).cells.2.2.2, frozen_of_row _ _ 3 _ _ (HR.out.below hb).var⟩ : W.cell? ⟨B, 3, none⟩ = some (.slice av n9 cv) ∧ W.frozen? ⟨B, 3, none⟩ = false)
        have HKb := hid fun (W : World) (hb : Below wc.heap.size wc W) => (cells_three (block_bel HBs.out hb))
        have HNw := hid fun (W : World) (hb : Below wc.heap.size wc W) => (HR.out.below hb).news
        have HBa := hid HR.out.bare
        have HLq : Hid ((flatB L9).length = n9 * 3) := by unfold Hid; rw [flatB_len, hN9]
        have HOn := hid (flatB_one L9)
        have HFin : Hid (∀ (base : Nat) (v7 : Value) (W7 : World), wc.heap.size ≤ base → W7.ownsRow base 62 3 v7 (0 + n9 + 1) ([] ++ flatB L9 ++ [.int .u64 s, .int .u64 r, .int .i64 f]) → Below wc.heap.size wc W7 → ∃ L', BindP n L1 ⟨s, r, f⟩ L' ∧ RtO w B n keep v T1 L' (W7.setCell ⟨B, 3, none⟩ v7)) := fun base v7 W7 hba hO7 hb7 => by
          have e2 : [] ++ flatB L9 ++ [.int .u64 s, .int .u64 r, .int .i64 f] = flatB (L9 ++ [⟨s, r, f⟩]) := by rw [flatB_app]; rfl
          have e1 : (L9 ++ [(⟨s, r, f⟩ : Bd)]).length = 0 + n9 + 1 := by simp [hN9]
          rw [e2] at hO7
          exact ⟨_, HBd.out, HTx.out _ _ (HR.out.list hb7 (by rw [e1]; exact hO7) hba (by rw [e1]; omega))⟩
        have HV5 : Hid (Below wc.heap.size wc wc.drew) := (Below.refl _ _).drew
        have HA5 := hid fun (o : Obj) => ((Below.refl wc.heap.size wc).alloc (Nat.le_refl _) o).drew
        have HUa := hid fun (W : World) (hb : Below wc.heap.size wc W) (o : Obj) => hb.alloc hb.size o
        have HCn := hid fun (o : Obj) => (heap_alloc_new wc o : (wc.alloc o).drew.heap[wc.heap.size]? = some o)
        have l3 : wc.cell? ⟨B, 3, none⟩ = some (.slice av n9 cv) := (HK.out _ HV5.out).1
        have l3a : ∀ o : Obj, (wc.alloc o).cell? ⟨B, 3, none⟩ = some (.slice av n9 cv) := fun o => (HK.out _ (HA5.out o)).1
        obtain ⟨b0, b1, b2⟩ := cells_three HBs.out
        clear HR hN9 HTx HBd HBs
        go_region_law
          (first
            | (refine step_append18 (by rfl) 137 (by rfl) (.const (.slice none 0 0)) (.tmp 136) 27 (by rfl) wc.heap.size 62 j0 (.agg #[.int .u64 0, .int .u64 0, .int .i64 0]) 3 24 Try.undBi ji jz0 jz1 jz2 rfl (by decide) (by decide) _ 0 [] (by rfl) (World.ownsRow_nil _ _ _ _) av n9 cv (flatB L9) (by rfl) HBa.out HLq.out (HNw.out _ HV5.out) HOn.out (by omega) HV5.out.size ?_; intro v6 w6 hO6 hb6; have HW6 := hid (HV5.out.trans hb6); have HO6 := hid hO6; obtain ⟨m0, m1, m2⟩ := HKb.out _ HW6.out; have HZ6 := hid (Nat.le_refl wc.heap.size); clear hO6 hb6)
            | (refine step_append18 (by rfl) 137 (by rfl) (.const (.slice none 0 0)) (.tmp 136) 27 (by rfl) (wc.heap.size + 1) 62 j0 (.agg #[.int .u64 0, .int .u64 0, .int .i64 0]) 3 24 Try.undBi ji jz0 jz1 jz2 rfl (by decide) (by decide) _ 0 [] (by rfl) (World.ownsRow_nil _ _ _ _) av n9 cv (flatB L9) (by rfl) HBa.out HLq.out (HNw.out _ (HA5.out _)) HOn.out (by omega) (by simp) ?_; intro v6 w6 hO6 hb6; have HW6 := hid ((HA5.out _).trans (hb6.mono (Nat.le_succ _))); have HO6 := hid hO6; have HZ6 := hid (Nat.le_succ wc.heap.size); have HZs := hid (Nat.le_trans (by simp : wc.heap.size + 1 ≤ (wc.alloc _).drew.heap.size) hb6.size); have HC6 := hid ((hb6.block _ (Nat.lt_succ_self _)).trans (HCn.out _)); clear hO6 hb6)
            | (refine step_append18 (by rfl) 140 (by rfl) (.tmp 137) (.tmp 139) 27 (by rfl) _ 62 j0 (.agg #[.int .u64 0, .int .u64 0, .int .i64 0]) 3 24 Try.undBi ji jz0 jz1 jz2 rfl (by decide) (by decide) v6 (0 + n9) ([] ++ flatB L9) (by rfl) (HO6.out.alloc _) (some ⟨w6.heap.size, 0, none⟩) 1 1 [.int .u64 s, .int .u64 r, .int .i64 f] (by rfl) (fun e => by cases e) rfl (fun b hb => by cases hb; exact World.news_of_block (heap_alloc_new w6 _)) (by simp [Value.oneCell']) (by omega) (HUa.out _ HW6.out _).size ?_; intro v7 w7 hO7 hb7; obtain ⟨g7, e7, rfl⟩ := own_some18 hO7 (by omega); have HW7 := hid ((HUa.out _ HW6.out _).trans hb7); have HO7 := hid hO7; have s3 := (HK.out _ HW7.out).1; have s4 := (HK.out _ HW7.out).2; have HE7 := hid (HFin.out _ _ _ HZ6.out HO7.out HW7.out); clear hO7 hb7)
            | (refine step_append18 (by rfl) 140 (by rfl) (.tmp 137) (.tmp 139) 27 (by rfl) _ 62 j0 (.agg #[.int .u64 0, .int .u64 0, .int .i64 0]) 3 24 Try.undBi ji jz0 jz1 jz2 rfl (by decide) (by decide) v6 (0 + n9) ([] ++ flatB L9) (by rfl) HO6.out (some ⟨wc.heap.size, 0, none⟩) 1 1 [.int .u64 s, .int .u64 r, .int .i64 f] (by rfl) (fun e => by cases e) rfl (fun b hb => by cases hb; exact World.news_of_block HC6.out) (by simp [Value.oneCell']) (by omega) HZs.out ?_; intro v7 w7 hO7 hb7; obtain ⟨g7, e7, rfl⟩ := own_some18 hO7 (by omega); have HW7 := hid (HW6.out.trans (hb7.mono HZ6.out)); have HO7 := hid hO7; have s3 := (HK.out _ HW7.out).1; have s4 := (HK.out _ HW7.out).2; have HE7 := hid (HFin.out _ _ _ HZ6.out HO7.out HW7.out); clear hO7 hb7)
            | fail)
        all_goals
          have HS2 := hid HE7.out
          rw [Nat.zero_add] at HS2
          clear HE7 HO7 HO6 HW6 HW7 HFin HK HKb HNw HA5 HUa HCn l3 l3a s3 s4
        all_goals
          go_wp2_with fail
          go_end0
          exact ⟨rfl, HS2⟩
end Go.Proofs.Ytfnbofhppfjmgaa
