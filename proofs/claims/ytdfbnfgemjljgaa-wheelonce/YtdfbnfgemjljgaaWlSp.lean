/-
  Contracts: the wheel's Stop, StopAll.
-/
import Derived.Test.YtdfbnfgemjljgaaWlSt
namespace Go.Proofs.Ytdfbnfgemjljgaa
open Go.RowKit Go.Maps
set_option linter.unusedVariables false
set_option maxRecDepth 1000000

theorem but_perm {ms ns : List Qe} {q : Qe} (h : NuQ ms) (hp : (q :: ns).Perm ms) : ns.Perm (butQ ms q.tm.num) := by
  have h1 : NuQ (q :: ns) := h.perm hp
  have h2 : (butQ (q :: ns) q.tm.num).Perm (butQ ms q.tm.num) := hp.filter _
  have h3 : butQ (q :: ns) q.tm.num = ns := by
    unfold butQ
    rw [List.filter_cons_of_neg (by simp)]
    refine List.filter_eq_self.2 fun b hb => ?_
    unfold NuQ at h1
    rw [List.map_cons, List.nodup_cons] at h1
    have : b.tm.num ≠ q.tm.num := fun e => h1.1 (List.mem_map.2 ⟨b, hb, e⟩)
    simpa using this
  rwa [h3] at h2
theorem stp_filter {n : Int} {L : List Tm} (h : (L.map Tm.num).Nodup) : stpT n L = L.filter fun t => decide (t.num ≠ n) := by
  induction L with
  | nil => rfl
  | cons a L ih =>
    rw [List.map_cons, List.nodup_cons] at h
    unfold stpT at ih ⊢
    by_cases e : a.num = n
    · rw [List.eraseP_cons_of_pos (by simpa using e), List.filter_cons_of_neg (by simpa using e)]
      exact (List.filter_eq_self.2 fun t ht => by
        have : t.num ≠ n := fun e2 => h.1 (List.mem_map.2 ⟨t, ht, e2.trans e.symm⟩)
        simpa using this).symm
    · rw [List.eraseP_cons_of_neg (by simpa using e), List.filter_cons_of_pos (by simpa using e), ih h.2]
theorem NuQ.tms {ms : List Qe} {L : List Tm} (h : NuQ ms) (hp : (ms.map Qe.tm).Perm L) : (L.map Tm.num).Nodup := SoT.nums hp h
/-- One less. -/
theorem WlI.stopped {W W1 W' : World} {B : Nat} {T last : Int} {L : List Tm} {M g cap i : Nat} {ms ns : List Qe} {v : Value} (h : WlI W B T last L M v ms) (hv : v = .slice (some ⟨g, 0, none⟩) ms.length cap) (hm : MqAt W1 M (butQ ms (gq ms i).tm.num)) (hf1 : Fb (at1 M) W W1)
    (p1 : (gq ms i :: ns).Perm ms) (hh : HeapQ ns ns.length) (hw : WqAt B T last M g cap ns W') (hf2 : Fb (frW B g ms) W1 W') :
    WlI W' B T last (stpT (gq ms i).tm.num L) M (.slice (some ⟨g, 0, none⟩) ns.length cap) ns ∧ Fb (wlF B M v ms) W W' ∧ ∀ k, wlF B M (.slice (some ⟨g, 0, none⟩) ns.length cap) ns k → wlF B M v ms k := by
  have hM : ¬ frW B g ms M := by
    rintro (e | e)
    · exact h.BM e.symm
    · exact h.que.nM h.map (by rw [hv]; exact frV_fr.2 e)
  have hN := h.map.nodup.tms h.pm
  refine ⟨⟨hw.var, (hm.fb hf2 hM).perm (but_perm h.map.nodup p1), hw.row.v, hh, stp_perm h.pm p1 hN, h.so.sub (stp_sub _ _), fun t ht => h.nm t ((stp_sub _ _).mem ht), h.tm, h.la, Nat.le_trans (stp_sub _ _).length_le h.few⟩, ?_, fun k hk => ?_⟩
  · refine (hf1.mono fun x e => .inr (.inl e)).trans hf2 fun x hx => .inl ?_
    rcases hx with e | e
    · exact .inl e
    · exact .inr (.inr (by rw [hv]; exact frV_fr.2 e))
  · rcases hk with e | e | e
    · exact .inl e
    · exact .inr (.inl e)
    · refine .inr (.inr ?_)
      rw [hv]
      refine frV_fr.2 ?_
      rcases frV_fr.1 e with e | ⟨q, hq, e⟩
      · exact .inl e
      · exact .inr ⟨q, p1.mem_iff.1 (List.mem_cons_of_mem _ hq), e⟩
theorem lkQ_num {ms : List Qe} {L : List Tm} (hp : (ms.map Qe.tm).Perm L) (n : Int) : (lkQ ms n).isSome = true ↔ n ∈ L.map Tm.num := by
  constructor
  · intro h
    cases hl : lkQ ms n with
    | none => rw [hl] at h; cases h
    | some p =>
      obtain ⟨b, h1, h2, _⟩ := lkQ_some hl
      exact List.mem_map.2 ⟨b.tm, hp.mem_iff.1 (List.mem_map.2 ⟨b, h1, rfl⟩), h2⟩
  · intro h
    obtain ⟨t, ht, e⟩ := List.mem_map.1 h
    obtain ⟨b, hb, e2⟩ := List.mem_map.1 (hp.mem_iff.2 ht)
    cases hl : lkQ ms n with
    | some p => rfl
    | none => exact absurd (by rw [e2]; exact e) (lkQ_none.1 hl b hb)
set_option maxHeartbeats 4000000 in
theorem wstop20_any {W : World} {B : Nat} {F : Nat → Prop} {T last : Int} {L : List Tm} (h : WlAt W B F T last L) {n : Int} (hn : isI n) :
    Calls Try.prog 8 #[.pointer (some ⟨B, 0, none⟩), .int .i64 n] W fun e w' => e = .returned (.int .i64 (stpC n L)) ∧ Hid (WlO WlAt W B F T last (stpT n L) w') := by
  obtain ⟨M, v, ms, h, hF⟩ := h
  have hM := wmade_yes h.obj
  have c3 := h.obj.cells.2.2.2
  have hlk := h.map.look hn
  have hq := lkQ_num h.pm n
  cases hl : lkQ ms n with
  | none =>
    rw [hl] at hlk hq
    have hno : n ∉ L.map Tm.num := fun hm => by have := hq.2 hm; cases this
    have e1 : stpC n L = 6 := if_neg hno
    have e2 : stpT n L = L := stp_none fun y hy e => hno (List.mem_map.2 ⟨y, hy, e⟩)
    rw [e1, e2]
    have HX : Hid (WlO WlAt W B F T last L W) := ⟨F, ⟨M, v, ms, h, hF⟩, Fb.refl _ _, fun k hk => .inl hk⟩
    clear h hF hq hno e1 e2 hl
    unfold ptrP at hlk
    simp only [Option.isSome_none] at hlk
    go_enter Try.func8, Try.ntmps8
    go_wp2_with fail
    with_reducible refine hM.mono ?_
    rintro e w1 ⟨rfl, hw⟩
    subst w1
    clear hM
    go_wp2_with fail
    go_ret
    exact ⟨rfl, HX⟩
  | some p =>
    rw [hl] at hlk hq
    have hyes : n ∈ L.map Tm.num := hq.1 rfl
    have e1 : stpC n L = 0 := if_pos hyes
    rw [e1]
    obtain ⟨b, hb, hbn, hbp⟩ := lkQ_some hl
    obtain ⟨i, hi, hg⟩ := mem_gq hb
    rcases h.que.form with ⟨_, rfl⟩ | ⟨g, cap, hv, hr⟩
    · cases hb
    · obtain ⟨m, hm⟩ : ∃ m, ms.length = m + 1 := ⟨ms.length - 1, by omega⟩
      have hfw := h.few
      have hlen := h.len
      have hMF : ¬ frW B g ms M := by
        rintro (e | e)
        · exact h.BM e.symm
        · exact h.que.nM h.map (by rw [hv]; exact frV_fr.2 e)
      obtain ⟨es, clock, hMb⟩ := h.map.blk
      have hWq : WqAt B T last M g cap ms W := ⟨by have := h.obj; rwa [hv] at this, hr⟩
      have hx : (gq ms i).tm.num = n := by rw [hg]; exact hbn
      have hd : ∃ W', (Builtin.delete_ #[57, 3] 0 #[.map (some M), .int .i64 (gq ms i).tm.num]).run Try.prog W.drew = .ok (.tuple #[]) W' ∧ MqAt W' M (butQ ms (gq ms i).tm.num) ∧ Fb (at1 M) W W' := by
        rw [hx]
        obtain ⟨W', k1, k2, k3⟩ := (h.map.same (W' := W.drew) rfl).drop hn 0
        exact ⟨W', k1, k2, ((Fb.refl (at1 M) W).drew).trans k3 fun x hx => .inl hx⟩
      have hS := wstop_any hWq h.hp hm (i := i) (by omega) (by omega) (by rw [hMb]; simp) hMF (fun W' => MqAt W' M (butQ ms (gq ms i).tm.num)) hd
      rw [hg, hbp] at hS
      have HX : Hid (∀ w', (∃ W1 ns, MqAt W1 M (butQ ms b.tm.num) ∧ Fb (at1 M) W W1 ∧ (b :: ns).Perm ms ∧ HeapQ ns ns.length ∧ WqAt B T last M g cap ns w' ∧ Fb (frW B g ms) W1 w') → WlO WlAt W B F T last (stpT n L) w') := fun w' ⟨W1, ns, k1, k2, k3, k4, k5, k6⟩ => by
        rw [← hg] at k1 k3
        obtain ⟨r1, r2, r3⟩ := h.stopped hv k1 k2 k3 k4 k5 k6
        rw [hx] at r1
        exact ⟨_, ⟨M, _, ns, r1, fun _ => Iff.rfl⟩, r2.mono fun k hk => (hF k).2 hk, fun k hk => .inl ((hF k).2 (r3 k hk))⟩
      clear h hF hq hyes e1 hl hb hbn hi hv hr hm hfw hlen hMF hMb hWq hd hx
      unfold ptrP at hlk
      simp only [Option.isSome_some] at hlk
      go_enter Try.func8, Try.ntmps8
      go_wp2_with fail
      with_reducible refine hM.mono ?_
      rintro e w1 ⟨rfl, hw⟩
      subst w1
      clear hM
      go_wp2_with fail
      with_reducible refine hS.mono ?_
      rintro e w1 ⟨rfl, H1⟩
      have HY := hid (HX.out _ H1.out)
      clear hS HX H1
      go_wp2_with fail
      go_ret
      exact ⟨rfl, HY⟩
end Go.Proofs.Ytdfbnfgemjljgaa
