/-
  Contract: the wheel's Set.
-/
import Derived.Test.YtdfbnfgemjljgaaWlSet
namespace Go.Proofs.Ytdfbnfgemjljgaa
open Go.RowKit Go.Maps
set_option linter.unusedVariables false
set_option maxRecDepth 1000000

theorem WlI.added {W W0 W' : World} {B : Nat} {T last : Int} {L : List Tm} {M : Nat} {v : Value} {ms : List Qe} (h : WlI W B T last L M v ms) {t : Tm} (ho : AddO W0 B T (last + 1) M v ms t W') (hnum : t.num = last + 1) (hl : last < 2147483647) (hf : L.length < 4096) :
    ∃ v' ns, WlI W' B T (last + 1) (insT t L) M v' ns ∧ ∀ k, wlF B M v' ns k → wlF B M v ms k ∨ W0.heap.size ≤ k := by
  obtain ⟨g, cap, ns, b, a1, a2, a3, a4, a5, a6, a7⟩ := ho
  have hla := h.la
  refine ⟨_, ns, ⟨a4.var, a5, a4.row.v, a3, ?_, h.so.ins fun x hx => by have := (h.nm x hx).2; omega, fun x hx => ?_, h.tm, by omega, by rw [ins_len]; omega⟩, fun k hk => ?_⟩
  · have p1 := a1.map Qe.tm
    rw [List.map_append, List.map_singleton] at p1
    exact p1.trans ((h.pm.append_right _).trans ((List.perm_append_singleton t L).trans (ins_prm t L).symm))
  · rcases List.mem_cons.1 ((ins_prm t L).mem_iff.1 hx) with e | hx
    · subst e; omega
    · have := h.nm x hx; omega
  · rcases hk with e | e | e | ⟨q, hq, e⟩
    · exact .inl (.inl e)
    · exact .inl (.inr (.inl e))
    · cases e
      rcases a7 with e | e
      · exact .inl (.inr (.inr (.inl e)))
      · exact .inr e
    · rcases List.mem_append.1 (a1.mem_iff.1 hq) with hq | hq
      · exact .inl (.inr (.inr (.inr ⟨q, hq, e⟩)))
      · rw [List.mem_singleton.1 hq] at e
        right
        have e' : b = k := e
        omega
/-- A call that leaves all but the time. -/
theorem wlo_time {W w1 : World} {B : Nat} {F : Nat → Prop} {T' last : Int} {L : List Tm} {M : Nat} {v : Value} {ms : List Qe} (hF : ∀ k, F k ↔ wlF B M v ms k) (h : WlI w1 B T' last L M v ms) (hf : Fb (at1 B) W w1) : WlO WlAt W B F T' last L w1 :=
  ⟨F, ⟨M, v, ms, h, hF⟩, hf.mono fun k e => (hF k).2 (.inl e), fun k hk => .inl hk⟩
set_option maxHeartbeats 8000000 in
theorem wset20_any {W : World} {B : Nat} {F : Nat → Prop} {T last : Int} {L : List Tm} (h : WlAt W B F T last L) {now after kind label : Int} (hn : isI now) (ha : isI after) (hk : isI kind) (hu : isU label) :
    Calls Try.prog 15 #[.pointer (some ⟨B, 0, none⟩), .int .i64 now, .int .i64 after, .int .i64 kind, .int .u64 label] W fun e w' => e = .returned (.tuple #[.int .i64 (if setC last L after = 0 then last + 1 else 0), .int .i64 (setC last L after)]) ∧
      Hid (WlO WlAt W B F (timeZ T now) (if setC last L after = 0 then last + 1 else last) (setL (timeZ T now) last after kind label L) w') := by
  obtain ⟨M, v, ms, h, hF⟩ := h
  have hM := wmade_yes h.obj
  have hG := wgoOn_any h now
  have hTb := timeZ_bd (now := now) h.tm
  have hla := h.la
  have hfw := h.few
  have HL := hid h.len
  have HF0 := hid hF
  obtain ⟨T', HT⟩ : ∃ T', Hid (timeZ T now = T') := ⟨_, rfl⟩
  rw [HT.out] at hG hTb ⊢
  obtain ⟨n, Hn⟩ : ∃ n, Hid (L.length = n) := ⟨_, rfl⟩
  have HLn : Hid (∀ (w : World), WlI w B T' last L M v ms → ∀ ty, (Builtin.len_ #[57] ty #[.map (some M)]).run Try.prog w = .ok (.int .i64 n) w) := fun w h ty => by rw [← Hn.out, ← HL.out]; exact h.map.len ty
  have HE : Hid (∀ w1, WlI w1 B T' last L M v ms ∧ Fb (at1 B) W w1 ∧ w1.heap.size = W.heap.size → WlO WlAt W B F T' last L w1) := fun w1 h => wlo_time HF0.out h.1 h.2.1
  clear h hF
  by_cases hA : after < 0 ∨ 1099511627776 < after
  · have hC := setC_arg (last := last) (L := L) hA
    have hSL : setL T' last after kind label L = L := by unfold setL; rw [hC]; rfl
    rw [hSL, hC]
    simp only [show ((1 : Int) = 0) = False by simp, if_false]
    clear hC hSL HLn HL HF0 hla hfw
    by_cases h0 : after < 0
    · clear hA
      go_enter Try.func15, Try.ntmps15
      go_wp2_with fail
      with_reducible refine hM.mono ?_
      rintro e w1 ⟨rfl, hw⟩
      subst w1
      go_wp2_with fail
      with_reducible refine hG.mono ?_
      rintro e w1 ⟨rfl, H1⟩
      have HX := hid (HE.out _ H1.out)
      clear hG hM HE H1
      go_wp2_with fail
      go_ret2
      exact ⟨rfl, HX.out⟩
    · have h1 : 1099511627776 < after := by omega
      clear hA
      go_enter Try.func15, Try.ntmps15
      go_wp2_with fail
      with_reducible refine hM.mono ?_
      rintro e w1 ⟨rfl, hw⟩
      subst w1
      go_wp2_with fail
      with_reducible refine hG.mono ?_
      rintro e w1 ⟨rfl, H1⟩
      have HX := hid (HE.out _ H1.out)
      clear hG hM HE H1
      go_wp2_with fail
      go_ret2
      exact ⟨rfl, HX.out⟩
  · have h0 : ¬ after < 0 := by omega
    have h1 : ¬ 1099511627776 < after := by omega
    by_cases hMn : 4096 ≤ L.length ∨ 2147483647 ≤ last
    · have hC := setC_many hA hMn
      have hSL : setL T' last after kind label L = L := by unfold setL; rw [hC]; rfl
      rw [hSL, hC]
      simp only [show ((5 : Int) = 0) = False by simp, if_false]
      rw [Hn.out] at hMn
      clear hC hSL HL HF0 hfw hA
      by_cases hm : 4096 ≤ n
      · have g1 : (4096 : Int) ≤ (n : Int) := by omega
        clear hMn
        go_enter Try.func15, Try.ntmps15
        go_wp2_with fail
        with_reducible refine hM.mono ?_
        rintro e w1 ⟨rfl, hw⟩
        subst w1
        go_wp2_with fail
        with_reducible refine hG.mono ?_
        rintro e w1 ⟨rfl, H1⟩
        have HX := hid (HE.out _ H1.out)
        have hlen := HLn.out _ H1.out.1
        have c1 := H1.out.1.obj.cells.2.1
        have c3 := H1.out.1.obj.cells.2.2.2
        clear hG hM HE H1 HLn
        go_wp2_with fail
        go_ret2
        exact ⟨rfl, HX.out⟩
      · have g1 : ¬ (4096 : Int) ≤ (n : Int) := by omega
        have g2 : 2147483647 ≤ last := by omega
        clear hMn
        go_enter Try.func15, Try.ntmps15
        go_wp2_with fail
        with_reducible refine hM.mono ?_
        rintro e w1 ⟨rfl, hw⟩
        subst w1
        go_wp2_with fail
        with_reducible refine hG.mono ?_
        rintro e w1 ⟨rfl, H1⟩
        have HX := hid (HE.out _ H1.out)
        have hlen := HLn.out _ H1.out.1
        have c1 := H1.out.1.obj.cells.2.1
        have c3 := H1.out.1.obj.cells.2.2.2
        clear hG hM HE H1 HLn
        go_wp2_with fail
        go_ret2
        exact ⟨rfl, HX.out⟩
    · have hC := setC_ok hA hMn
      obtain ⟨du, Hdu⟩ : ∃ du, Hid (min (T' + after) 1099511627776 = du) := ⟨_, rfl⟩
      have hSL : setL T' last after kind label L = insT ⟨last + 1, kind, label, du⟩ L := by unfold setL newT; rw [hC, if_pos rfl, Hdu.out]
      rw [hSL, hC]
      simp only [if_true]
      have g1 : ¬ (4096 : Int) ≤ (n : Int) := by have := Hn.out; omega
      have g2 : ¬ 2147483647 ≤ last := by omega
      have hm1 : min (T' + after) 1099511627776 = du := Hdu.out
      have hdu0 : 0 ≤ du ∧ du ≤ 1099511627776 := by rw [← hm1]; omega
      have hm2 : (if T' + after ≤ 1099511627776 then T' + after else 1099511627776) = du := by rw [← hm1]; split <;> omega
      have hm3 : (if 1099511627776 < T' + after then 1099511627776 else T' + after) = du := by rw [← hm1]; split <;> omega
      have hm4 : (if T' + after < 1099511627776 then T' + after else 1099511627776) = du := by rw [← hm1]; split <;> omega
      have hwp : IntKind.i64.wrap (T' + after) = T' + after := by rw [IntKind.wrap_i64]; omega
      have hwl : IntKind.i64.wrap (last + 1) = last + 1 := by rw [IntKind.wrap_i64]; omega
      have HFw : Hid (L.length < 4096) := by unfold Hid; omega
      have hlI : isI (last + 1) := ⟨by omega, by omega⟩
      have HA : Hid (∀ w1 w2 W', WlI w1 B T' last L M v ms ∧ Fb (at1 B) W w1 ∧ w1.heap.size = W.heap.size → w2 = w1.setCell ⟨B, 1, none⟩ (.int .i64 (last + 1)) → Below w2.heap.size w2 W' →
          Calls Try.prog 27 #[.pointer (some ⟨B, 0, none⟩), .agg #[.int .i64 (last + 1), .int .i64 kind, .int .u64 label, .int .i64 du]] W' fun e w' => e = .returned (.tuple #[]) ∧ Hid (WlO WlAt W B F T' (last + 1) (insT ⟨last + 1, kind, label, du⟩ L) w' ∧ w'.cell? ⟨B, 0, none⟩ = some (.int .i64 T') ∧ w'.cell? ⟨B, 1, none⟩ = some (.int .i64 (last + 1)))) := fun w1 w2 W' ⟨h1, hf1, hs1⟩ e2 hb => by
        have hf2 : Fb (at1 B) w1 w2 := by rw [e2]; exact Fb.set (F := at1 B) (p := ⟨B, 1, none⟩) rfl _
        have hB2 : WB w2 B T' (last + 1) v M := by rw [e2]; exact h1.obj.num _
        have hm2 : MqAt w2 M ms := h1.map.fb hf2 fun e => h1.BM (show M = B from e).symm
        have hv2 : QvAt v ms w2 := h1.que.fb hf2 fun k hk e => h1.que.nB h1.obj ((show k = B from e) ▸ hk)
        have hnm : ∀ q ∈ ms, q.tm.num ≠ (⟨last + 1, kind, label, du⟩ : Tm).num := fun q hq e => by
          have := (h1.nm q.tm (h1.pm.mem_iff.1 (List.mem_map.2 ⟨q, hq, rfl⟩))).2
          have e' : q.tm.num = last + 1 := e
          omega
        refine (wadd_any (show WB W' B T' (last + 1) v M from block_bel hB2 hb) (hm2.below hb) (hv2.below hb) h1.hp (by rw [h1.len]; exact h1.few) ⟨last + 1, kind, label, du⟩ hnm hlI).mono fun e w' ⟨he, H⟩ => ⟨he, ?_⟩
        obtain ⟨v', ns, k1, k2⟩ := h1.added H.out rfl (by omega) HFw.out
        obtain ⟨g, cap, ns', b, _, _, _, _, _, a6, _⟩ := H.out
        have hsz : W.heap.size ≤ W'.heap.size := by have := hf2.size; have := hb.size; omega
        refine ⟨⟨wlF B M v' ns, ⟨M, v', ns, k1, fun _ => Iff.rfl⟩, ?_, fun k hk => ?_⟩, k1.obj.cells.1, k1.obj.cells.2.1⟩
        · refine ((hf1.trans hf2 fun x hx => .inl hx).below hb).mono (G := F) (fun x e => (HF0.out x).2 (.inl e)) |>.trans a6 fun x hx => .inl ((HF0.out x).2 hx)
        · rcases k2 k hk with e | e
          · exact .inl ((HF0.out k).2 e)
          · exact .inr (Nat.le_trans hsz e)
      clear hC hSL HL HF0 hfw hA hMn HE hlI HFw Hdu
      go_enter Try.func15, Try.ntmps15
      go_wp2_with fail
      with_reducible refine hM.mono ?_
      rintro e w1 ⟨rfl, hw⟩
      subst w1
      go_wp2_with fail
      with_reducible refine hG.mono ?_
      rintro e w1 ⟨rfl, H1⟩
      have hlen := HLn.out _ H1.out.1
      have c1 := H1.out.1.obj.cells.2.1
      have c3 := H1.out.1.obj.cells.2.2.2
      have f1 := H1.out.1.obj.frozen 1
      obtain ⟨w2, hw2⟩ : ∃ w2, w2 = w1.setCell ⟨B, 1, none⟩ (.int .i64 (last + 1)) := ⟨_, rfl⟩
      have HAd := hid fun W' hb => HA.out w1 w2 W' H1.out hw2 hb
      have HB2 : Hid (WB w2 B T' (last + 1) v M) := by rw [hw2]; exact H1.out.1.obj.num _
      have HK : Hid (∀ W', Below w2.heap.size w2 W' → W'.cell? ⟨B, 0, none⟩ = some (.int .i64 T') ∧ W'.cell? ⟨B, 1, none⟩ = some (.int .i64 (last + 1))) := fun W' hb => by
        have h2 : WB W' B T' (last + 1) v M := block_bel HB2.out hb
        exact ⟨h2.cells.1, h2.cells.2.1⟩
      clear hG hM H1 HLn HA HB2
      go_wp2_with fail
      rw [← hw2]
      clear hw2 c1 c3 f1 hlen
      have HV : Hid (Below w2.heap.size w2 w2.drew) := (Below.refl _ _).drew
      go_region_held3 (fun W : World => W.cell? ⟨B, 0, none⟩ = some (.int .i64 T') ∧ W.cell? ⟨B, 1, none⟩ = some (.int .i64 (last + 1))) (first | (with_reducible exact HK.out _ HV.out) | (exact H4.out.2))
        (first
          | (go_at_call 27; (with_reducible refine (HAd.out _ HV.out).mono ?_); rintro e w4 ⟨rfl, H4⟩)
          | fail)
      have c1 := H4.out.2.2
      go_wp2_with fail
      go_ret2
      exact ⟨rfl, H4.out.1⟩
end Go.Proofs.Ytdfbnfgemjljgaa
