/-
  lift, Drop.
-/
import Derived.Test.YtaiojhigomdocaaRnDel2
namespace Go.Proofs.Ytaiojhigomdocaa
open Go.RowKit Go.Maps Go.Shelf Go.Sort
set_option linter.unusedVariables false
set_option maxRecDepth 1000000

set_option maxHeartbeats 2000000 in
theorem lift_any {W : World} {B : Nat} {s : Int} {e M : Nat} {v : Value} {P : List (Int × Int)} (h1 : RnB W B s e M v) (h2 : PtAt 0 W v P) (hne : P ≠ []) (hn : P.length ≤ 5000) (x : Int) :
    Calls Try.prog 26 #[.pointer (some ⟨B, 0, none⟩), .int .u64 x] W fun r w' => r = .returned (.tuple #[]) ∧ Hid (∃ v', LyI W B s e M v (keepP x P) v' w') := by
  obtain ⟨g, cap, n, hv, hnn⟩ : ∃ g cap n, v = .slice (some ⟨g, 0, none⟩) n cap ∧ P.length = n := by
    rcases id h2.2 with ⟨hv, h0⟩ | ⟨g', cap', cur, hv, _⟩
    · exact absurd (List.eq_nil_of_length_eq_zero h0) hne
    · exact ⟨g', cap', P.length, hv, rfl⟩
  subst hv
  have hb : RowKit.Below W.heap.size W (W.alloc (.cells #[.int .u64 x] 22)) := (RowKit.Below.refl _ _).alloc (Nat.le_refl _) _
  obtain ⟨cur, hcg⟩ := h2.blk (b := g) rfl
  have hgl := lt_of_block hcg
  have h2b : PtAt 0 (W.alloc (.cells #[.int .u64 x] 22)) (.slice (some ⟨g, 0, none⟩) n cap) P := h2.same fun b hb3 => by
    obtain ⟨cur, hc⟩ := h2.blk hb3
    exact hb.block b (lt_of_block hc)
  have h1b := h1.below hb
  have c3 := h1b.cells.2.2.2
  have hx : (W.alloc (.cells #[.int .u64 x] 22)).cell? ⟨W.heap.size, 0, none⟩ = some (.int .u64 x) := by rw [cell_of_row _ _ _ _ _ _ (heap_alloc_new W _)]; rfl
  have hD := udelf h2b hnn (by omega) hx (Nat.ne_of_gt hgl)
  have hgB : g ≠ B := h1b.far h2b rfl
  have HF : Hid (∀ (w' : World) (m : Nat), PtAt 0 w' (.slice (some ⟨g, 0, none⟩) m cap) (keepP x P) ∧ Fb (at1 g) (W.alloc (.cells #[.int .u64 x] 22)) w' → LyI W B s e M (.slice (some ⟨g, 0, none⟩) n cap) (keepP x P) (.slice (some ⟨g, 0, none⟩) m cap) (w'.setCell ⟨B, 3, none⟩ (.slice (some ⟨g, 0, none⟩) m cap)) ∧ RnB w' B s e M (.slice (some ⟨g, 0, none⟩) n cap)) := by
    rintro w' m ⟨k1, k2⟩
    have hB : RnB w' B s e M (.slice (some ⟨g, 0, none⟩) n cap) := h1b.same (k2.block B h1b.lt fun e => hgB e.symm)
    refine ⟨⟨hB.set _, k1.same fun b hb2 => Below.heap_setCell _ _ _ _ ?_, ((Fb.of (F := lyF B (.slice (some ⟨g, 0, none⟩) n cap)) hb).trans k2 fun k hk => .inl (.inr (by rw [show k = g from hk]; rfl))).trans (Fb.set (F := lyF B (.slice (some ⟨g, 0, none⟩) n cap)) (.inl rfl) _) fun k hk => .inl hk, fun k hk => .inl ?_⟩, hB⟩
    · obtain rfl : g = b := by simpa [Value.ownBlock] using hb2
      exact hgB
    · simpa [Value.ownBlock] using hk
  clear h1 h2 hb hcg h2b h1b hx hnn
  go_enter Try.func26, Try.ntmps26
  go_wp2_with fail
  refine hD.mono ?_
  rintro r w1 ⟨m, rfl, H1⟩
  have H2 := hid (HF.out _ _ H1.out)
  have c4 := H2.out.2.cells.2.2.2
  have f4 := H2.out.2.frozen 3
  have HE := hid H2.out.1
  clear hD HF H1 H2
  go_wp2_with fail
  go_end0
  exact ⟨rfl, ⟨_, HE.out⟩⟩
theorem ptsOf_snd {s : Int} {e : Nat} {x : Int} {p : Int × Int} (h : p ∈ ptsOf s e x) : p.2 = x := by
  simp [ptsOf] at h
  obtain ⟨k, _, rfl⟩ := h
  rfl
theorem keep_other {s : Int} {e : Nat} {x y : Int} (h : y ≠ x) : keepP x (ptsOf s e y) = ptsOf s e y := by
  unfold keepP
  rw [List.filter_eq_self]
  intro p hp
  simp [ptsOf_snd hp, h]
theorem keep_own {s : Int} {e : Nat} {x : Int} : keepP x (ptsOf s e x) = [] := by
  unfold keepP
  rw [List.filter_eq_nil_iff]
  intro p hp
  simp [ptsOf_snd hp]
theorem keep_app (x : Int) (P Q : List (Int × Int)) : keepP x (P ++ Q) = keepP x P ++ keepP x Q := by simp [keepP]
theorem keep_flat {s : Int} {e : Nat} {x : Int} : ∀ {L : List Int}, x ∉ L → keepP x (L.flatMap (ptsOf s e)) = L.flatMap (ptsOf s e)
  | [], _ => rfl
  | y :: L, h => by
    rw [List.flatMap_cons, keep_app, keep_other (fun e => h (by simp [e])), keep_flat (fun hh => h (by simp [hh]))]
theorem keep_erase {s : Int} {e : Nat} {x : Int} : ∀ {L : List Int}, L.Nodup → keepP x (L.flatMap (ptsOf s e)) = (L.erase x).flatMap (ptsOf s e)
  | [], _ => rfl
  | y :: L, h => by
    have hn := List.nodup_cons.1 h
    by_cases e : y = x
    · subst e
      rw [List.flatMap_cons, keep_app, keep_own, keep_flat hn.1, List.erase_cons_head]
      rfl
    · rw [List.flatMap_cons, keep_app, keep_other e, keep_erase hn.2, List.erase_cons_tail (by simpa using e), List.flatMap_cons]
/-- Drop's answer, and the nodes behind it. -/
def rdrop (L : List Int) (x : Int) : Int × List Int := if x ∈ L then (0, L.erase x) else (6, L)
set_option maxHeartbeats 4000000 in
theorem drop_any {W : World} {B : Nat} {s : Int} {e M : Nat} {v : Value} {L : List Int} {P : List (Int × Int)} (h : RnAt W B s e M v L P) {x : Int} (hx : isU x) :
    Calls Try.prog 12 #[.pointer (some ⟨B, 0, none⟩), .int .u64 x] W fun r w' => r = .returned (.int .i64 (rdrop L x).1) ∧ Hid (RnO W B s e M v (rdrop L x).2 w') := by
  have hM := made_yes h.obj.cells.2.1 h.each.1
  have hH := has_any h.obj h.map hx
  obtain ⟨ZA, HZ⟩ : ∃ q, Hid (rdrop L x = q) := ⟨_, rfl⟩
  rw [HZ.out]
  by_cases hin : x ∈ L
  · obtain rfl : (0, L.erase x) = ZA := by rw [← HZ.out]; unfold rdrop; rw [if_pos hin]
    rw [decide_eq_true hin] at hH
    have HK := hid fun (w' : World) (hb : Below W.heap.size W w') => h.below hb
    have H := hid h
    clear h HZ
    go_enter Try.func12, Try.ntmps12
    go_wp2_with fail
    refine hM.mono ?_
    rintro r w1 ⟨rfl, rfl⟩
    go_wp2_with fail
    refine hH.mono ?_
    rintro r w2 ⟨rfl, HB⟩
    have h2 := HK.out _ HB.out
    have c2 := h2.obj.cells.2.2.1
    obtain ⟨w3, hst, hsm, hfb⟩ := h2.map.drop hx hin 0
    have hne : P ≠ [] := fun hp => by
      have := h2.plen
      rw [hp] at this
      have h4 := List.length_pos_of_mem hin
      have h5 := h2.each.1
      have := Nat.mul_pos h4 h5
      simp at *
      omega
    have HL := hid (lift_any (h2.obj.same (hfb.block B h2.obj.lt h2.mb)) (h2.row.same fun b hb => hfb.block b (h2.plt hb) fun e => h2.mp (by rw [hb, show b = M from e])) hne (by have := h2.pmax; omega) x)
    have HF : Hid (∀ w4, (∃ v', LyI w3 B s e M v (keepP x P) v' w4) → RnO w1 B s e M v (L.erase x) w4) := by
      rintro w4 ⟨v', k1, k2, k3, k4⟩
      have hb := HB.out
      have hnd : L.Nodup := by obtain ⟨D, _, _, _, q, _⟩ := h2.map; exact q
      refine ⟨v', keepP x P, ⟨k1, hsm.fb k3 fun hh => ?_, k2, h2.seed, h2.each, Nat.le_trans (List.length_erase_le) h2.len, ?_, h2.srt.filter _⟩, ?_, fun k hk => ?_⟩
      · rcases hh with hh | hh
        · exact h2.mb hh.symm
        · exact h2.mp hh
      · rw [← keep_erase hnd]
        exact h2.perm.filter _
      · refine ((Fb.of (F := rnF B M v) hb).trans hfb fun k hk => .inl (.inr (.inl hk))).trans k3 fun k hk => ?_
        rcases hk with hk | hk
        · exact .inl (.inl hk)
        · exact .inl (.inr (.inr hk))
      · rcases k4 k hk with h | h
        · exact .inl h
        · exact .inr (by have := hb.size; have := hfb.size; omega)
    clear h2 hsm hfb
    go_wp2_with fail
    refine HL.out.mono ?_
    rintro r w4 ⟨rfl, H4⟩
    have HE := hid (HF.out _ H4.out)
    clear HL HF H4
    go_wp2_with fail
    go_ret
    exact ⟨rfl, HE⟩
  · rw [decide_eq_false hin] at hH
    obtain rfl : (6, L) = ZA := by rw [← HZ.out]; unfold rdrop; rw [if_neg hin]
    have HS := hid fun (w' : World) (hb : Below W.heap.size W w') => h.stay hb
    clear h HZ
    go_enter Try.func12, Try.ntmps12
    go_wp2_with fail
    refine hM.mono ?_
    rintro r w1 ⟨rfl, rfl⟩
    go_wp2_with fail
    refine hH.mono ?_
    rintro r w2 ⟨rfl, HB⟩
    go_wp2_with fail
    go_ret
    exact ⟨rfl, HS.out _ HB.out⟩
end Go.Proofs.Ytaiojhigomdocaa
