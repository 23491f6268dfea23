/-
  slices.AppendSeq, Collect over those: a new row of the marks of a kind.
-/
import Derived.Test.YtdchoegaindnbaaPtUse2
import Derived.Sort.KeysCollected
namespace Go.Proofs.Ytdchoegaindnbaa
open Go.RowKit Go.Maps Go.Shelf
set_option linter.unusedVariables false
set_option maxRecDepth 1000000

set_option maxHeartbeats 4000000 in
theorem aseq (Bt Bi B room size M : Nat) (time : Int) (fi : Nat) (caps : Array Value) (p : Mk → Bool) (L : List Mk) (w : World) (hL : L.length ≤ 5000)
    (hent : ∀ args w, (callFunc fi args).run Try.prog w = .ok (.enter fi args) w)
    (hbt : w.cell? ⟨Bt, 0, none⟩ = some (.pointer (some ⟨B, 0, none⟩))) (hbi : w.cell? ⟨Bi, 0, none⟩ = some (.func (.func fi) #[] caps))
    (his : ∀ W, Below w.heap.size w W → ∀ m ∈ L, Calls Try.prog fi (#[.pointer (some ⟨m.blk, 0, none⟩)] ++ caps) W fun e w' => e = .returned (.bool (p m)) ∧ ∃ q, w' = W.drewN q)
    (hT : TrB w B room size M time) (hP : PmAt w M L) :
    Calls Try.prog 53 #[.slice none 0 0, .func (.func 40) #[] #[.pointer (some ⟨Bt, 0, none⟩), .pointer (some ⟨Bi, 0, none⟩)]] w fun e W' => ∃ v : Value, e = .returned v ∧ Hid (∃ ss : List Mk, ss.Perm (L.filter p) ∧ W'.ownsRow w.heap.size 57 1 v ss.length (ss.map ptV) ∧ (v = .slice none 0 0 ↔ ss = []) ∧ Below w.heap.size w W') := by
  have hml : (100000 : Nat) ≤ maxLen := by decide
  obtain ⟨i0, hi, hz0, hz1, hz2⟩ := Go.info_parts Try.infoP
  refine (callsIn_wide (n := 4)).1 ?_
  refine callsIn_of_wp_marks Try.func53 rfl trivial ?_ rfl
  simp only [Try.ntmps53, List.size_toArray, List.length_cons, List.length_nil, Nat.reduceAdd, Nat.reduceSub, Array.replicate_succ, Array.replicate_zero, List.push_toArray, List.append_toArray, List.nil_append, List.cons_append]
  gi_wp2
  have bO := Boxed.new w 68 (.slice none 0 0)
  have hB0 : Below w.heap.size w (w.alloc (.cells #[.slice none 0 0] 68)) := (Below.refl _ w).alloc (Nat.le_refl _) _
  have hsz : (w.alloc (.cells #[.slice none 0 0] 68)).heap.size = w.heap.size + 1 := by simp
  refine rfX (M := M) rfl (by omega) (gf := 40) (lb := #[.pointer (some ⟨Bt, 0, none⟩), .pointer (some ⟨Bi, 0, none⟩)]) rfl trivial (enters_of Try.func40 (by kernel_rfl) rfl) rfl
    (fun pre W => ((∃ v, Boxed W w.heap.size 68 v ∧ W.ownsRow w.heap.size 57 1 v pre.length (pre.map ptV) ∧ (v = .slice none 0 0 ↔ pre = [])) ∧ Below w.heap.size w W) ∧ pre.Nodup ∧ ∀ m ∈ pre, m ∈ L)
    (OwnFrom.and (OwnFrom.and (Own.from (holdsRow_own w.heap.size w.heap.size 68 57 1 (fun pre => pre.length) (fun pre => pre.map ptV) (fun pre v => v = .slice none 0 0 ↔ pre = [])) _) (ownFrom_below (Nat.le_refl _) (by simp))) (ownFrom_pure _ _))
    ⟨⟨⟨_, bO, World.ownsRow_nil _ _ _ _, by simp⟩, hB0⟩, by simp⟩
    (fun xs => xs.Perm (L.filter p)) (fun pre x => x ∈ L ∧ p x = true ∧ x ∉ pre) ?seq
    (fun x => { tmps := #[.slice none 0 0, .func (.func 40) #[] #[.pointer (some ⟨Bt, 0, none⟩), .pointer (some ⟨Bi, 0, none⟩)], .pointer (some ⟨w.heap.size, 0, none⟩), undef, .slice none 0 0, .pointer (some ⟨x.blk, 0, none⟩), .func (.func 40) #[] #[.pointer (some ⟨Bt, 0, none⟩), .pointer (some ⟨Bi, 0, none⟩)], .pointer (some ⟨x.blk, 0, none⟩), undef, undef, undef, undef, undef], defers := [] }) ?assign ?body ?done
  case seq =>
    intro l J W hb hJ hJI hY hJ0
    have hbw : Below w.heap.size w W := hB0.trans (hb.mono (by simp))
    have hcl : ∀ (q : Addr) (v : Value), w.cell? q = some v → ∀ W', Below w.heap.size w W' → W'.cell? q = some v := fun q v hv W' hW' => (hW'.cell (World.block_lt_of_cell? _ _ hv)).trans hv
    exact those1 (4 - 1) l Bt Bi B room size M time fi caps p L J (by omega) hent (fun pre W' h' => hcl _ _ hbi W' (hJI pre W' h').1.2) (fun pre W' h' m hm _ => his W' (hJI pre W' h').1.2 m hm) hY W hJ (hcl _ _ hbt W hbw) (hT.below hbw) (hP.below hbw) hJ0
  case assign =>
    intro l x W K hK
    gi_wp2_with (rw [Oper.semAt_eq _ _ _ (fun c h => by cases h)]; go_simp; try go_bits)
    exact hK
  case body =>
    rintro l pre x W ⟨⟨⟨v, hv, hrow, hnil⟩, hB⟩, hnd, hsub⟩ ⟨hxL, hpx, hnew⟩
    have hlt := hnd.length_le_of_subset hsub
    have hc := hv.cell
    gi_wp2_with (first | (gi_at_builtin; refine wpListIn_append_own _ rfl _ _ 68 rfl w.heap.size 57 i0 (.pointer none) 1 8 Try.underlying68 hi hz0 hz1 hz2 rfl (by decide) _ _ _ rfl (hrow.alloc _) ⟨W.heap.size, 0, none⟩ 1 1 [.pointer (some ⟨x.blk, 0, none⟩)] rfl rfl (cell_one_new _ _ _) (by simp [Value.oneCell']) (by omega) (by omega) (by have := hB.size; simp; omega) ?_; intro v' w1 hown' hgrow _; obtain ⟨g', cap', rfl⟩ := ownsRow_succ hown'; obtain ⟨hv1, hv2, hr2, hk2, hb2⟩ := hv.appended (by decide) hrow hB.size (Nat.le_refl _) hown' hgrow; have hc1 := hv1.cell; have hf1 := hv1.frozen) | (rw [Oper.semAt_eq _ _ _ (fun c h => by cases h)]; go_simp; try go_bits))
    refine ⟨hk2.from _, Kx.isMap fun ⟨es, clock, hM⟩ => Kx.keep ((hk2.same _ _ hM rfl).trans hM.symm) fun k o hk hw _ a b c d e => ?_, ⟨⟨_, hv2, by simpa [ptV] using hr2, by simp⟩, hB.trans hb2⟩, List.nodup_append.2 ⟨hnd, by simp, fun a ha b hb e => by simp at hb; subst hb; exact hnew (e ▸ ha)⟩, fun m hm => ?_⟩
    · subst e
      exact (hk2.same _ _ hk rfl).trans hk.symm
    · rcases List.mem_append.1 hm with h' | h'
      · exact hsub m h'
      · simp at h'; exact h' ▸ hxL
  case done =>
    rintro D ys W hD hperm ⟨⟨⟨v, hv, hrow, hnil⟩, hB⟩, _⟩ hK
    have hc := hv.cell
    gi_wp2
    refine ⟨by simp, .inl ⟨_, _, rfl, run_takeDeferred hK, ?_⟩⟩
    exact ⟨_, results_tmp rfl _ _ _, v, rfl, ys, hperm, ownsRow_putObj hrow _ hK rfl, hnil, hB.trans (belowK_b (w := w) (Nat.le_refl _) W D _ _ (by simp at hD; omega) hK rfl rfl)⟩
end Go.Proofs.Ytdchoegaindnbaa
