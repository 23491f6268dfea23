/-
  MemberPlays: both lists side by side, and a step's block.
-/
import Derived.Test.YtlhhkgjolilpiaaMbNo
import Derived.Test.YtlhhkgjolilpiaaMbSame
namespace Go.Proofs.Ytlhhkgjolilpiaa
open Go.RowKit
set_option linter.unusedVariables false
set_option maxRecDepth 1000000

variable {w w0 W W' : World} {b d sb M : Nat} {f : Int → Nat} {v : Value} {S S' Q Q' : Ml} {x : Sp} {n t i wt z s : Int} {B : Nat}
/-- Their blocks are of other kinds. -/
theorem MlAt.apart (h : MlAt W b M f S) (k : RmAt B W d v Q) {j : Nat} (h1 : mF b M f S.L j) (h2 : rF d v j) : False := by
  have hk : ∃ cs, (W.heap[j]? = some (.cells cs 28 (0, 0)) ∨ W.heap[j]? = some (.cells cs 67 (0, 0))) := by
    rcases h2 with rfl | h2
    · exact ⟨_, .inl k.box⟩
    · rcases id k.row.2 with ⟨hv, _⟩ | ⟨g, cap, cur, hv, _, hg, _⟩
      · rw [hv] at h2; cases h2
      · rw [hv] at h2; cases h2; exact ⟨_, .inr hg⟩
  obtain ⟨cs, hk⟩ := hk
  rcases h1 with rfl | rfl | ⟨r, hr, rfl⟩
  · rw [h.box] at hk; simp at hk
  · obtain ⟨es, cl, hm⟩ := h.map.blk
    rw [hm] at hk
    rcases hk with hk | hk <;> cases hk
  · rw [h.rep r hr] at hk; simp at hk
/-- Both lists lie there, above w. -/
structure PlB (w : World) (b M : Nat) (f : Int → Nat) (d : Nat) (v : Value) (S Q : Ml) (W : World) : Prop where
  pr : MlAt W b M f S
  okp : MlOk S
  rf : RmAt w.heap.size W d v Q
  okr : MlOk Q
  bel : Below w.heap.size w W
  lo : ∀ k, mF b M f S.L k → w.heap.size ≤ k
/-- And a step's block. -/
def PX (w : World) (b d sb : Nat) (x : Sp) (S Q : Ml) (W : World) : Prop := ∃ M f v, PlB w b M f d v S Q W ∧ W.heap[sb]? = some (.cells (SpV x) 31 (0, 0))
def PB (w : World) (b d : Nat) (S Q : Ml) (W : World) : Prop := ∃ M f v, PlB w b M f d v S Q W
theorem PlB.below (h : PlB w b M f d v S Q W) (hb : Below W.heap.size W W') : PlB w b M f d v S Q W' := ⟨h.pr.below hb, h.okp, h.rf.below hb, h.okr, h.bel.trans (hb.mono h.bel.size), h.lo⟩
theorem PB.below (h : PB w b d S Q W) (hb : Below W.heap.size W W') : PB w b d S Q W' := by
  obtain ⟨M, f, v, h⟩ := h
  exact ⟨M, f, v, h.below hb⟩
theorem PB.bel (h : PB w b d S Q W) : Below w.heap.size w W := by obtain ⟨M, f, v, h⟩ := h; exact h.bel
theorem PB.now (h : PB w b d S Q W) : W.cell? ⟨d, 0, none⟩ = some (.int .i64 Q.now) := by obtain ⟨M, f, v, h⟩ := h; exact h.rf.cs.now
theorem PB.ok (h : PB w b d S Q W) : MlOk Q := by obtain ⟨M, f, v, h⟩ := h; exact h.okr
theorem PX.pb (h : PX w b d sb x S Q W) : PB w b d S Q W := by obtain ⟨M, f, v, h, _⟩ := h; exact ⟨M, f, v, h⟩
theorem PX.cs (h : PX w b d sb x S Q W) : SpCs W sb x := by obtain ⟨M, f, v, _, h⟩ := h; exact sp_cs h
theorem PX.drew (h : PX w b d sb x S Q W) : PX w b d sb x S Q W.drew := by
  obtain ⟨M, f, v, h1, h2⟩ := h
  exact ⟨M, f, v, h1.below (Below.refl _ _).drew, h2⟩
theorem PX.new (h : PB w b d S Q W) (x : Sp) (hW : W' = W.alloc (.cells (SpV x) 31)) : PX w b d W.heap.size x S Q W' := by
  subst hW
  obtain ⟨M, f, v, h⟩ := h
  exact ⟨M, f, v, h.below ((Below.refl _ _).alloc (Nat.le_refl _) _), heap_alloc_new W _⟩
/-- The program's list goes on. -/
theorem PX.p (h : PX w b d sb x S Q W) : ∃ M f, MlAt W b M f S ∧ MlOk S ∧ ∀ f' S' W', MlO W b M f S S' f' W' → MlOk S' → PX w b d sb x S' Q W' := by
  obtain ⟨M, f, v, h, hs⟩ := h
  refine ⟨M, f, h.pr, h.okp, fun f' S' W' H ok => ⟨M, f', v, ⟨H.at', ok, h.rf.fb H.fr fun k hk hm => h.pr.apart h.rf hm hk, h.okr, h.bel.trans (H.fr.to h.lo h.bel.size), fun k hk => (H.own k hk).elim (h.lo k) fun e => Nat.le_trans h.bel.size e⟩, H.fr.one hs fun hk => ?_⟩⟩
  rcases hk with rfl | rfl | ⟨r, hr, rfl⟩
  · rw [h.pr.box] at hs; simp at hs
  · obtain ⟨es, cl, hm⟩ := h.pr.map.blk
    rw [hm] at hs
    cases hs
  · rw [h.pr.rep r hr] at hs; simp at hs
/-- The document's list goes on. -/
theorem PX.r (h : PX w b d sb x S Q W) : ∃ v, RmAt w.heap.size W d v Q ∧ MlOk Q ∧ ∀ v' Q' W', RmO w.heap.size W d v Q' v' W' → MlOk Q' → PX w b d sb x S Q' W' := by
  obtain ⟨M, f, v, h, hs⟩ := h
  refine ⟨v, h.rf, h.okr, fun v' Q' W' H ok => ⟨M, f, v', ⟨h.pr.fb H.fr fun k hk hm => h.pr.apart h.rf hk hm, h.okp, H.at', ok, h.bel.trans (H.fr.to (fun k hk => (h.rf.lts hk).1) h.bel.size), h.lo⟩, H.fr.one hs fun hk => ?_⟩⟩
  rcases hk with rfl | hk
  · rw [h.rf.box] at hs; simp at hs
  · rcases id h.rf.row.2 with ⟨hv, _⟩ | ⟨g, cap, cur, hv, _, hg, _⟩
    · rw [hv] at hk; cases hk
    · rw [hv] at hk; cases hk; rw [hg] at hs; simp at hs
theorem PX.add1 (h : PX w b d sb x S Q W) (t : Int) : Calls Try.prog 8 #[.pointer (some ⟨b, 0, none⟩), .int .i64 t] W fun e w' => e = .returned (.tuple #[.int .u64 (S.tm t).addN, .int .i64 (S.tm t).addE]) ∧ Hid (PX w b d sb x (S.tm t).addS Q w') := by
  obtain ⟨M, f, h1, ok, hg⟩ := h.p
  exact (madd_any h1 ok t).mono fun e w' ⟨he, H⟩ => ⟨he, by obtain ⟨f', H⟩ := H.out; exact hg _ _ _ H (ok.tm t).addS⟩
theorem PX.up1 (h : PX w b d sb x S Q W) (t : Int) (hn : isU n) (hi : isU i) : Calls Try.prog 18 #[.pointer (some ⟨b, 0, none⟩), .int .i64 t, .int .u64 n, .int .u64 i] W fun e w' => e = .returned (.tuple #[.bool ((S.tm t).upB n i), .int .i64 ((S.tm t).upE n i)]) ∧ Hid (PX w b d sb x ((S.tm t).upS n i) Q w') := by
  obtain ⟨M, f, h1, ok, hg⟩ := h.p
  exact (mup_any h1 ok.ris t hn i).mono fun e w' ⟨he, H⟩ => ⟨he, hg _ _ _ H.out ((ok.tm t).upS n hi)⟩
theorem PX.lost1 (h : PX w b d sb x S Q W) (t : Int) (hn : isU n) : Calls Try.prog 10 #[.pointer (some ⟨b, 0, none⟩), .int .i64 t, .int .u64 n] W fun e w' => e = .returned (.int .i64 ((S.tm t).turnE n)) ∧ Hid (PX w b d sb x ((S.tm t).turnS n 4) Q w') := by
  obtain ⟨M, f, h1, ok, hg⟩ := h.p
  exact (mlost_any h1 ok.ris t hn).mono fun e w' ⟨he, H⟩ => ⟨he, hg _ _ _ H.out ((ok.tm t).turnS n (by decide))⟩
theorem PX.drain1 (h : PX w b d sb x S Q W) (t : Int) (hn : isU n) : Calls Try.prog 12 #[.pointer (some ⟨b, 0, none⟩), .int .i64 t, .int .u64 n] W fun e w' => e = .returned (.int .i64 ((S.tm t).turnE n)) ∧ Hid (PX w b d sb x ((S.tm t).turnS n 3) Q w') := by
  obtain ⟨M, f, h1, ok, hg⟩ := h.p
  exact (mdrain_any h1 ok.ris t hn).mono fun e w' ⟨he, H⟩ => ⟨he, hg _ _ _ H.out ((ok.tm t).turnS n (by decide))⟩
theorem PX.remove1 (h : PX w b d sb x S Q W) (t : Int) (hn : isU n) (wt : Int) : Calls Try.prog 14 #[.pointer (some ⟨b, 0, none⟩), .int .i64 t, .int .u64 n, .int .i64 wt] W fun e w' => e = .returned (.int .i64 ((S.tm t).rmE n wt)) ∧ Hid (PX w b d sb x ((S.tm t).rmS n wt) Q w') := by
  obtain ⟨M, f, h1, ok, hg⟩ := h.p
  exact (mremove_any h1 ok t hn wt).mono fun e w' ⟨he, H⟩ => ⟨he, hg _ _ _ H.out ((ok.tm t).rmS n wt)⟩
theorem PX.bind1 (h : PX w b d sb x S Q W) (hn : isU n) (z : Int) : Calls Try.prog 16 #[.pointer (some ⟨b, 0, none⟩), .int .u64 n, .int .i64 z] W fun e w' => e = .returned (.int .i64 (S.bindE n z)) ∧ Hid (PX w b d sb x (S.bindS n z) Q w') := by
  obtain ⟨M, f, h1, ok, hg⟩ := h.p
  exact (mbind_any h1 ok hn z).mono fun e w' ⟨he, H⟩ => ⟨he, hg _ _ _ H.out (ok.bindS n z)⟩
theorem PX.add2 (h : PX w b d sb x S Q W) (t : Int) : Calls Try.prog 9 #[.pointer (some ⟨d, 0, none⟩), .int .i64 t] W fun e w' => e = .returned (.tuple #[.int .u64 (Q.tm t).addN, .int .i64 (Q.tm t).addE]) ∧ Hid (PX w b d sb x S (Q.tm t).addS w') := by
  obtain ⟨v, h1, ok, hg⟩ := h.r
  exact (radd_any h1 ok t).mono fun e w' ⟨he, H⟩ => ⟨he, by obtain ⟨v', H⟩ := H.out; exact hg _ _ _ H (ok.tm t).addS⟩
theorem PX.up2 (h : PX w b d sb x S Q W) (t n : Int) (hi : isU i) : Calls Try.prog 19 #[.pointer (some ⟨d, 0, none⟩), .int .i64 t, .int .u64 n, .int .u64 i] W fun e w' => e = .returned (.tuple #[.bool ((Q.tm t).upB n i), .int .i64 ((Q.tm t).upE n i)]) ∧ Hid (PX w b d sb x S ((Q.tm t).upS n i) w') := by
  obtain ⟨v, h1, ok, hg⟩ := h.r
  exact (rup_any h1 ok t n i).mono fun e w' ⟨he, H⟩ => ⟨he, by obtain ⟨v', H⟩ := H.out; exact hg _ _ _ H ((ok.tm t).upS n hi)⟩
theorem PX.lost2 (h : PX w b d sb x S Q W) (t n : Int) : Calls Try.prog 11 #[.pointer (some ⟨d, 0, none⟩), .int .i64 t, .int .u64 n] W fun e w' => e = .returned (.int .i64 ((Q.tm t).turnE n)) ∧ Hid (PX w b d sb x S ((Q.tm t).turnS n 4) w') := by
  obtain ⟨v, h1, ok, hg⟩ := h.r
  exact (rlost_any h1 ok t n).mono fun e w' ⟨he, H⟩ => ⟨he, by obtain ⟨v', H⟩ := H.out; exact hg _ _ _ H ((ok.tm t).turnS n (by decide))⟩
theorem PX.drain2 (h : PX w b d sb x S Q W) (t n : Int) : Calls Try.prog 13 #[.pointer (some ⟨d, 0, none⟩), .int .i64 t, .int .u64 n] W fun e w' => e = .returned (.int .i64 ((Q.tm t).turnE n)) ∧ Hid (PX w b d sb x S ((Q.tm t).turnS n 3) w') := by
  obtain ⟨v, h1, ok, hg⟩ := h.r
  exact (rdrain_any h1 ok t n).mono fun e w' ⟨he, H⟩ => ⟨he, by obtain ⟨v', H⟩ := H.out; exact hg _ _ _ H ((ok.tm t).turnS n (by decide))⟩
theorem PX.remove2 (h : PX w b d sb x S Q W) (t n wt : Int) : Calls Try.prog 15 #[.pointer (some ⟨d, 0, none⟩), .int .i64 t, .int .u64 n, .int .i64 wt] W fun e w' => e = .returned (.int .i64 ((Q.tm t).rmE n wt)) ∧ Hid (PX w b d sb x S ((Q.tm t).rmS n wt) w') := by
  obtain ⟨v, h1, ok, hg⟩ := h.r
  exact (rremove_any h1 ok t n wt).mono fun e w' ⟨he, H⟩ => ⟨he, by obtain ⟨v', H⟩ := H.out; exact hg _ _ _ H ((ok.tm t).rmS n wt)⟩
theorem PX.bind2 (h : PX w b d sb x S Q W) (n z : Int) : Calls Try.prog 17 #[.pointer (some ⟨d, 0, none⟩), .int .u64 n, .int .i64 z] W fun e w' => e = .returned (.int .i64 (Q.bindE n z)) ∧ Hid (PX w b d sb x S (Q.bindS n z) w') := by
  obtain ⟨v, h1, ok, hg⟩ := h.r
  exact (rbind_any h1 ok n z).mono fun e w' ⟨he, H⟩ => ⟨he, by obtain ⟨v', H⟩ := H.out; exact hg _ _ _ H (ok.bindS n z)⟩
/-- What is looked at behind a step. -/
structure PlL (w : World) (b d : Nat) (S : Ml) (n : Nat) (av : Option Addr) (cv : Nat) (W0 : World) : Prop where
  all : ∀ W, Below W0.heap.size W0 W → Calls Try.prog 21 #[.pointer (some ⟨b, 0, none⟩)] W fun e w' => ∃ a cap, e = .returned (.slice a n cap) ∧ Hid (RwM 55 w' W.heap.size (.slice a n cap) S.L ∧ Below W.heap.size W w')
  same : ∀ W, Below W0.heap.size W0 W → ∀ (W1 : World) a cap, RwM 55 W W1.heap.size (.slice a n cap) S.L → Calls Try.prog 20 #[.slice a n cap, .slice av n cv] W fun e w' => e = .returned (.bool true) ∧ Hid (Below W.heap.size W w')
  live1 : ∀ W, Below W0.heap.size W0 W → Calls Try.prog 22 #[.pointer (some ⟨b, 0, none⟩)] W fun e w' => e = .returned (.int .i64 (liveL S.L)) ∧ Hid (Below W.heap.size W w')
  live2 : ∀ W, Below W0.heap.size W0 W → Calls Try.prog 23 #[.pointer (some ⟨d, 0, none⟩)] W fun e w' => e = .returned (.int .i64 (liveL S.L)) ∧ w' = W
  now : ∀ W, Below W0.heap.size W0 W → Calls Try.prog 24 #[.pointer (some ⟨b, 0, none⟩)] W fun e w' => e = .returned (.int .i64 S.now) ∧ w' = W
  cells : ∀ W, Below W0.heap.size W0 W → W.cell? ⟨d, 2, none⟩ = some (.slice av n cv) ∧ W.cell? ⟨d, 0, none⟩ = some (.int .i64 S.now)
  pb : ∀ W, Below W0.heap.size W0 W → PB w b d S S W
theorem PB.look (h : PB w b d S S W) : ∃ n av cv, PlL w b d S n av cv W := by
  obtain ⟨M, f, v, h⟩ := h
  obtain ⟨av, cv, rfl, rv, mv, nv⟩ := h.rf.row.isSl
  have hl := h.okp.len
  exact ⟨S.L.length, av, cv, fun W hb => mall_any (h.pr.below hb) h.okp, fun W hb W1 a cap hr => same24_yes rfl hr (h.rf.below hb).row (by omega), fun W hb => mlive_any (h.pr.below hb) h.okp, fun W hb => rlive_any (h.rf.below hb) hl, fun W hb => mnow_any (h.pr.below hb), fun W hb => ⟨(h.rf.below hb).cs.row, (h.rf.below hb).cs.now⟩, fun W hb => ⟨M, f, _, h.below hb⟩⟩
end Go.Proofs.Ytlhhkgjolilpiaa
