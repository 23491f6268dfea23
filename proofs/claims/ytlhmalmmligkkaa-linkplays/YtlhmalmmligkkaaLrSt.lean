/-
  The document's link in memory (LrAt): a struct in a block, its row, its messages; New, up, has, without.
-/
import Derived.Test.YtlhmalmmligkkaaLkDo3
namespace Go.Proofs.Ytlhmalmmligkkaa
open Go.RowKit
set_option linter.unusedVariables false
set_option maxRecDepth 1000000

/-- The cells of the document's link. -/
def LrC (room : Nat) (v : Value) (se ca dr tu : Int) : Array Value := #[.int .i64 room, v, .int .u32 se, .int .u32 ca, .int .u32 dr, .int .u32 tu]
structure LrAt (B : Nat) (w : World) (b : Nat) (v : Value) (us : List Value) (S : Lm) : Prop where
  hb : B ≤ b
  blk : w.heap[b]? = some (.cells (LrC S.room v S.se S.ca S.dr S.tu) 30 (0, 0))
  row : w.ownsRow B 36 1 v us.length us
  len : us.length = S.ms.length
  msg : ∀ (i : Nat) (u : Value) (zs : List Int), us[i]? = some u → S.ms[i]? = some zs → MsgAt B w u zs
  ok : LmOk S
variable {B b : Nat} {w w' : World} {v : Value} {us : List Value} {S : Lm}
theorem LrAt.get (h : LrAt B w b v us S) {i : Nat} (hi : i < S.ms.length) : ∃ u zs, us[i]? = some u ∧ S.ms[i]? = some zs ∧ MsgAt B w u zs := by
  have h1 : us[i]? = some (us[i]'(by rw [h.len]; exact hi)) := List.getElem?_eq_getElem _
  have h2 : S.ms[i]? = some S.ms[i] := List.getElem?_eq_getElem _
  exact ⟨_, _, h1, h2, h.msg _ _ _ h1 h2⟩
theorem LrAt.of (h : LrAt B w b v us S) {u : Value} (hu : u ∈ us) : ∃ zs, MsgAt B w u zs := by
  obtain ⟨i, hi, rfl⟩ := List.mem_iff_getElem.1 hu
  obtain ⟨u, zs, h1, h2, h3⟩ := h.get (i := i) (by rw [← h.len]; exact hi)
  rw [List.getElem?_eq_getElem hi] at h1
  cases h1
  exact ⟨zs, h3⟩
theorem LrAt.blt (h : LrAt B w b v us S) : b < w.heap.size := lt_of_block h.blk
theorem LrAt.vb (h : LrAt B w b v us S) {n : Nat} {x : Value} {xs : List Value} {B' : Nat} (hr : w.ownsRow B' 36 1 x n xs) : x.ownBlock ≠ some b := fun e => by
  obtain ⟨_, cur, hc⟩ := own_blkP hr e
  have := hc.symm.trans h.blk
  cases this
theorem LrAt.mb (h : LrAt B w b v us S) {zs : List Int} {u : Value} {B' : Nat} (hm : MsgAt B' w u zs) : u.ownBlock ≠ some b := fun e => by
  obtain ⟨_, cur, hc⟩ := own_blkP hm.own e
  have := hc.symm.trans h.blk
  cases this
theorem LrAt.ones (h : LrAt B w b v us S) : ∀ u ∈ us, u.oneCell' = true := fun u hu => by
  obtain ⟨zs, hm⟩ := h.of hu
  exact hm.one
theorem LrAt.lts (h : LrAt B w b v us S) {k : Nat} (hk : lkF b v us k) : B ≤ k ∧ k < w.heap.size := by
  rcases hk with (rfl | e) | ⟨u, hu, e⟩
  · exact ⟨h.hb, h.blt⟩
  · exact h.row.lt k e
  · obtain ⟨zs, hm⟩ := h.of hu
    exact hm.lt e
theorem LrAt.same (h : LrAt B w b v us S) (h1 : ∀ k, lkF b v us k → w'.heap[k]? = w.heap[k]?) : LrAt B w' b v us S :=
  ⟨h.hb, (h1 b (.inl (.inl rfl))).trans h.blk, own_blk h.row fun k hk => h1 k (.inl (.inr hk)), h.len, fun i u zs hu hz => (h.msg i u zs hu hz).same fun k hk => h1 k (.inr ⟨u, List.mem_of_getElem? hu, hk⟩), h.ok⟩
theorem LrAt.below (h : LrAt B w b v us S) (hb : Below w.heap.size w w') : LrAt B w' b v us S := h.same fun k hk => hb.block k (h.lts hk).2
/-- The cells of its block. -/
theorem LrAt.cells (h : LrAt B w b v us S) : w.cell? ⟨b, 0, none⟩ = some (.int .i64 S.room) ∧ w.cell? ⟨b, 1, none⟩ = some v ∧ w.cell? ⟨b, 2, none⟩ = some (.int .u32 S.se) ∧
    w.cell? ⟨b, 3, none⟩ = some (.int .u32 S.ca) ∧ w.cell? ⟨b, 4, none⟩ = some (.int .u32 S.dr) ∧ w.cell? ⟨b, 5, none⟩ = some (.int .u32 S.tu) := by
  have hc := h.blk
  refine ⟨?_, ?_, ?_, ?_, ?_, ?_⟩ <;> (rw [cell_of_row _ _ _ _ _ _ hc]; rfl)
theorem LrAt.frozen (h : LrAt B w b v us S) (k : Nat) : w.frozen? ⟨b, k, none⟩ = false := frozen_of_row _ _ k _ _ h.blk
/-- The numbers, the row and the messages are others: what it takes. -/
theorem LrAt.turn (h : LrAt B w b v us S) {v' : Value} {us' : List Value} {S' : Lm} (hb : w'.heap[b]? = some (.cells (LrC S'.room v' S'.se S'.ca S'.dr S'.tu) 30 (0, 0))) (hr : w'.ownsRow B 36 1 v' us'.length us') (hl : us'.length = S'.ms.length)
    (hm : ∀ (i : Nat) (u : Value) (zs : List Int), us'[i]? = some u → S'.ms[i]? = some zs → MsgAt B w' u zs) (ho : LmOk S') : LrAt B w' b v' us' S' := ⟨h.hb, hb, hr, hl, hm, ho⟩
/-- Only its own block has turned: the row and the messages stand. -/
theorem LrAt.stay (h : LrAt B w b v us S) (hf : Fb (at1 b) w w') : w'.ownsRow B 36 1 v us.length us ∧ ∀ (i : Nat) (u : Value) (zs : List Int), us[i]? = some u → S.ms[i]? = some zs → MsgAt B w' u zs :=
  ⟨own_blk h.row fun k hk => hf.block k (h.row.lt k hk).2 fun e => h.vb h.row (by rw [hk, show k = b from e]), fun i u zs hu hz => by
    have hm := h.msg i u zs hu hz
    exact hm.same fun k hk => hf.block k (hm.lt hk).2 fun e => h.mb hm (by rw [hk, show k = b from e])⟩
theorem LrAt.put (h : LrAt B w b v us S) {S' : Lm} (hb : w'.heap[b]? = some (.cells (LrC S'.room v S'.se S'.ca S'.dr S'.tu) 30 (0, 0))) (hf : Fb (at1 b) w w') (hm : S'.ms = S.ms) (ho : LmOk S') : LrAt B w' b v us S' :=
  h.turn hb (h.stay hf).1 (by rw [hm]; exact h.len) (fun i u zs hu hz => (h.stay hf).2 i u zs hu (by rw [← hm]; exact hz)) ho
theorem fb_one (W : World) (g i : Nat) (u : Value) : Fb (at1 g) W (W.setCell ⟨g, i, none⟩ u) := Fb.set (F := at1 g) (p := ⟨g, i, none⟩) rfl u
theorem LrAt.sent (h : LrAt B w b v us S) : LrAt B (w.setCell ⟨b, 2, none⟩ (.int .u32 (upZ S.se 1))) b v us S.sent :=
  h.put (row_set h.blk) (fb_one ..) rfl ⟨h.ok.r0, h.ok.r1, h.ok.ms, upZ_w h.ok.se (by decide), h.ok.ca, h.ok.dr, h.ok.tu⟩
theorem LrAt.came (h : LrAt B w b v us S) : LrAt B (w.setCell ⟨b, 3, none⟩ (.int .u32 (upZ S.ca 1))) b v us S.came :=
  h.put (row_set h.blk) (fb_one ..) rfl ⟨h.ok.r0, h.ok.r1, h.ok.ms, h.ok.se, upZ_w h.ok.ca (by decide), h.ok.dr, h.ok.tu⟩
theorem LrAt.lost (h : LrAt B w b v us S) : LrAt B (w.setCell ⟨b, 4, none⟩ (.int .u32 (upZ S.dr 1))) b v us (S.lost 1) :=
  h.put (row_set h.blk) (fb_one ..) rfl ⟨h.ok.r0, h.ok.r1, h.ok.ms, h.ok.se, h.ok.ca, upZ_w h.ok.dr (by decide), h.ok.tu⟩
theorem LrAt.spun (h : LrAt B w b v us S) : LrAt B (w.setCell ⟨b, 5, none⟩ (.int .u32 (upZ S.tu 1))) b v us S.spun :=
  h.put (row_set h.blk) (fb_one ..) rfl ⟨h.ok.r0, h.ok.r1, h.ok.ms, h.ok.se, h.ok.ca, h.ok.dr, upZ_w h.ok.tu (by decide)⟩
/-- A new row, with messages that are known. -/
theorem LrAt.rowed (h : LrAt B w b v us S) {v' : Value} {us' : List Value} {ms' : List (List Int)} (hr : w.ownsRow B 36 1 v' us'.length us') (hl : us'.length = ms'.length) (hm : ∀ (i : Nat) (u : Value) (zs : List Int), us'[i]? = some u → ms'[i]? = some zs → MsgAt B w u zs) (hk : ms'.length ≤ S.room) :
    LrAt B (w.setCell ⟨b, 1, none⟩ v') b v' us' (S.put ms') :=
  h.turn (S' := S.put ms') (row_set h.blk) (own_blk hr fun k hk => Below.heap_setCell _ _ _ _ fun e => h.vb hr (by rw [hk, show k = b from e])) hl
    (fun i u zs hu hz => (hm i u zs hu hz).same fun k hk => Below.heap_setCell _ _ _ _ fun e => h.mb (hm i u zs hu hz) (by rw [hk, show k = b from e])) ⟨h.ok.r0, h.ok.r1, hk, h.ok.se, h.ok.ca, h.ok.dr, h.ok.tu⟩
theorem LrAt.vlen (h : LrAt B w b v us S) (ty : TypeId) (W : World) : (Builtin.len_ #[27] ty #[v]).run Try.prog W = .ok (.int .i64 S.ms.length) W := by
  rw [← h.len]
  rcases id h.row.2 with ⟨e, e0⟩ | ⟨g, cap, cur, e, _⟩
  · rw [e, e0]; exact len_r ..
  · rw [e]; exact len_r ..
theorem LrAt.form (h : LrAt B w b v us S) (h0 : 0 < S.ms.length) : ∃ g cap, v = .slice (some ⟨g, 0, none⟩) S.ms.length cap ∧ S.ms.length ≤ cap ∧ cap ≤ 9223372036854775807 := by
  rcases id h.row.2 with ⟨e, e0⟩ | ⟨g, cap, cur, e, _, _, h1, h2, _⟩
  · rw [h.len] at e0; omega
  · rw [h.len] at e h1; exact ⟨g, cap, e, h1, by unfold maxLen at h2; omega⟩
theorem LrAt.at (h : LrAt B w b v us S) {g cap : Nat} (e : v = .slice (some ⟨g, 0, none⟩) S.ms.length cap) {i : Nat} {u : Value} (hu : us[i]? = some u) : w.cell? ⟨g, i, none⟩ = some u := by
  have hr := h.row
  rw [e, h.len] at hr
  rw [hr.cellAt i (by rw [Nat.mul_one, ← h.len]; exact (List.getElem?_eq_some_iff.1 hu).1), hu]
/-- The document's link goes on. -/
def GoesR (B : Nat) (w : World) (b : Nat) (v : Value) (us : List Value) (S' : Lm) (w' : World) : Prop :=
  ∃ v' us', LrAt B w' b v' us' S' ∧ Fb (at1 b) w w' ∧ ∀ k, lkF b v' us' k → lkF b v us k ∨ w.heap.size ≤ k
theorem rup_any (n : Int) (w : World) (hn : isW n) : Calls Try.prog 33 #[.int .u32 n] w fun e w' => e = .returned (.int .u32 (upZ n 1)) ∧ w' = w := by
  obtain ⟨n0, n1⟩ := hn
  by_cases h : n = 4294967295
  · have e : upZ n 1 = n := by unfold upZ; split <;> omega
    rw [e]
    subst h
    clear e n0 n1
    go_enter Try.func33, Try.ntmps33
    go_wp2
    go_ret
    exact ⟨rfl, rfl⟩
  · have e : upZ n 1 = n + 1 := by unfold upZ; rw [if_pos (by omega)]
    rw [e]
    go_enter Try.func33, Try.ntmps33
    go_wp2
    go_ret
    exact ⟨rfl, rfl⟩
theorem rhas_any (h : LrAt B w b v us S) (i : Int) : Calls Try.prog 31 #[.pointer (some ⟨b, 0, none⟩), .int .i64 i] w fun e w' => e = .returned (.bool (decide (0 ≤ i ∧ i < S.ms.length))) ∧ w' = w := by
  have c1 := h.cells.2.1
  have hlen := h.vlen
  by_cases h0 : 0 ≤ i
  · rw [show decide (0 ≤ i ∧ i < (S.ms.length : Int)) = decide (i < (S.ms.length : Int)) by simp [h0]]
    clear h
    go_enter Try.func31, Try.ntmps31
    go_wp2
    go_ret
    exact ⟨rfl, rfl⟩
  · rw [decide_eq_false (show ¬ (0 ≤ i ∧ i < (S.ms.length : Int)) from fun e => h0 e.1)]
    have h0' : i < 0 := by omega
    clear h h0
    go_enter Try.func31, Try.ntmps31
    go_wp2
    go_ret
    exact ⟨rfl, rfl⟩
/-- An append to a row of messages, as an equation. -/
theorem run_rapp (w : World) {B : Nat} (hB : B ≤ w.heap.size) (v : Value) (xs : List Value) (hown : w.ownsRow B 36 1 v xs.length xs) (ao : Option Addr) (m c : Nat) (news : List Value) (hn : news.length = m) (h0 : ao = none → m = 0 ∧ c = 0)
    (hr : ∀ ad, ao = some ad → ∀ j u, news[j]? = some u → w.cell? (ad.add j) = some u) (h1 : ∀ u ∈ news, u.oneCell' = true) (hb : xs.length + m ≤ 1000) (ty : TypeId) :
    ∃ v' w', (Builtin.append_ #[27, 27] ty #[v, .slice ao m c]).run Try.prog w = .ok v' w' ∧ w'.ownsRow B 36 1 v' (xs ++ news).length (xs ++ news) ∧ w.grownBy w' v.ownBlock ∧ (v'.ownBlock = v.ownBlock ∨ v'.ownBlock = some w.heap.size) := by
  obtain ⟨i0, hi, hz0, hz1, hz2⟩ := info_parts Try.info36
  have hln : (xs ++ news).length = xs.length + m := by rw [List.length_append, hn]
  rw [hln]
  cases ao with
  | none =>
    obtain ⟨rfl, rfl⟩ := h0 rfl
    have hn : news = [] := List.eq_nil_of_length_eq_zero hn
    subst hn
    exact ⟨v, w, run_append_owned_none (P := Try.prog) w B 27 ty 36 i0 1 Try.underlying27 hi v _ _ hown, by simpa using hown, World.grownBy.refl _ _, .inl rfl⟩
  | some ad =>
    obtain ⟨v', w', h2, h3, h4, _, h5⟩ := run_append_own_at (P := Try.prog) w B 27 ty 36 i0 (.slice none 0 0) 1 24 Try.underlying27 hi hz0 hz1 hz2 rfl (by decide) v _ xs hown ad m c news (by rw [hn, Nat.mul_one]) (hr ad rfl) h1 (by unfold maxLen; omega) (by omega) hB
    exact ⟨v', w', h2, h3, h4, h5⟩
/-- What an append to a row in new memory leaves. -/
theorem grown_below {w w' : World} {v : Value} {n : Nat} {xs : List Value} (hB : B ≤ w.heap.size) (hown : w.ownsRow B 36 1 v n xs) (h : w.grownBy w' v.ownBlock) : Below B w w' := (Below.refl B w).grown h hB fun k hk => (hown.lt k hk).1
end Go.Proofs.Ytlhmalmmligkkaa
