/-
  A link: the document's words (Lm), and how it lies in memory (LkAt).
-/
import Derived.Test.YtlhmalmmligkkaaLkArgs
import Derived.Laws.OwnMore
import Derived.Maps.AppendAt
namespace Go.Proofs.Ytlhmalmmligkkaa
open Go.RowKit
set_option linter.unusedVariables false
set_option maxRecDepth 1000000

/-- A link, by the document's words: its room, the messages, its counters. -/
structure Lm where
  room : Nat
  ms : List (List Int)
  se : Int
  ca : Int
  dr : Int
  tu : Int
/-- A counter of so many more. -/
def upZ (n k : Int) : Int := if n + k ≤ 4294967295 then n + k else 4294967295
theorem upZ_w {n k : Int} (h : isW n) (hk : 0 ≤ k) : isW (upZ n k) := by unfold upZ isW at *; split <;> omega
theorem upZ_in {n k : Int} (h : n + k ≤ 4294967295) : upZ n k = n + k := by unfold upZ; rw [if_pos h]
/-- What is known of its numbers. -/
structure LmOk (S : Lm) : Prop where
  r0 : 1 ≤ S.room
  r1 : S.room ≤ 256
  ms : S.ms.length ≤ S.room
  se : isW S.se
  ca : isW S.ca
  dr : isW S.dr
  tu : isW S.tu
/-- A message in memory: bytes of its own. -/
structure MsgAt (B : Nat) (w : World) (u : Value) (zs : List Int) : Prop where
  own : w.ownsRow B 5 1 u zs.length (zs.map (Value.int .u8))
  bs : IsBytes zs
  len : zs.length ≤ 140737488351232
theorem MsgAt.same {B : Nat} {w w' : World} {u : Value} {zs : List Int} (h : MsgAt B w u zs) (hb : ∀ k, u.ownBlock = some k → w'.heap[k]? = w.heap[k]?) : MsgAt B w' u zs := ⟨own_blk h.own hb, h.bs, h.len⟩
theorem own_blkP {base : Nat} {e : TypeId} {n : Nat} {v : Value} {g : Nat} {xs : List Value} {W : World} (h : W.ownsRow base e 1 v n xs) (hg : v.ownBlock = some g) : base ≤ g ∧ ∃ cur, W.heap[g]? = some (.cells cur e (0, 0)) := by
  rcases id h.2 with ⟨h', _⟩ | ⟨g', c, cur, hv, hB, hc, rest⟩
  · rw [h'] at hg; cases hg
  · rw [hv] at hg
    cases hg
    exact ⟨hB, cur, hc⟩
theorem MsgAt.below {B : Nat} {w w' : World} {u : Value} {zs : List Int} (h : MsgAt B w u zs) (hb : Below w.heap.size w w') : MsgAt B w' u zs := h.same fun k hk => hb.block k (h.own.lt k hk).2
theorem MsgAt.lt {B : Nat} {w : World} {u : Value} {zs : List Int} (h : MsgAt B w u zs) {k : Nat} (hk : u.ownBlock = some k) : B ≤ k ∧ k < w.heap.size := h.own.lt k hk
theorem MsgAt.low {B B' : Nat} {w : World} {u : Value} {zs : List Int} (h : MsgAt B w u zs) (hb : B' ≤ B) : MsgAt B' w u zs := by
  obtain ⟨h1, h2, h3⟩ := h
  refine ⟨⟨h1.1, ?_⟩, h2, h3⟩
  rcases h1.2 with e | ⟨g, c, cur, e, h4, rest⟩
  · exact .inl e
  · exact .inr ⟨g, c, cur, e, Nat.le_trans hb h4, rest⟩
theorem MsgAt.reads {B : Nat} {w : World} {u : Value} {zs : List Int} (h : MsgAt B w u zs) : ∃ a c, u = .slice a zs.length c ∧ Reads .u8 w a zs.length c zs := Reads.own h.own
theorem MsgAt.one {B : Nat} {w : World} {u : Value} {zs : List Int} (h : MsgAt B w u zs) : u.oneCell' = true := by
  obtain ⟨a, c, rfl, _⟩ := h.reads
  rfl
/-- The cells of a link. -/
def LkC (room : Nat) (v : Value) (se ca dr tu : Int) : Array Value := #[.int .i64 room, v, .int .u32 se, .int .u32 4294967295, .int .u32 ca, .int .u32 4294967295, .int .u32 dr, .int .u32 4294967295, .int .u32 tu, .int .u32 4294967295]
/-- A link in memory: its block, the row of its messages, each with bytes of its own. -/
structure LkAt (B : Nat) (w : World) (b : Nat) (v : Value) (us : List Value) (S : Lm) : Prop where
  hb : B ≤ b
  blk : w.heap[b]? = some (.cells (LkC S.room v S.se S.ca S.dr S.tu) 60 (0, 0))
  row : w.ownsRow B 36 1 v us.length us
  len : us.length = S.ms.length
  msg : ∀ (i : Nat) (u : Value) (zs : List Int), us[i]? = some u → S.ms[i]? = some zs → MsgAt B w u zs
  nd : (us.filterMap Value.ownBlock).Nodup
  ok : LmOk S
/-- The blocks of its messages. -/
def msF (us : List Value) (k : Nat) : Prop := ∃ u ∈ us, u.ownBlock = some k
/-- The blocks that its calls write into. -/
def rwF (b : Nat) (v : Value) (k : Nat) : Prop := k = b ∨ v.ownBlock = some k
variable {B b : Nat} {w w' : World} {v : Value} {us : List Value} {S : Lm}
theorem LkAt.get (h : LkAt B w b v us S) {i : Nat} (hi : i < S.ms.length) : ∃ u zs, us[i]? = some u ∧ S.ms[i]? = some zs ∧ MsgAt B w u zs := by
  have h1 : us[i]? = some (us[i]'(by rw [h.len]; exact hi)) := List.getElem?_eq_getElem _
  have h2 : S.ms[i]? = some S.ms[i] := List.getElem?_eq_getElem _
  exact ⟨_, _, h1, h2, h.msg _ _ _ h1 h2⟩
theorem LkAt.of (h : LkAt B w b v us S) {u : Value} (hu : u ∈ us) : ∃ zs, MsgAt B w u zs := by
  obtain ⟨i, hi, rfl⟩ := List.mem_iff_getElem.1 hu
  obtain ⟨u, zs, h1, h2, h3⟩ := h.get (i := i) (by rw [← h.len]; exact hi)
  rw [List.getElem?_eq_getElem hi] at h1
  cases h1
  exact ⟨zs, h3⟩
theorem LkAt.blt (h : LkAt B w b v us S) : b < w.heap.size := lt_of_block h.blk
theorem LkAt.vb (h : LkAt B w b v us S) : v.ownBlock ≠ some b := fun e => by
  obtain ⟨_, cur, hc⟩ := own_blkP h.row e
  have := hc.symm.trans h.blk
  cases this
theorem LkAt.ub (h : LkAt B w b v us S) {u : Value} (hu : u ∈ us) : u.ownBlock ≠ some b := fun e => by
  obtain ⟨zs, hm⟩ := h.of hu
  obtain ⟨_, cur, hc⟩ := own_blkP hm.own e
  have := hc.symm.trans h.blk
  cases this
/-- Bytes do not lie in the row's block. -/
theorem row_msg {B' : Nat} {zs : List Int} {n : Nat} {u : Value} {vs : List Value} (h : w.ownsRow B' 36 1 v n vs) (hm : MsgAt B w u zs) {k : Nat} (hk : v.ownBlock = some k) : u.ownBlock ≠ some k := fun e => by
  obtain ⟨_, cur, hc⟩ := own_blkP h hk
  obtain ⟨_, cur', hc'⟩ := own_blkP hm.own e
  have := hc.symm.trans hc'
  cases this
theorem LkAt.mb (h : LkAt B w b v us S) {zs : List Int} {u : Value} (hm : MsgAt B w u zs) : u.ownBlock ≠ some b := fun e => by
  obtain ⟨_, cur, hc⟩ := own_blkP hm.own e
  have := hc.symm.trans h.blk
  cases this
/-- Bytes are not among those that calls write into. -/
theorem LkAt.off (h : LkAt B w b v us S) {zs : List Int} {u : Value} (hm : MsgAt B w u zs) {k : Nat} (hk : u.ownBlock = some k) : ¬ rwF b v k := by
  rintro (rfl | e)
  · exact h.mb hm hk
  · exact row_msg h.row hm e hk
theorem LkAt.same (h : LkAt B w b v us S) (h1 : ∀ k, rwF b v k → w'.heap[k]? = w.heap[k]?) (h2 : ∀ k, msF us k → w'.heap[k]? = w.heap[k]?) : LkAt B w' b v us S :=
  ⟨h.hb, (h1 b (.inl rfl)).trans h.blk, own_blk h.row fun k hk => h1 k (.inr hk), h.len, fun i u zs hu hz => (h.msg i u zs hu hz).same fun k hk => h2 k ⟨u, List.mem_of_getElem? hu, hk⟩, h.nd, h.ok⟩
theorem LkAt.lt1 (h : LkAt B w b v us S) {k : Nat} (hk : rwF b v k) : B ≤ k ∧ k < w.heap.size := by
  rcases hk with rfl | e
  · exact ⟨h.hb, h.blt⟩
  · exact h.row.lt k e
theorem LkAt.lt2 (h : LkAt B w b v us S) {k : Nat} (hk : msF us k) : B ≤ k ∧ k < w.heap.size := by
  obtain ⟨u, hu, e⟩ := hk
  obtain ⟨zs, hm⟩ := h.of hu
  exact hm.lt e
theorem LkAt.below (h : LkAt B w b v us S) (hb : Below w.heap.size w w') : LkAt B w' b v us S := h.same (fun k hk => hb.block k (h.lt1 hk).2) fun k hk => hb.block k (h.lt2 hk).2
/-- The numbers alone are others. -/
theorem LkAt.put (h : LkAt B w b v us S) {S' : Lm} (hb : w'.heap[b]? = some (.cells (LkC S'.room v S'.se S'.ca S'.dr S'.tu) 60 (0, 0))) (hf : Fb (at1 b) w w') (hm : S'.ms = S.ms) (ho : LmOk S') : LkAt B w' b v us S' :=
  ⟨h.hb, hb, own_blk h.row fun k hk => hf.block k (h.lt1 (.inr hk)).2 fun e => h.vb (by rw [hk, show k = b from e]), by rw [hm]; exact h.len, fun i u zs hu hz => by
    rw [hm] at hz
    have h1 := h.msg i u zs hu hz
    exact h1.same fun k hk => hf.block k (h1.lt hk).2 fun e => h.mb h1 (by rw [hk, show k = b from e]), h.nd, ho⟩
/-- The cells of its block. -/
theorem LkAt.cells (h : LkAt B w b v us S) : w.cell? ⟨b, 0, none⟩ = some (.int .i64 S.room) ∧ w.cell? ⟨b, 1, none⟩ = some v ∧ w.cell? ⟨b, 2, none⟩ = some (.int .u32 S.se) ∧ w.cell? ⟨b, 3, none⟩ = some (.int .u32 4294967295) ∧
    w.cell? ⟨b, 4, none⟩ = some (.int .u32 S.ca) ∧ w.cell? ⟨b, 5, none⟩ = some (.int .u32 4294967295) ∧ w.cell? ⟨b, 6, none⟩ = some (.int .u32 S.dr) ∧ w.cell? ⟨b, 7, none⟩ = some (.int .u32 4294967295) ∧
    w.cell? ⟨b, 8, none⟩ = some (.int .u32 S.tu) ∧ w.cell? ⟨b, 9, none⟩ = some (.int .u32 4294967295) := by
  have hc := h.blk
  refine ⟨?_, ?_, ?_, ?_, ?_, ?_, ?_, ?_, ?_, ?_⟩ <;> (rw [cell_of_row _ _ _ _ _ _ hc]; rfl)
theorem LkAt.frozen (h : LkAt B w b v us S) (k : Nat) : w.frozen? ⟨b, k, none⟩ = false := frozen_of_row _ _ k _ _ h.blk
/-- Two cells of the block. -/
theorem row_set2 {w : World} {b k j : Nat} {cs : Array Value} {u x : Value} {T : TypeId} (h : w.heap[b]? = some (.cells cs T (0, 0))) : ((w.setCell ⟨b, k, none⟩ u).setCell ⟨b, j, none⟩ x).heap[b]? = some (.cells ((cs.setIfInBounds k u).setIfInBounds j x) T (0, 0)) := row_set (row_set h)
theorem fb_set2 (W : World) (g i j : Nat) (u v : Value) : Fb (at1 g) W ((W.setCell ⟨g, i, none⟩ u).setCell ⟨g, j, none⟩ v) :=
  (Fb.set (F := at1 g) (p := ⟨g, i, none⟩) rfl u).trans (Fb.set (F := at1 g) (w := W.setCell ⟨g, i, none⟩ u) (p := ⟨g, j, none⟩) rfl v) fun _ hk => .inl hk
/-- One sent more. -/
def Lm.sent (S : Lm) : Lm := { S with se := upZ S.se 1 }
def Lm.came (S : Lm) : Lm := { S with ca := upZ S.ca 1 }
def Lm.lost (S : Lm) (k : Int) : Lm := { S with dr := upZ S.dr k }
def Lm.spun (S : Lm) : Lm := { S with tu := upZ S.tu 1 }
def Lm.put (S : Lm) (ms : List (List Int)) : Lm := { S with ms := ms }
theorem LkAt.sent (h : LkAt B w b v us S) : LkAt B ((w.setCell ⟨b, 2, none⟩ (.int .u32 (upZ S.se 1))).setCell ⟨b, 3, none⟩ (.int .u32 4294967295)) b v us S.sent :=
  h.put (row_set2 h.blk) (fb_set2 ..) rfl ⟨h.ok.r0, h.ok.r1, h.ok.ms, upZ_w h.ok.se (by decide), h.ok.ca, h.ok.dr, h.ok.tu⟩
theorem LkAt.came (h : LkAt B w b v us S) : LkAt B ((w.setCell ⟨b, 4, none⟩ (.int .u32 (upZ S.ca 1))).setCell ⟨b, 5, none⟩ (.int .u32 4294967295)) b v us S.came :=
  h.put (row_set2 h.blk) (fb_set2 ..) rfl ⟨h.ok.r0, h.ok.r1, h.ok.ms, h.ok.se, upZ_w h.ok.ca (by decide), h.ok.dr, h.ok.tu⟩
theorem LkAt.lost (h : LkAt B w b v us S) {k : Int} (hk : 0 ≤ k) : LkAt B ((w.setCell ⟨b, 6, none⟩ (.int .u32 (upZ S.dr k))).setCell ⟨b, 7, none⟩ (.int .u32 4294967295)) b v us (S.lost k) :=
  h.put (row_set2 h.blk) (fb_set2 ..) rfl ⟨h.ok.r0, h.ok.r1, h.ok.ms, h.ok.se, h.ok.ca, upZ_w h.ok.dr hk, h.ok.tu⟩
theorem LkAt.spun (h : LkAt B w b v us S) : LkAt B ((w.setCell ⟨b, 8, none⟩ (.int .u32 (upZ S.tu 1))).setCell ⟨b, 9, none⟩ (.int .u32 4294967295)) b v us S.spun :=
  h.put (row_set2 h.blk) (fb_set2 ..) rfl ⟨h.ok.r0, h.ok.r1, h.ok.ms, h.ok.se, h.ok.ca, h.ok.dr, upZ_w h.ok.tu (by decide)⟩
/-- The row is another, and so are the messages. -/
theorem LkAt.turn (h : LkAt B w b v us S) {v' : Value} {us' : List Value} {ms' : List (List Int)} (hb : w'.heap[b]? = some (.cells (LkC S.room v' S.se S.ca S.dr S.tu) 60 (0, 0))) (hr : w'.ownsRow B 36 1 v' us'.length us') (hl : us'.length = ms'.length)
    (hm : ∀ (i : Nat) (u : Value) (zs : List Int), us'[i]? = some u → ms'[i]? = some zs → MsgAt B w' u zs) (hn : (us'.filterMap Value.ownBlock).Nodup) (hk : ms'.length ≤ S.room) : LkAt B w' b v' us' (S.put ms') :=
  ⟨h.hb, hb, hr, hl, hm, hn, h.ok.r0, h.ok.r1, hk, h.ok.se, h.ok.ca, h.ok.dr, h.ok.tu⟩
/-- What an append to a row leaves as it was. -/
theorem fb_grown {w w' : World} {o : Option Nat} (h : w.grownBy w' o) : Fb (fun k => o = some k) w w' := ⟨h.os, h.tape, h.output, h.size, fun k hk hn => h.block k hk fun e => hn e.symm⟩
/-- Fewer messages have blocks of their own, too. -/
theorem nd_erase {us : List Value} (h : (us.filterMap Value.ownBlock).Nodup) (i : Nat) : ((us.eraseIdx i).filterMap Value.ownBlock).Nodup := ((List.eraseIdx_sublist us i).filterMap _).nodup h
theorem nd_app {us : List Value} {u : Value} (h : (us.filterMap Value.ownBlock).Nodup) (hu : ∀ k, u.ownBlock = some k → ¬ msF us k) : ((us ++ [u]).filterMap Value.ownBlock).Nodup := by
  rw [List.filterMap_append]
  cases e : u.ownBlock with
  | none => simpa [e] using h
  | some k =>
    rw [show [u].filterMap Value.ownBlock = [k] by simp [e]]
    refine List.nodup_append.2 ⟨h, by simp, fun a ha b hb => ?_⟩
    rw [List.mem_singleton.1 hb]
    rintro rfl
    obtain ⟨u', hu', e'⟩ := List.mem_filterMap.1 ha
    exact hu a e ⟨u', hu', e'⟩
theorem nd_set {u : Value} : ∀ {us : List Value}, (us.filterMap Value.ownBlock).Nodup → (∀ k, u.ownBlock = some k → ¬ msF us k) → ∀ i, ((us.set i u).filterMap Value.ownBlock).Nodup
  | [], h, _, i => by simp
  | x :: us, h, hu, 0 => by
    rw [List.set_cons_zero]
    have h2 : (us.filterMap Value.ownBlock).Nodup := ((List.sublist_cons_self x us).filterMap _).nodup h
    cases e : u.ownBlock with
    | none => simpa [e] using h2
    | some k =>
      rw [List.filterMap_cons, e]
      refine List.nodup_cons.2 ⟨fun hm => ?_, h2⟩
      obtain ⟨u', hu', e'⟩ := List.mem_filterMap.1 hm
      exact hu k e ⟨u', by simp [hu'], e'⟩
  | x :: us, h, hu, i + 1 => by
    rw [List.set_cons_succ]
    have h2 : (us.filterMap Value.ownBlock).Nodup := ((List.sublist_cons_self x us).filterMap _).nodup h
    have ih := nd_set h2 (fun k e => fun ⟨u', hu', e'⟩ => hu k e ⟨u', by simp [hu'], e'⟩) i
    cases e : x.ownBlock with
    | none => simpa [e] using ih
    | some k =>
      rw [List.filterMap_cons, e] at h ⊢
      refine List.nodup_cons.2 ⟨fun hm => ?_, ih⟩
      obtain ⟨u', hu', e'⟩ := List.mem_filterMap.1 hm
      rcases List.mem_or_eq_of_mem_set hu' with h3 | rfl
      · exact (List.nodup_cons.1 h).1 (List.mem_filterMap.2 ⟨u', h3, e'⟩)
      · exact hu k e' ⟨x, by simp, e⟩
end Go.Proofs.Ytlhmalmmligkkaa
