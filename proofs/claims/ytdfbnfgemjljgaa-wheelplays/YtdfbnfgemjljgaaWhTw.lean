/-
  Both wheels side by side.
-/
import Derived.Test.YtdfbnfgemjljgaaWhAl
import Derived.Test.YtdfbnfgemjljgaaWhRm
import Derived.Test.YtdfbnfgemjljgaaWhSame
namespace Go.Proofs.Ytdfbnfgemjljgaa
open Go.RowKit Go.Maps
set_option linter.unusedVariables false
set_option maxRecDepth 1000000

/-- The program's wheel, the document's, and a step. -/
structure PlM (P : WPred) (w : World) (B : Nat) (F : Nat → Prop) (T last : Int) (L : List Tm) (B2 : Nat) (T2 last2 : Int) (L2 : List Tm) (sb : Nat) (s : Sp) (W : World) : Prop where
  wl : P W B F T last L
  rt : ∃ a len cap, RwAt W B2 T2 last2 a len cap L2
  bel : Below w.heap.size w W
  lo : ∀ k, F k → w.heap.size ≤ k
  lo2 : w.heap.size ≤ B2
  n2 : ¬ F B2
  blk : W.heap[sb]? = some (.cells (SpV s) 31 (0, 0))
  n1 : ¬ F sb
  n3 : sb ≠ B2
/-- Between the steps. -/
structure PlS (P : WPred) (w : World) (B : Nat) (F : Nat → Prop) (T last : Int) (L : List Tm) (B2 : Nat) (W : World) : Prop where
  wl : P W B F T last L
  rt : ∃ a len cap, RwAt W B2 T last a len cap L
  bel : Below w.heap.size w W
  lo : ∀ k, F k → w.heap.size ≤ k
  lo2 : w.heap.size ≤ B2
  n2 : ¬ F B2
section
variable {P : WPred} {w W W' : World} {B : Nat} {F F' : Nat → Prop} {T last T' last' T2 last2 T2' last2' : Int} {L L' L2 L2' : List Tm} {B2 : Nat} {sb : Nat} {s : Sp}
theorem RwAt.fbF (hP : Whl P) (h1 : P W B F T last L) {a : Option Addr} {len cap : Nat} (h : RwAt W B2 T2 last2 a len cap L2) (hn : ¬ F B2) (hf : Fb F W W') : RwAt W' B2 T2 last2 a len cap L2 :=
  ⟨hf.one h.obj hn, h.lst.fb hf fun k cur fr hk hc => hP.ty h1 k hk cur fr hc, h.few⟩
theorem PlM.below (hP : Whl P) (h : PlM P w B F T last L B2 T2 last2 L2 sb s W) (hb : Below W.heap.size W W') : PlM P w B F T last L B2 T2 last2 L2 sb s W' :=
  ⟨hP.below h.wl hb, by obtain ⟨a, len, cap, hr⟩ := h.rt; exact ⟨a, len, cap, hr.below hb⟩, h.bel.trans (hb.mono h.bel.size), h.lo, h.lo2, h.n2, block_bel h.blk hb, h.n1, h.n3⟩
theorem PlM.turn (hP : Whl P) (h : PlM P w B F T last L B2 T2 last2 L2 sb s W) (h1 : P W' B F' T' last' L') (h2 : Fb F W W') (h3 : ∀ k, F' k → F k ∨ W.heap.size ≤ k) : PlM P w B F' T' last' L' B2 T2 last2 L2 sb s W' := by
  obtain ⟨a, len, cap, hr⟩ := h.rt
  have hB2 := lt_of_block hr.obj
  refine ⟨h1, ⟨a, len, cap, hr.fbF hP h.wl h.n2 h2⟩, h.bel.trans (h2.to h.lo h.bel.size), fun k hk => ?_, h.lo2, fun hk => ?_, h2.one h.blk h.n1, fun hk => ?_, h.n3⟩
  · rcases h3 k hk with h4 | h4
    · exact h.lo k h4
    · exact Nat.le_trans h.bel.size h4
  · rcases h3 _ hk with h4 | h4
    · exact h.n2 h4
    · omega
  · rcases h3 _ hk with h4 | h4
    · exact h.n1 h4
    · have := lt_of_block h.blk; omega
theorem PlM.left (hP : Whl P) (h : PlM P w B F T last L B2 T2 last2 L2 sb s W) (ho : WlO P W B F T' last' L' W') : ∃ F', PlM P w B F' T' last' L' B2 T2 last2 L2 sb s W' := by
  obtain ⟨F', h1, h2, h3⟩ := ho
  exact ⟨F', h.turn hP h1 h2 h3⟩
theorem PlM.right (hP : Whl P) (h : PlM P w B F T last L B2 T2 last2 L2 sb s W) (ho : RwO W B2 T2' last2' L2' W') : PlM P w B F T last L B2 T2' last2' L2' sb s W' :=
  ⟨hP.fb h.wl ho.2 fun k hk e => h.n2 (by have e' : k = B2 := e; rw [← e']; exact hk), ho.1, h.bel.trans (ho.2.to (fun k e => by have e' : k = B2 := e; rw [e']; exact h.lo2) h.bel.size), h.lo, h.lo2, h.n2, ho.2.one h.blk h.n3, h.n1, h.n3⟩
theorem PlM.cells (h : PlM P w B F T last L B2 T2 last2 L2 sb s W) : W.cell? ⟨sb, 0, none⟩ = some (.int .u8 s.kd) ∧ W.cell? ⟨sb, 1, none⟩ = some (.int .i64 s.later) ∧ W.cell? ⟨sb, 2, none⟩ = some (.int .i64 s.after) ∧ W.cell? ⟨sb, 3, none⟩ = some (.int .u64 s.label) ∧ W.cell? ⟨sb, 4, none⟩ = some (.int .i64 s.num) :=
  ⟨by rw [cell_of_row _ _ _ _ _ _ h.blk]; rfl, by rw [cell_of_row _ _ _ _ _ _ h.blk]; rfl, by rw [cell_of_row _ _ _ _ _ _ h.blk]; rfl, by rw [cell_of_row _ _ _ _ _ _ h.blk]; rfl, by rw [cell_of_row _ _ _ _ _ _ h.blk]; rfl⟩
theorem PlM.to (h : PlM P w B F T last L B2 T last L sb s W) : PlS P w B F T last L B2 W := ⟨h.wl, h.rt, h.bel, h.lo, h.lo2, h.n2⟩
theorem PlS.step (hP : Whl P) (h : PlS P w B F T last L B2 W) (s : Sp) (hW : W' = W.alloc (.cells #[.int .u8 s.kd, .int .i64 s.later, .int .i64 s.after, .int .u64 s.label, .int .i64 s.num] 31)) : PlM P w B F T last L B2 T last L W.heap.size s W' := by
  subst hW
  have hb : Below W.heap.size W (W.alloc (.cells #[.int .u8 s.kd, .int .i64 s.later, .int .i64 s.after, .int .u64 s.label, .int .i64 s.num] 31)) := (Below.refl _ _).alloc (Nat.le_refl _) _
  obtain ⟨a, len, cap, hr⟩ := h.rt
  exact ⟨hP.below h.wl hb, ⟨a, len, cap, hr.below hb⟩, h.bel.trans (hb.mono h.bel.size), h.lo, h.lo2, h.n2, heap_alloc_new W _, fun hF => Nat.lt_irrefl _ (hP.lt h.wl _ hF), fun e => by have := lt_of_block hr.obj; omega⟩
/-- The calls of both. -/
theorem PlM.stop1 (hP : Whl P) (h : PlM P w B F T last L B2 T2 last2 L2 sb s W) {n : Int} (hn : isI n) :
    Calls Try.prog 8 #[.pointer (some ⟨B, 0, none⟩), .int .i64 n] W fun e w' => e = .returned (.int .i64 (stpC n L)) ∧ Hid (∃ F', PlM P w B F' T last (stpT n L) B2 T2 last2 L2 sb s w') :=
  (hP.stop h.wl hn).mono fun e w' ⟨he, H⟩ => ⟨he, h.left hP H.out⟩
theorem PlM.stop2 (hP : Whl P) (h : PlM P w B F T last L B2 T2 last2 L2 sb s W) (n : Int) :
    Calls Try.prog 9 #[.pointer (some ⟨B2, 0, none⟩), .int .i64 n] W fun e w' => e = .returned (.int .i64 (stpC n L2)) ∧ Hid (PlM P w B F T last L B2 T2 last2 (stpT n L2) sb s w') := by
  obtain ⟨a, len, cap, hr⟩ := h.rt
  exact (rstop_any hr n).mono fun e w' ⟨he, H⟩ => ⟨he, h.right hP H.out⟩
theorem PlM.all1 (hP : Whl P) (h : PlM P w B F T last L B2 T2 last2 L2 sb s W) {lb : Int} (hn : isU lb) :
    Calls Try.prog 10 #[.pointer (some ⟨B, 0, none⟩), .int .u64 lb] W fun e w' => e = .returned (.int .i64 ((L.length : Int) - (allT lb L).length)) ∧ Hid (∃ F', PlM P w B F' T last (allT lb L) B2 T2 last2 L2 sb s w') :=
  (hP.stopall h.wl hn).mono fun e w' ⟨he, H⟩ => ⟨he, h.left hP H.out⟩
theorem PlM.all2 (hP : Whl P) (h : PlM P w B F T last L B2 T2 last2 L2 sb s W) (lb : Int) :
    Calls Try.prog 11 #[.pointer (some ⟨B2, 0, none⟩), .int .u64 lb] W fun e w' => e = .returned (.int .i64 ((L2.length : Int) - (allT lb L2).length)) ∧ Hid (PlM P w B F T last L B2 T2 last2 (allT lb L2) sb s w') := by
  obtain ⟨a, len, cap, hr⟩ := h.rt
  exact (rstopall_any hr lb).mono fun e w' ⟨he, H⟩ => ⟨he, h.right hP H.out⟩
theorem PlM.set1 (hP : Whl P) (h : PlM P w B F T last L B2 T2 last2 L2 sb s W) {now after kind label : Int} (h0 : isI now) (ha : isI after) (hk : isI kind) (hu : isU label) :
    Calls Try.prog 15 #[.pointer (some ⟨B, 0, none⟩), .int .i64 now, .int .i64 after, .int .i64 kind, .int .u64 label] W fun e w' => e = .returned (.tuple #[.int .i64 (if setC last L after = 0 then last + 1 else 0), .int .i64 (setC last L after)]) ∧
      Hid (∃ F', PlM P w B F' (timeZ T now) (if setC last L after = 0 then last + 1 else last) (setL (timeZ T now) last after kind label L) B2 T2 last2 L2 sb s w') :=
  (hP.set h.wl h0 ha hk hu).mono fun e w' ⟨he, H⟩ => ⟨he, h.left hP H.out⟩
theorem PlM.set2 (hP : Whl P) (h : PlM P w B F T last L B2 T2 last2 L2 sb s W) (hT : 0 ≤ T2 ∧ T2 ≤ 1099511627776) (hl : 0 ≤ last2 ∧ last2 ≤ 2147483647) (now : Int) {after kind label : Int} (ha : isI after) (hk : isI kind) (hu : isU label) :
    Calls Try.prog 16 #[.pointer (some ⟨B2, 0, none⟩), .int .i64 now, .int .i64 after, .int .i64 kind, .int .u64 label] W fun e w' => e = .returned (.tuple #[.int .i64 (if setC last2 L2 after = 0 then last2 + 1 else 0), .int .i64 (setC last2 L2 after)]) ∧
      Hid (PlM P w B F T last L B2 (timeZ T2 now) (if setC last2 L2 after = 0 then last2 + 1 else last2) (setL (timeZ T2 now) last2 after kind label L2) sb s w') := by
  obtain ⟨a, len, cap, hr⟩ := h.rt
  exact (rset_any hr hT hl now after kind label ha hk hu).mono fun e w' ⟨he, H⟩ => ⟨he, h.right hP H.out⟩
/-- Due of both, one behind the other: two lists of the same timers. -/
theorem PlM.due1 (hP : Whl P) (h : PlM P w B F T last L B2 T2 last2 L2 sb s W) {now : Int} (h0 : isI now) :
    Calls Try.prog 13 #[.pointer (some ⟨B, 0, none⟩), .int .i64 now] W fun e w' => ∃ a len cap, e = .returned (.slice a len cap) ∧ Hid (TsAt 54 w' a len cap (L.takeWhile (dueB (timeZ T now))) ∧ (∀ ad, a = some ad → ad.block ≠ B2) ∧ ∃ F', PlM P w B F' (timeZ T now) last (L.dropWhile (dueB (timeZ T now))) B2 T2 last2 L2 sb s w') :=
  (hP.due h.wl h0).mono fun e w' ⟨a, len, cap, he, H⟩ => ⟨a, len, cap, he, by
    obtain ⟨ht, F', h1, h2, h3, h4⟩ := H.out
    refine ⟨ht, fun ad e hB => ?_, F', h.turn hP h1 h2 h3⟩
    obtain ⟨a2, len2, cap2, hr⟩ := h.rt
    have := lt_of_block hr.obj
    have := (h4 ad e).1
    omega⟩
theorem PlM.due2 (hP : Whl P) (h : PlM P w B F T last L B2 T2 last2 L2 sb s W) (now : Int) {a : Option Addr} {len cap : Nat} {D : List Tm} (ht : TsAt 54 W a len cap D) (hne : ∀ ad, a = some ad → ad.block ≠ B2) (hD : L2.takeWhile (dueB (timeZ T2 now)) = D) :
    Calls Try.prog 14 #[.pointer (some ⟨B2, 0, none⟩), .int .i64 now] W fun e w' => ∃ a2 cap2, e = .returned (.slice a2 len cap2) ∧ Hid (TsAt 49 w' a2 len cap2 D ∧ TsAt 54 w' a len cap D ∧ PlM P w B F T last L B2 (timeZ T2 now) last2 (L2.dropWhile (dueB (timeZ T2 now))) sb s w') := by
  obtain ⟨a1, len1, cap1, hr⟩ := h.rt
  refine (rdue_any hr now).mono fun e w' ⟨a2, n2, cap2, he, H⟩ => ?_
  have ht2 := H.out.1
  rw [hD] at ht2
  obtain rfl : n2 = len := by rw [← ht2.size, ht.size]
  exact ⟨a2, cap2, he, ht2, ht.same fun ad e => H.out.2.2.block _ (by obtain ⟨_, cur, fr, hc⟩ := ht.ty ad e; exact lt_of_block hc) fun h' => hne ad e h', h.right hP H.out.2⟩
theorem PlM.next1 (hP : Whl P) (h : PlM P w B F T last L B2 T2 last2 L2 sb s W) :
    Calls Try.prog 17 #[.pointer (some ⟨B, 0, none⟩)] W fun e w' => e = .returned (.tuple #[.int .i64 ((L.head?.map Tm.due).getD 0), .bool (decide (0 < L.length))]) ∧ Hid (PlM P w B F T last L B2 T2 last2 L2 sb s w') :=
  (hP.next h.wl).mono fun e w' ⟨he, H⟩ => ⟨he, h.below hP H.out⟩
theorem PlM.len1 (hP : Whl P) (h : PlM P w B F T last L B2 T2 last2 L2 sb s W) :
    Calls Try.prog 18 #[.pointer (some ⟨B, 0, none⟩)] W fun e w' => e = .returned (.int .i64 L.length) ∧ Hid (PlM P w B F T last L B2 T2 last2 L2 sb s w') :=
  (hP.len h.wl).mono fun e w' ⟨he, H⟩ => ⟨he, h.below hP H.out⟩
theorem PlM.now1 (hP : Whl P) (h : PlM P w B F T last L B2 T2 last2 L2 sb s W) :
    Calls Try.prog 19 #[.pointer (some ⟨B, 0, none⟩)] W fun e w' => e = .returned (.int .i64 T) ∧ Hid (PlM P w B F T last L B2 T2 last2 L2 sb s w') :=
  (hP.now h.wl).mono fun e w' ⟨he, H⟩ => ⟨he, h.below hP H.out⟩
end
end Go.Proofs.Ytdfbnfgemjljgaa
