/-
  Contract: msg.numbersOf hands back the numbers that stand for a field in a load, in memory of the call's own; nothing that was there turns.
-/
import Derived.Test.YtlcfjhlchpeedaaFMays
import Derived.Test.YtlcfjhlchpeedaaNums
import Derived.Handy
import Derived.Deep.RegionHeldLaw
import Derived.Deep.AppendLies
namespace Go.Proofs.Ytlcfjhlchpeedaa
open Go.RowKit
open M
set_option linter.unusedVariables false
set_option maxRecDepth 1000000

/-- The numbers that stand for the field of a letter in a load. -/
def numsC (m : Mg) (c : Int) : List Int :=
  if c = 115 then [m.st] else if c = 101 then [m.se] else if c = 97 then [m.ate] else if c = 105 then [m.inc] else if c = 110 then [m.n] else if c = 99 then [m.cnt] else if c = 119 then [m.why]
  else if c = 106 then m.seed :: m.most :: (m.pr.length : Int) :: m.pr else if c = 108 then (m.li.length : Int) :: m.li else []

/-- A literal behind a new block. -/
theorem own_lit2 (k : IntKind) (w : World) (o : Obj) (xs : List Int) (t : TypeId) (h : xs.length ≤ 100000) :
    ((w.alloc o).alloc (.cells (xs.map (Value.int k)).toArray t)).ownsRow w.heap.size t 1 (.slice (some ⟨w.heap.size + 1, 0, none⟩) xs.length xs.length) xs.length (xs.map (Value.int k)) := by
  have h1 := own_base (B := w.heap.size) (own_litK k (w.alloc o) xs t h) (by simp)
  have e : (w.alloc o).heap.size = w.heap.size + 1 := by simp
  rw [e] at h1
  exact h1

/-- The like behind a draw. -/
theorem own_lit2d (k : IntKind) (w : World) (o : Obj) (xs : List Int) (t : TypeId) (h : xs.length ≤ 100000) :
    ((w.alloc o).alloc (.cells (xs.map (Value.int k)).toArray t)).drew.ownsRow (w.heap.size + 1) t 1 (.slice (some ⟨w.heap.size + 1, 0, none⟩) xs.length xs.length) xs.length (xs.map (Value.int k)) := by
  have h1 := own_base (B := w.heap.size + 1) (own_litK k (w.alloc o) xs t h) (by simp)
  have e : (w.alloc o).heap.size = w.heap.size + 1 := by simp
  rw [e] at h1
  exact h1

/-- An append at a step of a region that draws its order. -/
theorem step_append_reads {P : Program} {w : World} {ops : Array Oper} {o : Oper} {a : Act} {K : Act → World → Prop} {Q : Exit → Act → World → Prop} {E : Prop} (hgd : o.guard = none) (d : Tmp) (hd : o.dst = some d) (s x : Operand) (t : TypeId)
    (ho : o.op = .call { callee := .builtin .append, args := #[s, x], argTypes := #[t, t] })
    (base : Nat) (e : TypeId) (i : TypeInfo) (z : Value) (bytes : Nat) (ht : P.underlying t = some (.slice e)) (hi : P.info? e = some i) (hz : i.zero = some z)
    (hsize : i.size = 1) (hby : i.bytes = bytes) (hzs : z.cells.size = 1) (k : IntKind)
    (v : Value) (n : Nat) (xs : List Int) (hs : a.eval s = v) (hown : w.ownsRow base e 1 v n (xs.map (Value.int k)))
    (ad : Addr) (m c : Nat) (news : List Int) (hx : a.eval x = .slice (some ad) m c) (hr : Reads k w (some ad) m c news) (hm : 0 < m)
    (h63 : n + m ≤ 9223372036854775807) (hbytes : (n + m) * bytes ≤ 140737488355328) (hbase : base ≤ w.heap.size)
    (h : ∀ v' w', w'.ownsRow base e 1 v' (n + m) ((xs ++ news).map (Value.int k)) → Below base w w' → K (a.put (some d) v') w') :
    if Region.wanted o (yielded ops a.tmps) = true then Oper.wp P o a w K Q else E := by
  refine step_append_lies w hgd s x t ho base e i z 1 bytes ht hi hz hsize hby hzs (by decide) v n _ hs hown ad m c (news.map (Value.int k)) hx (by simpa using hr.size) hr.news (ints_oneCell k news) hm (by unfold maxLen; omega) hbytes hbase _ rfl ?_
  intro g cap w' h1 h2 _ _
  rw [hd]
  refine h _ w' (by rw [List.map_append]; exact h1) ((Below.refl _ _).grown h2 hbase fun g hg => (hown.lt g hg).1)

/-- The Job's cells of a message in block B stand. -/
theorem job_alloc {B : Nat} {W : World} {x y z : Value} (o : Obj) (h : W.cell? ⟨B, 8, none⟩ = some x ∧ W.cell? ⟨B, 9, none⟩ = some y ∧ W.cell? ⟨B, 10, none⟩ = some z) :
    (W.alloc o).cell? ⟨B, 8, none⟩ = some x ∧ (W.alloc o).cell? ⟨B, 9, none⟩ = some y ∧ (W.alloc o).cell? ⟨B, 10, none⟩ = some z := by
  have hb : Below W.heap.size W (W.alloc o) := (Below.refl _ _).alloc (Nat.le_refl _) _
  exact ⟨(hb.cell (World.block_lt_of_cell? _ _ h.1)).trans h.1, (hb.cell (World.block_lt_of_cell? _ _ h.2.1)).trans h.2.1, (hb.cell (World.block_lt_of_cell? _ _ h.2.2)).trans h.2.2⟩
theorem job_below4 {B : Nat} {W W' : World} {x y z : Value} (hb : Below (B + 1) W W') (h : W.cell? ⟨B, 8, none⟩ = some x ∧ W.cell? ⟨B, 9, none⟩ = some y ∧ W.cell? ⟨B, 10, none⟩ = some z) :
    W'.cell? ⟨B, 8, none⟩ = some x ∧ W'.cell? ⟨B, 9, none⟩ = some y ∧ W'.cell? ⟨B, 10, none⟩ = some z :=
  ⟨(hb.cell (p := ⟨B, 8, none⟩) (Nat.lt_succ_self B)).trans h.1, (hb.cell (p := ⟨B, 9, none⟩) (Nat.lt_succ_self B)).trans h.2.1, (hb.cell (p := ⟨B, 10, none⟩) (Nat.lt_succ_self B)).trans h.2.2⟩
theorem job_below {B : Nat} {W W' : World} {x y z : Value} (hb : Below W.heap.size W W') (h : W.cell? ⟨B, 8, none⟩ = some x ∧ W.cell? ⟨B, 9, none⟩ = some y ∧ W.cell? ⟨B, 10, none⟩ = some z) :
    W'.cell? ⟨B, 8, none⟩ = some x ∧ W'.cell? ⟨B, 9, none⟩ = some y ∧ W'.cell? ⟨B, 10, none⟩ = some z :=
  ⟨(hb.cell (World.block_lt_of_cell? _ _ h.1)).trans h.1, (hb.cell (World.block_lt_of_cell? _ _ h.2.1)).trans h.2.1, (hb.cell (World.block_lt_of_cell? _ _ h.2.2)).trans h.2.2⟩

set_option maxHeartbeats 4000000 in
theorem numbersof_any (m : Mg) (p q : Sl) (c : Int) (hc : Letter c) (w : World) (hm : MsgIn w m p q) (hmay : mayC m c = true) :
    Calls Try.prog 26 #[.agg (MV m p q), .int .i32 c] w fun e w' => ∃ v', e = .returned v' ∧ w'.ownsRow w.heap.size 22 1 v' (numsC m c).length ((numsC m c).map (Value.int .u64)) ∧ Below w.heap.size w w' := by
  rcases hc with rfl | rfl | rfl | rfl | rfl | rfl | rfl | rfl | rfl
  · clear hm hmay
    have HO := hid (own_lit2 .u64 w (.cells (MV m p q) 34) [m.st] 22 (by simp))
    unfold MV at HO ⊢
    go_enter Try.func26, Try.ntmps26
    go_wp2
    go_ret
    exact ⟨_, rfl, HO.out, by go_grown⟩
  · clear hm hmay
    have HO := hid (own_lit2 .u64 w (.cells (MV m p q) 34) [m.se] 22 (by simp))
    unfold MV at HO ⊢
    go_enter Try.func26, Try.ntmps26
    go_wp2
    go_ret
    exact ⟨_, rfl, HO.out, by go_grown⟩
  · clear hm hmay
    have HO := hid (own_lit2 .u64 w (.cells (MV m p q) 34) [m.ate] 22 (by simp))
    unfold MV at HO ⊢
    go_enter Try.func26, Try.ntmps26
    go_wp2
    go_ret
    exact ⟨_, rfl, HO.out, by go_grown⟩
  · clear hm hmay
    have HO := hid (own_lit2 .u64 w (.cells (MV m p q) 34) [m.inc] 22 (by simp))
    unfold MV at HO ⊢
    go_enter Try.func26, Try.ntmps26
    go_wp2
    go_ret
    exact ⟨_, rfl, HO.out, by go_grown⟩
  · clear hm hmay
    have HO := hid (own_lit2 .u64 w (.cells (MV m p q) 34) [m.n] 22 (by simp))
    unfold MV at HO ⊢
    go_enter Try.func26, Try.ntmps26
    go_wp2
    go_ret
    exact ⟨_, rfl, HO.out, by go_grown⟩
  · clear hm hmay
    have HO := hid (own_lit2 .u64 w (.cells (MV m p q) 34) [m.cnt] 22 (by simp))
    unfold MV at HO ⊢
    go_enter Try.func26, Try.ntmps26
    go_wp2
    go_ret
    exact ⟨_, rfl, HO.out, by go_grown⟩
  · have h0 : 0 ≤ m.why ∧ m.why ≤ 255 := by unfold mayC at hmay; simpa using hmay
    obtain ⟨w0, w1⟩ := h0
    clear hm hmay
    have HO := hid (own_lit2 .u64 w (.cells (MV m p q) 34) [m.why] 22 (by simp))
    unfold MV at HO ⊢
    go_enter Try.func26, Try.ntmps26
    go_wp2
    go_ret
    exact ⟨_, rfl, HO.out, by go_grown⟩
  · have h0 : (0 ≤ m.most ∧ m.most ≤ 256) ∧ toksB m.pr = true := by unfold mayC at hmay; simpa using hmay
    obtain ⟨⟨w0, w1⟩, ht⟩ := h0
    have HR : Hid (∀ W, Below w.heap.size w W → Reads .i64 W p.a p.l p.c m.pr) := fun W hb => hm.pr.below hb
    have HT := hid ht
    have HL : Hid (m.pr.length = p.l) := hm.pr.size
    have hl := hm.hp
    obtain ⟨i0, hi, hz0, hz1, hz2⟩ := info_parts Try.info22
    have HW : Hid (IntKind.u64.wrap m.most = m.most) := by unfold Hid; rw [IntKind.wrap_u64]; omega
    clear hm hmay ht
    unfold MV
    go_enter Try.func26, Try.ntmps26
    go_wp2_with fail
    go_region_held_law (fun W : World => W.cell? ⟨w.heap.size, 8, none⟩ = some (.int .u64 m.seed) ∧ W.cell? ⟨w.heap.size, 9, none⟩ = some (.slice p.a p.l p.c) ∧ W.cell? ⟨w.heap.size, 10, none⟩ = some (.int .i64 m.most)) (first | assumption | (refine job_below hb2 ?_; assumption) | (refine job_below4 hb4 ?_; assumption) | (refine job_alloc _ ?_; assumption) | (simp; done)) (first | (go_at_call 47; refine (listnums_any _ _ _ _ _ (HR.out _ (by go_grown)) HT.out).mono ?_; rintro e w2 ⟨v2, rfl, how2, hb2⟩; have hs2 := hb2.size; have hlit := own_stays (own_lit2d .u64 w (.cells (MV m p q) 34) [m.seed, IntKind.u64.wrap m.most] 22 (by simp)) hb2; obtain ⟨a2, c2, rfl, hr2⟩ := Reads.own how2; obtain ⟨b2, o2, rfl, _⟩ := hr2.cell 0 (by omega)) | (go_at_call 47; refine (listnums_any _ _ _ _ _ (HR.out _ (by go_grown)) HT.out).mono ?_; rintro e w2 ⟨v2, rfl, how2, hb2⟩; have hs2 := hb2.size; have hlit := own_base (B := w.heap.size + 1) (own_litK .u64 w2 [m.seed, IntKind.u64.wrap m.most] 22 (by simp)) (by simp at hs2; omega); obtain ⟨a2, c2, rfl, hr2⟩ := Reads.own how2; obtain ⟨b2, o2, rfl, _⟩ := hr2.cell 0 (by omega)) | (refine step_append_reads (by rfl) 56 (by rfl) (.tmp 51) (.tmp 55) 50 (by rfl) (w.heap.size + 1) 22 i0 (.int .u64 0) 8 Try.underlying50 hi hz0 hz1 hz2 rfl .u64 _ 2 [m.seed, IntKind.u64.wrap m.most] (by rfl) hlit _ _ _ ((p.l : Int) :: m.pr) (by rfl) (by first | exact hr2 | exact hr2.below (by go_grown)) (by omega) (by omega) (by omega) (by simp at hs2 ⊢; omega) ?_; intro v4 w4 how4 hb4))
    all_goals
      go_wp2_with fail
      go_ret
      refine ⟨_, rfl, ?_, ?_⟩
      · unfold numsC
        have h3 := own_base (B := w.heap.size) how4 (by omega)
        rw [show 2 + (p.l + 1) = (m.seed :: m.most :: (m.pr.length : Int) :: m.pr).length by simp [HL.out]; omega] at h3
        rw [← HL.out, HW.out] at h3
        exact h3
      · first
          | exact ((by go_grown : Below w.heap.size w _).trans (hb2.mono (by go_size))).trans (hb4.mono (by omega))
          | exact (((by go_grown : Below w.heap.size w _).trans (hb2.mono (by go_size))).alloc (by simp at hs2; omega) _).trans (hb4.mono (by omega))
  · have ht : toksB m.li = true := by unfold mayC at hmay; simpa using hmay
    have hC := listnums_any _ _ _ _ _ (hm.alloc (.cells (MV m p q) 34)).li ht
    have HL : Hid (m.li.length = q.l) := hm.li.size
    clear hm hmay ht
    unfold MV at hC ⊢
    go_enter Try.func26, Try.ntmps26
    go_wp2_with fail
    refine hC.mono ?_
    rintro e w2 ⟨v2, rfl, how2, hb2⟩
    go_wp2
    go_ret
    refine ⟨_, rfl, ?_, ((Below.refl _ _).alloc (Nat.le_refl _) _).trans (hb2.mono (by simp))⟩
    have h3 := own_base (B := w.heap.size) how2 (by simp)
    rw [← HL.out] at h3
    exact h3

end Go.Proofs.Ytlcfjhlchpeedaa
