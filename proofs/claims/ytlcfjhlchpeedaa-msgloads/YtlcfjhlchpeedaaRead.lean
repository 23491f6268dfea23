/-
  Contract: msg.Read hands back the message of a load, or the error.
-/
import Derived.Test.YtlcfjhlchpeedaaStrs
namespace Go.Proofs.Ytlcfjhlchpeedaa
open Go.RowKit
open M
set_option linter.unusedVariables false
set_option maxRecDepth 1000000

theorem MV_zero (k : Int) : MV (zeroM k) ⟨none, 0, 0⟩ ⟨none, 0, 0⟩ = #[.int .i64 k, .int .u64 0, .int .u64 0, .int .u64 0, .int .u64 0, .int .u64 0, .int .u64 0, .int .i64 0, .int .u64 0, .slice none 0 0, .int .i64 0, .slice none 0 0] := rfl
theorem fieldsF_drop {L : List Int} {i : Nat} {c : Int} (h : L[i]? = some c) (m : Mg) (zs : List Int) (e : Int) :
    fieldsF (L.drop i) m zs e = fieldsF (L.drop (i + 1)) (fieldF m zs e c).1 (fieldF m zs e c).2.1 (fieldF m zs e c).2.2 := by
  obtain ⟨hlt, rfl⟩ := List.getElem?_eq_some_iff.1 h
  rw [List.drop_eq_getElem_cons hlt, fieldsF]

/-- A message's cells, out of its block. -/
theorem MV_cells {w : World} {C : Nat} {m : Mg} {p q : Sl} {T : TypeId} (h : w.heap[C]? = some (.cells (MV m p q) T)) :
    w.cell? ⟨C, 0, none⟩ = some (.int .i64 m.kind) ∧ w.cell? ⟨C, 1, none⟩ = some (.int .u64 m.st) ∧ w.cell? ⟨C, 2, none⟩ = some (.int .u64 m.se) ∧ w.cell? ⟨C, 3, none⟩ = some (.int .u64 m.ate) ∧ w.cell? ⟨C, 4, none⟩ = some (.int .u64 m.inc) ∧ w.cell? ⟨C, 5, none⟩ = some (.int .u64 m.n) ∧
    w.cell? ⟨C, 6, none⟩ = some (.int .u64 m.cnt) ∧ w.cell? ⟨C, 7, none⟩ = some (.int .i64 m.why) ∧ w.cell? ⟨C, 8, none⟩ = some (.int .u64 m.seed) ∧ w.cell? ⟨C, 9, none⟩ = some (.slice p.a p.l p.c) ∧ w.cell? ⟨C, 10, none⟩ = some (.int .i64 m.most) ∧ w.cell? ⟨C, 11, none⟩ = some (.slice q.a q.l q.c) := by
  refine ⟨?_, ?_, ?_, ?_, ?_, ?_, ?_, ?_, ?_, ?_, ?_, ?_⟩ <;> (rw [Joins.cell_of_block h]; rfl)
theorem own_reads {w : World} {base : Nat} {p : Sl} {l : List Int} (h : w.ownsRow base 3 1 (.slice p.a p.l p.c) p.l (l.map (Value.int .i64))) : Reads .i64 w p.a p.l p.c l := by
  obtain ⟨a, c, e, hr⟩ := Reads.own h
  cases e
  exact hr

theorem msgin_but {w w' : World} {base : Nat} {m : Mg} {p q : Sl} {S : List Nat} (hp : w.ownsRow base 3 1 (.slice p.a p.l p.c) p.l (m.pr.map (Value.int .i64))) (hq : w.ownsRow base 3 1 (.slice q.a q.l q.c) q.l (m.li.map (Value.int .i64))) (h1 : p.l ≤ 256) (h2 : q.l ≤ 256)
    (hb : But S w w') (hS : ∀ s ∈ S, s < base) : MsgIn w' m p q := ⟨own_reads (own_but hp hb hS), own_reads (own_but hq hb hS), by omega, by omega⟩
/-- The world with a message stored in block R. -/
def setMsg (w : World) (R : Nat) (m : Mg) (p q : Sl) : World :=
  (((((((((((w.setCell ⟨R, 0, none⟩ (.int .i64 m.kind)).setCell ⟨R, 1, none⟩ (.int .u64 m.st)).setCell ⟨R, 2, none⟩ (.int .u64 m.se)).setCell ⟨R, 3, none⟩ (.int .u64 m.ate)).setCell ⟨R, 4, none⟩ (.int .u64 m.inc)).setCell ⟨R, 5, none⟩ (.int .u64 m.n)).setCell ⟨R, 6, none⟩ (.int .u64 m.cnt)).setCell ⟨R, 7, none⟩ (.int .i64 m.why)).setCell ⟨R, 8, none⟩ (.int .u64 m.seed)).setCell ⟨R, 9, none⟩ (.slice p.a p.l p.c)).setCell ⟨R, 10, none⟩ (.int .i64 m.most)).setCell ⟨R, 11, none⟩ (.slice q.a q.l q.c)
set_option maxHeartbeats 1000000 in
theorem setMsg_block {w : World} {R : Nat} {m0 m : Mg} {p0 q0 p q : Sl} {T : TypeId} (h : w.heap[R]? = some (.cells (MV m0 p0 q0) T)) : (setMsg w R m p q).heap[R]? = some (.cells (MV m p q) T) := by
  unfold setMsg
  rw [Joins.block_setCell (Joins.block_setCell (Joins.block_setCell (Joins.block_setCell (Joins.block_setCell (Joins.block_setCell (Joins.block_setCell (Joins.block_setCell (Joins.block_setCell (Joins.block_setCell (Joins.block_setCell (Joins.block_setCell h _) _) _) _) _) _) _) _) _) _) _) _]
  unfold MV
  simp
theorem setMsg_but (w : World) (R : Nat) (m : Mg) (p q : Sl) : But [R] w (setMsg w R m p q) := by
  unfold setMsg
  exact ((((((((((((But.refl _ _).set (by simp) _).set (by simp) _).set (by simp) _).set (by simp) _).set (by simp) _).set (by simp) _).set (by simp) _).set (by simp) _).set (by simp) _).set (by simp) _).set (by simp) _).set (by simp) _
theorem zero_in (w : World) (k : Int) : MsgIn w (zeroM k) ⟨none, 0, 0⟩ ⟨none, 0, 0⟩ := ⟨Reads.nil _ _, Reads.nil _ _, Nat.zero_le _, Nat.zero_le _⟩

/-- The message's lists lie in rows from base on. -/
def MsgOwn (base : Nat) (w : World) (m : Mg) (p q : Sl) : Prop :=
  w.ownsRow base 3 1 (.slice p.a p.l p.c) p.l (m.pr.map (Value.int .i64)) ∧ w.ownsRow base 3 1 (.slice q.a q.l q.c) q.l (m.li.map (Value.int .i64)) ∧ p.l ≤ 256 ∧ q.l ≤ 256
theorem MsgOwn.but {base : Nat} {w w' : World} {m : Mg} {p q : Sl} {S : List Nat} (h : MsgOwn base w m p q) (hb : But S w w') (hS : ∀ s ∈ S, s < base) : MsgOwn base w' m p q := ⟨own_but h.1 hb hS, own_but h.2.1 hb hS, h.2.2.1, h.2.2.2⟩
theorem MsgOwn.low {base base' : Nat} {w : World} {m : Mg} {p q : Sl} (h : MsgOwn base w m p q) (hb : base' ≤ base) : MsgOwn base' w m p q := ⟨own_base h.1 hb, own_base h.2.1 hb, h.2.2.1, h.2.2.2⟩
theorem MsgOwn.in {base : Nat} {w : World} {m : Mg} {p q : Sl} (h : MsgOwn base w m p q) : MsgIn w m p q := ⟨own_reads h.1, own_reads h.2.1, by have := h.2.2.1; omega, by have := h.2.2.2; omega⟩
theorem zero_own (base : Nat) (w : World) (k : Int) : MsgOwn base w (zeroM k) ⟨none, 0, 0⟩ ⟨none, 0, 0⟩ := ⟨World.ownsRow_nil _ _ _ _, World.ownsRow_nil _ _ _ _, Nat.zero_le _, Nat.zero_le _⟩

/-- What a call that reads a message has done: the message of type T, its lists in memory. -/
def ReadOut (r : Mg × Int) (w : World) (x : Ending) (w' : World) : Prop :=
  ∃ p q : Sl, x = .returned (.tuple #[.agg (MV r.1 p q), .int .i64 r.2]) ∧ MsgIn w' r.1 p q ∧ Below w.heap.size w w' ∧ MsgOwn w.heap.size w' r.1 p q

set_option maxHeartbeats 4000000 in
theorem read_any (a : Option Addr) (l c : Nat) (zs : List Int) (w : World) (hr : Reads .u8 w a l c zs) (hz : IsBytes zs) (hl : l ≤ 100000) :
    Calls Try.prog 19 #[.slice a l c] w fun x w' => ReadOut (readF zs) w x w' := by
  have hlow : 0 < l → ∃ b off, a = some ⟨b, off, none⟩ ∧ b < w.heap.size := fun h0 => by
    obtain ⟨b, off, ha, hc⟩ := hr.cell 0 h0
    exact ⟨b, off, ha, World.block_lt_of_cell? _ _ hc⟩
  have hb0 : Below w.heap.size w ((w.alloc (.cells (MV (zeroM 0) ⟨none, 0, 0⟩ ⟨none, 0, 0⟩) 34)).alloc (.cells #[.slice a l c, .int .i64 0] 66)) := by go_grown
  have hrd : RdAt 66 (w.heap.size + 1) w.heap.size zs 0 ((w.alloc (.cells (MV (zeroM 0) ⟨none, 0, 0⟩ ⟨none, 0, 0⟩) 34)).alloc (.cells #[.slice a l c, .int .i64 0] 66)) :=
    ⟨a, l, c, by
      have h1 := heap_alloc_new (w.alloc (.cells (MV (zeroM 0) ⟨none, 0, 0⟩ ⟨none, 0, 0⟩) 34)) (.cells #[.slice a l c, .int .i64 0] 66)
      simpa using h1, hr.below hb0, hlow, hz, hl⟩
  have hK := kind_any (w.heap.size + 1) w.heap.size zs _ hrd (by omega)
  rw [MV_zero] at hK
  clear hr hz hlow hb0 hrd
  have HT : Hid (fieldsOfF zs = fieldsF (lettersF (kindF zs).1) (zeroM (kindF zs).1) (kindF zs).2.1 (kindF zs).2.2) := rfl
  have HRF : Hid (readF zs = if (fieldsOfF zs).2.2 ≠ 0 then (zeroM 0, (fieldsOfF zs).2.2) else if (fieldsOfF zs).2.1 ≠ [] then (zeroM 0, 3) else ((fieldsOfF zs).1, 0)) := rfl
  generalize kindF zs = r at *
  obtain ⟨k, zs1, e1⟩ := r
  simp only at *
  go_enter Try.func19, Try.ntmps19
  go_wp2_with fail
  refine hK.mono ?_
  rintro x w1 ⟨rfl, hrd1, hbt1⟩
  have hs1 := hbt1.size
  simp at hs1
  have HC : Hid (w1.heap[w.heap.size]? = some (.cells #[.int .i64 0, .int .u64 0, .int .u64 0, .int .u64 0, .int .u64 0, .int .u64 0, .int .u64 0, .int .i64 0, .int .u64 0, .slice none 0 0, .int .i64 0, .slice none 0 0] 34)) := by
    have h1 := hbt1.block w.heap.size (by simp; omega) (by simp)
    unfold Hid
    rw [h1]
    have h2 : ((w.alloc (.cells #[.int .i64 0, .int .u64 0, .int .u64 0, .int .u64 0, .int .u64 0, .int .u64 0, .int .u64 0, .int .i64 0, .int .u64 0, .slice none 0 0, .int .i64 0, .slice none 0 0] 34)).alloc (.cells #[.slice a l c, .int .i64 0] 66)).heap[w.heap.size]? = _ := Below.heap_alloc _ _ _ (by simp)
    exact h2.trans (heap_alloc_new w _)
  have HB1 : Hid (Below w.heap.size w w1) := (by go_grown : Below w.heap.size w _).trans (hbt1.to (by simp) (by simp; omega))
  have HR1 := hid hrd1
  clear hK hrd1 hbt1
  go_wp2_with fail
  refine (fieldsof_any k _).mono ?_
  rintro x w' ⟨rfl, rfl⟩
  obtain ⟨L, HLL⟩ : ∃ L, Hid (L = lettersF k) := ⟨_, rfl⟩
  rw [← HLL.out]
  have HT2 : Hid (fieldsOfF zs = fieldsF (L.drop 0) (zeroM k) zs1 e1) := by unfold Hid; rw [HT.out, HLL.out]; rfl
  have HLet : Hid (∀ c ∈ L, Letter c) := by unfold Hid; rw [HLL.out]; exact lettersF_ok k
  clear HT HLL
  go_wp2_with fail
  go_loopw [7] (fun _ wr => ∃ (i : Nat) (m : Mg) (zs' : List Int) (e' : Int), i ≤ L.length ∧ wr.heap[w1.heap.size + 1]? = some (.stringIter (strOfNums L) i) ∧ RdAt 66 (w.heap.size + 1) w.heap.size zs' e' wr ∧ MsgAt 34 w1.heap.size (w1.heap.size + 2) m wr ∧
    wr.heap[w.heap.size]? = some (.cells #[.int .i64 0, .int .u64 0, .int .u64 0, .int .u64 0, .int .u64 0, .int .u64 0, .int .u64 0, .int .i64 0, .int .u64 0, .slice none 0 0, .int .i64 0, .slice none 0 0] 34) ∧ Below w.heap.size w wr ∧ w1.heap.size + 2 ≤ wr.heap.size ∧ Hid (fieldsOfF zs = fieldsF (L.drop i) m zs' e')) (fun _ wr => L.length - wr.iterPos (w1.heap.size + 1))
  case atStart =>
    have hbb : Below w1.heap.size w1 ((w1.alloc (.cells (MV (zeroM k) ⟨none, 0, 0⟩ ⟨none, 0, 0⟩) 34)).alloc (.stringIter (strOfNums L) 0)) := by go_grown
    have hsz0 : w1.heap.size + 2 ≤ ((w1.alloc (.cells (MV (zeroM k) ⟨none, 0, 0⟩ ⟨none, 0, 0⟩) 34)).alloc (.stringIter (strOfNums L) 0)).heap.size := by simp
    refine ⟨0, zeroM k, zs1, e1, by omega, ?_, HR1.out.below hbb (by omega) (by omega), ⟨⟨none, 0, 0⟩, ⟨none, 0, 0⟩, ?_, World.ownsRow_nil _ _ _ _, World.ownsRow_nil _ _ _ _, Nat.zero_le _, Nat.zero_le _⟩, (hbb.block _ (by omega)).trans HC.out, HB1.out.trans (hbb.mono (by omega)), hsz0, HT2.out⟩
    · have h1 := heap_alloc_new (w1.alloc (.cells (MV (zeroM k) ⟨none, 0, 0⟩ ⟨none, 0, 0⟩) 34)) (.stringIter (strOfNums L) 0)
      have e : (w1.alloc (.cells (MV (zeroM k) ⟨none, 0, 0⟩ ⟨none, 0, 0⟩) 34)).heap.size = w1.heap.size + 1 := by simp
      rw [e] at h1
      exact h1
    · exact (Below.heap_alloc _ _ _ (by simp)).trans (heap_alloc_new w1 _)
  case round =>
    obtain ⟨i, m, zs', e', hi, hit, hrd, hmsg, hres, hbel, hsz, HI⟩ := hrel
    by_cases hlt : i < L.length
    · obtain ⟨c, hc⟩ : ∃ c, L[i]? = some c := ⟨_, List.getElem?_eq_getElem hlt⟩
      have hlet := HLet.out c (List.mem_of_getElem? hc)
      have HJ : Hid (fieldsOfF zs = fieldsF (L.drop (i + 1)) (fieldF m zs' e' c).1 (fieldF m zs' e' c).2.1 (fieldF m zs' e' c).2.2) := by
        unfold Hid; rw [HI.out, fieldsF_drop hc]
      have hnx := fun ty => next_letter (P := Try.prog) ty hit hc hlet
      have hbi : But [w1.heap.size + 1] wr (wr.iterAt (w1.heap.size + 1) (strOfNums L) (i + 1)) := (But.refl _ _).iter (by simp) _ _
      have hit2 := Lib.iterAt_heap wr (w1.heap.size + 1) (strOfNums L) i (i + 1) hit
      have hpos := iterPos_at hit
      have hsi : (wr.iterAt (w1.heap.size + 1) (strOfNums L) (i + 1)).heap.size = wr.heap.size := Lib.iterAt_size _ _ _ _
      have hF := field_any (w.heap.size + 1) w1.heap.size w.heap.size (w1.heap.size + 2) m zs' e' c hlet _ (hrd.but hbi (by simp; omega) (by simp; omega) (by omega)) (hmsg.but hbi (by simp) (by simp)) (by omega) (by omega) (by omega) (by rw [hsi]; exact hsz)
      have HRes := hid ((hbi.block w.heap.size (by omega) (by simp; omega)).trans hres)
      have HBel := hid (hbel.trans (hbi.to (B := w.heap.size) (by simp; omega) (by omega)))
      have HIt := hid hit2
      have HPos := hid hpos
      clear hit hrd hmsg hres hbel hbi hit2 HI hc hlet hpos HC HB1 HR1 HT2 HRF HLet
      generalize hwi : wr.iterAt (w1.heap.size + 1) (strOfNums L) (i + 1) = wi at *
      clear hwi
      go_wp2_with fail
      refine hF.mono ?_
      rintro x w2 ⟨rfl, hrd2, hmsg2, hbt2⟩
      have HR2 := hid hrd2
      have HM2 := hid hmsg2
      have HRes2 := hid ((hbt2.block w.heap.size (by omega) (by simp; omega)).trans HRes.out)
      have HBel2 := hid (HBel.out.trans (hbt2.to (B := w.heap.size) (by simp; omega) (by omega)))
      have HIt2 := hid ((hbt2.block (w1.heap.size + 1) (by omega) (by simp; omega)).trans HIt.out)
      have hs2 := hbt2.size
      clear hrd2 hmsg2 hbt2 hF hnx
      go_wp2_with fail
      go_roundw
      case rel => exact ⟨i + 1, _, _, _, by omega, HIt2.out, HR2.out, HM2.out, HRes2.out, HBel2.out, by omega, HJ.out⟩
      case measure => rw [iterPos_at HIt2.out, HPos.out]; omega
    · have hnx := fun ty => next_done (P := Try.prog) ty hit (by omega)
      have HQ : Hid (fieldsOfF zs = (m, zs', e')) := by unfold Hid; rw [HI.out, List.drop_of_length_le (by omega), fieldsF]
      have hE := end_any (w.heap.size + 1) w.heap.size zs' e' wr hrd
      have HRead : Hid (readF zs = if (if e' ≠ 0 then e' else if zs' ≠ [] then 3 else 0) ≠ 0 then (zeroM 0, if e' ≠ 0 then e' else if zs' ≠ [] then 3 else 0) else (m, 0)) := by
        unfold Hid
        rw [HRF.out, HQ.out]
        by_cases h1 : e' = 0
        · by_cases h2 : zs' = []
          · simp [h1, h2]
          · simp [h1, h2]
        · simp [h1]
      generalize (if e' ≠ 0 then e' else if zs' ≠ [] then 3 else 0) = f at *
      obtain ⟨p, q, hblk, hp, hq, p1, q1⟩ := hmsg
      obtain ⟨c0, c1, c2, c3, c4, c5, c6, c7, c8, c9, c10, c11⟩ := MV_cells hblk
      obtain ⟨d0, d1, d2, d3, d4, d5, d6, d7, d8, d9, d10, d11⟩ := MV_cells (m := zeroM 0) (p := ⟨none, 0, 0⟩) (q := ⟨none, 0, 0⟩) hres
      have hfz := fun j => Joins.unfrozen_of_block hres j
      have HOp := hid hp
      have HOq := hid hq
      have HBel := hid hbel
      have HRes := hid hres
      clear hit hrd hblk hp hq hres hbel HI HQ HC HB1 HR1 HT2 HRF HLet
      simp only [zeroM] at d0 d1 d2 d3 d4 d5 d6 d7 d8 d9 d10 d11
      by_cases hf : f = 0
      · subst hf
        go_wp2_with fail
        refine hE.mono ?_
        rintro x w2 ⟨rfl, rfl⟩
        clear hE hnx
        go_wp2_with fail
        change bodyPost _ _ _ _ _ (setMsg w2 w.heap.size m p q)
        have hb9 := setMsg_block (m := m) (p := p) (q := q) (m0 := zeroM 0) (p0 := ⟨none, 0, 0⟩) (q0 := ⟨none, 0, 0⟩) HRes.out
        have hbt9 := setMsg_but w2 w.heap.size m p q
        clear c0 c1 c2 c3 c4 c5 c6 c7 c8 c9 c10 c11 d0 d1 d2 d3 d4 d5 d6 d7 d8 d9 d10 d11 hfz HRes
        generalize setMsg w2 w.heap.size m p q = w9 at *
        obtain ⟨c0, c1, c2, c3, c4, c5, c6, c7, c8, c9, c10, c11⟩ := MV_cells hb9
        refine bodyPost_ret (v := .tuple #[.agg (MV m p q), .int .i64 0]) (by simp [results, Try.results19, go_sem, MV, *]) rfl ⟨p, q, ?_, ?_, ?_, ?_⟩
        · rw [HRead.out, if_neg (by simp)]
        · rw [HRead.out, if_neg (by simp)]
          exact msgin_but HOp.out HOq.out p1 q1 hbt9 (by simp; omega)
        · exact HBel.out.trans (hbt9.to (by simp) HBel.out.size)
        · rw [HRead.out, if_neg (by simp)]
          have hsw := HBel.out.size
          exact (MsgOwn.but (base := w1.heap.size + 2) ⟨HOp.out, HOq.out, p1, q1⟩ hbt9 (by simp; omega)).low (by omega)
      · go_wp2_with fail
        refine hE.mono ?_
        rintro x w2 ⟨rfl, rfl⟩
        clear hE hnx c0 c1 c2 c3 c4 c5 c6 c7 c8 c9 c10 c11
        go_wp2_with fail
        change bodyPost _ _ _ _ _ (setMsg w2 w.heap.size (zeroM 0) ⟨none, 0, 0⟩ ⟨none, 0, 0⟩)
        have hb9 := setMsg_block (m := zeroM 0) (p := ⟨none, 0, 0⟩) (q := ⟨none, 0, 0⟩) (m0 := zeroM 0) (p0 := ⟨none, 0, 0⟩) (q0 := ⟨none, 0, 0⟩) HRes.out
        have hbt9 := setMsg_but w2 w.heap.size (zeroM 0) ⟨none, 0, 0⟩ ⟨none, 0, 0⟩
        clear d0 d1 d2 d3 d4 d5 d6 d7 d8 d9 d10 d11 hfz HRes
        generalize setMsg w2 w.heap.size (zeroM 0) ⟨none, 0, 0⟩ ⟨none, 0, 0⟩ = w9 at *
        obtain ⟨c0, c1, c2, c3, c4, c5, c6, c7, c8, c9, c10, c11⟩ := MV_cells hb9
        refine bodyPost_ret (v := .tuple #[.agg (MV (zeroM 0) ⟨none, 0, 0⟩ ⟨none, 0, 0⟩), .int .i64 f]) (by simp [results, Try.results19, go_sem, MV, *]) rfl ⟨⟨none, 0, 0⟩, ⟨none, 0, 0⟩, ?_, ?_, ?_, ?_⟩
        · rw [HRead.out, if_pos hf]
        · rw [HRead.out, if_pos hf]
          exact zero_in _ 0
        · exact HBel.out.trans (hbt9.to (by simp) HBel.out.size)
        · rw [HRead.out, if_pos hf]
          exact zero_own _ _ 0

end Go.Proofs.Ytlcfjhlchpeedaa
