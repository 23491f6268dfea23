/-
  Contracts: msg.May tells whether a message may be; msg.Load hands back its load, or ErrArg.
-/
import Derived.Test.YtlcfjhlchpeedaaRead
import Derived.Test.YtlcfjhlchpeedaaSames
namespace Go.Proofs.Ytlcfjhlchpeedaa
open Go.RowKit
open M
set_option linter.unusedVariables false
set_option maxRecDepth 1000000

theorem MsgIn.wo {w : World} {m : Mg} {p q : Sl} (h : MsgIn w m p q) {c : Int} (hc : Letter c) : MsgIn w (wo m c) (woP p c) (woQ q c) := by
  rcases hc with rfl | rfl | rfl | rfl | rfl | rfl | rfl | rfl | rfl
  iterate 7 exact ⟨h.pr, h.li, h.hp, h.hq⟩
  · exact ⟨Reads.nil _ _, h.li, Nat.zero_le _, h.hq⟩
  · exact ⟨h.pr, Reads.nil _ _, h.hp, Nat.zero_le _⟩
theorem take_all {L : List Int} {i : Nat} {c : Int} (h : L[i]? = some c) (f : Int → Bool) : (L.take (i + 1)).all f = ((L.take i).all f && f c) := by
  obtain ⟨hlt, rfl⟩ := List.getElem?_eq_some_iff.1 h
  rw [List.take_succ_eq_append_getElem hlt, List.all_append]; simp
theorem take_foldl {L : List Int} {i : Nat} {c : Int} (h : L[i]? = some c) {f : Mg → Int → Mg} (m : Mg) : (L.take (i + 1)).foldl f m = f ((L.take i).foldl f m) c := by
  obtain ⟨hlt, rfl⟩ := List.getElem?_eq_some_iff.1 h
  rw [List.take_succ_eq_append_getElem hlt, List.foldl_append]; rfl
theorem bad_all {L : List Int} {c : Int} (h : c ∈ L) {f : Int → Bool} (hf : f c = false) : L.all f = false := by
  rw [List.all_eq_false]; exact ⟨c, h, by simp [hf]⟩
theorem str_some {L : List Int} (h : L ≠ []) : (strOfNums L).toList.isEmpty = false := by
  rw [ByteArray.toList_eq, strOfNums_data]
  cases L with
  | nil => exact absurd rfl h
  | cons x l => rfl
theorem block_below {w w' : World} {k : Nat} {o : Obj} (h : w.heap[k]? = some o) (hb : Below w.heap.size w w') : w'.heap[k]? = some o := (hb.block k (Array.getElem?_eq_some_iff.1 h).1).trans h

set_option maxHeartbeats 8000000 in
theorem may_any (m : Mg) (p q : Sl) (w : World) (hm : MsgIn w m p q) :
    Calls Try.prog 15 #[.agg (MV m p q)] w fun x w' => x = .returned (.bool (mayA m)) ∧ Below w.heap.size w w' := by
  obtain ⟨L, HLL⟩ : ∃ L, Hid (L = lettersF m.kind) := ⟨_, rfl⟩
  have hFO := fieldsof_any m.kind (w.alloc (.cells (MV m p q) 34))
  rw [← HLL.out] at hFO
  have HMA : Hid (mayA m = (!L.isEmpty && (L.all (mayC m) && sameB (L.foldl wo m) (zeroM m.kind)))) := by unfold Hid mayA; rw [HLL.out]
  have HLet : Hid (∀ c ∈ L, Letter c) := by unfold Hid; rw [HLL.out]; exact lettersF_ok m.kind
  have HIN : Hid (∀ W, Below w.heap.size w W → MsgIn W m p q) := fun W hb => hm.below hb
  unfold MV at hFO
  clear hm HLL
  by_cases hL : L = []
  · subst hL
    have HF : Hid (mayA m = false) := by unfold Hid; rw [HMA.out]; rfl
    rw [show strOfNums [] = ⟨#[]⟩ from rfl] at hFO
    unfold MV
    go_enter Try.func15, Try.ntmps15
    go_wp2_with fail
    refine hFO.mono ?_
    rintro x w' ⟨rfl, rfl⟩
    go_wp2
    go_ret
    exact ⟨ret_bool HF.out.symm, by go_grown⟩
  · have hne := str_some hL
    have HME : Hid (L.isEmpty = false) := by unfold Hid; simpa using hL
    unfold MV
    go_enter Try.func15, Try.ntmps15
    go_wp2_with fail
    refine hFO.mono ?_
    rintro x w' ⟨rfl, rfl⟩
    clear hFO
    go_wp2_with fail
    clear hne
    go_loopw [6] (fun _ wr => ∃ (i : Nat) (rest : Mg) (p' q' : Sl), i ≤ L.length ∧ wr.heap[w.heap.size + 2]? = some (.stringIter (strOfNums L) i) ∧ wr.heap[w.heap.size]? = some (.cells (MV m p q) 34) ∧ wr.heap[w.heap.size + 1]? = some (.cells (MV rest p' q') 34) ∧ Hid (∀ W, Below w.heap.size w W → MsgIn W rest p' q') ∧ Below w.heap.size w wr ∧ Hid ((L.take i).all (mayC m) = true) ∧ Hid (rest = (L.take i).foldl wo m)) (fun _ wr => L.length - wr.iterPos (w.heap.size + 2))
    case atStart =>
      have hbb : Below w.heap.size w (((w.alloc (.cells (MV m p q) 34)).alloc (.cells (MV m p q) 34)).alloc (.stringIter (strOfNums L) 0)) := by go_grown
      refine ⟨0, m, p, q, by omega, ?_, ?_, ?_, HIN.out, hbb, by unfold Hid; simp, by unfold Hid; rfl⟩
      · have h1 := heap_alloc_new ((w.alloc (.cells (MV m p q) 34)).alloc (.cells (MV m p q) 34)) (.stringIter (strOfNums L) 0)
        have e : ((w.alloc (.cells (MV m p q) 34)).alloc (.cells (MV m p q) 34)).heap.size = w.heap.size + 2 := by simp
        rw [e] at h1
        exact h1
      · exact (Below.heap_alloc _ _ _ (by simp; omega)).trans ((Below.heap_alloc _ _ _ (by simp)).trans (heap_alloc_new w _))
      · have h1 := heap_alloc_new (w.alloc (.cells (MV m p q) 34)) (.cells (MV m p q) 34)
        have e : (w.alloc (.cells (MV m p q) 34)).heap.size = w.heap.size + 1 := by simp
        rw [e] at h1
        exact (Below.heap_alloc _ _ _ (by simp)).trans h1
    case round =>
      obtain ⟨i, rest, p', q', hi, hit, hmb, hrb, HRIN, hbel, HA, HR⟩ := hrel
      have hsz := (Array.getElem?_eq_some_iff.1 hit).1
      by_cases hlt : i < L.length
      · obtain ⟨c, hc⟩ : ∃ c, L[i]? = some c := ⟨_, List.getElem?_eq_getElem hlt⟩
        have hmem := List.mem_of_getElem? hc
        have hlet := HLet.out c hmem
        have HA2 := hid (take_all hc (mayC m))
        have HR2 : Hid ((L.take (i + 1)).foldl wo m = wo rest c) := by unfold Hid; rw [take_foldl hc, HR.out]
        have HBad : Hid (mayC m c = false → mayA m = false) := fun hf => by rw [HMA.out, bad_all hmem hf]; simp
        have hnx := fun ty => next_letter (P := Try.prog) ty hit hc hlet
        have hbi : But [w.heap.size + 2] wr (wr.iterAt (w.heap.size + 2) (strOfNums L) (i + 1)) := (But.refl _ _).iter (by simp) _ _
        have hit2 := Lib.iterAt_heap wr (w.heap.size + 2) (strOfNums L) i (i + 1) hit
        have HPos := hid (iterPos_at hit)
        have hsi : (wr.iterAt (w.heap.size + 2) (strOfNums L) (i + 1)).heap.size = wr.heap.size := Lib.iterAt_size _ _ _ _
        have hbel2 := hbel.trans (hbi.to (B := w.heap.size) (by simp) (by omega))
        have hmb2 := (hbi.block w.heap.size (by omega) (by simp)).trans hmb
        have hrb2 := (hbi.block (w.heap.size + 1) (by omega) (by simp)).trans hrb
        clear hit hmb hrb hbel hbi hc
        generalize hwi : wr.iterAt (w.heap.size + 2) (strOfNums L) (i + 1) = wi at *
        clear hwi
        have hM := fieldmay_any m p q c hlet wi (HIN.out wi hbel2)
        unfold MV at hM
        obtain ⟨c0, c1, c2, c3, c4, c5, c6, c7, c8, c9, c10, c11⟩ := MV_cells hmb2
        have HMB := hid hmb2
        have HRB := hid hrb2
        have HIT := hid hit2
        have HB := hid hbel2
        clear hmb2 hrb2 hit2 hbel2
        by_cases hcm : mayC m c = true
        · rw [hcm] at hM
          have HA3 : Hid ((L.take (i + 1)).all (mayC m) = true) := by unfold Hid; rw [HA2.out, HA.out, hcm]; rfl
          clear hcm
          go_wp2_with fail
          refine hM.mono ?_
          rintro x w2 ⟨rfl, hb2⟩
          have HMB2 := hid (block_below HMB.out hb2)
          have HRB2 := hid (block_below HRB.out hb2)
          have HIT2 := hid (block_below HIT.out hb2)
          have HB2 := hid (HB.out.trans (hb2.mono HB.out.size))
          obtain ⟨d0, d1, d2, d3, d4, d5, d6, d7, d8, d9, d10, d11⟩ := MV_cells HRB2.out
          have hW := without_any rest p' q' c hlet w2
          unfold MV at hW
          clear hM hnx c0 c1 c2 c3 c4 c5 c6 c7 c8 c9 c10 c11 HMB HRB HIT HB hb2
          go_wp2_with fail
          refine hW.mono ?_
          rintro x w3 ⟨rfl, hb3⟩
          have HMB3 := hid (block_below HMB2.out hb3)
          have HRB3 := hid (block_below HRB2.out hb3)
          have HIT3 := hid (block_below HIT2.out hb3)
          have HB3 := hid (HB2.out.trans (hb3.mono HB2.out.size))
          clear hW d0 d1 d2 d3 d4 d5 d6 d7 d8 d9 d10 d11 HMB2 HRB2 HIT2 HB2 hb3
          have HRN : Hid (∀ W, Below w.heap.size w W → MsgIn W (wo rest c) (woP p' c) (woQ q' c)) := fun W hW => (HRIN.out W hW).wo hlet
          obtain ⟨d0, d1, d2, d3, d4, d5, d6, d7, d8, d9, d10, d11⟩ := MV_cells HRB3.out
          have hfz := fun j => Joins.unfrozen_of_block HRB3.out j
          generalize wo rest c = rest2 at *
          generalize woP p' c = p2 at *
          generalize woQ q' c = q2 at *
          go_wp2_with fail
          go_roundw
          case rel =>
            have hbt := setMsg_but w3 (w.heap.size + 1) rest2 p2 q2
            have h3 := hbt.size
            exact ⟨i + 1, rest2, p2, q2, by omega, (hbt.block _ (Array.getElem?_eq_some_iff.1 HIT3.out).1 (by simp)).trans HIT3.out, (hbt.block _ (Array.getElem?_eq_some_iff.1 HMB3.out).1 (by simp)).trans HMB3.out, setMsg_block HRB3.out, HRN, HB3.out.trans (hbt.to (by simp) HB3.out.size), HA3, HR2.out.symm⟩
          case measure =>
            have hbt := setMsg_but w3 (w.heap.size + 1) rest2 p2 q2
            have h4 := iterPos_at ((hbt.block _ (Array.getElem?_eq_some_iff.1 HIT3.out).1 (by simp)).trans HIT3.out)
            unfold setMsg at h4
            rw [h4, HPos.out]
            omega
        · have hcf : mayC m c = false := by simpa using hcm
          have HF := hid (HBad.out hcf)
          rw [hcf] at hM
          clear hcm hcf
          go_wp2_with fail
          refine hM.mono ?_
          rintro x w2 ⟨rfl, hb2⟩
          have HB2 := hid (HB.out.trans (hb2.mono HB.out.size))
          clear hM hnx c0 c1 c2 c3 c4 c5 c6 c7 c8 c9 c10 c11 hb2
          go_wp2_with fail
          go_ret
          exact ⟨ret_bool HF.out.symm, HB2.out⟩
      · have hnx := fun ty => next_done (P := Try.prog) ty hit (by omega)
        have HAll : Hid (L.all (mayC m) = true) := by
          have := HA.out
          rwa [List.take_of_length_le (by omega)] at this
        have HRR : Hid (rest = L.foldl wo m) := by
          have := HR.out
          rwa [List.take_of_length_le (by omega)] at this
        have HFin : Hid (mayA m = sameB rest (zeroM m.kind)) := by unfold Hid; rw [HMA.out, HME.out, HAll.out, HRR.out]; simp
        have hS := same_any rest (zeroM m.kind) p' q' ⟨none, 0, 0⟩ ⟨none, 0, 0⟩ wr (HRIN.out wr hbel) (zero_in wr _)
        rw [← HFin.out, MV_zero] at hS
        unfold MV at hS
        obtain ⟨c0, c1, c2, c3, c4, c5, c6, c7, c8, c9, c10, c11⟩ := MV_cells hmb
        obtain ⟨d0, d1, d2, d3, d4, d5, d6, d7, d8, d9, d10, d11⟩ := MV_cells hrb
        clear c1 c2 c3 c4 c5 c6 c7 c8 c9 c10 c11 hmb hrb hit
        have HB := hid hbel
        clear hbel
        go_wp2_with fail
        refine hS.mono ?_
        rintro x w2 ⟨rfl, hb2⟩
        have HB2 := hid (HB.out.trans (hb2.mono HB.out.size))
        clear hS hnx hb2 c0 d0 d1 d2 d3 d4 d5 d6 d7 d8 d9 d10 d11
        go_wp2_with fail
        go_ret
        exact ⟨rfl, HB2.out⟩

end Go.Proofs.Ytlcfjhlchpeedaa
