/-
  Contract: msg.Load hands back a message's load, or ErrArg.
-/
import Derived.Test.YtlcfjhlchpeedaaLoads
namespace Go.Proofs.Ytlcfjhlchpeedaa
open Go.RowKit
open M
set_option linter.unusedVariables false
set_option maxRecDepth 1000000

theorem nums_u64 {m : Mg} {c : Int} (hc : Letter c) (hf : Fits m) (hm : mayC m c = true) : IsU64s (numsC m c) ∧ (numsC m c).length ≤ 259 := by
  rcases hc with rfl | rfl | rfl | rfl | rfl | rfl | rfl | rfl | rfl
  · exact ⟨fun x hx => by simp [numsC] at hx; subst hx; exact hf.st, by simp [numsC]⟩
  · exact ⟨fun x hx => by simp [numsC] at hx; subst hx; exact hf.se, by simp [numsC]⟩
  · exact ⟨fun x hx => by simp [numsC] at hx; subst hx; exact hf.ate, by simp [numsC]⟩
  · exact ⟨fun x hx => by simp [numsC] at hx; subst hx; exact hf.inc, by simp [numsC]⟩
  · exact ⟨fun x hx => by simp [numsC] at hx; subst hx; exact hf.n, by simp [numsC]⟩
  · exact ⟨fun x hx => by simp [numsC] at hx; subst hx; exact hf.cnt, by simp [numsC]⟩
  · have h0 : 0 ≤ m.why ∧ m.why ≤ 255 := by unfold mayC at hm; simpa using hm
    exact ⟨fun x hx => by simp [numsC] at hx; subst hx; omega, by simp [numsC]⟩
  · have h0 : (0 ≤ m.most ∧ m.most ≤ 256) ∧ toksB m.pr = true := by unfold mayC at hm; simpa using hm
    have hl := toksB_len h0.2
    refine ⟨fun x hx => ?_, by simp [numsC]; omega⟩
    simp [numsC] at hx
    rcases hx with rfl | rfl | rfl | hx
    · exact hf.seed
    · omega
    · omega
    · have := toksB_at h0.2 x hx; omega
  · have h0 : toksB m.li = true := by unfold mayC at hm; simpa using hm
    have hl := toksB_len h0
    refine ⟨fun x hx => ?_, by simp [numsC]; omega⟩
    simp [numsC] at hx
    rcases hx with rfl | hx
    · omega
    · have := toksB_at h0 x hx; omega
theorem may_parts {m : Mg} (h : mayA m = true) : (1 ≤ m.kind ∧ m.kind ≤ 12) ∧ (∀ c ∈ lettersF m.kind, mayC m c = true) := by
  have h1 := h
  rw [may_eq] at h1
  unfold mayR at h1
  unfold mayA at h
  simp only [Bool.and_eq_true, decide_eq_true_eq, List.all_eq_true] at h h1
  exact ⟨h1.1.1, h.2.1⟩
theorem take_flat {L : List Int} {i : Nat} {c : Int} (h : L[i]? = some c) (f : Int → List Int) : (L.take (i + 1)).flatMap f = (L.take i).flatMap f ++ f c := by
  obtain ⟨hlt, rfl⟩ := List.getElem?_eq_some_iff.1 h
  rw [List.take_succ_eq_append_getElem hlt, List.flatMap_append]; simp

theorem own_iter {w w' : World} {base e n I pos : Nat} {v : Value} {xs : List Value} {s : ByteArray} (h : w.ownsRow base e 1 v n xs) (hit : w.heap[I]? = some (.stringIter s pos)) (hb : But [I] w w') : w'.ownsRow base e 1 v n xs := by
  refine ⟨h.1, ?_⟩
  rcases h.2 with h' | ⟨g, cc, cur, hv, hB, hg, rest⟩
  · exact .inl h'
  · exact .inr ⟨g, cc, cur, hv, hB, (hb.block g (Array.getElem?_eq_some_iff.1 hg).1 (fun hs => by simp at hs; rw [hs, hit] at hg; cases hg)).trans hg, rest⟩

/-- What Load has done. -/
def LoadOut (m : Mg) (w : World) (x : Ending) (w' : World) : Prop :=
  (mayA m = true ∧ (∃ v', x = .returned (.tuple #[v', .int .i64 0]) ∧ w'.ownsRow w.heap.size 5 1 v' (loadF m).length ((loadF m).map (Value.int .u8))) ∧ Below w.heap.size w w') ∨
  (mayA m = false ∧ x = .returned (.tuple #[.slice none 0 0, .int .i64 1]) ∧ Below w.heap.size w w')

set_option maxHeartbeats 8000000 in
theorem load_any (m : Mg) (p q : Sl) (w : World) (hm : MsgIn w m p q) (hf : Fits m) :
    Calls Try.prog 10 #[.agg (MV m p q)] w fun x w' => LoadOut m w x w' := by
  have hM := may_any m p q _ (hm.alloc (.cells (MV m p q) 34))
  by_cases hmay : mayA m = true
  · rw [hmay] at hM
    obtain ⟨⟨k1, k2⟩, hall⟩ := may_parts hmay
    have HMay := hid hmay
    have HALL : Hid (∀ c ∈ lettersF m.kind, Letter c ∧ mayC m c = true ∧ IsU64s (numsC m c) ∧ (numsC m c).length ≤ 259) := fun c hc => ⟨lettersF_ok _ c hc, hall c hc, nums_u64 (lettersF_ok _ c hc) hf (hall c hc)⟩
    have HLD : Hid (loadF m = encsZ (m.kind :: (lettersF m.kind).flatMap (numsC m))) := rfl
    have hlen4 := lettersF_len m.kind
    have HFO : Hid (∀ W, Calls Try.prog 25 #[.int .i64 m.kind] W fun e w' => e = .returned (.string (strOfNums (lettersF m.kind))) ∧ w' = W) := fun W => fieldsof_any m.kind W
    have HIN : Hid (∀ W, Below w.heap.size w W → MsgIn W m p q) := fun W hb => hm.below hb
    have hz10 : (encsZ [m.kind]).length ≤ 10 := encsZ_len (ns := [m.kind]) (by intro x hx; simp at hx; omega)
    generalize lettersF m.kind = L at *
    clear hm hf hmay hall
    unfold MV at hM ⊢
    go_enter Try.func10, Try.ntmps10
    go_wp2_with fail
    refine hM.mono ?_
    rintro x w1 ⟨rfl, hb1⟩
    have HB1 : Hid (Below w.heap.size w w1) := (by go_grown : Below w.heap.size w _).trans (hb1.mono (by go_size))
    have HMB1 : Hid (w1.heap[w.heap.size]? = some (.cells (MV m p q) 34)) := block_below (heap_alloc_new w _) hb1
    have hs1 := HB1.out.size
    have hsl := (Array.getElem?_eq_some_iff.1 HMB1.out).1
    obtain ⟨c0, _⟩ := MV_cells HMB1.out
    have hP := put_any none 0 0 [] (some ⟨w1.heap.size, 0, none⟩) 1 1 [m.kind] (w1.alloc (.cells #[.int .u64 m.kind] 22)) (Reads.nil _ _) (Reads.one _ _ _) (by intro x hx; simp at hx; omega) (by omega) (by omega)
    have hb1a : Below w1.heap.size w1 (w1.alloc (.cells #[.int .u64 m.kind] 22)) := by go_grown
    clear hM hb1
    go_wp2_with fail
    refine hP.mono ?_
    rintro x w2 ⟨v2, rfl, how2, hb2⟩
    have hb12 := hb1a.trans (hb2.mono (by go_size))
    have HB2 := hid (HB1.out.trans (hb12.mono hs1))
    have HMB2 := hid (block_below HMB1.out hb12)
    have HO2 : Hid (w2.ownsRow w.heap.size 5 1 v2 (encsZ [m.kind]).length ((encsZ [m.kind]).map (Value.int .u8))) := by
      have h := own_base (B := w.heap.size) how2 (by simp; omega)
      rw [List.nil_append, Nat.zero_add] at h
      exact h
    obtain ⟨d0, _⟩ := MV_cells HMB2.out
    have hs2 := hb12.size
    clear hP how2 hb2 hb1a hb12 c0
    go_wp2_with fail
    refine (HFO.out _).mono ?_
    rintro x w' ⟨rfl, rfl⟩
    clear d0
    go_wp2_with fail
    go_loopw [4] (fun u wr => ∃ (i n : Nat), i ≤ L.length ∧ wr.heap[w'.heap.size]? = some (.stringIter (strOfNums L) i) ∧ wr.heap[w.heap.size]? = some (.cells (MV m p q) 34) ∧ wr.ownsRow w.heap.size 5 1 u n ((encsZ (m.kind :: (L.take i).flatMap (numsC m))).map (Value.int .u8)) ∧ n ≤ 10 + 2590 * i ∧ Below w.heap.size w wr) (fun _ wr => L.length - wr.iterPos w'.heap.size)
    case atStart =>
      have hbb : Below w'.heap.size w' (w'.alloc (.stringIter (strOfNums L) 0)) := by go_grown
      exact ⟨0, _, by omega, heap_alloc_new w' _, block_below HMB2.out hbb, own_stays HO2.out hbb, hz10, HB2.out.trans (hbb.mono (by omega))⟩
    case round =>
      obtain ⟨i, n, hi, hit, hmb, how, hn, hbel⟩ := hrel
      have hsz := (Array.getElem?_eq_some_iff.1 hit).1
      by_cases hlt : i < L.length
      · obtain ⟨c, hc⟩ : ∃ c, L[i]? = some c := ⟨_, List.getElem?_eq_getElem hlt⟩
        have hmem := List.mem_of_getElem? hc
        obtain ⟨hlet, hmc, hu, hnl⟩ := HALL.out c hmem
        have HFl : Hid (encsZ (m.kind :: (L.take (i + 1)).flatMap (numsC m)) = encsZ (m.kind :: (L.take i).flatMap (numsC m)) ++ encsZ (numsC m c)) := by
          unfold Hid; rw [take_flat hc, ← encsZ_append]; rfl
        have hel : (encsZ (numsC m c)).length ≤ 10 * (numsC m c).length := encsZ_len hu
        have hnx := fun ty => next_letter (P := Try.prog) ty hit hc hlet
        have hbi : But [w'.heap.size] wr (wr.iterAt w'.heap.size (strOfNums L) (i + 1)) := (But.refl _ _).iter (by simp) _ _
        have hit2 := Lib.iterAt_heap wr w'.heap.size (strOfNums L) i (i + 1) hit
        have HPos := hid (iterPos_at hit)
        have hsi : (wr.iterAt w'.heap.size (strOfNums L) (i + 1)).heap.size = wr.heap.size := Lib.iterAt_size _ _ _ _
        have hbel2 := hbel.trans (hbi.to (B := w.heap.size) (by simp; omega) (by omega))
        have hmb2 := (hbi.block w.heap.size (by omega) (by simp; omega)).trans hmb
        have how2 := own_iter how hit hbi
        clear hit hmb how hbel hbi hc
        generalize hwi : wr.iterAt w'.heap.size (strOfNums L) (i + 1) = wi at *
        clear hwi
        have hN := numbersof_any m p q c hlet wi (HIN.out wi hbel2) hmc
        unfold MV at hN
        obtain ⟨c0, c1, c2, c3, c4, c5, c6, c7, c8, c9, c10, c11⟩ := MV_cells hmb2
        obtain ⟨a1, k1', rfl, hr1⟩ := Reads.own how2
        have HMB := hid hmb2
        have HIT := hid hit2
        have HB := hid hbel2
        have HO := hid hr1
        have HU := hid hu
        generalize numsC m c = ns at *
        clear hmb2 hit2 hbel2 how2 hr1 hu
        go_wp2_with fail
        refine hN.mono ?_
        rintro x w3 ⟨v3, rfl, how3, hb3⟩
        obtain ⟨a3, k3, rfl, hr3⟩ := Reads.own how3
        have HMB3 := hid (block_below HMB.out hb3)
        have HIT3 := hid (block_below HIT.out hb3)
        have HB3 := hid (HB.out.trans (hb3.mono HB.out.size))
        have hP := put_any a1 n k1' _ a3 _ k3 ns w3 (HO.out.below hb3) hr3 HU.out (by omega) (by omega)
        have hs3 := HB3.out.size
        clear hN hnx c0 c1 c2 c3 c4 c5 c6 c7 c8 c9 c10 c11 HMB HIT HB HO how3 hr3 hb3
        go_wp2_with fail
        refine hP.mono ?_
        rintro x w4 ⟨v4, rfl, how4, hb4⟩
        have HMB4 := hid (block_below HMB3.out hb4)
        have HIT4 := hid (block_below HIT3.out hb4)
        have HB4 := hid (HB3.out.trans (hb4.mono HB3.out.size))
        have HO4 := hid (own_base (B := w.heap.size) how4 hs3)
        clear hP how4 hb4 HMB3 HIT3 HB3
        go_wp2_with fail
        go_roundw
        case rel => exact ⟨i + 1, _, by omega, HIT4.out, HMB4.out, by rw [HFl.out]; exact HO4.out, by omega, HB4.out⟩
        case measure => rw [iterPos_at HIT4.out, HPos.out]; omega
      · have hnx := fun ty => next_done (P := Try.prog) ty hit (by omega)
        have HF : Hid (encsZ (m.kind :: (L.take i).flatMap (numsC m)) = loadF m) := by unfold Hid; rw [List.take_of_length_le (by omega), HLD.out]
        have HO := hid how
        have HB := hid hbel
        clear hit hmb how hbel
        go_wp2_with fail
        go_ret2
        refine .inl ⟨HMay.out, ⟨_, rfl, ?_⟩, HB.out⟩
        have h := HO.out
        rw [HF.out] at h
        have hl : (loadF m).length = n := by have := h.1; simpa using this
        rw [hl]
        exact h
  · have hmf : mayA m = false := by simpa using hmay
    rw [hmf] at hM
    have HMF := hid hmf
    clear hm hf hmay hmf
    unfold MV at hM ⊢
    go_enter Try.func10, Try.ntmps10
    go_wp2_with fail
    refine hM.mono ?_
    rintro x w1 ⟨rfl, hb1⟩
    have HB1 : Hid (Below w.heap.size w w1) := (by go_grown : Below w.heap.size w _).trans (hb1.mono (by go_size))
    clear hM hb1
    go_wp2
    go_ret2
    exact .inr ⟨HMF.out, rfl, HB1.out⟩

end Go.Proofs.Ytlcfjhlchpeedaa
