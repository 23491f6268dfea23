/-
  Contract: the document's Load hands back a message's load, or ErrArg.
-/
import Derived.Test.YtlcfjhlchpeedaaRMays
import Derived.Test.YtlcfjhlchpeedaaRPuts
import Derived.Test.YtlcfjhlchpeedaaRNums
import Derived.Test.YtlcfjhlchpeedaaBytes
import Derived.Deep.RegionHeldLaw
import Derived.Deep.RegionWith
namespace Go.Proofs.Ytlcfjhlchpeedaa
open Go.RowKit
open M
set_option linter.unusedVariables false
set_option maxRecDepth 1000000

theorem nums_pos {m : Mg} {c : Int} (hc : Letter c) : 0 < (numsC m c).length := by
  rcases hc with rfl | rfl | rfl | rfl | rfl | rfl | rfl | rfl | rfl <;> simp [numsC]

/-- How it stands at the loop's head: the argument, and the numbers so far. -/
def LRel (m : Mg) (p q : Sl) (w : World) (L : List Int) (u iv : Value) (wr : World) : Prop :=
  ∃ (j n : Nat), j ≤ L.length ∧ iv = .int .i64 j ∧ wr.heap[w.heap.size]? = some (.cells (MV m p q) 27) ∧ wr.ownsRow (w.heap.size + 1) 22 1 u n ((m.kind :: (L.take j).flatMap (numsC m)).map (Value.int .u64)) ∧ n ≤ 1 + 259 * j ∧ Below w.heap.size w wr
theorem cast_lrel {m : Mg} {p q : Sl} {w : World} {L : List Int} {u a b : Value} {wr : World} (h : a = b) (k : LRel m p q w L u b wr) : LRel m p q w L u a wr := h ▸ k
/-- Behind the table's look-up. -/
def LCut (m : Mg) (p q : Sl) (w : World) (u : Value) (wx : World) : Prop :=
  wx.heap[w.heap.size]? = some (.cells (MV m p q) 27) ∧ wx.ownsRow (w.heap.size + 1) 22 1 u 1 ([m.kind].map (Value.int .u64)) ∧ Below w.heap.size w wx

set_option maxHeartbeats 8000000 in
theorem rload_any (m : Mg) (p q : Sl) (w : World) (hm : MsgIn w m p q) (hf : Fits m) :
    Calls Try.prog 12 #[.agg (MV m p q)] w (LoadOut m w) := by
  have hM := rmay_any m p q _ (hm.alloc (.cells (MV m p q) 27))
  rw [← may_eq] at hM
  by_cases hmay : mayA m = true
  · rw [hmay] at hM
    obtain ⟨⟨k1, k2⟩, hall⟩ := may_parts hmay
    have HMay := hid hmay
    have HALL : Hid (∀ c ∈ lettersF m.kind, Letter c ∧ mayC m c = true ∧ IsU64s (numsC m c) ∧ (numsC m c).length ≤ 259) := fun c hc => ⟨lettersF_ok _ c hc, hall c hc, nums_u64 (lettersF_ok _ c hc) hf (hall c hc)⟩
    have HLD : Hid (loadF m = encsZ (m.kind :: (lettersF m.kind).flatMap (numsC m))) := rfl
    have HU : Hid (IsU64s (m.kind :: (lettersF m.kind).flatMap (numsC m))) := by
      intro x hx
      rcases List.mem_cons.1 hx with rfl | hx
      · omega
      · obtain ⟨c, hc, hxc⟩ := List.mem_flatMap.1 hx
        exact (HALL.out c hc).2.2.1 x hxc
    have HIN : Hid (∀ W, Below w.heap.size w W → MsgIn W m p q) := fun W hb => hm.below hb
    obtain ⟨L, HLL⟩ : ∃ L, Hid (L = lettersF m.kind) := ⟨_, rfl⟩
    have hss := strOfNums_size L
    have hl4 : L.length ≤ 4 := by rw [HLL.out]; exact lettersF_len _
    rw [← HLL.out] at HALL HLD HU
    obtain ⟨i0, hi, hz0, hz1, hz2⟩ := info_parts Try.info22
    have HLK : Hid (lettersF ((m.kind.toNat : Nat) : Int) = L) := by unfold Hid; rw [HLL.out, Int.toNat_of_nonneg (by omega)]
    have hk12 : m.kind.toNat ≤ 12 := by omega
    clear hm hf hmay hall
    unfold MV at hM ⊢
    go_enter Try.func12, Try.ntmps12
    go_wp2_with fail
    refine hM.mono ?_
    rintro x w1 ⟨rfl, hb1⟩
    have HB1 : Hid (Below w.heap.size w w1) := (by go_grown : Below w.heap.size w _).trans (hb1.mono (by go_size))
    have HMB1 : Hid (w1.heap[w.heap.size]? = some (.cells (MV m p q) 27)) := block_below (heap_alloc_new w _) hb1
    have hs1 := HB1.out.size
    have hsl := (Array.getElem?_eq_some_iff.1 HMB1.out).1
    obtain ⟨c0, _⟩ := MV_cells HMB1.out
    have hb1a : Below w1.heap.size w1 (w1.alloc (.cells #[.int .u64 m.kind] 22)) := by go_grown
    have HMB1a : Hid ((w1.alloc (.cells #[.int .u64 m.kind] 22)).heap[w.heap.size]? = some (.cells (MV m p q) 27)) := block_below HMB1.out hb1a
    have HK1 : Hid ((w1.alloc (.cells #[.int .u64 m.kind] 22)).cell? ⟨w.heap.size, 0, none⟩ = some (.int .i64 m.kind)) := (MV_cells HMB1a.out).1
    have HO1 : Hid ((w1.alloc (.cells #[.int .u64 m.kind] 22)).ownsRow (w.heap.size + 1) 22 1 (.slice (some ⟨w1.heap.size, 0, none⟩) 1 1) 1 ([m.kind].map (Value.int .u64))) := own_base (own_litK .u64 w1 [m.kind] 22 (by simp)) hsl
    have HB1a := hid (HB1.out.trans (hb1a.mono hs1))
    clear hM hb1 hb1a
    go_wp2_with fail
    clear c0
    go_cut [5] (fun v wx => v = .string (strOfNums L) ∧ LCut m p q w (.slice (some ⟨w1.heap.size, 0, none⟩) 1 1) wx)
    case first =>
      have hck0 := HK1.out
      go_region_with (first | (go_at_call 27; refine (fields_any _).mono ?_; rintro x w2 ⟨g, rfl, hcl, hb2⟩; have hck := hcl m.kind.toNat hk12; rw [HLK.out] at hck; have hS2 : w2.cell? ⟨w.heap.size, 0, none⟩ = some (.int .i64 m.kind) := (hb2.cell (by go_size)).trans hck0))
      all_goals
        have hbd := Below.drew (Below.refl (w1.alloc (.cells #[.int .u64 m.kind] 22)).heap.size (w1.alloc (.cells #[.int .u64 m.kind] 22))) |>.trans hb2
        have HCut : Hid (LCut m p q w (.slice (some ⟨w1.heap.size, 0, none⟩) 1 1) w2) := ⟨block_below HMB1a.out hbd, own_stays HO1.out hbd, HB1a.out.trans (hbd.mono HB1a.out.size)⟩
        clear hcl hb2 hbd hS2 HB1a HMB1a HK1 HO1
        go_wp2_with fail
        go_meet
        exact ⟨by first | rfl | rw [HLL.out, show max m.kind 0 = m.kind by omega], HCut.out⟩
    case rest =>
      obtain ⟨rfl, hcut⟩ := hcut
      have HCut := hid hcut
      clear hcut HB1 HMB1 HMB1a HK1 HO1 HB1a
      go_wp2_with fail
      go_loopw [4, 6] (fun u iv wr => LRel m p q w L u iv wr) (fun _ iv _ => L.length - (intOf iv).toNat)
      case atStart =>
        obtain ⟨h1, h2, h3⟩ := HCut.out
        exact ⟨0, 1, by omega, rfl, h1, h2, by omega, h3⟩
      case round =>
        clear HCut
        rename_i u iv
        obtain ⟨j, n, hj, rfl, hA, how, hn, hbel⟩ := hrel
        have hsz := hbel.size
        have hszA : w.heap.size + 1 ≤ wr.heap.size := (Array.getElem?_eq_some_iff.1 hA).1
        have HA := hid hA
        have HO := hid how
        have HBel := hid hbel
        by_cases hlt : j < L.length
        · obtain ⟨c, hc⟩ : ∃ c, L[j]? = some c := ⟨_, List.getElem?_eq_getElem hlt⟩
          obtain ⟨hlet, hmc, hu, hnl⟩ := HALL.out c (List.mem_of_getElem? hc)
          have hnp := nums_pos (m := m) hlet
          have HFl : Hid (m.kind :: (L.take (j + 1)).flatMap (numsC m) = (m.kind :: (L.take j).flatMap (numsC m)) ++ numsC m c) := by
            unfold Hid; rw [take_flat hc]; rfl
          have hix := fun W => index_letter (P := Try.prog) 9 W Try.underlying9 hc hlet
          have HN : Hid (∀ W, Below w.heap.size w W → Calls Try.prog 28 #[.agg (MV m p q), .int .u8 c] W fun e w' => ∃ v', e = .returned v' ∧ w'.ownsRow W.heap.size 22 1 v' (numsC m c).length ((numsC m c).map (Value.int .u64)) ∧ Below W.heap.size W w') := fun W hb => rnums_any m p q c hlet W (HIN.out W hb) hmc
          have HSS : Hid (∀ W, Below wr.heap.size wr W → W.cell? ⟨w.heap.size, 0, none⟩ = some (.int .i64 m.kind) ∧ W.cell? ⟨w.heap.size, 1, none⟩ = some (.int .u64 m.st) ∧ W.cell? ⟨w.heap.size, 2, none⟩ = some (.int .u64 m.se) ∧ W.cell? ⟨w.heap.size, 3, none⟩ = some (.int .u64 m.ate) ∧ W.cell? ⟨w.heap.size, 4, none⟩ = some (.int .u64 m.inc) ∧ W.cell? ⟨w.heap.size, 5, none⟩ = some (.int .u64 m.n) ∧ W.cell? ⟨w.heap.size, 6, none⟩ = some (.int .u64 m.cnt) ∧ W.cell? ⟨w.heap.size, 7, none⟩ = some (.int .i64 m.why) ∧ W.cell? ⟨w.heap.size, 8, none⟩ = some (.int .u64 m.seed) ∧ W.cell? ⟨w.heap.size, 9, none⟩ = some (.slice p.a p.l p.c) ∧ W.cell? ⟨w.heap.size, 10, none⟩ = some (.int .i64 m.most) ∧ W.cell? ⟨w.heap.size, 11, none⟩ = some (.slice q.a q.l q.c)) := fun W hb => MV_cells (block_below HA.out hb)
          have hcD : Below wr.heap.size wr wr.drew := (Below.refl _ _).drew
          have hnq : n + (numsC m c).length ≤ 1 + 259 * (j + 1) := by omega
          clear hA how hbel hc hu HALL HMay HIN HLL HLK hmc
          generalize numsC m c = ns at *
          generalize hXS : m.kind :: (L.take j).flatMap (numsC m) = xs at *
          clear hXS
          go_wp2_with fail
          have HBLK : Hid (∀ W W', Below wr.heap.size wr W → Below (w.heap.size + 1) W W' → W'.heap[w.heap.size]? = some (.cells (MV m p q) 27)) := fun W W' h1 h2 => (h2.block _ (by omega)).trans (block_below HA.out h1)
          have HSZ : Hid (∀ W W', Below wr.heap.size wr W → Below (w.heap.size + 1) W W' → W'.cell? ⟨w.heap.size, 0, none⟩ = some (.int .i64 m.kind) ∧ W'.cell? ⟨w.heap.size, 1, none⟩ = some (.int .u64 m.st) ∧ W'.cell? ⟨w.heap.size, 2, none⟩ = some (.int .u64 m.se) ∧ W'.cell? ⟨w.heap.size, 3, none⟩ = some (.int .u64 m.ate) ∧ W'.cell? ⟨w.heap.size, 4, none⟩ = some (.int .u64 m.inc) ∧ W'.cell? ⟨w.heap.size, 5, none⟩ = some (.int .u64 m.n) ∧ W'.cell? ⟨w.heap.size, 6, none⟩ = some (.int .u64 m.cnt) ∧ W'.cell? ⟨w.heap.size, 7, none⟩ = some (.int .i64 m.why) ∧ W'.cell? ⟨w.heap.size, 8, none⟩ = some (.int .u64 m.seed) ∧ W'.cell? ⟨w.heap.size, 9, none⟩ = some (.slice p.a p.l p.c) ∧ W'.cell? ⟨w.heap.size, 10, none⟩ = some (.int .i64 m.most) ∧ W'.cell? ⟨w.heap.size, 11, none⟩ = some (.slice q.a q.l q.c)) := fun W W' h1 h2 => MV_cells (HBLK.out W W' h1 h2)
          go_region_held_law (fun W : World => W.cell? ⟨w.heap.size, 0, none⟩ = some (.int .i64 m.kind) ∧ W.cell? ⟨w.heap.size, 1, none⟩ = some (.int .u64 m.st) ∧ W.cell? ⟨w.heap.size, 2, none⟩ = some (.int .u64 m.se) ∧ W.cell? ⟨w.heap.size, 3, none⟩ = some (.int .u64 m.ate) ∧ W.cell? ⟨w.heap.size, 4, none⟩ = some (.int .u64 m.inc) ∧ W.cell? ⟨w.heap.size, 5, none⟩ = some (.int .u64 m.n) ∧ W.cell? ⟨w.heap.size, 6, none⟩ = some (.int .u64 m.cnt) ∧ W.cell? ⟨w.heap.size, 7, none⟩ = some (.int .i64 m.why) ∧ W.cell? ⟨w.heap.size, 8, none⟩ = some (.int .u64 m.seed) ∧ W.cell? ⟨w.heap.size, 9, none⟩ = some (.slice p.a p.l p.c) ∧ W.cell? ⟨w.heap.size, 10, none⟩ = some (.int .i64 m.most) ∧ W.cell? ⟨w.heap.size, 11, none⟩ = some (.slice q.a q.l q.c)) (first | (with_reducible exact HSZ.out _ _ hcX hb4) | (with_reducible exact HSS.out _ hcX) | (with_reducible exact HSS.out _ hcD)) (first | (go_at_call 28; refine (HN.out _ (HBel.out.trans (hcD.mono hsz))).mono ?_; rintro x w3 ⟨v3, rfl, how3, hb3⟩; have hcX := hcD.trans hb3; obtain ⟨a3, k3, rfl, hr3⟩ := Reads.own how3; obtain ⟨b3, o3, rfl, _⟩ := hr3.cell 0 hnp) | (refine step_append_reads (by rfl) 31 (by rfl) (.tmp 25) (.tmp 30) 50 (by rfl) (w.heap.size + 1) 22 i0 (.int .u64 0) 8 Try.underlying50 hi hz0 hz1 hz2 rfl .u64 _ n xs (by rfl) (own_stays HO.out hcX) _ _ _ ns (by rfl) hr3 hnp (by omega) (by omega) (Nat.le_trans hszA hcX.size) ?_; intro v4 w4 how4 hb4))
          all_goals
            have HREL : Hid (LRel m p q w L v4 (.int .i64 ((j + 1 : Nat) : Int)) w4) :=
              ⟨j + 1, _, by omega, rfl, HBLK.out _ _ hcX hb4, by rw [HFl.out]; exact how4, hnq, HBel.out.trans ((hcX.mono hsz).trans (hb4.mono (by omega)))⟩
            clear hcX hr3 how4 hb4 how3 hb3
            go_wp2_with fail
            go_roundw
            case rel => exact cast_lrel (by go_num) HREL.out
            case measure => simp [intOf]; omega
        · have HF : Hid (m.kind :: (L.take j).flatMap (numsC m) = m.kind :: L.flatMap (numsC m)) := by unfold Hid; rw [List.take_of_length_le (by omega)]
          rw [HF.out] at how
          obtain ⟨a1, k1', rfl, hr1⟩ := Reads.own how
          have hP := rput_any none 0 0 [] a1 n k1' _ wr (Reads.nil _ _) hr1 HU.out (by omega) (by omega)
          rw [List.nil_append, Nat.zero_add, ← HLD.out] at hP
          clear hA how hbel hr1 HALL HO HA
          go_wp2_with fail
          refine hP.mono ?_
          rintro x w4 ⟨v4, rfl, how4, hb4⟩
          have HO4 := hid (own_base (B := w.heap.size) how4 hsz)
          have HB4 := hid (HBel.out.trans (hb4.mono hsz))
          clear hP how4 hb4
          go_wp2_with fail
          go_ret2
          exact .inl ⟨HMay.out, ⟨_, rfl, HO4.out⟩, HB4.out⟩
  · have hmf : mayA m = false := by simpa using hmay
    rw [hmf] at hM
    have HF := hid hmf
    clear hm hf hmay hmf
    unfold MV at hM ⊢
    go_enter Try.func12, Try.ntmps12
    go_wp2_with fail
    refine hM.mono ?_
    rintro x w1 ⟨rfl, hb1⟩
    have HB1 : Hid (Below w.heap.size w w1) := (by go_grown : Below w.heap.size w _).trans (hb1.mono (by go_size))
    clear hM hb1
    go_wp2_with fail
    go_ret2
    exact .inr ⟨HF.out, rfl, HB1.out⟩

end Go.Proofs.Ytlcfjhlchpeedaa
