/-
  Contracts: reader.list hands back the tokens that come next, in memory of the call's own; reader.job the job; reader.kind the kind; reader.end the error.
-/
import Derived.Test.YtlcfjhlchpeedaaRds
namespace Go.Proofs.Ytlcfjhlchpeedaa
open Go.RowKit
open M
set_option linter.unusedVariables false
set_option maxRecDepth 1000000

theorem own_but {w w' : World} {base e n : Nat} {v : Value} {xs : List Value} {S : List Nat} (h : w.ownsRow base e 1 v n xs) (hb : But S w w') (hS : ∀ s ∈ S, s < base) : w'.ownsRow base e 1 v n xs := by
  refine ⟨h.1, ?_⟩
  rcases h.2 with h' | ⟨g, c, cur, hv, hB, hg, rest⟩
  · exact .inl h'
  · exact .inr ⟨g, c, cur, hv, hB, (hb.block g (Array.getElem?_eq_some_iff.1 hg).1 (fun hs => by have := hS g hs; omega)).trans hg, rest⟩

theorem Try.info3 : (Try.prog.info? 3).map (fun i => (i.zero, i.size, i.bytes)) = some (some (.int .i64 0), 1, 8) := by kernel_rfl

theorem toksF_len : ∀ (k : Nat) (zs : List Int) (e : Int), (toksF k zs e).1.length = k
  | 0, zs, e => rfl
  | k + 1, zs, e => by rw [toksF]; simp [toksF_len k]

/-- What a call that reads a list has done. -/
def Listed (T : TypeId) (B H : Nat) (r : List Int × List Int × Int) (w : World) (x : Ending) (w' : World) : Prop :=
  ∃ v, x = .returned v ∧ w'.ownsRow w.heap.size 3 1 v r.1.length (r.1.map (Value.int .i64)) ∧ RdAt T B H r.2.1 r.2.2 w' ∧ But [B] w w'

set_option maxHeartbeats 2000000 in
theorem list_any (B H : Nat) (zs : List Int) (e : Int) (w : World) (h : RdAt 66 B H zs e w) (hH : H ≤ B) :
    Calls Try.prog 58 #[.pointer (some ⟨B, 0, none⟩)] w fun x w' => Listed 66 B H (listF zs e) w x w' := by
  obtain ⟨i0, hi, hz0, hz1, hz2⟩ := info_parts Try.info3
  have hz : IsBytes zs := by obtain ⟨_, _, _, _, _, _, hz, _⟩ := h; exact hz
  have hBw := h.lt
  have hN := number_any B H zs e 256 w h hH (by omega) (by omega)
  obtain ⟨⟨n0, n1⟩, hz2', _⟩ := numF_bd hz e (most := 256) (by omega)
  have HT : Hid (listF zs e = toksF (numF zs e 256).1.toNat (numF zs e 256).2.1 (numF zs e 256).2.2) := rfl
  generalize numF zs e 256 = r at *
  obtain ⟨n, zs1, e1⟩ := r
  simp only at *
  obtain ⟨k, rfl⟩ := Int.eq_ofNat_of_zero_le n0
  have hk : k ≤ 256 := by omega
  have HL : Hid ((listF zs e).1.length = k) := by
    have := HT.out
    simp only [Int.toNat_natCast] at this
    unfold Hid
    rw [this, toksF_len]
  clear n0 n1 hz h
  go_enter Try.func58, Try.ntmps58
  go_wp2_with fail
  refine hN.mono ?_
  rintro x w1 ⟨rfl, hrd1, hbt1⟩
  have hs1 := hbt1.size
  simp only at hrd1
  go_wp2_with fail
  go_loopw [3, 6] (fun u i wr => ∃ (j : Nat) (acc zs' : List Int) (e' : Int), j ≤ k ∧ i = .int .u64 j ∧ wr.ownsRow w.heap.size 3 1 u j (acc.map (Value.int .i64)) ∧ RdAt 66 B H zs' e' wr ∧ But [B] w wr ∧ IsBytes zs' ∧ Hid (listF zs e = (acc ++ (toksF (k - j) zs' e').1, (toksF (k - j) zs' e').2))) (fun _ i _ => k - (intOf i).toNat)
  case atStart => exact ⟨0, [], zs1, e1, by omega, rfl, World.ownsRow_nil _ _ _ _, hrd1, hbt1, hz2', by unfold Hid; have := HT.out; simpa using this⟩
  case round =>
    obtain ⟨j, acc, zs', e', hj, rfl, how, hrd, hbt, hzz, HI⟩ := hrel
    have hsz := hbt.size
    by_cases hlt : j < k
    · have hM := number_any B H zs' e' 63 wr hrd hH (by omega) (by omega)
      obtain ⟨⟨m0, m1⟩, hz3, _⟩ := numF_bd hzz e' (most := 63) (by omega)
      have HJ : Hid (listF zs e = ((acc ++ [(numF zs' e' 63).1]) ++ (toksF (k - (j + 1)) (numF zs' e' 63).2.1 (numF zs' e' 63).2.2).1, (toksF (k - (j + 1)) (numF zs' e' 63).2.1 (numF zs' e' 63).2.2).2)) := by
        have := HI.out
        rw [show k - j = (k - (j + 1)) + 1 by omega, toksF] at this
        unfold Hid
        rw [this]
        simp
      generalize numF zs' e' 63 = r at *
      obtain ⟨n, zs2, e2⟩ := r
      simp only at *
      have HZ := hid hz3
      clear hrd1 hbt1 hz2' hrd hzz hz3 hN
      go_wp2_with fail
      refine hM.mono ?_
      rintro x w2 ⟨rfl, hrd2, hbt2⟩
      have how2 := own_but how hbt2 (by simp; omega)
      have hs2 := hbt2.size
      have HR2 := hid hrd2
      have HB2 := hid (hbt.trans hbt2)
      clear hrd2 hbt2 hM how hbt
      go_wp2_with (at_builtin; refine append_any _ rfl (.tmp 8) (.tmp 12) 23 rfl w.heap.size 3 i0 (.int .i64 0) 8 Try.underlying23 hi hz0 hz1 hz2 rfl .i64 _ j _ rfl (how2.alloc _) _ 1 1 [n] rfl (Reads.one _ _ _) (by omega) (by omega) (by simp; omega) ?_; intro v' w4 how4 hb4)
      go_roundw
      case rel =>
        have hb5 : Below w.heap.size w2 w4 := ((Below.refl _ _).alloc (by omega) _).trans hb4
        exact ⟨j + 1, acc ++ [n], zs2, e2, by omega, by go_num, how4, HR2.out.below hb5 hBw hH, HB2.out.below hb5, HZ.out, HJ.out⟩
      case measure => simp [intOf]; omega
    · obtain rfl : j = k := by omega
      have HQ : Hid (listF zs e = (acc, zs', e')) := by unfold Hid; have := HI.out; simpa [toksF] using this
      clear hrd1 hbt1 hz2' hzz hN
      have HR := hid hrd
      clear hrd
      go_wp2
      go_ret
      unfold Listed
      rw [HQ.out]
      have hl : acc.length = j := by have := how.1; simpa using this
      exact ⟨_, rfl, by rw [hl]; exact how, HR.out, hbt⟩

/-- A slice as a value. -/
def SV (p : Sl) : Value := .slice p.a p.l p.c
theorem own_sl {w : World} {base e n : Nat} {v : Value} {xs : List Value} (h : w.ownsRow base e 1 v n xs) : ∃ p : Sl, v = .slice p.a p.l p.c ∧ p.l = n := by
  rcases h.2 with ⟨rfl, rfl⟩ | ⟨g, c, cur, rfl, _⟩
  · exact ⟨⟨none, 0, 0⟩, rfl, rfl⟩
  · exact ⟨⟨some ⟨g, 0, none⟩, n, c⟩, rfl, rfl⟩
theorem two_but {w w1 : World} (o : Obj) {S : List Nat} (h : But S (w.alloc o) w1) : But S w w1 := (But.of ((Below.refl _ _).alloc (Nat.le_refl _) _)).trans h

/-- A job, read. -/
def jobF (zs : List Int) (e : Int) : (Int × Int × List Int) × List Int × Int :=
  (((numF zs e 18446744073709551615).1, (numF (numF zs e 18446744073709551615).2.1 (numF zs e 18446744073709551615).2.2 256).1, (listF (numF (numF zs e 18446744073709551615).2.1 (numF zs e 18446744073709551615).2.2 256).2.1 (numF (numF zs e 18446744073709551615).2.1 (numF zs e 18446744073709551615).2.2 256).2.2).1),
    (listF (numF (numF zs e 18446744073709551615).2.1 (numF zs e 18446744073709551615).2.2 256).2.1 (numF (numF zs e 18446744073709551615).2.1 (numF zs e 18446744073709551615).2.2 256).2.2).2)

set_option maxHeartbeats 2000000 in
theorem job_any (B H : Nat) (zs : List Int) (e : Int) (w : World) (h : RdAt 66 B H zs e w) (hH : H ≤ B) :
    Calls Try.prog 57 #[.pointer (some ⟨B, 0, none⟩)] w fun x w' => ∃ p : Sl, x = .returned (.agg #[.int .u64 (jobF zs e).1.1, .slice p.a p.l p.c, .int .i64 (jobF zs e).1.2.1]) ∧
      w'.ownsRow w.heap.size 3 1 (.slice p.a p.l p.c) (jobF zs e).1.2.2.length ((jobF zs e).1.2.2.map (Value.int .i64)) ∧ p.l = (jobF zs e).1.2.2.length ∧ RdAt 66 B H (jobF zs e).2.1 (jobF zs e).2.2 w' ∧ But [B] w w' := by
  have hBw := h.lt
  have hz : IsBytes zs := by obtain ⟨_, _, _, _, _, _, hz, _⟩ := h; exact hz
  have hb0 : Below w.heap.size w (w.alloc (.cells #[.int .u64 0, .slice none 0 0, .int .i64 0] 25)) := by go_grown
  have hN := anynum_any B H zs e _ (h.below hb0 hBw hH) hH
  unfold jobF
  have hz1 := (numF_bd hz e (most := 18446744073709551615) (by omega)).2.1
  generalize numF zs e 18446744073709551615 = r at *
  obtain ⟨n, zs1, e1⟩ := r
  simp only at *
  have HM : Hid (∀ W, RdAt 66 B H zs1 e1 W → Calls Try.prog 56 #[.pointer (some ⟨B, 0, none⟩), .int .u64 256] W fun x w' => Numbered 66 B H (numF zs1 e1 256) W x w') := fun W hW => number_any B H zs1 e1 256 W hW hH (by omega) (by omega)
  obtain ⟨⟨m0, m1⟩, _, _⟩ := numF_bd hz1 e1 (most := 256) (by omega)
  generalize numF zs1 e1 256 = r at *
  obtain ⟨k, zs2, e2⟩ := r
  simp only at *
  clear hz hz1 h
  go_enter Try.func57, Try.ntmps57
  go_wp2_with fail
  refine hN.mono ?_
  rintro x w1 ⟨rfl, hrd1, hbt1⟩
  simp only at hrd1
  have c0 : w1.heap[w.heap.size]? = some (.cells #[.int .u64 0, .slice none 0 0, .int .i64 0] 25) := (hbt1.block w.heap.size (by simp) (by simp; omega)).trans (heap_alloc_new w _)
  have hM := HM.out w1 hrd1
  have hs1 := hbt1.size
  have HB1 := hid (two_but _ hbt1)
  clear hrd1 hbt1 hN HM hb0
  have C0 := hid c0
  clear c0
  go_wp2_with fail
  refine hM.mono ?_
  rintro x w2 ⟨rfl, hrd2, hbt2⟩
  simp only at hrd2
  have C1 := hid ((hbt2.block w.heap.size (by simp at hs1; omega) (by simp; omega)).trans C0.out)
  have hL := list_any B H zs2 e2 w2 hrd2 hH
  have HB2 := hid (HB1.out.trans hbt2)
  have hs2 := hbt2.size
  clear hrd2 hbt2 hM HB1 C0
  go_wp2_with fail
  refine hL.mono ?_
  rintro x w3 ⟨v, rfl, how, hrd3, hbt3⟩
  obtain ⟨p, rfl, hp⟩ := own_sl how
  have HB3 := hid (HB2.out.trans hbt3)
  have C2 := hid ((hbt3.block w.heap.size (by simp at hs1; omega) (by simp; omega)).trans C1.out)
  have g0 : w3.cell? ⟨w.heap.size, 0, none⟩ = some (.int .u64 0) := by rw [Joins.cell_of_block C2.out]; rfl
  have g1 : w3.cell? ⟨w.heap.size, 1, none⟩ = some (.slice none 0 0) := by rw [Joins.cell_of_block C2.out]; rfl
  have g2 : w3.cell? ⟨w.heap.size, 2, none⟩ = some (.int .i64 0) := by rw [Joins.cell_of_block C2.out]; rfl
  have i0 := Joins.unfrozen_of_block C2.out 0
  have i1 := Joins.unfrozen_of_block C2.out 1
  have i2 := Joins.unfrozen_of_block C2.out 2
  have HR := hid hrd3
  have HO := hid how
  have HP := hid hp
  clear hrd3 hbt3 hL how HB2 C1 hp
  go_wp2_with fail
  have hset : But [w.heap.size] w3 (((w3.setCell ⟨w.heap.size, 0, none⟩ (.int .u64 n)).setCell ⟨w.heap.size, 1, none⟩ (.slice p.a p.l p.c)).setCell ⟨w.heap.size, 2, none⟩ (.int .i64 k)) :=
    (((But.refl _ _).set (by simp) _).set (by simp) _).set (by simp) _
  refine bodyPost_ret (v := .agg #[.int .u64 n, .slice p.a p.l p.c, .int .i64 k]) (by simp [results, Try.results57, go_sem, *]) rfl ⟨p, rfl, own_base (own_but HO.out hset (by simp at hs1 ⊢; omega)) (by simp at hs1; omega), HP.out, HR.out.but hset (by simp; omega) (by simp; omega) hH, HB3.out.below (hset.to (by simp) HB3.out.size)⟩

set_option maxHeartbeats 2000000 in
theorem kind_any (B H : Nat) (zs : List Int) (w : World) (h : RdAt 66 B H zs 0 w) (hH : H ≤ B) :
    Calls Try.prog 39 #[.pointer (some ⟨B, 0, none⟩)] w fun x w' => x = .returned (.int .i64 (kindF zs).1) ∧ RdAt 66 B H (kindF zs).2.1 (kindF zs).2.2 w' ∧ But [B] w w' := by
  have hN := anynum_any B H zs 0 w h hH
  unfold kindF
  have hz : IsBytes zs := by obtain ⟨_, _, _, _, _, _, hz, _⟩ := h; exact hz
  obtain ⟨⟨n0, n1⟩, _, _⟩ := numF_bd hz 0 (most := 18446744073709551615) (by omega)
  generalize numF zs 0 18446744073709551615 = r at *
  obtain ⟨n, zs1, e1⟩ := r
  simp only at *
  clear h hz
  by_cases he : e1 = 0
  · subst he
    rw [if_neg (by simp)]
    rcases (by omega : n < 1 ∨ 12 < n ∨ (1 ≤ n ∧ n ≤ 12)) with hn | hn | hn
    · rw [if_pos (.inl hn)]
      go_enter Try.func39, Try.ntmps39
      go_wp2_with fail
      refine hN.mono ?_
      rintro x w1 ⟨rfl, hrd1, hbt1⟩
      simp only at hrd1
      obtain ⟨a, l, c, hblk, hr, hlow, hz, hl⟩ := hrd1
      obtain ⟨c0, c1, f0, f1⟩ := rd_cells hblk
      have HB := hid hblk
      have HRD := hid hr
      have HLO := hid hlow
      have HZ := hid hz
      have HBT := hid hbt1
      clear hN hblk hr hlow hz hbt1
      go_wp2
      go_ret
      exact ⟨rfl, ⟨a, l, c, rd_set1 HB.out _, HRD.out.low HLO.out (set_low hH _), HLO.out, HZ.out, hl⟩, HBT.out.set (by simp) _⟩
    · rw [if_pos (.inr hn)]
      have hd : decide (n < 1) = false := by simp; omega
      go_enter Try.func39, Try.ntmps39
      go_wp2_with fail
      refine hN.mono ?_
      rintro x w1 ⟨rfl, hrd1, hbt1⟩
      simp only at hrd1
      obtain ⟨a, l, c, hblk, hr, hlow, hz, hl⟩ := hrd1
      obtain ⟨c0, c1, f0, f1⟩ := rd_cells hblk
      have HB := hid hblk
      have HRD := hid hr
      have HLO := hid hlow
      have HZ := hid hz
      have HBT := hid hbt1
      clear hN hblk hr hlow hz hbt1
      go_wp2
      go_ret
      exact ⟨rfl, ⟨a, l, c, rd_set1 HB.out _, HRD.out.low HLO.out (set_low hH _), HLO.out, HZ.out, hl⟩, HBT.out.set (by simp) _⟩
    · rw [if_neg (by omega)]
      have hd : decide (n < 1) = false := by simp; omega
      go_enter Try.func39, Try.ntmps39
      go_wp2_with fail
      refine hN.mono ?_
      rintro x w1 ⟨rfl, hrd1, hbt1⟩
      simp only at hrd1
      have HR := hid hrd1
      obtain ⟨a, l, c, hblk, _⟩ := hrd1
      obtain ⟨c0, c1, f0, f1⟩ := rd_cells hblk
      have HBT := hid hbt1
      clear hN hblk hbt1
      go_wp2
      go_ret
      exact ⟨ret_int (by go_num), HR.out, HBT.out⟩
  · rw [if_pos (by simpa using he)]
    go_enter Try.func39, Try.ntmps39
    go_wp2_with fail
    refine hN.mono ?_
    rintro x w1 ⟨rfl, hrd1, hbt1⟩
    simp only at hrd1
    have HR := hid hrd1
    obtain ⟨a, l, c, hblk, _⟩ := hrd1
    obtain ⟨c0, c1, f0, f1⟩ := rd_cells hblk
    have HBT := hid hbt1
    clear hN hblk hbt1
    go_wp2
    go_ret
    exact ⟨rfl, HR.out, HBT.out⟩

theorem end_any (B H : Nat) (zs : List Int) (e : Int) (w : World) (h : RdAt 66 B H zs e w) :
    Calls Try.prog 41 #[.pointer (some ⟨B, 0, none⟩)] w fun x w' => x = .returned (.int .i64 (if e ≠ 0 then e else if zs ≠ [] then 3 else 0)) ∧ w' = w := by
  obtain ⟨a, l, c, hblk, hr, hlow, hz, hl⟩ := h
  obtain ⟨c0, c1, f0, f1⟩ := rd_cells hblk
  have hs := hr.size
  clear hblk hr hlow hz
  by_cases he : e = 0
  · subst he
    rw [if_neg (by simp)]
    by_cases hz : zs = []
    · subst hz
      obtain rfl : l = 0 := by simpa using hs.symm
      rw [if_neg (by simp)]
      clear hs
      go_enter Try.func41, Try.ntmps41
      go_wp2
      go_ret
      exact ⟨rfl, rfl⟩
    · rw [if_pos hz]
      have hp : 0 < l := by
        rcases Nat.eq_zero_or_pos l with h0 | h0
        · rw [h0] at hs; exact absurd (List.eq_nil_of_length_eq_zero hs) hz
        · exact h0
      clear hs hz
      go_enter Try.func41, Try.ntmps41
      go_wp2
      go_ret
      exact ⟨rfl, rfl⟩
  · rw [if_pos he]
    have hd : decide (e = 0) = false := by simp [he]
    clear hs
    go_enter Try.func41, Try.ntmps41
    go_wp2
    go_ret
    exact ⟨rfl, rfl⟩

end Go.Proofs.Ytlcfjhlchpeedaa
