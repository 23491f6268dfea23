/-
  Contracts: the document's Reader.num hands back the next number, Reader.list the tokens that come next.
-/
import Derived.Test.YtlcfjhlchpeedaaRead
namespace Go.Proofs.Ytlcfjhlchpeedaa
open Go.RowKit
open M
set_option linter.unusedVariables false
set_option maxRecDepth 1000000

set_option maxHeartbeats 2000000 in
theorem rnum_any (B H : Nat) (zs : List Int) (e most : Int) (w : World) (h : RdAt 73 B H zs e w) (hH : H ≤ B) (m0 : 0 ≤ most) (m1 : most ≤ 18446744073709551615) :
    Calls Try.prog 42 #[.pointer (some ⟨B, 0, none⟩), .int .u64 most] w fun x w' => Numbered 73 B H (numF zs e most) w x w' := by
  obtain ⟨a, l, c, hblk, hr, hlow, hz, hl⟩ := id h
  have HB := hid hblk
  obtain ⟨c0, c1, f0, f1⟩ := rd_cells hblk
  by_cases he : e = 0
  · subst he
    have hG := rget_any a l c zs w hr hz (by omega)
    by_cases hg : (getF zs 0 0).2.2 = 0
    · obtain ⟨q, hq, ht, hb⟩ := got_nat hz hg
      rw [gotV_of hq] at hG
      have hK := (encZ_len hb).1
      have hKl : (encZ (q : Int)).length ≤ l := by have := congrArg List.length ht; simp at this; have := hr.size; omega
      generalize (encZ (q : Int)).length = K at *
      have q0 : 0 ≤ (q : Int) := by omega
      generalize (q : Int) = n at *
      by_cases hm : most < n
      · have HN := hid (numF_big hq hm)
        have HR := hid h
        have HRD := hid hr
        have HLO := hid hlow
        have HZ := hid hz
        clear hblk hr hlow hz hq ht hg h
        go_enter Try.func42, Try.ntmps42
        go_wp2_with fail
        refine hG.mono ?_
        rintro x w' ⟨rfl, rfl⟩
        go_wp2
        go_ret
        unfold Numbered
        rw [HN.out]
        exact ⟨rfl, ⟨a, l, c, rd_set1 HB.out _, HRD.out.low HLO.out (set_low hH _), HLO.out, HZ.out, hl⟩, (But.refl _ _).set (by simp) _⟩
      · have HN := hid (numF_fits hq (by omega : n ≤ most))
        obtain ⟨b, off, rfl, hbH⟩ := hlow (by omega)
        have hrm := hr.room
        have hmo := hr.most
        have HZ := hid (hz.drop K)
        by_cases hc : c = K
        · obtain rfl : l = K := by omega
          have HV : Hid (zs.drop l = []) := List.drop_of_length_le (by rw [hr.size]; omega)
          subst hc
          clear hblk hr hlow hz hq ht hg h
          go_enter Try.func42, Try.ntmps42
          go_wp2_with fail
          refine hG.mono ?_
          rintro x w' ⟨rfl, rfl⟩
          go_wp2
          go_ret
          unfold Numbered
          rw [HN.out, HV.out]
          exact ⟨rfl, ⟨_, _, _, rd_set0 HB.out _, by simpa using Reads.void (by omega), fun h => by simp at h, fun x hx => by simp at hx, by simp⟩, (But.refl _ _).set (by simp) _⟩
        · have HP : Hid (Reads .u8 w (some ⟨b, off + K, none⟩) (l - K) (c - K) (zs.drop K)) := by
            have h1 := hr.part (p := K) (n := l - K) (by omega) hc
            rwa [List.take_of_length_le (by rw [List.length_drop, hr.size]; omega)] at h1
          clear hblk hr hlow hz hq ht hg h
          go_enter Try.func42, Try.ntmps42
          go_wp2_with fail
          refine hG.mono ?_
          rintro x w' ⟨rfl, rfl⟩
          go_wp2
          go_ret
          unfold Numbered
          rw [HN.out]
          have HL : 0 < l - K → ∃ b' off', some (⟨b, off + K, none⟩ : Addr) = some ⟨b', off', none⟩ ∧ b' < H := fun _ => ⟨b, off + K, rfl, hbH⟩
          exact ⟨rfl, ⟨_, _, _, rd_set0 HB.out _, HP.out.low HL (set_low hH _), HL, HZ.out, by omega⟩, (But.refl _ _).set (by simp) _⟩
    · have HN := hid (numF_got (most := most) hg)
      have hgV : gotV zs = .tuple #[.int .u64 0, .int .i64 0, .int .i64 (getF zs 0 0).2.2] := by
        unfold gotV; rw [(getF_err zs 0 0 hg).1, (getF_err zs 0 0 hg).2]
      rw [hgV] at hG
      generalize (getF zs 0 0).2.2 = f at *
      have HRD := hid hr
      have HLO := hid hlow
      have HZ := hid hz
      clear hblk hr hlow hz hgV h
      go_enter Try.func42, Try.ntmps42
      go_wp2_with fail
      refine hG.mono ?_
      rintro x w' ⟨rfl, rfl⟩
      go_wp2
      go_ret
      unfold Numbered
      rw [HN.out]
      exact ⟨rfl, ⟨a, l, c, rd_set1 HB.out _, HRD.out.low HLO.out (set_low hH _), HLO.out, HZ.out, hl⟩, (But.refl _ _).set (by simp) _⟩
  · have HN := hid (numF_bad (zs := zs) (most := most) he)
    clear hblk hr hlow hz
    go_enter Try.func42, Try.ntmps42
    go_wp2
    go_ret
    unfold Numbered
    rw [HN.out]
    exact ⟨rfl, h, But.refl _ _⟩


theorem toksF_bad : ∀ (k : Nat) (zs : List Int) {e : Int}, e ≠ 0 → (toksF k zs e).2 = (zs, e)
  | 0, zs, e, _ => rfl
  | k + 1, zs, e, h => by rw [toksF, numF_bad h]; exact toksF_bad k zs h

/-- What a call that reads a list has done. -/
def RListed (T : TypeId) (B H : Nat) (r : List Int × List Int × Int) (w : World) (x : Ending) (w' : World) : Prop :=
  ∃ v toks, x = .returned v ∧ toks.length ≤ 256 ∧ w'.ownsRow w.heap.size 3 1 v toks.length (toks.map (Value.int .i64)) ∧ RdAt T B H r.2.1 r.2.2 w' ∧ But [B] w w' ∧ (r.2.2 = 0 → toks = r.1)

set_option maxHeartbeats 4000000 in
theorem rlistr_any (B H : Nat) (zs : List Int) (e : Int) (w : World) (h : RdAt 73 B H zs e w) (hH : H ≤ B) :
    Calls Try.prog 60 #[.pointer (some ⟨B, 0, none⟩)] w fun x w' => RListed 73 B H (listF zs e) w x w' := by
  obtain ⟨i0, hi, hz0, hz1, hz2⟩ := info_parts Try.info3
  have hz : IsBytes zs := h.bytes
  have hBw := h.lt
  have hN := rnum_any B H zs e 256 w h hH (by omega) (by omega)
  obtain ⟨⟨n0, n1⟩, hz2', _⟩ := numF_bd hz e (most := 256) (by omega)
  have HT : Hid (listF zs e = toksF (numF zs e 256).1.toNat (numF zs e 256).2.1 (numF zs e 256).2.2) := rfl
  generalize numF zs e 256 = r at *
  obtain ⟨n, zs1, e1⟩ := r
  simp only at *
  obtain ⟨k, rfl⟩ := Int.eq_ofNat_of_zero_le n0
  have hk : k ≤ 256 := by omega
  clear n0 n1 hz h
  go_enter Try.func60, Try.ntmps60
  go_wp2_with fail
  refine hN.mono ?_
  rintro x w1 ⟨rfl, hrd1, hbt1⟩
  have hs1 := hbt1.size
  simp only at hrd1
  go_wp2_with fail
  go_loopw [4, 5] (fun u i wr => ∃ (j : Nat) (acc zs' : List Int) (e' : Int), j ≤ k ∧ i = .int .i64 j ∧ wr.ownsRow w.heap.size 3 1 u j (acc.map (Value.int .i64)) ∧ RdAt 73 B H zs' e' wr ∧ But [B] w wr ∧ IsBytes zs' ∧ Hid (listF zs e = (acc ++ (toksF (k - j) zs' e').1, (toksF (k - j) zs' e').2))) (fun _ i _ => k - (intOf i).toNat)
  case atStart => exact ⟨0, [], zs1, e1, by omega, rfl, World.ownsRow_nil _ _ _ _, hrd1, hbt1, hz2', by unfold Hid; have := HT.out; simpa using this⟩
  case round =>
    obtain ⟨j, acc, zs', e', hj, rfl, how, hrd, hbt, hzz, HI⟩ := hrel
    have hsz := hbt.size
    obtain ⟨ca, cl, cc, hblk, _⟩ := id hrd
    obtain ⟨c0, c1, f0, f1⟩ := rd_cells hblk
    clear hblk
    by_cases hlt : j < k
    · by_cases he' : e' = 0
      · subst he'
        have hM := rnum_any B H zs' 0 63 wr hrd hH (by omega) (by omega)
        obtain ⟨⟨m0, m1⟩, hz3, _⟩ := numF_bd hzz 0 (most := 63) (by omega)
        have HJ : Hid (listF zs e = ((acc ++ [(numF zs' 0 63).1]) ++ (toksF (k - (j + 1)) (numF zs' 0 63).2.1 (numF zs' 0 63).2.2).1, (toksF (k - (j + 1)) (numF zs' 0 63).2.1 (numF zs' 0 63).2.2).2)) := by
          have := HI.out
          rw [show k - j = (k - (j + 1)) + 1 by omega, toksF] at this
          unfold Hid
          rw [this]
          simp
        generalize numF zs' 0 63 = r at *
        obtain ⟨n, zs2, e2⟩ := r
        simp only at *
        have HZ := hid hz3
        clear hrd1 hbt1 hz2' hrd hzz hz3 hN
        go_wp2_with fail
        refine hM.mono ?_
        rintro x w2 ⟨rfl, hrd2, hbt2⟩
        have how2 := own_but how hbt2 (by simp; omega)
        have hs2 := hbt2.size
        have HR2 := hid hrd2
        have HB2 := hid (hbt.trans hbt2)
        clear hrd2 hbt2 hM how hbt c0 c1 f0 f1
        go_wp2_with (at_builtin; refine append_any _ rfl (.tmp 21) (.tmp 25) 23 rfl w.heap.size 3 i0 (.int .i64 0) 8 Try.underlying23 hi hz0 hz1 hz2 rfl .i64 _ j _ rfl (how2.alloc _) _ 1 1 [n] rfl (Reads.one _ _ _) (by omega) (by omega) (by simp; omega) ?_; intro v' w4 how4 hb4)
        go_roundw
        case rel =>
          have hb5 : Below w.heap.size w2 w4 := ((Below.refl _ _).alloc (by omega) _).trans hb4
          exact ⟨j + 1, acc ++ [n], zs2, e2, by omega, by go_num, how4, HR2.out.below hb5 hBw hH, HB2.out.below hb5, HZ.out, HJ.out⟩
        case measure => simp [intOf]; omega
      · have HQ : Hid ((listF zs e).2 = (zs', e')) := by unfold Hid; rw [HI.out]; exact toksF_bad _ _ he'
        clear hrd1 hbt1 hz2' hzz hN
        have HR := hid hrd
        clear hrd
        go_wp2_with fail
        go_ret
        have hl : acc.length = j := by have := how.1; simpa using this
        refine ⟨_, acc, rfl, by omega, by rw [hl]; exact how, ?_, hbt, ?_⟩
        · rw [HQ.out]; exact HR.out
        · rw [HQ.out]; intro h0; exact absurd h0 he'
    · obtain rfl : j = k := by omega
      have HQ : Hid (listF zs e = (acc, zs', e')) := by unfold Hid; have := HI.out; simpa [toksF] using this
      clear hrd1 hbt1 hz2' hzz hN
      have HR := hid hrd
      clear hrd
      have hd : decide ((j : Int) < (j : Int)) = false := by simp
      go_wp2_with fail
      go_ret
      unfold RListed
      rw [HQ.out]
      have hl : acc.length = j := by have := how.1; simpa using this
      exact ⟨_, acc, rfl, by omega, by rw [hl]; exact how, HR.out, hbt, fun _ => rfl⟩

end Go.Proofs.Ytlcfjhlchpeedaa
