/-
  Contracts: heap.Push, heap.Pop and heap.Remove of the wheel's queue.
-/
import Derived.Test.YtdfbnfgemjljgaaWqPush
namespace Go.Proofs.Ytdfbnfgemjljgaa
open Go.RowKit
set_option linter.unusedVariables false
set_option maxRecDepth 1000000

/-- The wheel's own block, and its queue's. -/
def frW (B g : Nat) (ms : List Qe) (k : Nat) : Prop := k = B ∨ frQ g ms k
theorem frW.perm {B g : Nat} {ms ns : List Qe} (hp : ns.Perm ms) (k : Nat) : frW B g ns k ↔ frW B g ms k := by
  unfold frW
  rw [frQ.perm hp]
set_option maxHeartbeats 2000000 in
theorem whpush_any {B : Nat} {T last : Int} {M : Nat} {v : Value} {ms : List Qe} {q : Qe} {z : Int} {w : World} (hB : WB w B T last v M) (hv : QvAt v ms w) (hqb : QbAt w q z) (hn : ∀ p ∈ ms, p.blk ≠ q.blk) (hl : ms.length ≤ 4500) (hH : HeapQ ms ms.length) :
    Calls Try.prog 33 #[hq B 2, ivq q.blk] w fun e w' => e = .returned (.tuple #[]) ∧ Hid (∃ g cap ns, ns.Perm (ms ++ [q]) ∧ HeapQ ns ns.length ∧ WqAt B T last M g cap ns w' ∧ Fb (fun k => k = B ∨ frV v (ms ++ [q]) k) w w' ∧ (v.ownBlock = some g ∨ w.heap.size ≤ g)) := by
  have hP := wpush_any hB hv hqb hn hl
  have hmp := methI_push ⟨B, 2, none⟩
  have hlen : (ms ++ [q]).length = ms.length + 1 := by simp
  have HU : Hid (UpQ (ms ++ [q]) (ms ++ [q]).length ms.length) := by
    have := hH.push q
    unfold Hid
    rw [hlen]
    exact this
  clear hB hv hqb hn hH
  go_enter Try.func33, Try.ntmps33
  go_wp2_with fail
  refine hP.mono ?_
  rintro e w1 ⟨rfl, H1⟩
  obtain ⟨g, cap, h1, hb1, hg1⟩ := H1.out
  have hcl := h1.cell
  rw [hlen] at hcl
  have hml := methI_len B 2 w1 _ hcl
  have hU := wup_any B T last M g cap (ms ++ [q]).length (ms ++ [q]) ms.length w1 h1 (by omega) (Nat.le_refl _) (by omega) HU.out
  have HB1 := hid hb1
  have HG := hid hg1
  clear h1 hb1 hP hcl H1 hg1
  go_wp2_with fail
  refine (wlen_any _ _ _ _).mono ?_
  rintro e wx ⟨rfl, hwx⟩
  subst wx
  go_wp2_with fail
  refine hU.mono ?_
  rintro e w2 ⟨rfl, ⟨ns, p1, p2, p3, p4⟩, hb2⟩
  have HE : Hid (∃ g cap ns, ns.Perm (ms ++ [q]) ∧ HeapQ ns ns.length ∧ WqAt B T last M g cap ns w2 ∧ Fb (fun k => k = B ∨ frV v (ms ++ [q]) k) w w2 ∧ (v.ownBlock = some g ∨ w.heap.size ≤ g)) := by
    refine ⟨g, cap, ns, p1, by rw [p1.length_eq]; exact p3, p4, HB1.out.trans hb2 fun x hx => ?_, HG.out⟩
    rcases hx with rfl | ⟨p, hp, rfl⟩
    · rcases HG.out with e | e
      · exact .inl (.inr (.inl e))
      · exact .inr e
    · exact .inl (.inr (.inr ⟨p, hp, rfl⟩))
  clear p1 p2 p3 p4 hb2 hU hml HB1 HG
  go_wp2
  go_end0
  exact ⟨rfl, HE⟩
set_option maxHeartbeats 2000000 in
theorem whpop_any {B : Nat} {T last : Int} {M g cap n : Nat} {ms : List Qe} {w : World} (h : WqAt B T last M g cap ms w) (hH : HeapQ ms ms.length) (hn : ms.length = n + 1) (hcap : n ≤ 4500) :
    Calls Try.prog 29 #[hq B 2] w fun e w' => e = .returned (ivq (gq ms 0).blk) ∧ Hid (∃ ns, (gq ms 0 :: ns).Perm ms ∧ HeapQ ns ns.length ∧ WqAt B T last M g cap ns w' ∧ QbAt w' (gq ms 0) n ∧ Fb (frW B g ms) w w') := by
  have hro := h.row.room
  have hcl := h.cell
  have hS := h.swap 0 n (by omega) (by omega) (by omega)
  rw [hn] at hcl hro hS
  have hml := methI_len B 2 w _ hcl
  have hms := methI_swap B 2 w _ hcl
  have HD : Hid (MidQ (swq ms 0 n) n 0) := by rw [hn] at hH; exact HeapQ.cut (by omega) hH (Nat.zero_le _)
  have HG : Hid (gq (swq ms 0 n) n = gq ms 0) := by unfold Hid; rw [gq_swq (by omega) (by omega), if_pos rfl]
  have HPm : Hid ((swq ms 0 n).Perm ms) := swq_perm (by omega) (by omega)
  have HN : Hid ((swq ms 0 n).length = n + 1) := by unfold Hid; rw [swq_len, hn]
  clear h hH hcl hn
  go_enter Try.func29, Try.ntmps29
  go_wp2_with fail
  refine (wlen_any _ _ _ _).mono ?_
  rintro e wx ⟨rfl, hwx⟩
  subst wx
  go_wp2_with fail
  refine hS.mono ?_
  rintro e w1 ⟨rfl, h1, hb1⟩
  have hD := wdown_any B T last M g cap n 0 (swq ms 0 n) w1 h1 (Nat.zero_le _) HN.out (by rw [HN.out]; omega) HD.out
  have HB1 := hid hb1
  clear h1 hb1 hS hms hml
  go_wp2_with fail
  refine hD.mono ?_
  rintro e w2 ⟨c, rfl, ns, hp, hg, hh, h2, hb2⟩
  have hnl : ns.length = n + 1 := by rw [hp.length_eq, HN.out]
  have hO := wpop_any h2 hnl (by omega)
  have hmp := methI_pop ⟨B, 2, none⟩
  have HX : Hid (gq ns n = gq ms 0) := hg.trans HG.out
  have HP2 : Hid ((gq ns n :: ns.take n).Perm ms) := popQ_perm hnl (hp.trans HPm.out)
  have HH : Hid (HeapQ (ns.take n) (ns.take n).length) := by
    unfold Hid
    rw [List.length_take, Nat.min_eq_left (by omega)]
    refine HeapQ.take ?_
    by_cases h0 : 0 < c
    · exact hh.1 h0
    · obtain ⟨e, hu⟩ := hh.2 h0
      rw [e]
      exact hu.done fun h => absurd h (by omega)
  have HB2 := hid (HB1.out.tr (hb2.mono fun x hx => (frQ.perm HPm.out x).1 hx))
  have HQ : Hid (QbAt w2 (gq ns n) (n : Int)) := h2.row.els n (by omega)
  have HQn : Hid ((gq ns n).blk ≠ B ∧ (gq ns n).blk ≠ g) := ⟨HQ.out.nB h2.var, h2.row.ne (by omega)⟩
  rw [HX.out] at hO HP2 HQ HQn
  clear h2 hb2 hD hp hg hh hnl HB1
  go_wp2_with fail
  refine hO.mono ?_
  rintro e w3 ⟨rfl, H3⟩
  have HE : Hid (∃ ns, (gq ms 0 :: ns).Perm ms ∧ HeapQ ns ns.length ∧ WqAt B T last M g cap ns w3 ∧ QbAt w3 (gq ms 0) n ∧ Fb (frW B g ms) w w3) :=
    ⟨ns.take n, HP2.out, HH.out, H3.out.1, H3.out.2.one HQ.out (fun e => e.elim HQn.out.1 HQn.out.2), (HB2.out.mono fun x hx => .inr hx).tr (H3.out.2.mono fun x hx => hx.elim .inl fun e => .inr (.inl e))⟩
  clear H3 hO HQ HQn HP2 HH HB2
  go_wp2
  go_ret
  exact ⟨rfl, HE⟩
set_option maxHeartbeats 4000000 in
theorem whrem_any {B : Nat} {T last : Int} {M g cap n i : Nat} {ms : List Qe} {w : World} (h : WqAt B T last M g cap ms w) (hH : HeapQ ms ms.length) (hn : ms.length = n + 1) (hi : i ≤ n) (hcap : n ≤ 4500) :
    Calls Try.prog 31 #[hq B 2, .int .i64 i] w fun e w' => e = .returned (ivq (gq ms i).blk) ∧ Hid (∃ ns, (gq ms i :: ns).Perm ms ∧ HeapQ ns ns.length ∧ WqAt B T last M g cap ns w' ∧ Fb (frW B g ms) w w') := by
  have hro := h.row.room
  have hcl := h.cell
  rw [hn] at hcl hro
  have hml := methI_len B 2 w _ hcl
  have hmp := methI_pop ⟨B, 2, none⟩
  by_cases hin : i = n
  · have hO := wpop_any h hn (by omega)
    have HP2 : Hid ((gq ms n :: ms.take n).Perm ms) := popQ_perm hn (List.Perm.refl _)
    have HH : Hid (HeapQ (ms.take n) (ms.take n).length) := by
      unfold Hid
      rw [List.length_take, Nat.min_eq_left (by omega)]
      exact (hH.less (by omega)).take
    subst hin
    clear h hH hcl hn hi
    go_enter Try.func31, Try.ntmps31
    go_wp2_with fail
    refine (wlen_any _ _ _ _).mono ?_
    rintro e wx ⟨rfl, hwx⟩
    subst wx
    go_wp2_with fail
    refine hO.mono ?_
    rintro e w3 ⟨rfl, H3⟩
    have HE : Hid (∃ ns, (gq ms i :: ns).Perm ms ∧ HeapQ ns ns.length ∧ WqAt B T last M g cap ns w3 ∧ Fb (frW B g ms) w w3) :=
      ⟨ms.take i, HP2.out, HH.out, H3.out.1, H3.out.2.mono fun x hx => hx.elim .inl fun e => .inr (.inl e)⟩
    clear H3 hO HP2 HH
    go_wp2
    go_ret
    exact ⟨rfl, HE⟩
  · have hS := h.swap i n (by omega) (by omega) (by omega)
    rw [hn] at hS
    have hms := methI_swap B 2 w _ hcl
    have HD : Hid (MidQ (swq ms i n) n i) := by rw [hn] at hH; exact HeapQ.cut (by omega) hH hi
    have HG : Hid (gq (swq ms i n) n = gq ms i) := by unfold Hid; rw [gq_swq (by omega) (by omega), if_pos rfl]
    have HPm : Hid ((swq ms i n).Perm ms) := swq_perm (by omega) (by omega)
    have HN : Hid ((swq ms i n).length = n + 1) := by unfold Hid; rw [swq_len, hn]
    have hil : i < n := by omega
    have hne : ¬ (n : Int) = (i : Int) := by omega
    have hne' : ((n : Int) == (i : Int)) = false := by simpa using hne
    have HF : Hid (∀ (w2 : World) (ns : List Qe), ns.length = n + 1 → HeapQ ns n → gq ns n = gq ms i → ns.Perm ms → WqAt B T last M g cap ns w2 → Fb (frQ g ms) w w2 → Calls Try.prog 54 #[.pointer (some ⟨B, 2, none⟩)] w2 fun e w' => e = .returned (ivq (gq ms i).blk) ∧ Hid (∃ ns, (gq ms i :: ns).Perm ms ∧ HeapQ ns ns.length ∧ WqAt B T last M g cap ns w' ∧ Fb (frW B g ms) w w')) := fun w2 ns a1 a2 a3 a4 a5 a6 => by
      refine (wpop_any a5 a1 (by omega)).mono fun e w3 ⟨e1, H3⟩ => ?_
      rw [a3] at e1
      refine ⟨e1, ns.take n, by have := popQ_perm a1 a4; rwa [a3] at this, ?_, H3.out.1, (a6.mono fun x hx => .inr hx).tr (H3.out.2.mono fun x hx => hx.elim .inl fun e => .inr (.inl e))⟩
      rw [List.length_take, Nat.min_eq_left (by omega)]
      exact a2.take
    clear h hH hcl hn hi hin
    go_enter Try.func31, Try.ntmps31
    go_wp2_with fail
    refine (wlen_any _ _ _ _).mono ?_
    rintro e wx ⟨rfl, hwx⟩
    subst wx
    go_wp2_with fail
    refine hS.mono ?_
    rintro e w1 ⟨rfl, h1, hb1⟩
    have hD := wdown_any B T last M g cap n i (swq ms i n) w1 h1 (by omega) HN.out (by rw [HN.out]; omega) HD.out
    have HB1 := hid hb1
    clear h1 hb1 hS hms hml
    go_wp2_with fail
    refine hD.mono ?_
    rintro e w2 ⟨c, rfl, ns, hp, hg, hh, h2, hb2⟩
    have hnl : ns.length = n + 1 := by rw [hp.length_eq, HN.out]
    have hb2' := HB1.out.tr (hb2.mono fun x hx => (frQ.perm HPm.out x).1 hx)
    by_cases hc : i < c
    · have hO := HF.out w2 ns hnl (hh.1 hc) (hg.trans HG.out) (hp.trans HPm.out) h2 hb2'
      have hd : decide (i < c) = true := decide_eq_true hc
      rw [hd]
      clear h2 hb2 hD hp hg hh hnl HB1 hb2' hc hd HF
      go_wp2_with fail
      refine hO.mono ?_
      rintro e w3 ⟨rfl, HE⟩
      clear hO
      go_wp2
      go_ret
      exact ⟨rfl, HE⟩
    · obtain ⟨e1, hu⟩ := hh.2 hc
      subst e1
      have hU := wup_any B T last M g cap n (swq ms i n) i w2 h2 hil (by omega) (by omega) hu
      have HB2 := hid hb2'
      have hd : decide (i < c) = false := decide_eq_false hc
      rw [hd]
      clear h2 hb2 hD hp hg hh hnl HB1 hb2' hc hd hu
      go_wp2_with fail
      refine hU.mono ?_
      rintro e w4 ⟨rfl, ⟨ns, p1, p2, p3, p4⟩, hb4⟩
      have hO := HF.out w4 ns (by rw [p1.length_eq, HN.out]) p3 ((p2 n (Nat.le_refl _)).trans HG.out) (p1.trans HPm.out) p4 (HB2.out.tr (hb4.mono fun x hx => (frQ.perm HPm.out x).1 hx))
      clear p1 p2 p3 p4 hb4 hU HB2 HF
      go_wp2_with fail
      refine hO.mono ?_
      rintro e w3 ⟨rfl, HE⟩
      clear hO
      go_wp2
      go_ret
      exact ⟨rfl, HE⟩
end Go.Proofs.Ytdfbnfgemjljgaa
