/-
  Contract: the wheel's StopAll.
-/
import Derived.Test.YtdfbnfgemjljgaaWlSp
namespace Go.Proofs.Ytdfbnfgemjljgaa
open Go.RowKit Go.Maps
set_option linter.unusedVariables false
set_option maxRecDepth 1000000

/-- Those that are left while a range over the map strikes those of a label: lf tells who is still to come. -/
def leftT (lb : Int) (lf : Int → Bool) (L : List Tm) : List Tm := L.filter fun t => lf t.num || decide (t.label ≠ lb)
theorem left_all {lb : Int} {lf : Int → Bool} {L : List Tm} (h : ∀ t ∈ L, lf t.num = true) : leftT lb lf L = L := List.filter_eq_self.2 fun t ht => by rw [h t ht]; rfl
theorem left_none {lb : Int} {lf : Int → Bool} {L : List Tm} (h : ∀ t ∈ L, lf t.num = false) : leftT lb lf L = allT lb L := List.filter_congr fun t ht => by rw [h t ht]; rfl
theorem num_oneT {L : List Tm} (h : (L.map Tm.num).Nodup) {a b : Tm} (ha : a ∈ L) (hb : b ∈ L) (e : a.num = b.num) : a = b := by
  induction L with
  | nil => simp at ha
  | cons x L ih =>
    rw [List.map_cons, List.nodup_cons] at h
    rcases List.mem_cons.1 ha with rfl | ha' <;> rcases List.mem_cons.1 hb with rfl | hb'
    · rfl
    · exact absurd (List.mem_map.2 ⟨b, hb', e.symm⟩) h.1
    · exact absurd (List.mem_map.2 ⟨a, ha', e⟩) h.1
    · exact ih h.2 ha' hb'
theorem left_gone {lb : Int} {lf : Int → Bool} {L : List Tm} (hn : (L.map Tm.num).Nodup) {b : Tm} (hb : b ∈ L) (hl : b.label = lb) : stpT b.num (leftT lb lf L) = leftT lb (fun x => lf x && decide (x ≠ b.num)) L := by
  have h1 : ((leftT lb lf L).map Tm.num).Nodup := (List.filter_sublist.map _).nodup hn
  rw [stp_filter h1]
  unfold leftT
  rw [List.filter_filter]
  refine List.filter_congr fun t ht => ?_
  by_cases e : t.num = b.num
  · have := num_oneT hn ht hb e
    subst this
    simp [hl]
  · simp [e]
theorem left_still {lb : Int} {lf : Int → Bool} {L : List Tm} (hn : (L.map Tm.num).Nodup) {b : Tm} (hb : b ∈ L) (hl : b.label ≠ lb) : leftT lb lf L = leftT lb (fun x => lf x && decide (x ≠ b.num)) L := by
  unfold leftT
  refine List.filter_congr fun t ht => ?_
  by_cases e : t.num = b.num
  · have := num_oneT hn ht hb e
    subst this
    simp [hl]
  · simp [e]
/-- Within the range: the wheel, the range over its map, and what may have turned. -/
structure SaS (W : World) (B : Nat) (T last : Int) (L0 : List Tm) (lb : Int) (M rr n : Nat) (F : Nat → Prop) (lf : Int → Bool) (cnt : Nat) (v : Value) (ms : List Qe) (W' : World) : Prop where
  wl : WlI W' B T last (leftT lb lf L0) M v ms
  rg : RqAt W' M rr n ms lf cnt
  fb : Fb F W W'
  fr : ∀ k, wlF B M v ms k → F k
theorem SaS.one {W : World} {B : Nat} {T last : Int} {L0 : List Tm} {lb : Int} {M rr n : Nat} {F : Nat → Prop} {lf : Int → Bool} {cnt : Nat} {v : Value} {ms : List Qe} {W1 : World} (h : SaS W B T last L0 lb M rr n F lf cnt v ms W1) (hF : ∀ k, F k → k < rr) (hr : W.heap.size ≤ rr) (h0 : ∀ t ∈ leftT lb lf L0, t ∈ L0) (hn0 : (L0.map Tm.num).Nodup) {b : Qe} (hb : b ∈ ms) (hbl : lf b.tm.num = true) {W4 : World} {cnt' : Nat} (hrs : RqAt W4 M rr n ms (fun x => lf x && decide (x ≠ b.tm.num)) cnt') (hfb : Fb (at1 rr) W1 W4) (hlb : b.tm.label = lb) :
    Calls Try.prog 22 #[.pointer (some ⟨B, 0, none⟩), .pointer (some ⟨b.blk, 0, none⟩)] W4 fun e w' => e = .returned (.tuple #[]) ∧ Hid (∃ v' ms' cnt7, cnt7 ≤ cnt' ∧ SaS W B T last L0 lb M rr n F (fun x => lf x && decide (x ≠ b.tm.num)) cnt7 v' ms' w') := by
  have hwl4 : WlI W4 B T last (leftT lb lf L0) M v ms := h.wl.fb hfb fun k hk e => by
    have := hF k (h.fr k hk)
    have e' : k = rr := e
    omega
  obtain ⟨i, hi, hg⟩ := mem_gq hb
  rcases hwl4.que.form with ⟨_, rfl⟩ | ⟨g, cap, hv, hr4⟩
  · cases hb
  · obtain ⟨m, hm⟩ : ∃ m, ms.length = m + 1 := ⟨ms.length - 1, by omega⟩
    have hfw := hwl4.few
    have hlen := hwl4.len
    have hMF : ¬ frW B g ms M := by
      rintro (e | e)
      · exact hwl4.BM e.symm
      · exact hwl4.que.nM hwl4.map (by rw [hv]; exact frV_fr.2 e)
    obtain ⟨es, clock, hMb⟩ := hwl4.map.blk
    have hWq : WqAt B T last M g cap ms W4 := ⟨by have := hwl4.obj; rwa [hv] at this, hr4⟩
    have hnI : isI (gq ms i).tm.num := hwl4.map.oks _ (gq_mem hi)
    have hd : ∃ W', (Builtin.delete_ #[57, 3] 0 #[.map (some M), .int .i64 (gq ms i).tm.num]).run Try.prog W4.drew = .ok (.tuple #[]) W' ∧ (∃ cnt7, cnt7 ≤ cnt' ∧ RqAt W' M rr n (butQ ms (gq ms i).tm.num) (fun x => lf x && decide (x ≠ b.tm.num)) cnt7) ∧ Fb (at1 M) W4 W' := by
      obtain ⟨W', cnt7, k1, k2, k3, k4⟩ := (hrs.same (W' := W4.drew) rfl rfl).drop hnI (by rw [hg]; simp) 0
      exact ⟨W', k1, ⟨cnt7, k3, k2⟩, ((Fb.refl (at1 M) W4).drew).trans k4 fun x hx => .inl hx⟩
    have hS := wstop_any hWq hwl4.hp hm (i := i) (by omega) (by omega) (by rw [hMb]; simp) hMF (fun W' => ∃ cnt7, cnt7 ≤ cnt' ∧ RqAt W' M rr n (butQ ms (gq ms i).tm.num) (fun x => lf x && decide (x ≠ b.tm.num)) cnt7) hd
    rw [hg] at hS
    refine hS.mono fun e w' ⟨he, H⟩ => ⟨he, ?_⟩
    obtain ⟨W5, ns, ⟨cnt7, k7, k1⟩, k2, k3, k4, k5, k6⟩ := H.out
    rw [← hg] at k3
    have hbF : b.blk ≠ rr := fun e => by
      have := hF _ (h.fr _ (.inr (.inr (.inr ⟨b, hb, rfl⟩))))
      omega
    have hk1 := k1
    rw [← hg] at k1
    obtain ⟨r1, r2, r3⟩ := hwl4.stopped hv k1.map k2 k3 k4 k5 k6
    rw [hg, left_gone hn0 (h0 _ (hwl4.pm.mem_iff.1 (List.mem_map.2 ⟨b, hb, rfl⟩))) hlb] at r1
    have hrF : ¬ frW B g ms rr := by
      intro e
      have : F rr := h.fr _ (by
        rcases e with e | e
        · exact .inl e
        · exact .inr (.inr (by rw [hv]; exact frV_fr.2 e)))
      exact Nat.lt_irrefl _ (hF _ this)
    refine ⟨_, ns, cnt7, k7, ⟨r1, (hk1.same (k6.block _ hk1.map.lt hMF) (k6.block _ hk1.lt hrF)).perm ?_, (h.fb.trans hfb fun x hx => .inr (by rw [show x = rr from hx]; exact hr)).trans r2 fun x hx => .inl (h.fr x hx), fun k hk => h.fr k (r3 k hk)⟩⟩
    have := but_perm hwl4.map.nodup k3
    rwa [hg] at this
set_option maxHeartbeats 8000000 in
theorem wstopall_any {W : World} {B : Nat} {F : Nat → Prop} {T last : Int} {L : List Tm} (h : WlAt W B F T last L) {lb : Int} (hu : isU lb) :
    Calls Try.prog 10 #[.pointer (some ⟨B, 0, none⟩), .int .u64 lb] W fun e w' => e = .returned (.int .i64 ((L.length : Int) - (allT lb L).length)) ∧ Hid (WlO WlAt W B F T last (allT lb L) w') := by
  obtain ⟨M, v, ms, h, hF⟩ := h
  have hM := wmade_yes h.obj
  have c3 := h.obj.cells.2.2.2
  have hlen := fun ty => h.map.len ty
  rw [h.len] at hlen
  obtain ⟨W2, cnt0, hrg, hrs, hbr, hsz⟩ := h.map.range
  have hN := h.map.nodup.tms h.pm
  have hlf : ∀ t ∈ L, (fun x => (lkQ ms x).isSome) t.num = true := fun t ht => (lkQ_num h.pm t.num).2 (List.mem_map.2 ⟨t, ht, rfl⟩)
  have HFl : Hid (∀ k, F k → k < W.heap.size) := fun k hk => h.lts ((hF k).1 hk)
  have HF := hid hF
  have HNd := hid hN
  obtain ⟨nl, Hnl⟩ : ∃ nl, Hid (ms.length = nl) := ⟨_, rfl⟩
  rw [Hnl.out] at hrs
  obtain ⟨lf0, Hlf0⟩ : ∃ lf0 : Int → Bool, Hid (lf0 = fun x => (lkQ ms x).isSome) := ⟨_, rfl⟩
  obtain ⟨rr, Hrr⟩ : ∃ rr, Hid (W.heap.size = rr) := ⟨_, rfl⟩
  have HR1 : Hid (SaS W B T last L lb M rr nl F lf0 cnt0 v ms W2) := by
    rw [← Hrr.out, Hlf0.out]
    exact ⟨by rw [left_all hlf]; exact h.below hbr, hrs, Fb.of hbr, fun k hk => (hF k).2 hk⟩
  rw [Hrr.out] at hrg
  obtain ⟨n, Hn⟩ : ∃ n, Hid (L.length = n) := ⟨_, rfl⟩
  obtain ⟨m, Hm⟩ : ∃ m, Hid ((allT lb L).length = m) := ⟨_, rfl⟩
  have HW : Hid (Go.RowKit.wrap64 ((n : Int) - (m : Int)) = (n : Int) - (m : Int)) := by
    have h1 := h.few
    have h2 : (allT lb L).length ≤ L.length := List.length_filter_le _ _
    rw [Hn.out] at h1
    rw [Hn.out, Hm.out] at h2
    unfold Hid Go.RowKit.wrap64; omega
  rw [Hn.out] at hlen
  rw [Hn.out, Hm.out]
  have HFin : Hid (∀ (lf : Int → Bool) (cnt : Nat) (v : Value) (ms : List Qe) (W' : World), (∀ x, isI x → lf x = false) → SaS W B T last L lb M rr nl F lf cnt v ms W' → WlO WlAt W B F T last (allT lb L) W' ∧ W'.cell? ⟨B, 3, none⟩ = some (.map (some M)) ∧ ∀ ty, (Builtin.len_ #[57] ty #[.map (some M)]).run Try.prog W' = .ok (.int .i64 m) W') := fun lf cnt v ms W' hp hS => by
    have hwl := hS.wl
    rw [left_none fun t ht => hp _ (by
      obtain ⟨b, hb, e⟩ := List.mem_map.1 (h.pm.mem_iff.2 ht)
      rw [← e]
      exact h.map.oks b hb)] at hwl
    refine ⟨⟨wlF B M v ms, ⟨M, v, ms, hwl, fun _ => Iff.rfl⟩, hS.fb, fun k hk => .inl (hS.fr k hk)⟩, hwl.obj.cells.2.2.2, fun ty => ?_⟩
    have := hwl.map.len ty
    rw [hwl.len, Hm.out] at this
    exact this
  clear h hF hN hlf hrs hbr hsz
  clear Hlf0
  go_enter Try.func10, Try.ntmps10
  go_wp2_with fail
  with_reducible refine hM.mono ?_
  rintro e w1 ⟨rfl, hw⟩
  subst w1
  clear hM
  go_wp2_with fail
  go_loopw [7] (fun _ W' => ∃ (lf : Int → Bool) (cnt : Nat) (v : Value) (ms : List Qe), Hid (SaS W B T last L lb M rr nl F lf cnt v ms W')) (fun _ W' => W'.rangeLeft M rr)
  case atStart => exact ⟨lf0, cnt0, v, ms, HR1⟩
  case round =>
  clear HR1 hrg c3 hlen
  obtain ⟨lf, cnt, v, ms, HI⟩ := hrel
  rename World => w3
  rcases HI.out.rg.next 0 with ⟨hp, hrun⟩ | ⟨b, w4, cnt', hbL, hbU, hlb, hrun, hrs', hlt, hfb, hsz4, hen⟩
  · obtain ⟨hE, c3, hlen⟩ := HFin.out _ _ _ _ _ hp HI.out
    have HE := hid hE
    clear hp HI hE HFin
    go_wp2_with fail
    go_ret
    exact ⟨by show Ending.returned (.int .i64 (Go.RowKit.wrap64 ((n : Int) - (m : Int)))) = _; rw [HW.out], HE⟩
  · have HLt : Hid (cnt' < w3.rangeLeft M rr) := by unfold Hid; rw [HI.out.rg.left]; exact hlt
    have h0 : ∀ t ∈ leftT lb lf L, t ∈ L := fun t ht => (List.mem_filter.1 ht).1
    have hFl : ∀ k, F k → k < rr := fun k hk => by rw [← Hrr.out]; exact HFl.out k hk
    have hin : b.tm ∈ L := h0 _ (HI.out.wl.pm.mem_iff.1 (List.mem_map.2 ⟨b, hbL, rfl⟩))
    have hwl4 : WlI w4 B T last (leftT lb lf L) M v ms := HI.out.wl.fb hfb fun k hk e => by
      have := hFl k (HI.out.fr k hk)
      have e' : k = rr := e
      omega
    obtain ⟨i, hi, hg⟩ := mem_gq hbL
    have c2 := (hwl4.que.els i hi).cells.2.2.1
    rw [hg] at c2
    by_cases hl : b.tm.label = lb
    · have hC := HI.out.one hFl (by rw [Hrr.out]; exact Nat.le_refl _) h0 HNd.out hbL hlb hrs' hfb hl
      rw [hl] at c2
      clear hrs' hlt hfb hbU hlb HI h0 hFl hin hwl4 hi hg hbL hl hsz4 HFin
      go_wp2_with fail
      with_reducible refine hC.mono ?_
      rintro e w6 ⟨rfl, H6⟩
      clear hC
      go_wp2_with fail
      go_round
      case rel =>
        obtain ⟨v', ms', cnt7, k7, k8⟩ := H6.out
        exact ⟨_, cnt7, v', ms', k8⟩
      case measure =>
        obtain ⟨v', ms', cnt7, k7, k8⟩ := H6.out
        rw [k8.rg.left]
        exact Nat.lt_of_le_of_lt k7 HLt.out
    · have HS : Hid (SaS W B T last L lb M rr nl F (fun x => lf x && decide (x ≠ b.tm.num)) cnt' v ms w4) := ⟨by rw [← left_still HNd.out hin hl]; exact hwl4, hrs', HI.out.fb.trans hfb fun x hx => .inr (by rw [show x = rr from hx, Hrr.out]; exact Nat.le_refl _), HI.out.fr⟩
      clear hrs' hlt hfb hbU hlb HI h0 hFl hin hwl4 hi hg hbL hsz4 HFin
      go_wp2_with fail
      go_round
      case rel => exact ⟨_, cnt', v, ms, HS⟩
      case measure => rw [HS.out.rg.left]; exact HLt.out
end Go.Proofs.Ytdfbnfgemjljgaa
