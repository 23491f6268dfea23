/-
  Contract: the wheel's Due.
-/
import Derived.Test.YtdfbnfgemjljgaaWlSa
import Derived.BigQuiet
import Derived.Laws.AppendOwnNone
namespace Go.Proofs.Ytdfbnfgemjljgaa
open Go.RowKit Go.Maps
set_option linter.unusedVariables false
set_option maxRecDepth 1000000

theorem Try.infoWt : (Try.prog.info? 54).map (fun i => (i.zero, i.size, i.bytes)) = some (some (.agg #[.int .i64 0, .int .i64 0, .int .u64 0, .int .i64 0]), 4, 32) := by kernel_rfl
theorem own_blkT {base : Nat} {e : TypeId} {n : Nat} {v : Value} {g : Nat} {xs : List Value} {W : World} (h : W.ownsRow base e 4 v n xs) (hg : v.ownBlock = some g) : base ≤ g ∧ ∃ cur, W.heap[g]? = some (.cells cur e (0, 0)) := by
  rcases id h.2 with ⟨h', _⟩ | ⟨g', c, cur, hv, hB, hc, rest⟩
  · rw [h'] at hg; cases hg
  · rw [hv] at hg
    cases hg
    exact ⟨hB, cur, hc⟩
def slLen : Value → Nat
  | .slice _ n _ => n
  | _ => 0
/-- One less, taken out of the queue ahead of the map. -/
theorem WlI.taken {W W' : World} {B : Nat} {T last : Int} {L R : List Tm} {M g cap : Nat} {ms ns : List Qe} {v : Value} (h : WlI W B T last L M v ms) (hL : L = (gq ms 0).tm :: R) (p1 : (gq ms 0 :: ns).Perm ms) (hh : HeapQ ns ns.length) (hw : WqAt B T last M g cap ns W') (hm : MqAt W' M (butQ ms (gq ms 0).tm.num)) :
    WlI W' B T last R M (.slice (some ⟨g, 0, none⟩) ns.length cap) ns := by
  have hp : (ns.map Qe.tm).Perm R := by
    have := (p1.map Qe.tm).trans h.pm
    rw [hL] at this
    exact this.cons_inv
  have hs := h.so
  have hn := h.nm
  have hf := h.few
  rw [hL] at hs hn hf
  refine ⟨hw.var, hm.perm (but_perm h.map.nodup p1), hw.row.v, hh, hp, (List.pairwise_cons.1 hs).2, fun t ht => hn t (List.mem_cons_of_mem _ ht), h.tm, h.la, by simp at hf; omega⟩
/-- Within Due: k have been taken. -/
structure DuS (W : World) (B : Nat) (T last : Int) (L : List Tm) (M : Nat) (F : Nat → Prop) (k : Nat) (v5 : Value) (v : Value) (ms : List Qe) (W' : World) : Prop where
  wl : WlI W' B T last (L.drop k) M v ms
  kl : k ≤ L.length
  du : ∀ x ∈ L.take k, dueB T x = true
  fb : Fb F W W'
  fr : ∀ k, wlF B M v ms k → F k
  ow : W'.ownsRow W.heap.size 54 4 v5 k (flatT (L.take k))
theorem DuS.below {W : World} {B : Nat} {T last : Int} {L : List Tm} {M : Nat} {F : Nat → Prop} {k : Nat} {v5 : Value} {v : Value} {ms : List Qe} {W1 W2 : World} (h : DuS W B T last L M F k v5 v ms W1) (hb : Below W1.heap.size W1 W2) : DuS W B T last L M F k v5 v ms W2 :=
  ⟨h.wl.below hb, h.kl, h.du, h.fb.below hb, h.fr, own_below h.ow hb⟩
theorem DuS.end {W : World} {B : Nat} {T last : Int} {L : List Tm} {M : Nat} {F : Nat → Prop} {k : Nat} {a : Option Addr} {n c : Nat} {v : Value} {ms : List Qe} {W1 : World} (h : DuS W B T last L M F k (.slice a n c) v ms W1) (hF : ∀ k, F k → k < W.heap.size) (hn : ∀ x, L[k]? = some x → dueB T x = false) :
    WlD WlAt W B F T last (L.dropWhile (dueB T)) (L.takeWhile (dueB T)) a n c W1 := by
  obtain ⟨e1, e2⟩ := tw_at h.du hn h.kl
  rw [e1, e2]
  obtain ⟨a', c', hv, ht, hb⟩ := TsAt.own h.ow
  cases hv
  exact ⟨ht, wlF B M v ms, ⟨M, v, ms, h.wl, fun _ => Iff.rfl⟩, h.fb, fun k hk => .inl (h.fr k hk), fun ad e => ⟨hb ad e, fun hk => by have := hF _ (h.fr _ hk); have := hb ad e; omega⟩⟩
theorem drewN_below (w : World) (n : Nat) : Below w.heap.size w (w.drewN n) := ⟨rfl, rfl, rfl, Nat.le_refl _, fun _ _ => rfl⟩
/-- One more is handed out: its box is b, the map's world w4. -/
theorem DuS.more {W : World} {B : Nat} {T last : Int} {L : List Tm} {M : Nat} {F : Nat → Prop} {k : Nat} {v5 : Value} {v : Value} {ms : List Qe} {W1 w2 w3 w4 w5 w6 : World} {g cap : Nat} {ns : List Qe} {v6 : Value} (h : DuS W B T last L M F k v5 v ms W1) (hF : ∀ k, F k → k < W.heap.size) (hv : v = .slice (some ⟨g, 0, none⟩) ms.length cap) (hx : L[k]? = some (gq ms 0).tm) (hdue : (gq ms 0).tm.due ≤ T)
    (p1 : (gq ms 0 :: ns).Perm ms) (hh : HeapQ ns ns.length) (hw : WqAt B T last M g cap ns w2) (hf2 : Fb (frW B g ms) W1 w2) (hf3 : Below w2.heap.size w2 w3) (hf4 : Fb (at1 M) w3 w4) (hm : MqAt w4 M (butQ ms (gq ms 0).tm.num)) (hf5 : Below w4.heap.size w4 w5)
    (how : w6.ownsRow W.heap.size 54 4 v6 (k + 1) (flatT (L.take k) ++ flatT [(gq ms 0).tm])) (hgr : w5.grownBy w6 v5.ownBlock) :
    DuS W B T last L M F (k + 1) v6 (.slice (some ⟨g, 0, none⟩) ns.length cap) ns w6 := by
  have hkl : k < L.length := (List.getElem?_eq_some_iff.1 hx).1
  have hd : L.drop k = (gq ms 0).tm :: L.drop (k + 1) := by
    rw [List.drop_eq_getElem_cons hkl]
    congr 1
    rw [List.getElem?_eq_getElem hkl] at hx
    exact Option.some.inj hx
  have htk : L.take (k + 1) = L.take k ++ [(gq ms 0).tm] := by rw [List.take_add_one, hx]; rfl
  have hfrW : ∀ x, frW B g ms x → F x := fun x hx => h.fr x (by
    rcases hx with e | e
    · exact .inl e
    · exact .inr (.inr (by rw [hv]; exact frV_fr.2 e)))
  have hns : ∀ x, frW B g ns x → frW B g ms x := fun x hx => by
    rcases hx with e | e | ⟨q, hq, e⟩
    · exact .inl e
    · exact .inr (.inl e)
    · exact .inr (.inr ⟨q, p1.mem_iff.1 (List.mem_cons_of_mem _ hq), e⟩)
  have hM : ¬ frW B g ms M := by
    rintro (e | e)
    · exact h.wl.BM e.symm
    · exact h.wl.que.nM h.wl.map (by rw [hv]; exact frV_fr.2 e)
  have hw3 := hw.below hf3
  have hw4 : WqAt B T last M g cap ns w4 := ⟨hw3.var.same (hf4.block _ hw3.var.lt fun e => hM (.inl (show M = B from (show B = M from e).symm))), hw3.row.same fun x hx => hf4.block _ (hw3.row.lts hx) fun e => hM (hns _ (.inr ((show x = M from e) ▸ hx)))⟩
  have h4 := h.wl.taken hd p1 hh hw4 hm
  have h5 := h4.below hf5
  have hF6 : ∀ x, wlF B M (.slice (some ⟨g, 0, none⟩) ns.length cap) ns x → F x := fun x hx => by
    rcases hx with e | e | e
    · exact h.fr x (.inl e)
    · exact h.fr x (.inr (.inl e))
    · exact hfrW x (hns x (.inr (frV_fr.1 e)))
  have hf6 : Fb (fun x => v5.ownBlock = some x) w5 w6 := ⟨hgr.os, hgr.tape, hgr.output, hgr.size, fun x hx hn => hgr.block x hx fun e => hn (by first | exact e | exact e.symm)⟩
  have hlo : ∀ x, v5.ownBlock = some x → W.heap.size ≤ x := fun x e => (own_lt h.ow e).1
  refine ⟨h5.fb hf6 fun x hx e => by have := hF x (hF6 x hx); have := hlo x e; omega, hkl, fun x hx => ?_, ?_, hF6, by rw [htk, flatT_app]; exact how⟩
  · rw [htk] at hx
    rcases List.mem_append.1 hx with hx | hx
    · exact h.du x hx
    · rw [List.mem_singleton.1 hx]; unfold dueB; exact decide_eq_true hdue
  · exact ((((h.fb.trans hf2 fun x hx => .inl (hfrW x hx)).below hf3).trans hf4 fun x hx => .inl (h.fr x (.inr (.inl hx)))).below hf5).trans hf6 fun x hx => .inr (hlo x hx)
set_option maxHeartbeats 8000000 in
theorem wdue_any {W : World} {B : Nat} {F : Nat → Prop} {T last : Int} {L : List Tm} (h : WlAt W B F T last L) {now : Int} (hn : isI now) :
    Calls Try.prog 13 #[.pointer (some ⟨B, 0, none⟩), .int .i64 now] W fun e w' => ∃ a len cap, e = .returned (.slice a len cap) ∧ Hid (WlD WlAt W B F (timeZ T now) last (L.dropWhile (dueB (timeZ T now))) (L.takeWhile (dueB (timeZ T now))) a len cap w') := by
  obtain ⟨M, v, ms, h, hF⟩ := h
  have hM := wmade_yes h.obj
  have hG := wgoOn_any h now
  obtain ⟨j0, ji, jz0, jz1, jz2⟩ := Go.info_parts Try.infoWt
  have HFl : Hid (∀ k, F k → k < W.heap.size) := fun k hk => h.lts ((hF k).1 hk)
  have hfw := h.few
  generalize timeZ T now = T' at *
  have HI0 : Hid (∀ w1, WlI w1 B T' last L M v ms ∧ Fb (at1 B) W w1 ∧ w1.heap.size = W.heap.size → DuS W B T' last L M F 0 (.slice none 0 0) v ms w1) := fun w1 h1 => ⟨h1.1, Nat.zero_le _, by simp, h1.2.1.mono fun k e => (hF k).2 (.inl e), fun k hk => (hF k).2 hk, World.ownsRow_nil _ _ _ _⟩
  obtain ⟨nL, HnL⟩ : ∃ nL, Hid (L.length = nL) := ⟨_, rfl⟩
  rw [HnL.out] at hfw
  clear h hF
  go_enter Try.func13, Try.ntmps13
  go_wp2_with fail
  with_reducible refine hM.mono ?_
  rintro e w1 ⟨rfl, hw⟩
  subst w1
  go_wp2_with fail
  with_reducible refine hG.mono ?_
  rintro e w1 ⟨rfl, H1⟩
  have HI1 := hid (HI0.out _ H1.out)
  clear hM hG HI0 H1
  go_wp2_with fail
  go_loopw [5] (fun z W' => ∃ (k : Nat) (a : Option Addr) (c : Nat) (v : Value) (ms : List Qe), z = .slice a k c ∧ k ≤ nL ∧ Hid (DuS W B T' last L M F k (.slice a k c) v ms W')) (fun z _ => nL - slLen z)
  case atStart => exact ⟨0, none, 0, v, ms, rfl, Nat.zero_le _, HI1⟩
  case round =>
  clear HI1
  obtain ⟨k, a, c, v, ms, rfl, hk, HI⟩ := hrel
  rename World => wr
  have hB := HI.out.wl.obj
  obtain ⟨c0, _, c2, c3⟩ := hB.cells
  clear hB
  rcases HI.out.wl.que.form with ⟨hv, hms⟩ | ⟨g, cap, hv, hr⟩
  · subst hv
    have hE : ∀ n, Hid (WlD WlAt W B F T' last (L.dropWhile (dueB T')) (L.takeWhile (dueB T')) a k c (wr.drewN n)) := fun n => (HI.out.below (drewN_below wr n)).end HFl.out fun x hx => by
      have h1 := HI.out.wl.len
      rw [hms, List.length_drop] at h1
      have h2 := (List.getElem?_eq_some_iff.1 hx).1
      simp at h1
      omega
    clear HI hms
    go_wp2_with fail
    go_quiet ((go_at_call 24; exact Calls.quiet_of_same (wlen_any _ _ _ _)))
    go_wp2_with fail
    go_ret
    exact ⟨_, _, _, rfl, hE _⟩
  · subst hv
    by_cases h0 : ms.length = 0
    · have hE : ∀ n, Hid (WlD WlAt W B F T' last (L.dropWhile (dueB T')) (L.takeWhile (dueB T')) a k c (wr.drewN n)) := fun n => (HI.out.below (drewN_below wr n)).end HFl.out fun x hx => by
        have h1 := HI.out.wl.len
        rw [h0, List.length_drop] at h1
        have h2 := (List.getElem?_eq_some_iff.1 hx).1
        omega
      rw [h0] at c2
      clear HI hr h0
      go_wp2_with fail
      go_quiet ((go_at_call 24; exact Calls.quiet_of_same (wlen_any _ _ _ _)))
      go_wp2_with fail
      go_ret
      exact ⟨_, _, _, rfl, hE _⟩
    · obtain ⟨R, hR⟩ := head_is HI.out.wl.pm HI.out.wl.so HI.out.wl.hp (by omega)
      have hx : L[k]? = some (gq ms 0).tm := by
        have : (L.drop k)[0]? = some (gq ms 0).tm := by rw [hR]; rfl
        rwa [List.getElem?_drop, Nat.add_zero] at this
      have c5 := hr.cell (i := 0) (by omega)
      have c6 := (hr.els 0 (by omega)).cells.2.2.2.1
      have hro := hr.room
      unfold ptQ at c5
      obtain ⟨n, hn2⟩ : ∃ n, ms.length = n + 1 := ⟨ms.length - 1, by omega⟩
      by_cases hd : (gq ms 0).tm.due ≤ T'
      · have hWq : WqAt B T' last M g cap ms wr := ⟨HI.out.wl.obj, hr⟩
        have hcap : n ≤ 4500 := by
          have h1 := HI.out.wl.few
          have h2 := HI.out.wl.len
          omega
        have HN := hid fun (W' : World) (hb : Below wr.heap.size wr W') => wqnext_any (hWq.below hb) HI.out.wl.hp hn2 hcap
        have HKl : Hid (k < nL) := by unfold Hid; rw [← HnL.out]; exact (List.getElem?_eq_some_iff.1 hx).1
        have hMF : ¬ frW B g ms M := by
          rintro (e | e)
          · exact HI.out.wl.BM e.symm
          · exact HI.out.wl.que.nM HI.out.wl.map (frV_fr.2 e)
        obtain ⟨m, hm⟩ : ∃ m, ms.length = m := ⟨_, rfl⟩
        rw [hm] at c2 hro h0
        have hgg : decide ((0 : Int) < (m : Int)) = true := decide_eq_true (by omega)
        have h00 : 0 < m := by omega
        have hkI : isI (gq ms 0).tm.num := HI.out.wl.map.oks _ (gq_mem (by omega))
        have hlenT : (L.take k).length = k := by rw [List.length_take]; have := HI.out.kl; omega
        -- what is true of the worlds behind next
        have HD : Hid (∀ w2 w3 ns, (gq ms 0 :: ns).Perm ms → HeapQ ns ns.length → WqAt B T' last M g cap ns w2 → Fb (frW B g ms) wr w2 → w3 = w2.alloc (.cells #[.int .i64 (gq ms 0).tm.num, .int .i64 (gq ms 0).tm.kind, .int .u64 (gq ms 0).tm.label, .int .i64 (gq ms 0).tm.due] 54) →
            w3.cell? ⟨B, 3, none⟩ = some (.map (some M)) ∧ ∃ w4, (Builtin.delete_ #[57, 3] 0 #[.map (some M), .int .i64 (gq ms 0).tm.num]).run Try.prog w3.drew = .ok (.tuple #[]) w4 ∧ MqAt w4 M (butQ ms (gq ms 0).tm.num) ∧ Fb (at1 M) w3 w4 ∧ Fb (frW B g ms) wr w2) := fun w2 w3 ns p1 hh hw hf2 e3 => by
          have hb3 : Below w2.heap.size w2 w3 := by rw [e3]; exact (Below.refl _ _).alloc (Nat.le_refl _) _
          have hm3 : MqAt w3.drew M ms := ((HI.out.wl.map.fb hf2 hMF).below hb3).same rfl
          obtain ⟨w4, k1, k2, k3⟩ := hm3.drop hkI 0
          exact ⟨(hw.below hb3).var.cells.2.2.2, w4, k1, k2, ((Fb.refl (at1 M) w3).drew).trans k3 fun x hx => .inl hx, hf2⟩
        have HM := hid fun (w2 w3 w4 w5 w6 : World) (ns : List Qe) (v6 : Value) => HI.out.more (w2 := w2) (w3 := w3) (w4 := w4) (w5 := w5) (w6 := w6) (ns := ns) (v6 := v6) HFl.out rfl hx hd
        have HOw : Hid (∀ w', Fb (frW B g ms) wr w' → w'.ownsRow W.heap.size 54 4 (.slice a k c) k (flatT (L.take k))) := fun w' hf => own_blk HI.out.ow fun b e => hf.block b (own_lt HI.out.ow e).2 fun hb => by
          have h1 := HFl.out b (HI.out.fr b (by
            rcases hb with e | e
            · exact .inl e
            · exact .inr (.inr (frV_fr.2 e))))
          have h2 := (own_lt HI.out.ow e).1
          omega
        have HSz : Hid (W.heap.size ≤ wr.heap.size ∧ k ≤ 4096) := ⟨HI.out.fb.size, by omega⟩
        have HMF := hid hMF
        have HMB : Hid (M < wr.heap.size ∧ ∃ es clock, wr.heap[M]? = some (.map es clock)) := ⟨HI.out.wl.map.lt, HI.out.wl.map.blk⟩
        have HO0 := hid HI.out.ow
        clear HI hr hR hn2 hm h0 hWq hcap hMF hkI hx hlenT
        generalize (gq ms 0).tm = x at *
        obtain ⟨y0, y1, y2, y3⟩ := x
        simp only at *
        have hdd : decide (y3 ≤ T') = true := decide_eq_true hd
        clear hd
        generalize (gq ms 0).blk = qb at *
        go_wp2_with fail
        go_quiet ((go_at_call 24; exact Calls.quiet_of_same (wlen_any _ _ _ _)))
        have hNx := HN.out _ (drewN_below wr ‹Nat›)
        clear c0 c2 c3 c5 c6 HN hgg hdd
        go_wp2_with fail
        with_reducible refine hNx.mono ?_
        rintro e w2 ⟨rfl, H2⟩
        clear hNx
        obtain ⟨ns, p1, p2, p3, p4'⟩ := H2.out
        have p4 : Fb (frW B g ms) wr w2 := (Fb.of (F := frW B g ms) (drewN_below wr ‹Nat›)).trans p4' fun x hx => .inl hx
        obtain ⟨w3, hw3⟩ : ∃ w3, w3 = w2.alloc (.cells #[.int .i64 y0, .int .i64 y1, .int .u64 y2, .int .i64 y3] 54) := ⟨_, rfl⟩
        obtain ⟨c3, w4, hdel, hm4, hf34, hf2⟩ := HD.out _ _ _ p1 p2 p3 p4 hw3
        have hb3 : Below w2.heap.size w2 w3 := by rw [hw3]; exact (Below.refl _ _).alloc (Nat.le_refl _) _
        have hx3 : w3.heap[w2.heap.size]? = some (.cells #[.int .i64 y0, .int .i64 y1, .int .u64 y2, .int .i64 y3] 54 (0, 0)) := by rw [hw3]; exact heap_alloc_new w2 _
        have hx4 : w4.heap[w2.heap.size]? = some (.cells #[.int .i64 y0, .int .i64 y1, .int .u64 y2, .int .i64 y3] 54 (0, 0)) := hf34.one hx3 fun e => by
          have e' : w2.heap.size = M := e
          have := HMB.out.1
          have := hf2.size
          omega
        obtain ⟨w5, hw5⟩ : ∃ w5, w5 = w4.alloc (.cells #[.int .i64 y0, .int .i64 y1, .int .u64 y2, .int .i64 y3] 54) := ⟨_, rfl⟩
        have hb5 : Below w4.heap.size w4 w5 := by rw [hw5]; exact (Below.refl _ _).alloc (Nat.le_refl _) _
        have HNw := hid (World.news_of_block (heap_alloc_new w4 (.cells #[.int .i64 y0, .int .i64 y1, .int .u64 y2, .int .i64 y3] 54)))
        have HO5 : Hid (w5.ownsRow W.heap.size 54 4 (.slice a k c) k (flatT (L.take k))) := own_below (own_blk (own_below (HOw.out _ hf2) hb3) fun b e => hf34.block b (by have := (own_lt (own_below (HOw.out _ hf2) hb3) e).2; omega) fun hb => by
          have e' : b = M := hb
          subst e'
          obtain ⟨es, clock, hmb⟩ := HMB.out.2
          obtain ⟨_, cur, hc⟩ := own_blkT HO0.out e
          rw [hmb] at hc
          cases hc) hb5
        have HSz5 : Hid (W.heap.size ≤ w5.heap.size) := by
          have h1 := HSz.out.1
          have h2 := hf2.size
          have h3 := hb3.size
          have h4 := hf34.size
          have h5 := hb5.size
          unfold Hid
          omega
        have HE : Hid (∀ v6 w6, w6.ownsRow W.heap.size 54 4 v6 (k + 1) (flatT (L.take k) ++ flatT [⟨y0, y1, y2, y3⟩]) → w5.grownBy w6 (Value.slice a k c).ownBlock → ∃ a6 c6, v6 = .slice a6 (k + 1) c6 ∧ Hid (DuS W B T' last L M F (k + 1) v6 (.slice (some ⟨g, 0, none⟩) ns.length cap) ns w6)) := fun v6 w6 how hgr => by
          have := HM.out w2 w3 w4 w5 w6 ns v6 p1 p2 p3 hf2 hb3 hf34 hm4 hb5 how hgr
          rcases id how.2 with ⟨_, e0⟩ | ⟨g6, c6, cur, hv6, _⟩
          · exact absurd e0 (by omega)
          · exact ⟨_, c6, hv6, this⟩
        have HK1 : Hid (k + 1 ≤ 4097) := by have := HSz.out.2; unfold Hid; omega
        have e3 : w3.cell? ⟨w2.heap.size, 0, none⟩ = some (.int .i64 y0) := by rw [cell_of_row _ _ _ _ _ _ hx3]; rfl
        have q0 : w4.cell? ⟨w2.heap.size, 0, none⟩ = some (.int .i64 y0) := by rw [cell_of_row _ _ _ _ _ _ hx4]; rfl
        have q1 : w4.cell? ⟨w2.heap.size, 1, none⟩ = some (.int .i64 y1) := by rw [cell_of_row _ _ _ _ _ _ hx4]; rfl
        have q2 : w4.cell? ⟨w2.heap.size, 2, none⟩ = some (.int .u64 y2) := by rw [cell_of_row _ _ _ _ _ _ hx4]; rfl
        have q3 : w4.cell? ⟨w2.heap.size, 3, none⟩ = some (.int .i64 y3) := by rw [cell_of_row _ _ _ _ _ _ hx4]; rfl
        rw [hw5] at HO5 HE HSz5
        obtain ⟨s2, hs2⟩ : ∃ s2, w2.heap.size = s2 := ⟨_, rfl⟩
        rw [hs2] at e3 q0 q1 q2 q3
        clear H2 HD HM HOw HSz HMF HMB HO0 p1 p2 p3 p4 p4' hm4 hf34 hf2 hb3 hb5 hx3 hx4 hw5
        obtain ⟨xs, Hxs⟩ : ∃ xs, Hid (flatT (L.take k) = xs) := ⟨_, rfl⟩
        rw [Hxs.out] at HO5 HE
        go_wp2_with fail
        rw [← hw3]
        clear hw3
        go_region
        clear hdel e3 c3
        go_wp2_with (at_builtin; refine wpList_append_own _ rfl (.tmp 46) (.tmp 48) 37 rfl W.heap.size 54 j0 (.agg #[.int .i64 0, .int .i64 0, .int .u64 0, .int .i64 0]) 4 32 Try.underlying37 ji jz0 jz1 jz2 rfl (by decide) (.slice a k c) k _ rfl HO5.out ⟨w4.heap.size, 0, none⟩ 1 1 [.int .i64 y0, .int .i64 y1, .int .u64 y2, .int .i64 y3] rfl rfl HNw.out (by simp [Value.oneCell']) (by unfold maxLen; have := HK1.out; omega) (by omega) HSz5.out ?_; intro v6 w6 how6 hgr6 _)
        obtain ⟨a6, c6, rfl, H6⟩ := HE.out v6 w6 how6 hgr6
        refine ⟨⟨k + 1, a6, c6, _, _, rfl, HKl.out, H6⟩, ?_⟩
        have := HKl.out
        simp [slLen]
        omega
      · have hE : ∀ n, Hid (WlD WlAt W B F T' last (L.dropWhile (dueB T')) (L.takeWhile (dueB T')) a k c (wr.drewN n)) := fun n => (HI.out.below (drewN_below wr n)).end HFl.out fun x hx2 => by
          rw [hx] at hx2
          cases hx2
          unfold dueB
          exact decide_eq_false hd
        have hdd : decide ((gq ms 0).tm.due ≤ T') = false := decide_eq_false hd
        obtain ⟨m, hm⟩ : ∃ m, ms.length = m := ⟨_, rfl⟩
        rw [hm] at c2 hro h0
        have hgg : decide ((0 : Int) < (m : Int)) = true := decide_eq_true (by omega)
        have h00 : 0 < m := by omega
        clear HI hr hR hx hn2 hd hm h0
        generalize (gq ms 0).tm.due = du at *
        generalize (gq ms 0).blk = qb at *
        go_wp2_with fail
        go_quiet ((go_at_call 24; exact Calls.quiet_of_same (wlen_any _ _ _ _)))
        go_wp2_with fail
        go_ret
        exact ⟨_, _, _, rfl, hE _⟩
end Go.Proofs.Ytdfbnfgemjljgaa
