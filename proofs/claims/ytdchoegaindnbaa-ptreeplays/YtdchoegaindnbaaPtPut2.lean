/-
  Put.
-/
import Derived.Test.YtdchoegaindnbaaPtPut
namespace Go.Proofs.Ytdchoegaindnbaa
open Go.RowKit Go.Maps Go.Shelf
set_option linter.unusedVariables false
set_option maxRecDepth 1000000

/-- What Put makes of the marks: L' behind it, c new ones. -/
def PutS (L : List Mk) (x : Int) (ts : List Int) (room size : Nat) (T : Int) (c : Nat) (L' : List Mk) : Prop :=
  ∃ L2 Fr : List Mk, FrS L x (ts.take (room * size)) size (min ts.length (room * size) / size) T Fr ∧ Fr.length = c ∧ Mr (useK L x (ts.take (room * size)) size (min ts.length (room * size) / size) T) T (L.length + c - room) L2 ∧ L' = L2 ++ Fr
/-- The new marks are put in. -/
structure PnI (W : World) (B room size M : Nat) (T : Int) (L : List Mk) (g0 : Nat) (v : Value) (c : Nat) (L2 Fr : List Mk) (k : Nat) (W' : World) : Prop where
  obj : TrB W' B room size M T
  map : PmAt W' M ((Fr.take k).reverse ++ L2)
  mks : ∀ m ∈ L2, MkB W' m
  frm : ∀ m ∈ Fr, MkB W' m
  row : W'.ownsRow g0 57 1 v c (Fr.map ptV)
  fb : Fb (trF B M L) W W'
set_option maxHeartbeats 8000000 in
theorem put_any17 {W : World} {B room size M : Nat} {time : Int} {L : List Mk} (h : TrAt W B room size M time L) (ht : time < 1000000) {a : Option Addr} {len cap : Nat} {ts : List Int} {x : Int} (hr : Reads .i64 W a len cap ts) (hi : isIs ts) (hl : len ≤ 1000) (hx : isU x) (hap : Aft len a (trF B M L)) :
    Calls Try.prog 16 #[.pointer (some ⟨B, 0, none⟩), .slice a len cap, .int .u64 x] W fun e w' => ∃ c : Nat, e = .returned (.int .i64 c) ∧ Hid (∃ L', PutS L x ts room size (time + 1) c L' ∧ TrO W B room size M L (time + 1) L' w') := by
  have hM := made_yes h.obj h.rm.1
  have c3 := h.obj.cells.2.2.2
  have f3 := h.obj.frozen 3
  obtain ⟨T, hT⟩ : ∃ T, time + 1 = T := ⟨_, rfl⟩
  have hwr : IntKind.u64.wrap T = T := by rw [IntKind.wrap_u64]; have := h.tm; omega
  have t2 := h.tick ht
  rw [hT] at t2 ⊢
  obtain ⟨w3, hw3⟩ : ∃ w3, w3 = W.setCell ⟨B, 3, none⟩ (.int .u64 T) := ⟨_, rfl⟩
  have t3 : TrAt w3 B room size M T L := by rw [hw3]; exact t2
  have hf3 : Fb (trF B M L) W w3 := by rw [hw3]; exact Fb.set (F := trF B M L) (.inl rfl) _
  have hr3 := hr.fb hf3 hap
  have hC := cut_any t3.obj t3.rm.2 t3.sz.2 a len cap hr.room hr.most
  have HOld : Hid (∀ m ∈ L, m.used < T) := fun m hm => by have := h.old m hm; omega
  have HSz : Hid (ts.length = len) := hr.size
  have HH := hid h
  have HT3 := hid t3
  have HF3 := hid hf3
  have HR3 := hid hr3
  have HAp := hid hap
  have HI := hid hi
  have HX := hid hx
  have HTT := hid hT
  clear h t2 t3 hf3 hr3 hr hap hi hx
  go_enter Try.func16, Try.ntmps16
  go_wp2_with fail
  refine hM.mono ?_
  rintro r w1 ⟨rfl, rfl⟩
  clear hM
  go_wp2_with fail
  rw [← hw3]
  clear hw3 c3 f3
  with_reducible refine hC.mono ?_
  rintro r w4 ⟨rfl, H4⟩
  clear hC
  obtain ⟨n, Hn⟩ : ∃ n, Hid (min len (room * size) = n) := ⟨_, rfl⟩
  rw [Hn.out]
  have hnl : n ≤ len := by have := Hn.out; omega
  have HT4 : Hid (TrAt w4 B room size M T L) := HT3.out.below H4.out
  have hU := useThere_any HT4.out ((HR3.out.below H4.out).cut hnl) (x := x) (fun y hy => HI.out y (List.mem_of_mem_take hy)) (by omega) HX.out (fun h0 => HAp.out (by omega))
  go_wp2_with fail
  with_reducible refine hU.mono ?_
  rintro r w5 ⟨v, rfl, H5⟩
  clear hU
  obtain ⟨Fr, hu⟩ := H5.out
  obtain ⟨av, cv, ev, hvs⟩ : ∃ av cv, v = .slice av Fr.length cv ∧ Fr.length ≤ cv ∧ cv ≤ 9223372036854775807 := by
    rcases id hu.row.2 with ⟨hv, h0⟩ | ⟨g', cap', cur, hv, hB, hg, q1, q2, _⟩
    · exact ⟨none, 0, by rw [hv, h0], by omega, by omega⟩
    · exact ⟨_, cap', hv, q1, by unfold maxLen at q2; omega⟩
  subst ev
  have HU := hid hu
  have HK : Hid (n / size * size ≤ (ts.take n).length ∧ n / size ≤ room) := by
    have h1 := HH.out.sz.1
    have h2 := Hn.out
    refine ⟨?_, ?_⟩
    · rw [List.length_take, HSz.out]
      have := Nat.div_mul_le_self n size
      omega
    · have h3 : n ≤ room * size := by omega
      exact Nat.div_le_of_le_mul (by rw [Nat.mul_comm]; exact h3)
  have HFr : Hid (FrS L x (ts.take n) size (n / size) T Fr) := ⟨hu.tks, fun m hm => (hu.fre m hm).2.2.1, fun m hm => (hu.fre m hm).2.2.2⟩
  have HNd : Hid ((L.map Mk.nm).Nodup) := HH.out.map.nodup
  obtain ⟨c, hcn⟩ : ∃ c, Fr.length = c := ⟨_, rfl⟩
  have HTu : Hid (TrAt w5 B room size M T (useK L x (ts.take n) size (n / size) T)) := UsI.tr HT4.out hu
  have Hold : Hid ((useK L x (ts.take n) size (n / size) T).length + c - room ≤ ((useK L x (ts.take n) size (n / size) T).filter fun m => decide (m.used < T)).length) := by
    rw [useK_len]
    exact hold_ok HNd.out HOld.out HK.out.2 (by rw [← hcn]; exact HFr.out.len)
  have hc5 : c ≤ 5000 := by
    have h1 := HFr.out.len
    have h2 : (frJ L x (ts.take n) size (n / size)).length ≤ n / size := by
      have := List.length_filter_le (fun j => !hasM L x (bgT (ts.take n) size j)) (List.range (n / size))
      rw [List.length_range] at this
      exact this
    have h3 := Nat.div_le_self n size
    omega
  have hRm := room_any HTu.out c hc5 Hold.out
  have HCn := hid hcn
  rw [hcn] at hvs HU ⊢
  clear hu H5 hcn
  obtain ⟨k1, k2⟩ := hvs
  go_wp2_with fail
  with_reducible refine hRm.mono ?_
  rintro r w6 ⟨rfl, H6⟩
  clear hRm
  obtain ⟨L2, ho6, hmr⟩ := H6.out
  have HM2 := hid hmr
  rw [useK_len] at Hold hmr
  have HF6 : Hid (Fb (trF B M L) w1 w6) := by
    refine ((HF3.out.below H4.out).trans HU.out.fb fun j hj => .inl hj).trans ho6.2.1 fun j hj => .inl ?_
    rcases hj with hj | hj | ⟨m, hm, e⟩
    · exact .inl hj
    · exact .inr (.inl hj)
    · obtain ⟨y, hy, rfl⟩ := List.mem_map.1 hm
      exact .inr (.inr ⟨y, hy, by rw [← e, blk_if]⟩)
  have HI0 : Hid (PnI w1 B room size M T L w4.heap.size (.slice av c cv) c L2 Fr 0 w6) := by
    have hf : ∀ j, trF B M (useK L x (ts.take n) size (n / size) T) j → j < w4.heap.size := fun j hj => by
      rcases hj with hj | hj | ⟨m, hm, e⟩
      · exact HT4.out.lts (.inl hj)
      · exact HT4.out.lts (.inr (.inl hj))
      · obtain ⟨y, hy, rfl⟩ := List.mem_map.1 hm
        exact HT4.out.lts (.inr (.inr ⟨y, hy, by rw [← e, blk_if]⟩))
    refine ⟨ho6.1.obj, by simpa using ho6.1.map, ho6.1.mks, fun m hm => (HU.out.fre m hm).1.same (ho6.2.1.block _ (HU.out.fre m hm).1.lt fun hj => ?_), ?_, HF6.out⟩
    · have h1 := hf _ hj
      have h2 := (HU.out.fre m hm).2.1
      omega
    · rw [← HCn.out] at HU ⊢
      exact own_blk HU.out.row fun b hb => ho6.2.1.block b (HU.out.row.lt b hb).2 fun hj => by
        have h1 := hf _ hj
        have h2 := (HU.out.row.lt b hb).1
        omega
  have HLm : Hid (∀ k, k < c → ∃ m ∈ Fr, Fr[k]? = some m ∧ (Fr.take (k + 1)).reverse ++ L2 = m :: ((Fr.take k).reverse ++ L2) ∧ m.ok ∧ look ((Fr.take k).reverse ++ L2) m.nm = none ∧ ((Fr.take k).reverse ++ L2).length ≤ 100000) := by
    intro k hk
    have hk' : k < Fr.length := by rw [HCn.out]; exact hk
    have hmem := List.getElem_mem hk'
    obtain ⟨j, hj1, hj2, hj3⟩ := HFr.out.mem hmem
    have hrep := HFr.out.rep _ hmem
    have hisI : isIs (ts.take n) := fun y hy => HI.out y (List.mem_of_mem_take hy)
    have hti : isIs Fr[k].toks := by rw [hj3]; exact fun y hy => hisI y (List.mem_of_mem_take hy)
    have htl : Fr[k].toks.length ≤ 1000 := by
      rw [hj3]
      unfold bgT
      rw [List.length_take, List.length_take, HSz.out]
      omega
    have tm := HT4.out.tm
    refine ⟨Fr[k], hmem, List.getElem?_eq_getElem hk', ?_, ⟨by rw [hrep]; exact HX.out, hti, htl, ?_⟩, ?_, ?_⟩
    · rw [List.take_succ_eq_append_getElem hk', List.reverse_append]
      rfl
    · rw [HFr.out.used _ hmem]
      exact ⟨tm.1, by omega⟩
    · rw [look_none]
      intro y hy e
      rcases List.mem_append.1 hy with hy | hy
      · have hnd := HFr.out.nodup HH.out.sz.1 HK.out.1 HX.out hisI
        rw [List.mem_reverse] at hy
        obtain ⟨i, hi1, hi2⟩ := List.mem_take_iff_getElem.1 hy
        have hne : i ≠ k := by omega
        have h5 : (Fr.map Mk.nm)[i]'(by rw [List.length_map]; omega) = (Fr.map Mk.nm)[k]'(by rw [List.length_map]; omega) := by
          rw [List.getElem_map, List.getElem_map, hi2, e]
        exact hne ((List.getElem_inj hnd).1 h5)
      · obtain ⟨z, hz, rfl⟩ := List.mem_map.1 (hmr.sub y hy)
        rw [nm_if] at e
        unfold hasM at hj2
        have e2 : look L (nmZ x (bgT (ts.take n) size j)) = some z.blk := by
          rw [show nmZ x (bgT (ts.take n) size j) = z.nm by rw [e]; unfold Mk.nm; rw [hrep, hj3]]
          exact look_mem HNd.out hz
        rw [e2] at hj2
        cases hj2
    · rw [List.length_append, List.length_reverse, List.length_take]
      have h6 := hmr.sublist.length_le
      rw [useK_len] at h6
      have h7 := HH.out.len
      have h8 := HH.out.rm.2
      omega
  have HEnd : Hid (∀ w7, PnI w1 B room size M T L w4.heap.size (.slice av c cv) c L2 Fr c w7 → ∃ L', PutS L x ts room size T c L' ∧ TrO w1 B room size M L T L' w7) := by
    intro w7 q
    have e1 : ts.take n = ts.take (room * size) := by
      have h1 := Hn.out
      have h2 := HSz.out
      rcases Nat.le_total len (room * size) with h | h
      · rw [List.take_of_length_le (by omega), List.take_of_length_le (by omega)]
      · rw [show n = room * size by omega]
    have e2 : min ts.length (room * size) / size = n / size := by rw [HSz.out, Hn.out]
    have hlen := hmr.len (by rw [useK_nm]; exact HNd.out) Hold.out
    rw [useK_len] at hlen
    have htk : Fr.take c = Fr := List.take_of_length_le (by rw [HCn.out]; exact Nat.le_refl _)
    have hmap := q.map
    rw [htk] at hmap
    have hp : (Fr.reverse ++ L2).Perm (L2 ++ Fr) := List.perm_append_comm.trans (List.Perm.append_left _ (List.reverse_perm _))
    refine ⟨L2 ++ Fr, ⟨L2, Fr, by rw [← e1, e2]; exact HFr.out, HCn.out, by rw [← e1, e2]; exact hmr, rfl⟩, ⟨q.obj, hmap.perm hp, ?_, HH.out.rm, HH.out.sz, HT4.out.tm, ?_, ?_, ?_⟩, q.fb, ?_⟩
    · intro m hm
      rcases List.mem_append.1 hm with h | h
      · exact q.mks m h
      · exact q.frm m h
    · intro m hm
      rcases List.mem_append.1 hm with h | h
      · exact ho6.1.old m h
      · rw [HFr.out.used m h]; exact Int.le_refl _
    · intro m hm
      rcases List.mem_append.1 hm with h | h
      · exact ho6.1.short m h
      · obtain ⟨j, hj1, hj2, hj3⟩ := HFr.out.mem h
        rw [hj3, bgT_len HK.out.1 hj1]
        have h1 : (j + 1) * size ≤ n / size * size := Nat.mul_le_mul_right size hj1
        have h2 := Nat.div_mul_le_self n size
        have h3 := Hn.out
        omega
    · rw [List.length_append, HCn.out]
      have := HH.out.len
      omega
    · intro m hm
      rcases List.mem_append.1 hm with h | h
      · obtain ⟨y, hy, rfl⟩ := List.mem_map.1 (hmr.sub m h)
        exact .inl ⟨y, hy, by rw [blk_if]⟩
      · have h1 := (HU.out.fre m h).2.1
        have h2 := HF3.out.size
        have h3 := H4.out.size
        exact .inr (by omega)
  have HBM : Hid (B ≠ M ∧ (∀ m ∈ Fr, m.blk ≠ M) ∧ (∀ m ∈ L2, m.blk ≠ M) ∧ M < w4.heap.size) := by
    refine ⟨HH.out.bm, fun m hm e => ?_, fun m hm => ho6.1.mm (ho6.1.mks m hm), HT4.out.lts (.inr (.inl rfl))⟩
    have h1 := (HU.out.fre m hm).2.1
    have h2 := HT4.out.lts (k := M) (.inr (.inl rfl))
    omega
  clear HU HTu Hold H6 ho6 HM2 hmr HF6 HFr HNd HK HOld HT3 HF3 HR3 H4
  go_wp2_with fail
  go_loopw [32] (fun z W' => ∃ k : Nat, k ≤ c ∧ z = .int .i64 k ∧ Hid (PnI w1 B room size M T L w4.heap.size (.slice av c cv) c L2 Fr k W')) (fun z _ => c - (intOf z).toNat)
  case atStart => exact ⟨0, by omega, rfl, HI0⟩
  case round =>
  obtain ⟨k, hk, rfl, HK⟩ := hrel
  rename World => w7
  clear HI0
  by_cases hlt : k < c
  · obtain ⟨m, hm, hget, hsn, hok, hno, hle⟩ := HLm.out k hlt
    obtain ⟨b, rfl⟩ : ∃ b, av = some ⟨b, 0, none⟩ := by
      rcases id HK.out.row.2 with ⟨hv, h0⟩ | ⟨g', cap', cur, hv, hB, hg, _⟩
      · omega
      · cases hv; exact ⟨_, rfl⟩
    have hrc : w7.cell? ⟨b, k, none⟩ = some (.pointer (some ⟨m.blk, 0, none⟩)) := by
      have := World.ownsRow.cellAt HK.out.row k (by omega)
      rw [this, List.getElem?_map, hget]
      rfl
    have hcn := (HK.out.frm m hm).cells.1
    have c2 := HK.out.obj.cells.2.2.1
    obtain ⟨w8, hst, hP8, hF8⟩ := (HK.out.map.same (W' := w7.drew) rfl).store hle hok hno
    have HN : Hid (PnI w1 B room size M T L w4.heap.size (.slice (some ⟨b, 0, none⟩) c cv) c L2 Fr (k + 1) w8) := by
      refine ⟨HK.out.obj.same (hF8.block _ HK.out.obj.lt HBM.out.1), by rw [hsn]; exact hP8, fun y hy => (HK.out.mks y hy).same (hF8.block _ (HK.out.mks y hy).lt (HBM.out.2.2.1 y hy)), fun y hy => (HK.out.frm y hy).same (hF8.block _ (HK.out.frm y hy).lt (HBM.out.2.1 y hy)), own_blk HK.out.row fun j hj => hF8.block j (HK.out.row.lt j hj).2 fun e => ?_, HK.out.fb.drew.trans hF8 fun j hj => .inl (.inr (.inl hj))⟩
      have h1 := (HK.out.row.lt j hj).1
      have h2 : j = M := e
      have := HBM.out.2.2.2
      omega
    have g3 : (k : Int) < (c : Int) := by omega
    clear HK hP8 hF8 hok hno hle hsn hget hm
    go_wp2_with fail
    go_region
    all_goals
      go_wp2_with fail
      go_round
      case rel => exact ⟨k + 1, by omega, by go_num, HN⟩
      case measure => simp [intOf]; omega
  · obtain rfl : k = c := by omega
    have HE := hid (HEnd.out _ HK.out)
    clear HK HEnd HLm
    go_wp2_with fail
    go_ret
    exact ⟨k, rfl, HE⟩
end Go.Proofs.Ytdchoegaindnbaa
