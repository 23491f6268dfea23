/-
  useThere, walked.
-/
import Derived.Test.YtdchoegaindnbaaPtUse
namespace Go.Proofs.Ytdchoegaindnbaa
open Go.RowKit Go.Maps Go.Shelf
set_option linter.unusedVariables false
set_option maxRecDepth 1000000

theorem Try.infoP : (Try.prog.info? 57).map (fun i => (i.zero, i.size, i.bytes)) = some (some (.pointer none), 1, 8) := by kernel_rfl
set_option maxHeartbeats 8000000 in
theorem useThere_any {W : World} {B room size M : Nat} {T : Int} {L : List Mk} (h : TrAt W B room size M T L) {a : Option Addr} {len cap : Nat} {ts : List Int} {x : Int} (hr : Reads .i64 W a len cap ts) (hi : isIs ts) (hl : len ≤ 1000) (hx : isU x) (hap : Aft len a (trF B M L)) :
    Calls Try.prog 30 #[.pointer (some ⟨B, 0, none⟩), .slice a len cap, .int .u64 x] W fun e w' => ∃ v : Value, e = .returned v ∧ Hid (∃ Fr : List Mk, UsI W B room size M T L x ts (len / size) v Fr w') := by
  obtain ⟨i0, hi0, hz0, hz1, hz2⟩ := info_parts Try.infoP
  have hN := name_of hr hi hl hx
  have hS := fun w : World => size_any x w hx.1 hx.2
  have HSz := hid h.sz
  have HL : Hid (ts.length = len) := hr.size
  have HR := hid fun (W' : World) (hb : Fb (trF B M L) W W') => hr.fb hb hap
  have HX := hid hx
  have HI := hid hi
  have HLt := hid fun (j : Nat) (hj : trF B M L j) => h.lts hj
  have HT := hid h
  have hnl : (nmZ x ts).length ≤ 10010 := by
    have := nmZ_len hx hi
    have := HL.out
    omega
  have h1 := h.sz.1
  have h2 := h.sz.2
  have hss : (strOfNums (nmZ x ts)).size = (nmZ x ts).length := strOfNums_size _
  obtain ⟨s, Hs⟩ : ∃ s, Hid (strOfNums (nmZ x ts) = s) := ⟨_, rfl⟩
  rw [Hs.out] at hN hss
  clear hr hi hap hx h
  go_enter Try.func30, Try.ntmps30
  go_wp2_with fail
  refine hN.mono ?_
  rintro r w1 ⟨rfl, H1⟩
  clear hN
  go_wp2_with fail
  refine (hS _).mono ?_
  rintro r w2 ⟨rfl, rfl⟩
  clear hS
  have HU0 : Hid (UsI W B room size M T L x ts 0 (.slice none 0 0) [] w2) := by
    have t := HT.out.below H1.out
    exact ⟨t.obj, t.map, fun m hm => by rw [show usd x ts size 0 m = false by unfold usd; simp]; exact t.mks m hm, World.ownsRow_nil _ _ _ _, by simp, by simp [frJ], Fb.of H1.out⟩
  have c1 := HU0.out.obj.cells.2.1
  have HE0 : Hid ((encZ x).length = (nmZ x (ts.take 0)).length) := by unfold Hid nmZ; simp [txZ_nil]
  go_wp2_with fail
  go_loopw [7, 9, 10] (fun z7 z9 z10 W' => ∃ (k p2 e : Nat) (v : Value) (Fr : List Mk), z7 = v ∧ z9 = .int .i64 e ∧ z10 = .int .i64 p2 ∧ Hid (p2 = (k + 1) * size ∧ k * size ≤ len ∧ e = (nmZ x (ts.take (k * size))).length) ∧ Hid (UsI W B room size M T L x ts k v Fr W')) (fun _ _ z10 _ => len + 100 - (intOf z10).toNat)
  case atStart => exact ⟨0, size, _, _, [], rfl, rfl, rfl, ⟨by omega, by omega, by rw [Nat.zero_mul]; exact HE0.out⟩, HU0⟩
  case round =>
  obtain ⟨k, p2, e, v, Fr, rfl, rfl, rfl, HK, HU⟩ := hrel
  rename World => w3
  clear HU0 c1 HE0 H1
  obtain ⟨p, hp⟩ : ∃ p, k * size = p := ⟨_, rfl⟩
  have hp2 : p2 = p + size := by have := HK.out.1; rw [Nat.add_mul, Nat.one_mul] at this; omega
  have hpl : p ≤ len := by have := HK.out.2.1; omega
  have hel : e ≤ 10010 := by
    have := HK.out.2.2
    have h3 := nmZ_len HX.out (ts := ts.take (k * size)) (fun y hy => HI.out y (List.mem_of_mem_take hy))
    have h4 : (ts.take (k * size)).length ≤ 1000 := by rw [List.length_take]; have := HL.out; omega
    omega
  have HP := hid hp
  by_cases hlt : p2 ≤ len
  · obtain ⟨b, off, rfl, _⟩ := (HR.out _ HU.out.fb).cell 0 (by omega)
    have rm := (HR.out _ HU.out.fb).room
    have ms := (HR.out _ HU.out.fb).most
    have hcp : ¬ cap = p := by omega
    have hps : p2 - p = size := by omega
    have hsub : (p2 : Int) - (size : Int) = (p : Int) := by omega
    have hle : p ≤ p2 := by omega
    have c1 := HU.out.obj.cells.2.1
    have g1 : (p2 : Int) ≤ (len : Int) := by omega
    have Hp2 := hid hp2
    clear hp2 hp
    go_wp2_with fail
    clear c1
    obtain ⟨e2, He2⟩ : ∃ e2, Hid (e2 = (nmZ x (ts.take p2)).length) := ⟨_, rfl⟩
    go_loopw [9, 43] (fun z9 z43 W' => ∃ (i ei : Nat), i ≤ size ∧ z43 = .int .i64 i ∧ z9 = .int .i64 ei ∧ W' = w3 ∧ Hid (ei = (nmZ x (ts.take (p + i))).length)) (fun _ z43 _ => size - (intOf z43).toNat)
    case atStart => exact ⟨0, e, by omega, rfl, rfl, rfl, by have := HK.out.2.2; rw [HP.out] at this; exact this⟩
    case round =>
    obtain ⟨i, ei, hi1, rfl, rfl, rfl, HEi⟩ := hrel
    rename World => w3
    have heil : ei ≤ 10010 := by
      have := HEi.out
      have h3 := nmZ_len HX.out (ts := ts.take (p + i)) (fun y hy => HI.out y (List.mem_of_mem_take hy))
      have h4 : (ts.take (p + i)).length ≤ 1000 := by rw [List.length_take]; have := HL.out; omega
      omega
    by_cases hil : i < size
    · have hc := (HR.out _ HU.out.fb).at (i := p + i) (by omega)
      rw [← Nat.add_assoc] at hc
      obtain ⟨b1, b2⟩ := HI.out.at (p + i)
      have hF := fold_any (ts[p + i]?.getD 0) w3 b1 b2
      have hu := foldZ_u (HI.out.at (p + i))
      have hSz := size_any (foldZ (ts[p + i]?.getD 0)) w3 hu.1 hu.2
      have HN : Hid (ei + (encZ (foldZ (ts[p + i]?.getD 0))).length = (nmZ x (ts.take (p + (i + 1)))).length) := by
        unfold Hid
        rw [HEi.out, ← Nat.add_assoc]
        unfold nmZ
        rw [tx_snoc ts (p + i) (by have := HL.out; omega), List.length_append, List.length_append, List.length_append]
        omega
      have hl10 := (encZ_len hu.2).2
      generalize ts[p + i]?.getD 0 = tk at *
      generalize foldZ tk = fk at *
      generalize (encZ fk).length = lk at *
      have g2 : (i : Int) < (size : Int) := by omega
      clear hu
      go_wp2_with fail
      refine hF.mono ?_
      rintro r w4 ⟨rfl, rfl⟩
      go_wp2_with fail
      refine hSz.mono ?_
      rintro r w5 ⟨rfl, rfl⟩
      go_wp2_with fail
      go_round
      case rel => exact ⟨i + 1, ei + lk, by omega, by go_num, by go_num, by first | rfl | trivial, HN⟩
      case measure => simp [intOf]; omega
    · obtain rfl : i = size := by omega
      have HEe : Hid (ei = (nmZ x (bgT ts i k)).length) := by
        unfold Hid bgT
        rw [HEi.out, ← HK.out.1, Hp2.out]
      have hex : s.extract 0 ei = strOfNums (nmZ x (bgT ts i k)) := by
        rw [← Hs.out, strN_take, HEe.out]
        unfold bgT
        rw [nm_take]
      have hei : ei ≤ (nmZ x ts).length := by
        rw [HEe.out]
        unfold bgT
        rw [← nm_take x ts ((k + 1) * i), List.length_take]
        omega
      have c2 := HU.out.obj.cells.2.2.1
      have HBy : Hid (isIs (bgT ts i k) ∧ (bgT ts i k).length = p2) := ⟨fun y hy => HI.out y (List.mem_of_mem_take hy), by rw [piece_le (len := len) (by have := HK.out.1; omega) HL.out]; exact HK.out.1.symm⟩
      have HLk := hid fun q : Nat => (HU.out.map.same (W' := w3.drewN q) rfl).look_at (nmZ_bytes x (bgT ts i k)) (by rw [← HEe.out]; omega)
      obtain ⟨o, Ho⟩ : ∃ o, Hid (look L (nmZ x (bgT ts i k)) = o) := ⟨_, rfl⟩
      rw [Ho.out] at HLk
      have hlk := HLk.out
      obtain ⟨s2, Hs2⟩ : ∃ s2, Hid (strOfNums (nmZ x (bgT ts i k)) = s2) := ⟨_, rfl⟩
      rw [Hs2.out] at hlk hex
      obtain ⟨nl, Hnl⟩ : ∃ nl, Hid ((nmZ x ts).length = nl) := ⟨_, rfl⟩
      rw [Hnl.out] at hss hei
      clear HLk hi1 hil
      go_wp2_with fail
      go_quiet ((fail))
      have HU4 : Hid (UsI W B room i M T L x ts k u7 Fr (w3.drewN nq)) := HU.out.below ⟨rfl, rfl, rfl, Nat.le_refl _, fun _ _ => rfl⟩
      generalize w3.drewN nq = w4 at *
      clear HU hlk c2
      have hp3 : (p2 : Int) + (i : Int) ≤ 2000 := by omega
      have HK2 : Hid (p2 + i = (k + 1 + 1) * i ∧ (k + 1) * i ≤ len ∧ ei = (nmZ x (ts.take ((k + 1) * i))).length) := by
        have a1 := HK.out.1
        have a2 := Hp2.out
        refine ⟨?_, by omega, HEe.out⟩
        rw [Nat.add_mul (k + 1) 1 i, Nat.one_mul]
        omega
      cases o with
      | some bm =>
        obtain ⟨m, hm, hmn, rfl⟩ := look_some Ho.out
        obtain ⟨hm1, hm2⟩ := nmZ_inj (HT.out.map.oks m hm).1 HX.out (HT.out.map.oks m hm).2.1 HBy.out.1 hmn
        obtain ⟨HU5, d3, f3⟩ := HU4.out.there hm hm1 hm2 (fun y hy => HLt.out _ (.inr (.inr ⟨y, hy, rfl⟩)))
        have HU5 := hid HU5
        have c3 := HU4.out.obj.cells.2.2.2
        have c1 := HU5.out.obj.cells.2.1
        clear hm1 hm2 hmn
        simp only [ptrP]
        go_wp2_with fail
        go_round
        case rel => exact ⟨k + 1, p2 + i, ei, _, Fr, rfl, rfl, by go_num, HK2, HU5⟩
        case measure => simp [intOf]; omega
      | none =>
        have hno : hasM L x (bgT ts i k) = false := by unfold hasM; rw [Ho.out]; rfl
        obtain ⟨m0, Hm0⟩ : ∃ m0 : Mk, Hid (m0 = ⟨x, bgT ts i k, T, w4.heap.size⟩) := ⟨_, rfl⟩
        have hfl : Fr.length ≤ 2000 := by
          have := congrArg List.length HU4.out.tks
          simp only [List.length_map] at this
          have h3 : (frJ L x ts i k).length ≤ k := by
            have := List.length_filter_le (fun j => !hasM L x (bgT ts i j)) (List.range k)
            rw [List.length_range] at this
            exact this
          have h4 : k ≤ k * i := Nat.le_mul_of_pos_right k (by omega)
          have := HP.out
          omega
        have c3 := HU4.out.obj.cells.2.2.2
        obtain ⟨w6, Hw6⟩ : ∃ w6 : World, Hid (w6 = ((w4.alloc (.cells #[.string s2, .int .u64 x, .int .i64 p2, .int .u64 T] 65)).alloc (.cells #[.pointer (some ⟨w4.heap.size, 0, none⟩)] 57)).drew) := ⟨_, rfl⟩
        have HB6 : Hid (Below w4.heap.size w4 w6) := by
          rw [Hw6.out]
          exact (((Below.refl _ _).alloc (Nat.le_refl _) _).alloc (by simp) _).drew
        have HO : Hid (w6.ownsRow W.heap.size 57 1 u7 Fr.length (Fr.map ptV)) := own_below HU4.out.row HB6.out
        have HM6 : Hid (MkB w6 m0) := by
          have h5 : w6.heap[w4.heap.size]? = some (.cells #[.string s2, .int .u64 x, .int .i64 p2, .int .u64 T] 65 (0, 0)) := by
            rw [Hw6.out]
            exact (Below.heap_alloc _ _ _ (by simp)).trans (heap_alloc_new w4 _)
          unfold Hid MkB Mk.nm
          rw [Hm0.out, ← HBy.out.2] at *
          rw [← Hs2.out] at h5
          exact h5
        have HNw : Hid (∀ j u, [ptV m0][j]? = some u → w6.cell? ((⟨w4.heap.size + 1, 0, none⟩ : Addr).add j) = some u) := by
          have h5 : w6.heap[w4.heap.size + 1]? = some (.cells #[.pointer (some ⟨w4.heap.size, 0, none⟩)] 57 (0, 0)) := by
            rw [Hw6.out]
            have := heap_alloc_new (w4.alloc (.cells #[.string s2, .int .u64 x, .int .i64 p2, .int .u64 T] 65)) (.cells #[.pointer (some ⟨w4.heap.size, 0, none⟩)] 57)
            rwa [World.size_alloc] at this
          intro j u hj
          have h6 : j = 0 ∧ u = ptV m0 := by
            cases j with
            | zero => simp at hj; exact ⟨rfl, hj.symm⟩
            | succ j => simp at hj
          rw [h6.1, h6.2, Addr.add_lit, Nat.add_zero, cell_of_row _ _ _ _ _ _ h5, Hm0.out]
          rfl
        have HSt : Hid (∀ (w7 : World) (g c : Nat), w7.ownsRow W.heap.size 57 1 (.slice (some ⟨g, 0, none⟩) (Fr.length + 1) c) (Fr.length + 1) (Fr.map ptV ++ [ptV m0]) → w6.grownBy w7 u7.ownBlock → (u7.ownBlock = some g ∨ g = w6.heap.size) → UsI W B room i M T L x ts (k + 1) (.slice (some ⟨g, 0, none⟩) (Fr.length + 1) c) (Fr ++ [m0]) w7) := by
          intro w7 g c q1 q2 q3
          have hb6 := HB6.out
          have hm0b : m0.blk = w4.heap.size := by rw [Hm0.out]
          have hvo : ∀ j, u7.ownBlock = some j → ∃ cur, w4.heap[j]? = some (.cells cur 57 (0, 0)) := fun j e => by
            rcases id HU4.out.row.2 with ⟨hv, _⟩ | ⟨g', cap', cur, hv, hB, hg, _⟩
            · rw [hv] at e; cases e
            · rw [hv] at e
              obtain rfl : g' = j := by simpa [Value.ownBlock] using e
              exact ⟨cur, hg⟩
          refine HU4.out.fresh hno (m := m0) (HM6.out.same (q2.block _ HM6.out.lt fun e => ?_)) (by rw [hm0b]; have := HU4.out.fb.size; omega) (by rw [Hm0.out]) (by rw [Hm0.out]) (by rw [Hm0.out]) q1 (fun j hj hne => (q2.block j (by have := hb6.size; omega) fun e => hne e.symm).trans (hb6.block j hj)) (by have := hb6.size; have := q2.size; omega) ⟨q2.os.trans hb6.os, q2.tape.trans hb6.tape, q2.output.trans hb6.output⟩ ⟨rfl, HLt.out⟩
          obtain ⟨cur, hc⟩ := hvo _ e.symm
          rw [hm0b] at hc
          have := lt_of_block hc
          omega
        have hbw : W.heap.size ≤ w6.heap.size := by have := HU4.out.fb.size; have := HB6.out.size; omega
        have hm0p : ptV m0 = .pointer (some ⟨w4.heap.size, 0, none⟩) := by rw [Hm0.out]; rfl
        rw [hm0p] at HNw HSt
        rw [Hw6.out] at HO HNw HSt hbw
        clear hm0p HM6 HB6
        go_wp2_with fail
        go_region_law (first
          | (refine step_append_lies _ rfl (.tmp 70) (.tmp 82) 68 rfl W.heap.size 57 i0 (.pointer none) 1 8 Try.underlying68 hi0 hz0 hz1 hz2 rfl (by decide) u7 Fr.length _ (by first | (simp [Act.eval]; done) | (simp [Act.eval, Act.put]; done)) HO.out ⟨w4.heap.size + 1, 0, none⟩ 1 1 [.pointer (some ⟨w4.heap.size, 0, none⟩)] (by first | (simp [Act.eval]; done) | (simp [Act.eval, Act.put]; done)) rfl HNw.out (by simp [Value.oneCell']) (by omega) (by unfold maxLen; omega) (by omega) hbw _ rfl ?_; intro g c w7 q1 q2 q3 q4; have HSt3 := hid (HSt.out w7 g c q1 q2 q3); clear q1 q2 q3 q4))
        all_goals
          have HN := hid HSt3.out
          have c1 := HN.out.obj.cells.2.1
          clear HSt3 HSt HO HNw hbw c3
          go_wp2_with fail
          go_round
          case rel => exact ⟨k + 1, p2 + i, ei, _, Fr ++ [m0], rfl, rfl, by go_num, HK2, HN⟩
          case measure => simp [intOf]; omega
  · have hkk : k = len / size := by
      have := HK.out.1
      have := HK.out.2.1
      symm
      rw [Nat.div_eq_iff (by omega)]
      omega
    subst hkk
    have g1 : ¬ (p2 : Int) ≤ (len : Int) := by omega
    clear hp2 hp
    go_wp2_with fail
    go_ret
    exact ⟨_, rfl, Fr, HU.out⟩
end Go.Proofs.Ytdchoegaindnbaa
