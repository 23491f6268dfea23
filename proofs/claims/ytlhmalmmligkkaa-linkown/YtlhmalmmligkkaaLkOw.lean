/-
  LinkOwn.
-/
import Derived.Test.YtlhmalmmligkkaaLkSe
namespace Go.Proofs.Ytlhmalmmligkkaa
open Go.RowKit
set_option linter.unusedVariables false
set_option linter.unusedSimpArgs false
set_option maxRecDepth 1000000

/-- A link that nobody made. -/
def NoL (W : World) (p : Option Addr) : Prop := p = none ∨ ∃ z, p = some ⟨z, 0, none⟩ ∧ W.cell? ⟨z, 0, none⟩ = some (.int .i64 0)
theorem NoL.below {W W' : World} {p : Option Addr} (h : NoL W p) (hb : Below W.heap.size W W') : NoL W' p := by
  rcases h with h | ⟨z, h1, h2⟩
  · exact .inl h
  · exact .inr ⟨z, h1, (hb.cell (World.block_lt_of_cell? _ _ h2)).trans h2⟩
theorem NoL.made {W : World} {p : Option Addr} (h : NoL W p) : Calls Try.prog 40 #[.pointer p] W fun e w' => e = .returned (.bool false) ∧ w' = W := by
  rcases h with rfl | ⟨z, rfl, h2⟩
  · exact lmade_nil W
  · exact lmade_zero h2
theorem NoL.ask {W : World} {p : Option Addr} (h : NoL W p) (i : Int) (f : Value) : Calls Try.prog 28 #[.pointer p, .int .i64 i, f] W fun e w' => e = .returned (.tuple #[.slice none 0 0, .int .i64 2]) ∧ w' = W := by
  rcases h with rfl | ⟨z, rfl, h2⟩
  · exact lask_nil i f W
  · exact lask_zero h2 i f
/-- One step in a slice of its own. -/
theorem lst_one {W W1 : World} {s : Sp} (hs : SpIn W s) (h1 : W1 = W.alloc (.cells (SpV s) 38)) : Lst W1 (some ⟨W.heap.size, 0, none⟩) 1 1 5 [s] SpV (fun s => SpIn W1 s) := by
  have hc : W1.heap[W.heap.size]? = some (.cells (SpV s) 38 (0, 0)) := by rw [h1]; exact heap_alloc_new W _
  have hb : Below W.heap.size W W1 := by rw [h1]; exact (Below.refl _ _).alloc (Nat.le_refl _) _
  refine ⟨rfl, Nat.le_refl _, by decide, (fun e => by cases e), fun i hi => ?_, fun i hi => ?_⟩
  · have hi' : i < 1 := hi
    obtain rfl : i = 0 := by omega
    refine ⟨W.heap.size, 0, rfl, fun j hj => ?_⟩
    rw [show 0 + 0 * 5 + j = j by omega, cell_of_row _ _ _ _ _ _ hc]
    rfl
  · have hi' : i < 1 := hi
    obtain rfl : i = 0 := by omega
    exact hs.below hb
/-- The link has these messages, none lies where m's bytes do. -/
structure OwS (w : World) (b s0 : Nat) (s : Sp) (L : List (List Int)) (m : Value) (ln : Nat) (W : World) : Prop where
  lk : ∃ S v us, LkAt w.heap.size W b v us S ∧ S.room = 4 ∧ S.ms = L ∧ ∀ k, m.ownBlock = some k → ¬ lkF b v us k
  me : ∃ ys, MsgAt w.heap.size W m ys ∧ ys.length = ln
  st : StB s0 s W
  bel : Below w.heap.size w W
variable {w : World} {b s0 : Nat} {s : Sp} {L : List (List Int)} {m : Value} {ln : Nat} {W : World}
theorem OwS.go (h : OwS w b s0 s L m ln W) {S S' : Lm} {v : Value} {us : List Value} {W' : World} (h1 : LkAt w.heap.size W b v us S) (ho : ∀ k, m.ownBlock = some k → ¬ lkF b v us k) (hg : Goes w.heap.size W b v us S' W') (hr : S'.room = 4) : OwS w b s0 s S'.ms m ln W' := by
  obtain ⟨v', us', a1, a2, a3⟩ := hg
  obtain ⟨ys, hm, hl⟩ := h.me
  have hk := h1.kp a2
  refine ⟨⟨S', v', us', a1, hr, rfl, fun k hk1 hk2 => ?_⟩, ⟨ys, hm.same fun k hk1 => a2.block k (hm.lt hk1).2 fun e => ho k hk1 (.inl e), hl⟩, h.st.kp hk, h.bel.trans hk.bel⟩
  rcases a3 k hk2 with e | e
  · exact ho k hk1 e
  · have := (hm.lt hk1).2
    omega
theorem OwS.send {a : Option Addr} {c : Nat} {zs : List Int} (h : OwS w b s0 s [] (.slice a ln c) ln W) (hm : MsgAt w.heap.size W (.slice a ln c) zs) (hzl : zs.length = ln) :
    Calls Try.prog 23 #[.pointer (some ⟨b, 0, none⟩), .slice a ln c] W fun e w' => e = .returned (.int .i64 0) ∧ Hid (OwS w b s0 s [zs] (.slice a ln c) ln w') := by
  obtain ⟨S, v, us, h1, hr, hl, ho⟩ := h.lk
  have hrd : Reads .u8 W a ln c zs := by
    obtain ⟨a', c', e, hr'⟩ := hm.reads
    rw [hzl] at e hr'
    cases e
    exact hr'
  refine (lsend_any h1 a ln c zs hrd hm.bs (by have := hm.len; omega) fun _ p hp e => ho p.block (by rw [hp]; rfl) (.inl e)).mono ?_
  rintro e w' ⟨rfl, H⟩
  have hf : ¬ S.room ≤ S.ms.length := by rw [hr, hl]; decide
  have e1 : S.sendE = 0 := if_neg hf
  have e2 : S.send zs = S.sent.put (S.ms ++ [zs]) := if_neg hf
  have H1 := H.out
  rw [e2] at H1
  have := h.go h1 ho H1 hr
  rw [e1]
  refine ⟨rfl, ?_⟩
  show OwS w b s0 s [zs] (.slice a ln c) ln w'
  have e3 : (S.sent.put (S.ms ++ [zs])).ms = [zs] := by show S.ms ++ [zs] = _; rw [hl]; rfl
  rw [e3] at this
  exact this
theorem OwS.twice {zs : List Int} (h : OwS w b s0 s [zs] m ln W) :
    Calls Try.prog 16 #[.pointer (some ⟨b, 0, none⟩), .int .i64 0] W fun e w' => e = .returned (.int .i64 0) ∧ Hid (OwS w b s0 s [zs, zs] m ln w') := by
  obtain ⟨S, v, us, h1, hr, hl, ho⟩ := h.lk
  have hz : S.ms[0]? = some zs := by rw [hl]; rfl
  obtain ⟨u, ys, hu, _, _⟩ := h1.get (i := 0) (by rw [hl]; exact Nat.succ_pos _)
  have := ltwice_room h1 hu hz (by rw [hr, hl]; show ¬ 4 ≤ 1; decide)
  refine this.mono ?_
  rintro e w' ⟨rfl, H⟩
  have h2 := h.go h1 ho H.out hr
  refine ⟨rfl, ?_⟩
  have e3 : (S.put (S.ms ++ [zs])).ms = [zs, zs] := by show S.ms ++ [zs] = _; rw [hl]; rfl
  rw [e3] at h2
  exact h2
theorem OwS.dlv {zs : List Int} (h : OwS w b s0 s (zs :: L) m ln W) :
    Calls Try.prog 12 #[.pointer (some ⟨b, 0, none⟩), .int .i64 0] W fun e w' => ∃ a c, e = .returned (.tuple #[.slice a zs.length c, .int .i64 0]) ∧ Hid (OwS w b s0 s L (.slice a zs.length c) zs.length w' ∧ MsgAt w.heap.size w' (.slice a zs.length c) zs) := by
  obtain ⟨S, v, us, h1, hr, hl, _⟩ := h.lk
  obtain ⟨u, ys, hu, hy, hm⟩ := h1.get (i := 0) (by rw [hl]; exact Nat.succ_pos _)
  have hz : ys = zs := by rw [hl] at hy; simpa using hy.symm
  subst hz
  refine (ldeliver_yes h1 hu).mono ?_
  rintro e w' ⟨rfl, H⟩
  obtain ⟨v', a1, a2, a3⟩ := H.out
  have hm2 : MsgAt w.heap.size w' u ys := hm.same fun k hk => a2.block k (hm.lt hk).2 (h1.off hm hk)
  obtain ⟨a, c, rfl, _⟩ := hm2.reads
  have hk := h1.kp a2
  refine ⟨a, c, rfl, ⟨⟨_, v', _, a1, hr, ?_, fun k hk1 hk2 => ?_⟩, ⟨ys, hm2, rfl⟩, h.st.kp hk, h.bel.trans hk.bel⟩, hm2⟩
  · show S.ms.eraseIdx 0 = L
    rw [hl]
    rfl
  · rcases hk2 with e | e
    · exact a1.off hm2 hk1 e
    · exact own_left h1.nd hu hk1 e
/-- A byte is written over. -/
theorem OwS.put {g c i : Nat} {x : Int} (h : OwS w b s0 s L (.slice (some ⟨g, 0, none⟩) ln c) ln W) (hx : 0 ≤ x ∧ x ≤ 255) : OwS w b s0 s L (.slice (some ⟨g, 0, none⟩) ln c) ln (W.setCell ⟨g, i, none⟩ (.int .u8 x)) := by
  obtain ⟨S, v, us, h1, hr, hl, ho⟩ := h.lk
  obtain ⟨ys, hm, hyl⟩ := h.me
  have hf : Fb (at1 g) W (W.setCell ⟨g, i, none⟩ (.int .u8 x)) := fb_one ..
  have hgo : ∀ k, lkF b v us k → ¬ at1 g k := fun k hk e => ho g rfl (by rw [← show k = g from e]; exact hk)
  have hgB : w.heap.size ≤ g := (hm.lt (k := g) rfl).1
  have hbl : Below w.heap.size W (W.setCell ⟨g, i, none⟩ (.int .u8 x)) := (Below.refl _ _).setCell hgB _
  refine ⟨⟨S, v, us, h1.same (fun k hk => hf.block k (h1.lt1 hk).2 (hgo k (.inl hk))) (fun k hk => hf.block k (h1.lt2 hk).2 (hgo k (.inr hk))), hr, hl, ho⟩, ⟨ys.set i x, ⟨?_, fun y hy => ?_, by rw [List.length_set]; exact hm.len⟩, by rw [List.length_set]; exact hyl⟩, ?_, h.bel.trans hbl⟩
  · have := hm.own
    rw [List.length_set]
    rw [hyl] at this ⊢
    rw [List.map_set]
    exact (this.stored i _).1
  · rcases List.mem_or_eq_of_mem_set hy with e | rfl
    · exact hm.bs y e
    · exact hx
  · exact hf.one h.st fun e => by
      obtain ⟨_, cur, hc⟩ := own_blkP hm.own (g := g) rfl
      have h3 := h.st
      unfold StB at h3
      rw [show s0 = g from e, hc] at h3
      cases h3
theorem OwS.byte {g c i : Nat} (h : OwS w b s0 s L (.slice (some ⟨g, 0, none⟩) ln c) ln W) (hi : i < ln) : ∃ x : Int, W.cell? ⟨g, i, none⟩ = some (.int .u8 x) ∧ 0 ≤ x ∧ x ≤ 255 ∧ W.frozen? ⟨g, i, none⟩ = false := by
  obtain ⟨ys, hm, hyl⟩ := h.me
  have ho := hm.own
  rw [hyl] at ho
  refine ⟨ys[i]?.getD 0, ?_, (hm.bs.at i).1, (hm.bs.at i).2, ho.frozenAt i⟩
  rw [ho.cellAt i (by omega), List.getElem?_map, List.getElem?_eq_getElem (by omega)]
  rfl
theorem OwS.form {a : Option Addr} {c : Nat} (h : OwS w b s0 s L (.slice a ln c) ln W) (hl : 0 < ln) : ∃ g, a = some ⟨g, 0, none⟩ ∧ ln ≤ c ∧ c ≤ 9223372036854775807 := by
  obtain ⟨ys, hm, hyl⟩ := h.me
  rcases id hm.own.2 with ⟨e, e0⟩ | ⟨g, cap, cur, e, _, _, h1, h2, _⟩
  · omega
  · cases e
    exact ⟨g, rfl, by omega, by unfold maxLen at h2; omega⟩
theorem OwS.room {a : Option Addr} {c : Nat} (h : OwS w b s0 s L (.slice a ln c) ln W) : ln ≤ 140737488351232 := by
  obtain ⟨ys, hm, hyl⟩ := h.me
  have := hm.len
  omega
set_option maxHeartbeats 64000000 in
theorem own_any {s : Sp} {w : World} (gs : SpIn w s) : Calls Try.prog 6 #[.agg (SpV s)] w fun e w' => e = .returned (.bool true) ∧ Hid (Below w.heap.size w w') := by
  obtain ⟨wA, hwA⟩ : ∃ wA, wA = w.alloc (.cells (SpV s) 38) := ⟨_, rfl⟩
  have hbA : Below w.heap.size w wA := by rw [hwA]; exact (Below.refl _ _).alloc (Nat.le_refl _) _
  have HTA : Hid (StB w.heap.size s wA) := by unfold Hid StB; rw [hwA]; exact heap_alloc_new w _
  obtain ⟨wB, hwB⟩ : ∃ wB, wB = wA.alloc (.cells (SpV s) 38) := ⟨_, rfl⟩
  have hbB : Below wA.heap.size wA wB := by rw [hwB]; exact (Below.refl _ _).alloc (Nat.le_refl _) _
  have HFar := hid (far_any (lst_one (gs.below hbA) hwB))
  have HB : Hid (Below w.heap.size w wB) := hbA.trans (hbB.mono hbA.size)
  have HTB : Hid (StB w.heap.size s wB) := HTA.out.below hbB
  have hsA : wA.heap.size = w.heap.size + 1 := by rw [hwA]; simp
  rw [hsA] at HFar
  have HI := hid gs
  clear gs hbA hbB HTA hsA
  unfold SpV at hwA hwB ⊢
  go_enter Try.func6, Try.ntmps6
  go_wp2_with fail
  rw [← hwA, ← hwB]
  clear hwA hwB
  with_reducible refine HFar.out.mono ?_
  rintro e w1 ⟨f, rfl, H1⟩
  have HB1 := hid (HB.out.trans (H1.out.mono HB.out.size))
  have HT1 := hid (HTB.out.below H1.out)
  clear HFar HB HTB H1
  cases f with
  | true =>
    go_wp2_with fail
    with_reducible refine (alive21_any _).mono ?_
    rintro e wz ⟨rfl, HZ0⟩
    have HZ := hid (HB1.out.trans (HZ0.out.mono HB1.out.size))
    clear HZ0 HB1 HT1
    go_wp2_with fail
    go_ret
    exact ⟨rfl, HZ⟩
  | false =>
    obtain ⟨wC, hwC⟩ : ∃ wC, wC = w1.alloc (.cells #[.int .i64 0, .slice none 0 0, .int .u32 0, .int .u32 0, .int .u32 0, .int .u32 0, .int .u32 0, .int .u32 0, .int .u32 0, .int .u32 0] 60) := ⟨_, rfl⟩
    have hC : wC.heap[w1.heap.size]? = some (.cells #[.int .i64 0, .slice none 0 0, .int .u32 0, .int .u32 0, .int .u32 0, .int .u32 0, .int .u32 0, .int .u32 0, .int .u32 0, .int .u32 0] 60 (0, 0)) := by rw [hwC]; exact heap_alloc_new w1 _
    have hbC : Below w1.heap.size w1 wC := by rw [hwC]; exact (Below.refl _ _).alloc (Nat.le_refl _) _
    have hsC : wC.heap.size = w1.heap.size + 1 := by rw [hwC]; simp
    obtain ⟨wD, hwD⟩ : ∃ wD, wD = wC.alloc (.cells #[.pointer none, .pointer (some ⟨w1.heap.size, 0, none⟩)] 23) := ⟨_, rfl⟩
    have hD : wD.heap[wC.heap.size]? = some (.cells #[.pointer none, .pointer (some ⟨w1.heap.size, 0, none⟩)] 23 (0, 0)) := by rw [hwD]; exact heap_alloc_new wC _
    have hbD : Below wC.heap.size wC wD := by rw [hwD]; exact (Below.refl _ _).alloc (Nat.le_refl _) _
    have HBD : Hid (Below w.heap.size w wD) := (HB1.out.trans (hbC.mono HB1.out.size)).trans (hbD.mono (HB1.out.trans (hbC.mono HB1.out.size)).size)
    have HTD : Hid (StB w.heap.size s wD) := (HT1.out.below hbC).below hbD
    have HP : Hid (∀ k, k < 2 → ∃ p, wD.cell? ⟨w1.heap.size + 1, k, none⟩ = some (.pointer p) ∧ NoL wD p) := by
      intro k hk
      have h1 := block_bel hC hbD
      have h2 := hD
      rw [hsC] at h2
      obtain rfl | rfl : k = 0 ∨ k = 1 := by omega
      · exact ⟨none, by rw [cell_of_row _ _ _ _ _ _ h2]; rfl, .inl rfl⟩
      · exact ⟨_, by rw [cell_of_row _ _ _ _ _ _ h2]; rfl, .inr ⟨_, rfl, by rw [cell_of_row _ _ _ _ _ _ h1]; rfl⟩⟩
    clear hC hD hbC hbD hsC HB1 HT1
    go_wp2_with fail
    rw [← hwC, ← hwD]
    clear hwC hwD
    obtain ⟨gt, Hgt⟩ : ∃ gt, Hid (w1.heap.size + 1 = gt) := ⟨_, rfl⟩
    rw [Hgt.out] at HP
    rw [Hgt.out]
    go_loopw [24] (fun z W' => ∃ k : Nat, k ≤ 2 ∧ z = .int .i64 k ∧ Hid (Below wD.heap.size wD W')) (fun z _ => 2 - (intOf z).toNat)
    case atStart => exact ⟨0, by omega, rfl, Below.refl _ _⟩
    case round =>
    obtain ⟨k, hk, rfl, HV⟩ := hrel
    rename World => wr
    by_cases hk2 : k < 2
    · have g1 : (k : Int) < 2 := by omega
      obtain ⟨p, cp0, hno⟩ := HP.out k hk2
      have cp1 : wr.cell? ⟨gt, k, none⟩ = some (.pointer p) := (HV.out.cell (World.block_lt_of_cell? _ _ cp0)).trans cp0
      have hnr := hno.below HV.out
      obtain ⟨y0, y1, y2⟩ := (HTD.out.below HV.out).cells
      have hst := (HTD.out.below HV.out)
      have y3 : wr.cell? ⟨w.heap.size, 3, none⟩ = some (.int .i64 s.pl) := by unfold StB at hst; rw [cell_of_row _ _ _ _ _ _ hst]; rfl
      have y4 : wr.cell? ⟨w.heap.size, 4, none⟩ = some (.int .u32 s.msk) := by unfold StB at hst; rw [cell_of_row _ _ _ _ _ _ hst]; rfl
      have h1 := ldeliver_no (i := s.i) (fun f => hnr.ask s.i f) (by decide)
      have h2 := lsend_no hnr.made s.b.ap s.b.lp s.b.cp
      have h3 := ldrop_no (i := s.i) (fun f => hnr.ask s.i f) (by decide)
      have h4 := ltwice_no (i := s.i) (fun f => hnr.ask s.i f) (by decide)
      have h5 := llater_no (i := s.i) (fun f => hnr.ask s.i f) (by decide)
      have h6 := lturn_no (i := s.i) (fun f => hnr.ask s.i f) (by decide) s.pl s.msk
      have h7 := llen_no hnr.made
      have h8 := lclear_no hnr.made
      have h9 := lcounts_no (p := .pointer p) (w := wr) (fun w1 hb => (hnr.below hb).made)
      clear hno hnr cp0 hst HP
      go_wp2_with fail
      with_reducible refine h1.mono ?_
      rintro r w2 ⟨rfl, hw⟩
      subst w2
      go_wp2_with fail
      with_reducible refine h2.mono ?_
      rintro r w2 ⟨rfl, hw⟩
      subst w2
      go_wp2_with fail
      with_reducible refine h3.mono ?_
      rintro r w2 ⟨rfl, hw⟩
      subst w2
      go_wp2_with fail
      with_reducible refine h4.mono ?_
      rintro r w2 ⟨rfl, hw⟩
      subst w2
      go_wp2_with fail
      with_reducible refine h5.mono ?_
      rintro r w2 ⟨rfl, hw⟩
      subst w2
      go_wp2_with fail
      with_reducible refine h6.mono ?_
      rintro r w2 ⟨rfl, hw⟩
      subst w2
      go_wp2_with fail
      with_reducible refine h7.mono ?_
      rintro r w2 ⟨rfl, hw⟩
      subst w2
      go_wp2_with fail
      with_reducible refine h8.mono ?_
      rintro r w2 ⟨rfl, hw⟩
      subst w2
      go_wp2_with fail
      with_reducible refine h9.mono ?_
      rintro r w2 ⟨rfl, H9⟩
      have HV2 := hid (HV.out.trans (H9.out.mono HV.out.size))
      clear h1 h2 h3 h4 h5 h6 h7 h8 h9 y0 y1 y2 y3 y4 cp1 HV H9
      go_wp2_with fail
      go_round
      case rel => exact ⟨k + 1, by omega, by go_num, HV2⟩
      case measure => simp [intOf]; omega
    · have g1 : ¬ (k : Int) < 2 := by omega
      have HT := hid (HTD.out.below HV.out)
      have HB := hid (HBD.out.trans (HV.out.mono HBD.out.size))
      clear HP HTD HBD HV
      have hN := lnew_any (B := w.heap.size) (room := 4) (by decide) (by decide) wr HB.out.size
      go_wp2_with fail
      with_reducible refine hN.mono ?_
      rintro e w2 ⟨b, rfl, H2⟩
      clear hN
      have HB2 := hid (HB.out.trans (H2.out.2.1.mono HB.out.size))
      have HT2 := hid (HT.out.below H2.out.2.1)
      obtain ⟨z0, z1, z2⟩ := HT2.out.cells
      have hap := run_bapp w2 s.b.ap s.b.lp s.b.cp s.b.zs (HI.out.b.rd.below HB2.out) HI.out.b.bs HI.out.b.len 36
      obtain ⟨ma, mc, w3, e3, m3, b3⟩ := hap
      have hzl : s.b.zs.length = s.b.lp := HI.out.b.rd.size
      have HOw : Hid (OwS w b w.heap.size s [] (.slice ma s.b.lp mc) s.b.lp w3 ∧ MsgAt w.heap.size w3 (.slice ma s.b.lp mc) s.b.zs) := by
        have hlk := H2.out.1.below b3
        rw [hzl] at m3
        have hm3 := m3.low HB2.out.size
        refine ⟨⟨⟨_, _, _, hlk, rfl, rfl, fun k hk1 hk2 => ?_⟩, ⟨_, hm3, hzl⟩, HT2.out.below b3, HB2.out.trans (b3.mono HB2.out.size)⟩, hm3⟩
        have h1 := (m3.lt hk1).1
        have h2 := (H2.out.1.lts hk2).2
        omega
      rw [hzl] at e3
      have HE3 := hid e3
      have hSn := HOw.out.1.send HOw.out.2 hzl
      clear H2 HB HT HB2 HT2 e3 m3 b3 HOw
      go_wp2_with (at_builtin; refine wpList_app_eq rfl (.const (.slice none 0 0)) (.tmp 109) 36 rfl _ _ _ _ rfl rfl HE3.out ?_)
      with_reducible refine hSn.mono ?_
      rintro e w4 ⟨rfl, H4⟩
      clear hSn HE3 z0 z1 z2
      have hTw := H4.out.twice
      go_wp2_with fail
      with_reducible refine hTw.mono ?_
      rintro e w5 ⟨rfl, H5⟩
      clear hTw H4
      have hmr := H5.out.room
      go_wp2_with fail
      generalize hlp : s.b.lp = lp at *
      go_loopw [118] (fun z W' => ∃ j : Nat, j ≤ lp ∧ z = .int .i64 j ∧ Hid (OwS w b w.heap.size s [s.b.zs, s.b.zs] (.slice ma lp mc) lp W')) (fun z _ => lp - (intOf z).toNat)
      case atStart => exact ⟨0, by omega, rfl, H5⟩
      case round =>
      obtain ⟨j, hj, rfl, HJ⟩ := hrel
      rename World => wy
      clear H5
      by_cases hjl : j < lp
      · have g2 : (j : Int) < (lp : Int) := by omega
        obtain ⟨g, rfl, f1, f2⟩ := HJ.out.form (by omega)
        obtain ⟨x, d0, x0, x1, fz⟩ := HJ.out.byte hjl
        have HX : Hid (∀ y : Int, 0 ≤ y ∧ y ≤ 255 → _) := fun y hy => HJ.out.put (i := j) hy
        clear HJ
        go_wp2_with fail
        go_round
        case rel =>
          refine ⟨j + 1, by omega, by go_num, HX.out _ ?_⟩
          first | (rw [IntKind.wrap_u8]; omega) | omega
        case measure => simp [intOf]; omega
      · have g2 : ¬ (j : Int) < (lp : Int) := by omega
        have hD := HJ.out.dlv
        rw [hzl] at hD
        clear HJ
        go_wp2_with fail
        with_reducible refine hD.mono ?_
        rintro e w6 ⟨a6, c6, rfl, H6⟩
        clear hD
        have H6a := hid H6.out.1
        clear H6
        go_wp2_with fail
        go_loopw [135] (fun z W' => ∃ j : Nat, j ≤ lp ∧ z = .int .i64 j ∧ Hid (OwS w b w.heap.size s [s.b.zs] (.slice a6 lp c6) lp W')) (fun z _ => lp - (intOf z).toNat)
        case atStart => exact ⟨0, by omega, rfl, H6a⟩
        case round =>
        obtain ⟨j2, hj2, rfl, HJ⟩ := hrel
        rename World => wz
        clear H6a
        by_cases hjl2 : j2 < lp
        · have g3 : (j2 : Int) < (lp : Int) := by omega
          obtain ⟨g, rfl, f1, f2⟩ := HJ.out.form (by omega)
          obtain ⟨x, d0, x0, x1, fz⟩ := HJ.out.byte hjl2
          have HX : Hid (∀ y : Int, 0 ≤ y ∧ y ≤ 255 → _) := fun y hy => HJ.out.put (i := j2) hy
          clear HJ
          go_wp2_with fail
          go_round
          case rel =>
            refine ⟨j2 + 1, by omega, by go_num, HX.out _ ?_⟩
            first | (rw [IntKind.wrap_u8]; omega) | omega
          case measure => simp [intOf]; omega
        · have g3 : ¬ (j2 : Int) < (lp : Int) := by omega
          have hD := HJ.out.dlv
          rw [hzl] at hD
          clear HJ
          go_wp2_with fail
          with_reducible refine hD.mono ?_
          rintro e w7 ⟨a7, c7, rfl, H7⟩
          clear hD
          obtain ⟨z0, z1, z2⟩ := H7.out.1.st.cells
          have hrd : Reads .u8 w7 a7 lp c7 s.b.zs := by
            obtain ⟨a', c', e, hr'⟩ := H7.out.2.reads
            rw [hzl] at e hr'
            cases e
            exact hr'
          have cx := hrd.conv (P := Try.prog) 36 9 5 Try.underlying36 Try.underlying5 Try.underlying9
          have hrs := HI.out.b.rd.below H7.out.1.bel
          have cy := hrs.conv (P := Try.prog) 36 9 5 Try.underlying36 Try.underlying5 Try.underlying9
          have HB := hid H7.out.1.bel
          rw [hlp] at z1 cy
          clear H7 hrd hrs HI z0 z2
          generalize strOfNums s.b.zs = sx at *
          go_wp2_with fail
          with_reducible refine (alive21_any _).mono ?_
          rintro e wv ⟨rfl, HZ0⟩
          have HZ := hid (HB.out.trans (HZ0.out.mono HB.out.size))
          clear HZ0 HB cx cy
          go_wp2_with fail
          go_ret
          exact ⟨rfl, HZ⟩
end Go.Proofs.Ytlhmalmmligkkaa
