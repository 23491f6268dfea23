/-
  LinkSent.
-/
import Derived.Test.YtlhmalmmligkkaaLkMp
import Derived.Deep.RegionHeld3
import Derived.Deep.DeepCutAuto
import Derived.Deep.CutBlock
import Derived.Outline
namespace Go.Proofs.Ytlhmalmmligkkaa
open Go.RowKit
set_option linter.unusedVariables false
set_option linter.unusedSimpArgs false
set_option maxRecDepth 1000000

/-- What stands at each round: the link has nothing but what was sent. -/
structure SeJ (w : World) (b M rm k : Nat) (S : Lm) (K : List (List Int)) (W : World) : Prop where
  lo : Lo w.heap.size W b S
  room : S.room = rm
  map : SsAt W M k K
  sub : ∀ zs ∈ S.ms, zs ∈ K
  bel : Below w.heap.size w W
theorem SeJ.below {w : World} {b M rm k : Nat} {S : Lm} {K : List (List Int)} {W W' : World} (h : SeJ w b M rm k S K W) (hb : Below W.heap.size W W') : SeJ w b M rm k S K W' := ⟨h.lo.below hb, h.room, h.map.below hb, h.sub, h.bel.trans (hb.mono h.bel.size)⟩
theorem SeJ.to {w : World} {b M rm k : Nat} {S S' : Lm} {K : List (List Int)} {W W' : World} (h : SeJ w b M rm k S K W) (hl : Lo w.heap.size W' b S') (hk : Kp w.heap.size W W') (hr : S'.room = S.room) (hs : ∀ zs ∈ S'.ms, zs ∈ K) : SeJ w b M rm k S' K W' := by
  obtain ⟨es, clock, hm⟩ := h.map.blk
  exact ⟨hl, hr.trans h.room, h.map.same (hk.map _ _ _ hm), hs, h.bel.trans hk.bel⟩
/-- The step's block. -/
def StB (q : Nat) (s : Sp) (W : World) : Prop := W.heap[q]? = some (.cells (SpV s) 38 (0, 0))
theorem StB.below {q : Nat} {s : Sp} {W W' : World} (h : StB q s W) (hb : Below W.heap.size W W') : StB q s W' := block_bel h hb
theorem StB.kp {q B : Nat} {s : Sp} {W W' : World} (h : StB q s W) (hk : Kp B W W') : StB q s W' := (hk.cel _ _ _ _ h (by decide) (by decide) (by decide)).trans h
theorem StB.cells {q : Nat} {s : Sp} {W : World} (h : StB q s W) : W.cell? ⟨q, 0, none⟩ = some (.int .u8 s.kd) ∧ W.cell? ⟨q, 1, none⟩ = some (.slice s.b.ap s.b.lp s.b.cp) ∧ W.cell? ⟨q, 2, none⟩ = some (.int .i64 s.i) := by
  refine ⟨?_, ?_, ?_⟩ <;> (rw [cell_of_row _ _ _ _ _ _ h]; rfl)
section Subs
variable {S : Lm} {K : List (List Int)} {i : Int} {zs : List Int}
theorem msgZ_mem (h : S.has i) : S.msgZ i ∈ S.ms := by
  obtain ⟨j, rfl, hj, hl⟩ := Lm.nat h
  unfold Lm.msgZ
  rw [if_pos h, hj, List.getElem?_eq_getElem hl]
  exact List.getElem_mem hl
theorem room_dlv : (S.dlv i).room = S.room := by unfold Lm.dlv; split <;> rfl
theorem room_drp : (S.drp i).room = S.room := by unfold Lm.drp; split <;> rfl
theorem room_twi : (S.twi i).room = S.room := by unfold Lm.twi; split <;> rfl
theorem room_lat : (S.lat i).room = S.room := by unfold Lm.lat; split <;> rfl
theorem room_send : (S.send zs).room = S.room := by unfold Lm.send; split <;> rfl
theorem sub_dlv (h : ∀ zs ∈ S.ms, zs ∈ K) : ∀ zs ∈ (S.dlv i).ms, zs ∈ K := by
  unfold Lm.dlv
  split
  · exact fun zs hz => h zs (List.mem_of_mem_eraseIdx hz)
  · exact h
theorem sub_drp (h : ∀ zs ∈ S.ms, zs ∈ K) : ∀ zs ∈ (S.drp i).ms, zs ∈ K := by
  unfold Lm.drp
  split
  · exact fun zs hz => h zs (List.mem_of_mem_eraseIdx hz)
  · exact h
theorem sub_twi (h : ∀ zs ∈ S.ms, zs ∈ K) : ∀ zs ∈ (S.twi i).ms, zs ∈ K := by
  unfold Lm.twi
  split
  · rename_i hc
    exact fun zs hz => (List.mem_append.1 hz).elim (h zs) fun e => by rw [List.mem_singleton.1 e]; exact h _ (msgZ_mem hc.1)
  · exact h
theorem sub_lat (h : ∀ zs ∈ S.ms, zs ∈ K) : ∀ zs ∈ (S.lat i).ms, zs ∈ K := by
  unfold Lm.lat
  split
  · rename_i hc
    exact fun zs hz => (List.mem_append.1 hz).elim (fun e => h zs (List.mem_of_mem_eraseIdx e)) fun e => by rw [List.mem_singleton.1 e]; exact h _ (msgZ_mem hc)
  · exact h
end Subs
theorem wrap8 {n : Int} (h0 : 0 ≤ n) (h1 : n ≤ 1000) : IntKind.i64.wrap n = n := wrap64_in (by omega) (by omega)
set_option maxHeartbeats 64000000 in
theorem sent_any {m0 : Int} {a0 : Option Addr} {l0 c0 : Nat} {xs0 : List Sp} {w : World} (gm : 0 ≤ m0 ∧ m0 ≤ 255) (ga0 : Lst w a0 l0 c0 5 xs0 SpV (fun s => SpIn w s)) :
    Calls Try.prog 4 #[.int .u8 m0, .slice a0 l0 c0] w fun e w' => e = .returned (.bool true) ∧ Hid (Below w.heap.size w w') := by
  have HSp := hid fun (W' : World) (hb : Below w.heap.size w W') => ga0.below SpV_size hb (fun s h => h)
  have HFar := hid fun (W' : World) (hb : Below w.heap.size w W') => far_any (ga0.below SpV_size hb (fun s h => h.below hb))
  have hSh := fun W' => short_any a0 l0 c0 W' ga0.room ga0.most
  obtain ⟨n, Hn⟩ : ∃ n, Hid (min l0 200 = n) := ⟨_, rfl⟩
  rw [Hn.out] at hSh
  have hn1 : n ≤ l0 ∧ n ≤ 200 := by have := Hn.out; omega
  have r1 := ga0.room
  have m1 := ga0.most
  have HSh := hid hSh
  clear ga0 hSh
  obtain ⟨rm, hrm⟩ : ∃ rm : Nat, m0 % 8 + 1 = (rm : Int) := ⟨(m0 % 8 + 1).toNat, by omega⟩
  have hrm8 : 1 ≤ rm ∧ rm ≤ 8 := by omega
  have ht1 : m0.tmod 8 = m0 % 8 := Int.tmod_eq_emod_of_nonneg gm.1
  have hw1 : IntKind.i64.wrap m0 = m0 := wrap8 gm.1 (by omega)
  have hw2 : IntKind.i64.wrap (m0 % 8) = m0 % 8 := wrap8 (by omega) (by omega)
  have hw3 : IntKind.i64.wrap (m0 % 8 + 1) = (rm : Int) := by rw [hrm]; exact wrap8 (by omega) (by omega)
  have hN := onew (B := w.heap.size) (room := (rm : Int)) (by omega) (by omega) w (Nat.le_refl _)
  rw [show ((rm : Int)).toNat = rm from Int.toNat_natCast rm] at hN
  go_enter Try.func4, Try.ntmps4
  go_wp2_with fail
  with_reducible refine hN.mono ?_
  rintro e w1 ⟨b, rfl, H1⟩
  clear hN ht1 hw1 hw2 hw3
  go_wp2_with fail
  with_reducible refine (HFar.out _ H1.out.2.1).mono ?_
  rintro e w2 ⟨f, rfl, H2⟩
  have HB2 := hid (H1.out.2.1.trans (H2.out.mono H1.out.2.1.size))
  clear HFar
  cases f with
  | true =>
    go_wp2_with fail
    with_reducible refine (alive21_any _).mono ?_
    rintro e wz ⟨rfl, HZ0⟩
    have HZ := hid (HB2.out.trans (HZ0.out.mono HB2.out.size))
    clear HZ0 HB2 H1 H2
    go_wp2_with fail
    go_ret
    exact ⟨rfl, HZ⟩
  | false =>
    obtain ⟨w3, hw3⟩ : ∃ w3, w3 = w2.alloc (.map #[] 0) := ⟨_, rfl⟩
    obtain ⟨M, hM⟩ : ∃ M, w2.heap.size = M := ⟨_, rfl⟩
    have HJ : Hid (SeJ w b M rm 0 ⟨rm, [], 0, 0, 0, 0⟩ [] w3) := by
      have hb3 : Below w2.heap.size w2 w3 := by rw [hw3]; exact (Below.refl _ _).alloc (Nat.le_refl _) _
      exact ⟨(H1.out.1.below H2.out).below hb3, rfl, by rw [hw3, ← hM]; exact SsAt.new w2, fun zs hz => by simp at hz, HB2.out.trans (hb3.mono HB2.out.size)⟩
    have HMg : Hid (w.heap.size ≤ M) := by unfold Hid; rw [← hM]; exact HB2.out.size
    have hmk : (Instr.makeMap 54 none).run Try.prog w2 = .ok (.map (some M)) w3 := by rw [hw3, ← hM]; rfl
    clear HB2 H1 H2 hw3
    go_wp2_with fail
    clear hmk
    with_reducible refine (HSh.out _).mono ?_
    rintro e w5 ⟨rfl, rfl⟩
    clear HSh hM
    go_wp2_with fail
    go_loopw [45] (fun z W' => ∃ (k : Nat) (S : Lm) (K : List (List Int)), k ≤ n ∧ z = .int .i64 k ∧ Hid (SeJ w b M rm k S K W')) (fun z _ => n - (intOf z).toNat)
    case atStart => exact ⟨0, _, _, by omega, rfl, HJ⟩
    case round =>
    obtain ⟨k, S, K, hk, rfl, HS⟩ := hrel
    rename World => wr
    clear HJ
    by_cases hkl : k < n
    · have g1 : (k : Int) < (n : Int) := by omega
      have hL := HSp.out _ HS.out.bel
      have hx : k < xs0.length := by rw [hL.size]; omega
      obtain ⟨q, off, rfl, hc⟩ := hL.cell k hx
      have q0 := hc 0 (by omega)
      have q1 := hc 1 (by omega)
      have q2 := hc 2 (by omega)
      have q3 := hc 3 (by omega)
      have q4 := hc 4 (by omega)
      have HI := hid (hL.inn k hx)
      clear hc hL
      simp only [SpV, List.getElem?_toArray, List.getElem?_cons_zero, List.getElem?_cons_succ, Nat.add_zero] at q0 q1 q2 q3 q4
      generalize xs0[k] = s at *
      obtain ⟨w3, hw3⟩ : ∃ w3, w3 = wr.alloc (.cells #[.int .u8 s.kd, .slice s.b.ap s.b.lp s.b.cp, .int .i64 s.i, .int .i64 s.pl, .int .u32 s.msk] 38) := ⟨_, rfl⟩
      obtain ⟨sb, hsb⟩ : ∃ sb, wr.heap.size = sb := ⟨_, rfl⟩
      have hb3 : Below wr.heap.size wr w3 := by rw [hw3]; exact (Below.refl _ _).alloc (Nat.le_refl _) _
      have HS3 : Hid (SeJ w b M rm k S K w3) := HS.out.below hb3
      have HT : Hid (StB sb s w3) := by unfold Hid StB; rw [hw3, ← hsb]; exact heap_alloc_new wr _
      obtain ⟨kd0, kd1⟩ := HI.out.kd
      obtain ⟨rr, hrr⟩ : ∃ rr, s.kd % 8 = rr := ⟨_, rfl⟩
      have hr' : s.kd.tmod 8 = rr := by rw [Int.tmod_eq_emod_of_nonneg kd0]; exact hrr
      have hwr : IntKind.u8.wrap rr = rr := by rw [IntKind.wrap_u8]; omega
      have HFr : Hid (0 < s.b.lp → ∀ p, s.b.ap = some p → p.block < w.heap.size) := fun hl p hp => by
        obtain ⟨x, o, e, hc⟩ := HI.out.b.rd.cell 0 hl
        rw [hp] at e
        cases e
        exact World.block_lt_of_cell? _ _ hc
      obtain ⟨y0, y1, y2⟩ := HT.out.cells
      have Hy := hid (And.intro y0 (And.intro y1 y2))
      have y0' := y0
      rw [hw3] at y0'
      clear y0 y1 y2 hb3 HS
      go_upto_block 2 with fail
      rw [← hw3]
      clear hsb hw3 q0 q1 q2 q3 q4 y0'
      obtain ⟨y0, y1, y2⟩ := Hy.out
      clear Hy
      go_cut [5] (fun v wx => v = .int .i64 rm ∧ ∃ S' K', Hid (SeJ w b M rm (k + 1) S' K' wx))
      case first =>
          rcases (by omega : rr = 2 ∨ rr = 3 ∨ rr = 4 ∨ rr = 5 ∨ rr = 6 ∨ rr = 7 ∨ rr = 0 ∨ rr = 1) with h2 | h3 | h4 | h5 | h6 | h7 | h0 | h1
          · subst h2
            have HF := hid (odlv s.i HS3.out.lo)
            clear HI HFr
            go_wp2_with fail
            with_reducible refine HF.out.mono ?_
            rintro e wx ⟨xa, xc, rfl, H1⟩
            have HX : Hid (SeJ w b M rm (k + 1) (S.dlv s.i) K wx) := by
              have := HS3.out.to H1.out.1 H1.out.2.1 room_dlv (sub_dlv HS3.out.sub)
              exact ⟨this.lo, this.room, this.map.more (Nat.le_succ _), this.sub, this.bel⟩
            have le : ({ data := #[] } : ByteArray) = strOfNums [] := rfl
            have lk0 := HX.out.map.look (zs := []) (fun x hx => by simp at hx) (by simp)
            rw [← le] at lk0
            by_cases hh : S.has s.i
            · have hm := msgZ_mem hh
              have hmK := HS3.out.sub _ hm
              have hmb := HS3.out.lo.msgs _ hm
              have e2 : S.errI s.i = 0 := if_pos hh
              have lk1 := HX.out.map.look hmb.1 hmb.2
              rw [decide_eq_true hmK] at lk1
              have cx := H1.out.2.2.conv (P := Try.prog) 36 9 5 Try.underlying36 Try.underlying5 Try.underlying9
              rw [e2]
              by_cases hz : S.msgZ s.i = []
              · rw [hz] at hmK cx lk1 ⊢
                rw [decide_eq_true hmK] at lk0
                rw [← le] at cx lk1
                simp only [List.length_nil] at cx ⊢
                clear HF HS3 HT H1 y0 y1 y2 hr' hwr hm hmK hmb e2 hz le hh
                go_wp2_with fail
                go_meet
                case rel => exact ⟨rfl, _, _, HX⟩
              · have hl : 0 < (S.msgZ s.i).length := List.length_pos_iff.2 hz
                generalize strOfNums (S.msgZ s.i) = sx at *
                generalize (S.msgZ s.i).length = ln at *
                have hl2 : (0 : Int) < (ln : Int) := by omega
                clear HF HS3 HT H1 y0 y1 y2 hr' hwr hm hmK hmb e2 hz le hh
                go_wp2_with fail
                go_meet
                case rel => exact ⟨rfl, _, _, HX⟩
            · have e1 : S.msgZ s.i = [] := if_neg hh
              have e2 : S.errI s.i = 6 := if_neg hh
              rw [e1, e2]
              simp only [List.length_nil]
              clear HF HS3 HT H1 y0 y1 y2 hr' hwr e1 e2 hh le
              rcases Bool.eq_false_or_eq_true (decide ([] ∈ K)) with hk0 | hk0
              · rw [hk0] at lk0
                clear hk0
                go_wp2_with fail
                go_meet
                case rel => exact ⟨rfl, _, _, HX⟩
              · rw [hk0] at lk0
                clear hk0
                go_wp2_with fail
                go_meet
                case rel => exact ⟨rfl, _, _, HX⟩
          · subst h3
            have HF := hid (show Calls Try.prog 14 #[.pointer (some ⟨b, 0, none⟩), .int .i64 s.i] w3 fun e w' => e = .returned (.int .i64 (S.errI s.i)) ∧ Hid (SeJ w b M rm k (S.drp s.i) K w') from (odrop s.i HS3.out.lo).mono fun e w' ⟨he, H⟩ => ⟨he, HS3.out.to H.out.1 H.out.2 room_drp (sub_drp HS3.out.sub)⟩)
            clear HI HFr
            go_wp2_with fail
            with_reducible refine HF.out.mono ?_
            rintro e wx ⟨rfl, HX0⟩
            have HX : Hid (SeJ w b M rm (k + 1) (S.drp s.i) K wx) := ⟨HX0.out.lo, HX0.out.room, HX0.out.map.more (Nat.le_succ _), HX0.out.sub, HX0.out.bel⟩
            clear HF HX0 HS3 HT y0 y1 y2 hr' hwr
            go_wp2_with fail
            go_meet
            case rel => exact ⟨rfl, _, _, HX⟩
          · subst h4
            have HF := hid (show Calls Try.prog 16 #[.pointer (some ⟨b, 0, none⟩), .int .i64 s.i] w3 fun e w' => e = .returned (.int .i64 (S.twiE s.i)) ∧ Hid (SeJ w b M rm k (S.twi s.i) K w') from (otwi s.i HS3.out.lo).mono fun e w' ⟨he, H⟩ => ⟨he, HS3.out.to H.out.1 H.out.2 room_twi (sub_twi HS3.out.sub)⟩)
            clear HI HFr
            go_wp2_with fail
            with_reducible refine HF.out.mono ?_
            rintro e wx ⟨rfl, HX0⟩
            have HX : Hid (SeJ w b M rm (k + 1) (S.twi s.i) K wx) := ⟨HX0.out.lo, HX0.out.room, HX0.out.map.more (Nat.le_succ _), HX0.out.sub, HX0.out.bel⟩
            clear HF HX0 HS3 HT y0 y1 y2 hr' hwr
            go_wp2_with fail
            go_meet
            case rel => exact ⟨rfl, _, _, HX⟩
          · subst h5
            have HF := hid (show Calls Try.prog 18 #[.pointer (some ⟨b, 0, none⟩), .int .i64 s.i] w3 fun e w' => e = .returned (.int .i64 (S.errI s.i)) ∧ Hid (SeJ w b M rm k (S.lat s.i) K w') from (olat s.i HS3.out.lo).mono fun e w' ⟨he, H⟩ => ⟨he, HS3.out.to H.out.1 H.out.2 room_lat (sub_lat HS3.out.sub)⟩)
            clear HI HFr
            go_wp2_with fail
            with_reducible refine HF.out.mono ?_
            rintro e wx ⟨rfl, HX0⟩
            have HX : Hid (SeJ w b M rm (k + 1) (S.lat s.i) K wx) := ⟨HX0.out.lo, HX0.out.room, HX0.out.map.more (Nat.le_succ _), HX0.out.sub, HX0.out.bel⟩
            clear HF HX0 HS3 HT y0 y1 y2 hr' hwr
            go_wp2_with fail
            go_meet
            case rel => exact ⟨rfl, _, _, HX⟩
          · subst h6
            have HX : Hid (SeJ w b M rm (k + 1) S K w3) := ⟨HS3.out.lo, HS3.out.room, HS3.out.map.more (Nat.le_succ _), HS3.out.sub, HS3.out.bel⟩
            clear HI HFr HS3 HT
            go_wp2_with fail
            go_meet
            case rel => exact ⟨rfl, _, _, HX⟩
          · subst h7
            have HX : Hid (SeJ w b M rm (k + 1) S K w3) := ⟨HS3.out.lo, HS3.out.room, HS3.out.map.more (Nat.le_succ _), HS3.out.sub, HS3.out.bel⟩
            clear HI HFr HS3 HT
            go_wp2_with fail
            go_meet
            case rel => exact ⟨rfl, _, _, HX⟩
          · subst h0
            have hbs := HI.out.b.bs
            have hbl := HI.out.b.len
            have hbz := HI.out.b.rd.size
            have HRd : Hid (∀ W' : World, Below w.heap.size w W' → Reads .u8 W' s.b.ap s.b.lp s.b.cp s.b.zs) := fun W' hb => HI.out.b.rd.below hb
            have HF := hid (osend HS3.out.lo s.b.ap s.b.lp s.b.cp s.b.zs (HRd.out _ HS3.out.bel) hbs hbl (fun hl p hp => .inl (HFr.out hl p hp)))
            by_cases hfull : S.room ≤ S.ms.length
            · have e1 : S.sendE = 9 := if_pos hfull
              have e2 : S.send s.b.zs = S.sent.lost 1 := if_pos hfull
              rw [e1, e2] at HF
              clear HI HFr
              go_wp2_with fail
              with_reducible refine HF.out.mono ?_
              rintro e wx ⟨rfl, H1⟩
              have HX : Hid (SeJ w b M rm (k + 1) (S.sent.lost 1) K wx) := by
                have := HS3.out.to H1.out.1 H1.out.2 (S' := S.sent.lost 1) rfl HS3.out.sub
                exact ⟨this.lo, this.room, this.map.more (Nat.le_succ _), this.sub, this.bel⟩
              clear HF HS3 HT H1 y0 y1 y2 hr' hwr
              go_wp2_with fail
              go_meet
              case rel => exact ⟨rfl, _, _, HX⟩
            · have e1 : S.sendE = 0 := if_neg hfull
              have e2 : S.send s.b.zs = S.sent.put (S.ms ++ [s.b.zs]) := if_neg hfull
              rw [e1, e2] at HF
              clear HI HFr
              go_wp2_with fail
              with_reducible refine HF.out.mono ?_
              rintro e wx ⟨rfl, H1⟩
              obtain ⟨es, clock, hmm⟩ := HS3.out.map.blk
              have hmap := HS3.out.map.same (H1.out.2.map _ _ _ hmm)
              obtain ⟨W', hst, hsm, hsf⟩ := hmap.store (zs := s.b.zs) (by omega) hbs (by rw [hbz]; exact hbl)
              have HX : Hid (SeJ w b M rm (k + 1) (S.sent.put (S.ms ++ [s.b.zs])) (s.b.zs :: K) W') := by
                refine ⟨H1.out.1.map hmap.blk hsf, HS3.out.room, hsm, fun zs hz => ?_, (HS3.out.bel.trans H1.out.2.bel).trans (hsf.to (fun q hq => by rw [show q = M from hq]; exact HMg.out) (HS3.out.bel.trans H1.out.2.bel).size)⟩
                rcases List.mem_append.1 hz with e | e
                · exact List.mem_cons_of_mem _ (HS3.out.sub zs e)
                · rw [List.mem_singleton.1 e]; exact List.mem_cons_self ..
              have cx := (HRd.out _ (HS3.out.bel.trans H1.out.2.bel)).conv (P := Try.prog) 36 9 5 Try.underlying36 Try.underlying5 Try.underlying9
              obtain ⟨_, z1, _⟩ := (HT.out.kp H1.out.2).cells
              clear HF HS3 HT H1 y0 y1 y2 hr' hwr hmap hsm hsf hmm HRd hbs hbl hbz
              generalize strOfNums s.b.zs = sx at *
              go_wp2_with fail
              go_meet
              case rel => exact ⟨rfl, _, _, HX⟩
          · subst h1
            have hbs := HI.out.b.bs
            have hbl := HI.out.b.len
            have hbz := HI.out.b.rd.size
            have HRd : Hid (∀ W' : World, Below w.heap.size w W' → Reads .u8 W' s.b.ap s.b.lp s.b.cp s.b.zs) := fun W' hb => HI.out.b.rd.below hb
            have HF := hid (osend HS3.out.lo s.b.ap s.b.lp s.b.cp s.b.zs (HRd.out _ HS3.out.bel) hbs hbl (fun hl p hp => .inl (HFr.out hl p hp)))
            by_cases hfull : S.room ≤ S.ms.length
            · have e1 : S.sendE = 9 := if_pos hfull
              have e2 : S.send s.b.zs = S.sent.lost 1 := if_pos hfull
              rw [e1, e2] at HF
              clear HI HFr
              go_wp2_with fail
              with_reducible refine HF.out.mono ?_
              rintro e wx ⟨rfl, H1⟩
              have HX : Hid (SeJ w b M rm (k + 1) (S.sent.lost 1) K wx) := by
                have := HS3.out.to H1.out.1 H1.out.2 (S' := S.sent.lost 1) rfl HS3.out.sub
                exact ⟨this.lo, this.room, this.map.more (Nat.le_succ _), this.sub, this.bel⟩
              clear HF HS3 HT H1 y0 y1 y2 hr' hwr
              go_wp2_with fail
              go_meet
              case rel => exact ⟨rfl, _, _, HX⟩
            · have e1 : S.sendE = 0 := if_neg hfull
              have e2 : S.send s.b.zs = S.sent.put (S.ms ++ [s.b.zs]) := if_neg hfull
              rw [e1, e2] at HF
              clear HI HFr
              go_wp2_with fail
              with_reducible refine HF.out.mono ?_
              rintro e wx ⟨rfl, H1⟩
              obtain ⟨es, clock, hmm⟩ := HS3.out.map.blk
              have hmap := HS3.out.map.same (H1.out.2.map _ _ _ hmm)
              obtain ⟨W', hst, hsm, hsf⟩ := hmap.store (zs := s.b.zs) (by omega) hbs (by rw [hbz]; exact hbl)
              have HX : Hid (SeJ w b M rm (k + 1) (S.sent.put (S.ms ++ [s.b.zs])) (s.b.zs :: K) W') := by
                refine ⟨H1.out.1.map hmap.blk hsf, HS3.out.room, hsm, fun zs hz => ?_, (HS3.out.bel.trans H1.out.2.bel).trans (hsf.to (fun q hq => by rw [show q = M from hq]; exact HMg.out) (HS3.out.bel.trans H1.out.2.bel).size)⟩
                rcases List.mem_append.1 hz with e | e
                · exact List.mem_cons_of_mem _ (HS3.out.sub zs e)
                · rw [List.mem_singleton.1 e]; exact List.mem_cons_self ..
              have cx := (HRd.out _ (HS3.out.bel.trans H1.out.2.bel)).conv (P := Try.prog) 36 9 5 Try.underlying36 Try.underlying5 Try.underlying9
              obtain ⟨_, z1, _⟩ := (HT.out.kp H1.out.2).cells
              clear HF HS3 HT H1 y0 y1 y2 hr' hwr hmap hsm hsf hmm HRd hbs hbl hbz
              generalize strOfNums s.b.zs = sx at *
              go_wp2_with fail
              go_meet
              case rel => exact ⟨rfl, _, _, HX⟩
      case rest =>
      obtain ⟨rfl, S', K', HS'⟩ := hcut
      clear HS3 HT HI HFr hr' hwr hrr kd0 kd1 hx y0 y1 y2
      have hLn := olen HS'.out.lo
      have hl1 : ¬ (rm : Int) < (S'.ms.length : Int) := by
        have := HS'.out.lo.ok.ms
        have := HS'.out.room
        omega
      have hl2 : ¬ rm < S'.ms.length := by omega
      generalize S'.ms.length = ln at *
      go_wp2_with fail
      with_reducible refine hLn.mono ?_
      rintro e w6 ⟨rfl, rfl⟩
      clear hLn
      go_wp2_with fail
      go_round
      case rel => exact ⟨k + 1, S', K', by omega, by go_num, HS'⟩
      case measure => simp [intOf]; omega
    · have g1 : ¬ (k : Int) < (n : Int) := by omega
      go_wp2_with fail
      with_reducible refine (alive21_any _).mono ?_
      rintro e wz ⟨rfl, HZ0⟩
      have HZ := hid (HS.out.bel.trans (HZ0.out.mono HS.out.bel.size))
      clear HZ0 HS
      go_wp2_with fail
      go_ret
      exact ⟨rfl, HZ⟩
end Go.Proofs.Ytlhmalmmligkkaa
