/-
  MemberEdges, walked.
-/
import Derived.Test.YtlhhkgjolilpiaaMbEd
import Derived.Deep.RegionHeld3
import Derived.Deep.DeepCutAuto
import Derived.Deep.CutBlock
import Derived.Outline
namespace Go.Proofs.Ytlhhkgjolilpiaa
open Go.RowKit
set_option linter.unusedVariables false
set_option maxRecDepth 1000000

theorem get_zero {S : Ml} {n : Int} (h : S.get n = none) : S.getR n = Mr.zero ∧ S.getE n = 6 := by
  unfold Ml.getR Ml.getE
  rw [h]
  exact ⟨rfl, rfl⟩
/-- A list newer than w, a step's block, and the row that was handed back ahead of the call. -/
def EX (w : World) (b sb : Nat) (x : Sp) (aw : Option Addr) (nw cw : Nat) (L : List Mr) (S : Ml) (W : World) : Prop :=
  ∃ M f base, MlAt W b M f S ∧ MlOk S ∧ Below w.heap.size w W ∧ (∀ k, mF b M f S.L k → w.heap.size ≤ k) ∧ W.heap[sb]? = some (.cells (SpV x) 31 (0, 0)) ∧ RwM 55 W base (.slice aw nw cw) L ∧ ∀ k, (Value.slice aw nw cw).ownBlock = some k → ¬ mF b M f S.L k
variable {w W W' W3 : World} {b sb nw cw : Nat} {x : Sp} {aw : Option Addr} {L : List Mr} {S S' : Ml} {n t i wt v s now : Int}
theorem EX.mbs (h : EX w b sb x aw nw cw L S W) : MbS w b S W := by
  obtain ⟨M, f, base, h1, h2, h3, h4, _⟩ := h
  exact ⟨M, f, h1, h2, h3, h4⟩
theorem EX.cs (h : EX w b sb x aw nw cw L S W) : SpCs W sb x := by
  obtain ⟨M, f, base, _, _, _, _, h5, _⟩ := h
  exact sp_cs h5
theorem EX.row (h : EX w b sb x aw nw cw L S W) : ∃ base, RwM 55 W base (.slice aw nw cw) L := by
  obtain ⟨M, f, base, _, _, _, _, _, h6, _⟩ := h
  exact ⟨base, h6⟩
theorem EX.below (h : EX w b sb x aw nw cw L S W) (hb : Below W.heap.size W W') : EX w b sb x aw nw cw L S W' := by
  obtain ⟨M, f, base, h1, h2, h3, h4, h5, h6, h7⟩ := h
  exact ⟨M, f, base, h1.below hb, h2, h3.trans (hb.mono h3.size), h4, block_bel h5 hb, h6.below hb, h7⟩
theorem EX.new (h : MbS w b S W3) (hs : W3.heap[sb]? = some (.cells (SpV x) 31 (0, 0))) (hr : RwM 55 W W3.heap.size (.slice aw nw cw) L) (hb : Below W3.heap.size W3 W) : EX w b sb x aw nw cw L S W := by
  obtain ⟨M, f, h1, h2, h3, h4⟩ := h
  refine ⟨M, f, _, h1.below hb, h2, h3.trans (hb.mono h3.size), h4, block_bel hs hb, hr, fun k hk hm => ?_⟩
  have := (hr.lts hk).1
  have := h1.lts hm
  omega
theorem EX.go (h : EX w b sb x aw nw cw L S W) : ∃ M f, MlAt W b M f S ∧ MlOk S ∧ ∀ f' S' W', MlO W b M f S S' f' W' → MlOk S' → EX w b sb x aw nw cw L S' W' := by
  obtain ⟨M, f, base, h1, h2, h3, h4, h5, h6, h7⟩ := h
  refine ⟨M, f, h1, h2, fun f' S' W' H ok => ⟨M, f', base, H.at', ok, h3.trans (H.fr.to h4 h3.size), fun k hk => (H.own k hk).elim (h4 k) fun e => Nat.le_trans h3.size e, H.fr.one h5 fun hk => ?_, h6.same fun k hk => H.fr.block k (h6.lts hk).2 (h7 k hk), fun k hk hm => (H.own k hm).elim (h7 k hk) fun e => by have := (h6.lts hk).2; omega⟩⟩
  rcases hk with rfl | rfl | ⟨r, hr, rfl⟩
  · rw [h1.box] at h5; simp at h5
  · obtain ⟨es, cl, hm⟩ := h1.map.blk
    rw [hm] at h5
    cases h5
  · rw [h1.rep r hr] at h5; simp at h5
/-- What a call leaves: the list goes on, and each replica that was there has gone along its way. -/
def EdP (w : World) (b sb : Nat) (x : Sp) (aw : Option Addr) (nw cw : Nat) (S0 : Ml) (rm : Bool) (now e : Int) (S : Ml) (W : World) : Prop :=
  EX w b sb x aw nw cw S0.L S W ∧ (∀ a ∈ S0.L, EdA rm x.n x.wt now e S.L a) ∧ S.now ≤ now
theorem EX.add (h : EX w b sb x aw nw cw S.L S W) (rm : Bool) (h0 : S.now ≤ now) (h1 : now ≤ 1099511627776) : Calls Try.prog 8 #[.pointer (some ⟨b, 0, none⟩), .int .i64 now] W fun e w' => e = .returned (.tuple #[.int .u64 (S.tm now).addN, .int .i64 (S.tm now).addE]) ∧ Hid (EdP w b sb x aw nw cw S rm now (S.tm now).addE (S.tm now).addS w') := by
  obtain ⟨M, f, hA, ok, hg⟩ := h.go
  refine (madd_any hA ok now).mono fun e w' ⟨he, H⟩ => ⟨he, by obtain ⟨f', H⟩ := H.out; exact hg _ _ _ H (ok.tm now).addS, fun a ha => ed_add ok now ha, by rw [now_add, tm_now h0 h1]; exact Int.le_refl _⟩
theorem EX.up (h : EX w b sb x aw nw cw S.L S W) (rm : Bool) (h0 : S.now ≤ now) (h1 : now ≤ 1099511627776) (hn : isU x.n) (hi : isU i) : Calls Try.prog 18 #[.pointer (some ⟨b, 0, none⟩), .int .i64 now, .int .u64 x.n, .int .u64 i] W fun e w' => e = .returned (.tuple #[.bool ((S.tm now).upB x.n i), .int .i64 ((S.tm now).upE x.n i)]) ∧ Hid (EdP w b sb x aw nw cw S rm now ((S.tm now).upE x.n i) ((S.tm now).upS x.n i) w') := by
  obtain ⟨M, f, hA, ok, hg⟩ := h.go
  refine (mup_any hA ok.ris now hn i).mono fun e w' ⟨he, H⟩ => ⟨he, hg _ _ _ H.out ((ok.tm now).upS x.n hi), fun a ha => ed_up ok now ha hi, by rw [now_up, tm_now h0 h1]; exact Int.le_refl _⟩
theorem EX.lost (h : EX w b sb x aw nw cw S.L S W) (rm : Bool) (h0 : S.now ≤ now) (h1 : now ≤ 1099511627776) (hn : isU x.n) : Calls Try.prog 10 #[.pointer (some ⟨b, 0, none⟩), .int .i64 now, .int .u64 x.n] W fun e w' => e = .returned (.int .i64 ((S.tm now).turnE x.n)) ∧ Hid (EdP w b sb x aw nw cw S rm now ((S.tm now).turnE x.n) ((S.tm now).turnS x.n 4) w') := by
  obtain ⟨M, f, hA, ok, hg⟩ := h.go
  refine (mlost_any hA ok.ris now hn).mono fun e w' ⟨he, H⟩ => ⟨he, hg _ _ _ H.out ((ok.tm now).turnS x.n (by decide)), fun a ha => ed_turn ok now ha (.inl rfl), by rw [now_turn, tm_now h0 h1]; exact Int.le_refl _⟩
theorem EX.drain (h : EX w b sb x aw nw cw S.L S W) (rm : Bool) (h0 : S.now ≤ now) (h1 : now ≤ 1099511627776) (hn : isU x.n) : Calls Try.prog 12 #[.pointer (some ⟨b, 0, none⟩), .int .i64 now, .int .u64 x.n] W fun e w' => e = .returned (.int .i64 ((S.tm now).turnE x.n)) ∧ Hid (EdP w b sb x aw nw cw S rm now ((S.tm now).turnE x.n) ((S.tm now).turnS x.n 3) w') := by
  obtain ⟨M, f, hA, ok, hg⟩ := h.go
  refine (mdrain_any hA ok.ris now hn).mono fun e w' ⟨he, H⟩ => ⟨he, hg _ _ _ H.out ((ok.tm now).turnS x.n (by decide)), fun a ha => ed_turn ok now ha (.inr rfl), by rw [now_turn, tm_now h0 h1]; exact Int.le_refl _⟩
theorem EX.remove (h : EX w b sb x aw nw cw S.L S W) (h0 : S.now ≤ now) (h1 : now ≤ 1099511627776) (hn : isU x.n) : Calls Try.prog 14 #[.pointer (some ⟨b, 0, none⟩), .int .i64 now, .int .u64 x.n, .int .i64 x.wt] W fun e w' => e = .returned (.int .i64 ((S.tm now).rmE x.n x.wt)) ∧ Hid (EdP w b sb x aw nw cw S true now ((S.tm now).rmE x.n x.wt) ((S.tm now).rmS x.n x.wt) w') := by
  obtain ⟨M, f, hA, ok, hg⟩ := h.go
  refine (mremove_any hA ok now hn x.wt).mono fun e w' ⟨he, H⟩ => ⟨he, hg _ _ _ H.out ((ok.tm now).rmS x.n x.wt), fun a ha => ed_rm ok ha h0 h1, by rw [now_rm, tm_now h0 h1]; exact Int.le_refl _⟩
theorem EX.bind (h : EX w b sb x aw nw cw S.L S W) (rm : Bool) (h0 : S.now ≤ now) (hn : isU x.n) (v : Int) : Calls Try.prog 16 #[.pointer (some ⟨b, 0, none⟩), .int .u64 x.n, .int .i64 v] W fun e w' => e = .returned (.int .i64 (S.bindE x.n v)) ∧ Hid (EdP w b sb x aw nw cw S rm now (S.bindE x.n v) (S.bindS x.n v) w') := by
  obtain ⟨M, f, hA, ok, hg⟩ := h.go
  refine (mbind_any hA ok hn v).mono fun e w' ⟨he, H⟩ => ⟨he, hg _ _ _ H.out (ok.bindS x.n v), fun a ha => ed_bind ok ha, by rw [now_bind]; exact h0⟩
set_option maxHeartbeats 64000000 in
theorem edges_any {a0 : Option Addr} {l0 c0 : Nat} {xs0 : List Sp} {w : World} (ga0 : Lst w a0 l0 c0 6 xs0 SpV SpIn) : Calls Try.prog 4 #[.slice a0 l0 c0] w fun e w' => e = .returned (.bool true) ∧ Hid (Below w.heap.size w w') := by
  have HSh := hid fun W' => short24_any a0 l0 c0 W' ga0.room ga0.most
  obtain ⟨N, HNn⟩ : ∃ n, Hid (min l0 200 = n) := ⟨_, rfl⟩
  rw [HNn.out] at HSh
  have hN1 : N ≤ l0 ∧ N ≤ 200 := by have := HNn.out; omega
  have r1 := ga0.room
  have m1 := ga0.most
  have HSp := hid fun (W' : World) (hb : Below w.heap.size w W') => ga0.below SpV_size hb
  clear ga0
  have hNw := mnew_S (w := w) w (Below.refl _ _)
  go_enter Try.func4, Try.ntmps4
  go_wp2_with fail
  refine hNw.mono ?_
  rintro e w2 ⟨b, rfl, HJ⟩
  clear hNw
  go_wp2_with fail
  refine (HSh.out _).mono ?_
  rintro e w7 ⟨rfl, rfl⟩
  clear HSh
  go_wp2_with fail
  go_loopw [4, 19] (fun nv z W' => ∃ (k : Nat) (now : Int) (P : Ml), k ≤ N ∧ nv = .int .i64 now ∧ z = .int .i64 k ∧ Hid (MbS w b P W' ∧ P.now ≤ now ∧ 0 ≤ now ∧ now ≤ k * 1048576)) (fun _ z _ => N - (intOf z).toNat)
  case atStart => exact ⟨0, 0, _, by omega, rfl, rfl, HJ.out, Int.le_refl 0, Int.le_refl 0, by omega⟩
  case round =>
  obtain ⟨k, now, P, hk, rfl, rfl, HS⟩ := hrel
  rename World => wr
  clear HJ
  by_cases hkl : k < N
  · have g1 : (k : Int) < (N : Int) := by omega
    have hL := HSp.out _ HS.out.1.bel
    have hx : k < xs0.length := by rw [hL.size]; omega
    obtain ⟨qq, off, rfl, hc⟩ := hL.cell k hx
    have q0 := hc 0 (by omega)
    have q1 := hc 1 (by omega)
    have q2 := hc 2 (by omega)
    have q3 := hc 3 (by omega)
    have q4 := hc 4 (by omega)
    have q5 := hc 5 (by omega)
    have HI := hid (hL.inn k hx)
    clear hc hL
    simp only [SpV, List.getElem?_toArray, List.getElem?_cons_zero, List.getElem?_cons_succ, Nat.add_zero] at q0 q1 q2 q3 q4 q5
    generalize xs0[k] = x at *
    obtain ⟨w3, hw3⟩ : ∃ w3, w3 = wr.alloc (.cells #[.int .u8 x.kd, .int .i64 x.later, .int .u64 x.n, .int .u64 x.inc, .int .i64 x.wt, .int .i64 x.bv] 31) := ⟨_, rfl⟩
    obtain ⟨sb, hsb⟩ : ∃ sb, wr.heap.size = sb := ⟨_, rfl⟩
    have HW : Hid (MbS w b P w3) := by unfold Hid; rw [hw3]; exact HS.out.1.below ((Below.refl _ _).alloc (Nat.le_refl _) _)
    have HSt : Hid (w3.heap[sb]? = some (.cells (SpV x) 31 (0, 0))) := by unfold Hid; rw [← hsb, hw3]; exact heap_alloc_new wr _
    obtain ⟨y0, y1, y2, y3, y4, y5⟩ := sp_cs HSt.out
    have hbd := HS.out.2
    obtain ⟨now2, hnow2⟩ : ∃ n2 : Int, n2 = if 0 < x.later ∧ x.later < 1048576 then now + x.later else now := ⟨_, rfl⟩
    have hb2 : 0 ≤ now2 ∧ now2 ≤ (k + 1) * 1048576 ∧ P.now ≤ now2 := by rw [hnow2]; split <;> omega
    obtain ⟨kd0, kd1⟩ := HI.out.kd
    obtain ⟨rr, hrr⟩ : ∃ rr, x.kd % 7 = rr := ⟨_, rfl⟩
    have hr' : x.kd.tmod 7 = rr := by rw [Int.tmod_eq_emod_of_nonneg kd0]; exact hrr
    have hwr : IntKind.u8.wrap rr = rr := by rw [IntKind.wrap_u8]; omega
    have HU := hid HI.out.n
    have HUi := hid HI.out.inc
    clear HS HI
    go_upto_region 8 with fail
    try rw [← hw3]
    try rw [hsb]
    clear hw3 hsb q0 q1 q2 q3 q4 q5
    go_cut [30] (fun v wx => v = .bool (decide (0 < x.later ∧ x.later < 1048576)) ∧ wx = w3)
    case first =>
      by_cases h1 : 0 < x.later
      · by_cases h2 : x.later < 1048576
        · go_wp2_with fail
          go_meet
          exact ⟨by simp [h1, h2], rfl⟩
        · have h2' : 1048576 ≤ x.later := by omega
          go_wp2_with fail
          go_meet
          exact ⟨by simp [h1]; omega, rfl⟩
      · have h1' : x.later ≤ 0 := by omega
        go_wp2_with fail
        go_meet
        exact ⟨by simp; omega, rfl⟩
    case rest =>
    obtain ⟨rfl, hwc⟩ := hcut
    have hwc' := hwc.symm
    subst hwc'
    go_upto_if 30 with fail
    go_cut [4] (fun v wx => v = .int .i64 now2 ∧ wx = w3)
    case first =>
      by_cases h1 : 0 < x.later ∧ x.later < 1048576
      · have hd : decide (0 < x.later ∧ x.later < 1048576) = true := decide_eq_true h1
        have e : Hid (now2 = now + x.later) := by unfold Hid; rw [hnow2, if_pos h1]
        have e1 : IntKind.i64.wrap (now + x.later) = now + x.later := by rw [IntKind.wrap_i64]; omega
        clear hnow2
        go_wp2_with fail
        go_meet
        exact ⟨by rw [e.out], rfl⟩
      · have hd : decide (0 < x.later ∧ x.later < 1048576) = false := decide_eq_false h1
        have e : Hid (now2 = now) := by unfold Hid; rw [hnow2, if_neg h1]
        clear hnow2
        go_wp2_with fail
        go_meet
        exact ⟨by rw [e.out], rfl⟩
    case rest =>
    obtain ⟨rfl, hwc⟩ := hcut
    have hwc' := hwc.symm
    subst hwc'
    have hb3 : now2 ≤ 1099511627776 := by omega
    clear hnow2 y1 hbd
    have hAl := HW.out.cAll
    go_wp2_with fail
    refine hAl.mono ?_
    rintro e w4 ⟨aw, cw, rfl, H4⟩
    have HEx : Hid (EX w b sb x aw P.L.length cw P.L P w4) := EX.new HW.out HSt.out H4.out.1 H4.out.2
    have HPo := hid HW.out.ok
    obtain ⟨nw, hnw⟩ : ∃ nw, P.L.length = nw := ⟨_, rfl⟩
    have HNw := hid hnw
    rw [hnw] at HEx
    have hnw8 : nw ≤ 8 := by rw [← hnw]; exact HPo.out.len
    clear hAl H4 HW HSt hnw y0 y2 y3 y4 y5
    obtain ⟨y0, _, y2, y3, y4, y5⟩ := HEx.out.cs
    try rw [HNw.out]
    go_upto_block 2 with fail
    clear y0
    go_cut [8] (fun v wx => ∃ (e : Int) (S2 : Ml), v = .int .i64 e ∧ Hid (EdP w b sb x aw nw cw P (decide (rr = 4)) now2 e S2 wx))
    case first =>
      as_aux_lemma =>
        rcases (by omega : rr = 0 ∨ rr = 1 ∨ rr = 2 ∨ rr = 3 ∨ rr = 4 ∨ rr = 5 ∨ rr = 6) with h0 | h0 | h0 | h0 | h0 | h0 | h0
        · subst h0
          have hC := HEx.out.add (decide ((0 : Int) = 4)) hb2.2.2 hb3
          clear HEx HU HUi HPo y2 y3 y4 y5
          generalize (P.tm now2).addE = te at *
          generalize (P.tm now2).addN = tn at *
          go_wp2_with fail
          refine hC.mono ?_
          rintro e w5 ⟨rfl, H5⟩
          clear hC
          go_wp2_with fail
          go_meet
          exact ⟨_, _, rfl, H5⟩
        · subst h0
          have hC := HEx.out.up (decide ((1 : Int) = 4)) hb2.2.2 hb3 HU.out HUi.out
          clear HEx HU HUi HPo y4 y5
          generalize (P.tm now2).upE x.n x.inc = te at *
          generalize (P.tm now2).upB x.n x.inc = tn at *
          go_wp2_with fail
          refine hC.mono ?_
          rintro e w5 ⟨rfl, H5⟩
          clear hC
          go_wp2_with fail
          go_meet
          exact ⟨_, _, rfl, H5⟩
        · subst h0
          have hC := HEx.out.lost (decide ((2 : Int) = 4)) hb2.2.2 hb3 HU.out
          clear HEx HU HUi HPo y3 y4 y5
          generalize (P.tm now2).turnE x.n = te at *
          go_wp2_with fail
          refine hC.mono ?_
          rintro e w5 ⟨rfl, H5⟩
          clear hC
          go_wp2_with fail
          go_meet
          exact ⟨_, _, rfl, H5⟩
        · subst h0
          have hC := HEx.out.drain (decide ((3 : Int) = 4)) hb2.2.2 hb3 HU.out
          clear HEx HU HUi HPo y3 y4 y5
          generalize (P.tm now2).turnE x.n = te at *
          go_wp2_with fail
          refine hC.mono ?_
          rintro e w5 ⟨rfl, H5⟩
          clear hC
          go_wp2_with fail
          go_meet
          exact ⟨_, _, rfl, H5⟩
        · subst h0
          have hC := HEx.out.remove hb2.2.2 hb3 HU.out
          clear HEx HU HUi HPo y3 y5
          generalize (P.tm now2).rmE x.n x.wt = te at *
          go_wp2_with fail
          refine hC.mono ?_
          rintro e w5 ⟨rfl, H5⟩
          clear hC
          go_wp2_with fail
          go_meet
          exact ⟨_, _, rfl, H5⟩
        · subst h0
          have hC := HEx.out.bind (decide ((5 : Int) = 4)) hb2.2.2 HU.out x.bv
          clear HEx HU HUi HPo y3 y4
          generalize P.bindE x.n x.bv = te at *
          go_wp2_with fail
          refine hC.mono ?_
          rintro e w5 ⟨rfl, H5⟩
          clear hC
          go_wp2_with fail
          go_meet
          exact ⟨_, _, rfl, H5⟩
        · subst h0
          have hC := HEx.out.up (decide ((6 : Int) = 4)) hb2.2.2 hb3 HU.out HUi.out
          clear HEx HU HUi HPo y4 y5
          generalize (P.tm now2).upE x.n x.inc = te at *
          generalize (P.tm now2).upB x.n x.inc = tn at *
          go_wp2_with fail
          refine hC.mono ?_
          rintro e w5 ⟨rfl, H5⟩
          clear hC
          go_wp2_with fail
          go_meet
          exact ⟨_, _, rfl, H5⟩
    case rest =>
    obtain ⟨e, S2, rfl, HP⟩ := hcut
    rename World => wx
    clear HEx y2 y3 y4 y5
    have HE := hid fun (W : World) (hb : Below wx.heap.size wx W) => HP.out.1.below hb
    have HA : Hid (∀ j, j < nw → EdA (decide (rr = 4)) x.n x.wt now2 e S2.L (atM P.L j) ∧ isU (atM P.L j).n ∧ 0 ≤ (atM P.L j).si ∧ (atM P.L j).si ≤ 1099511627776) := fun j hj => by
      have hm := mk_mem (L := P.L) (i := j) (by rw [HNw.out]; exact hj)
      have ho := HPo.out.rep _ hm
      have := HPo.out.last
      have := HPo.out.now
      have := ho.n
      have := ho.si
      exact ⟨HP.out.2.1 _ hm, ⟨by omega, by omega⟩, by omega, by omega⟩
    have HNo : Hid (S2.now ≤ now2) := HP.out.2.2
    have HV0 : Hid (Below wx.heap.size wx wx) := Below.refl _ _
    clear HP HPo
    go_wp2_with fail
    go_loopw [91] (fun z W' => ∃ j : Nat, j ≤ nw ∧ z = .int .i64 j ∧ Hid (Below wx.heap.size wx W')) (fun z _ => nw - (intOf z).toNat)
    case atStart => exact ⟨0, by omega, rfl, HV0⟩
    case round =>
    obtain ⟨j, hj, rfl, HV⟩ := hrel
    rename World => wi
    clear HV0
    have hEx := HE.out _ HV.out
    by_cases hjl : j < nw
    · have g2 : (j : Int) < (nw : Int) := by omega
      obtain ⟨base, hrow⟩ := hEx.row
      have hjL : j < P.L.length := by rw [HNw.out]; exact hjl
      obtain ⟨ga, _, _, ev1, _, _⟩ := hrow.isSome hjL
      have ea : aw = some ⟨ga, 0, none⟩ := by cases ev1; rfl
      subst ea
      obtain ⟨_, cq, ev2, hrm, hms, _⟩ := hrow.isSl
      obtain ⟨ev3, ev4⟩ : nw ≤ cw ∧ cw ≤ 9223372036854775807 := by cases ev2; exact ⟨by omega, hms⟩
      obtain ⟨c0, c1, c2, c3, c4⟩ := hrow.at hjL
      obtain ⟨hEA, hau, hs0, hs1⟩ := HA.out j hjl
      clear ev1 ev2 hrow hjL hrm hms
      generalize atM P.L j = a at *
      obtain ⟨wA, hwA⟩ : ∃ wA, wA = wi.alloc (.cells #[.int .u64 a.n, .int .i64 a.st, .int .u64 a.inc, .int .i64 a.bd, .int .i64 a.si] 55) := ⟨_, rfl⟩
      have hbA : Below wi.heap.size wi wA := by rw [hwA]; exact (Below.refl _ _).alloc (Nat.le_refl _) _
      have hxA : wA.heap[wi.heap.size]? = some (.cells (MrC a) 55 (0, 0)) := by rw [hwA]; exact heap_alloc_new wi _
      have HVA : Hid (Below wx.heap.size wx wA) := HV.out.trans (hbA.mono HV.out.size)
      have hG := (HE.out _ HVA.out).mbs.cGet hau
      obtain ⟨ab, hab⟩ : ∃ ab, wi.heap.size = ab := ⟨_, rfl⟩
      rw [hab] at hxA
      have HxA := hid hxA
      have k0 := (mr_cs hxA).n
      have HEA := hid hEA
      unfold MrC at hG
      generalize hq : S2.getR a.n = q at hG
      generalize hqe : S2.getE a.n = qe at hG
      have Hq := hid hq
      have Hqe := hid hqe
      clear hEx hau hbA hxA hEA hq hqe
      have k0r := k0
      rw [hwA] at k0r
      go_wp2_with fail
      try rw [← hwA]
      try rw [hab]
      refine hG.mono ?_
      rintro e' w8 ⟨rfl, H8⟩
      clear hG hwA hab k0 k0r c0 c1 c2 c3 c4
      obtain ⟨wB, hwB⟩ : ∃ wB, wB = w8.alloc (.cells #[.int .u64 q.n, .int .i64 q.st, .int .u64 q.inc, .int .i64 q.bd, .int .i64 q.si] 55) := ⟨_, rfl⟩
      have hbB : Below w8.heap.size w8 wB := by rw [hwB]; exact (Below.refl _ _).alloc (Nat.le_refl _) _
      have hxB : wB.heap[w8.heap.size]? = some (.cells (MrC q) 55 (0, 0)) := by rw [hwB]; exact heap_alloc_new w8 _
      have hb8 : Below wA.heap.size wA wB := H8.out.trans (hbB.mono H8.out.size)
      have HVB : Hid (Below wx.heap.size wx wB) := HVA.out.trans (hb8.mono HVA.out.size)
      have HB := hid HVB.out
      obtain ⟨a0', a1', a2', a3', a4'⟩ := mr_cs (block_bel HxA.out hb8)
      obtain ⟨bb, hbb⟩ : ∃ bb, w8.heap.size = bb := ⟨_, rfl⟩
      rw [hbb] at hxB
      obtain ⟨b0', b1', b2', b3', b4'⟩ := mr_cs hxB
      obtain ⟨p0, _, p2, _, p4, _⟩ := (HE.out _ HVB.out).cs
      clear HxA HVA H8 hbB hxB hb8 HV
      go_upto_block 5 with fail
      rw [← hwB]
      try rw [hbb]
      clear hwB hbb
      obtain ⟨an, ast, ai, abd, asi⟩ := a
      simp only at a0' a1' a2' a3' a4' hs0 hs1 HEA Hq Hqe
      cases hg : gtL S2.L an with
      | none =>
        as_aux_lemma =>
          obtain ⟨t1, t2, t3, t4, t5⟩ := HEA.out.1 hg
          obtain ⟨e1, e2⟩ := get_zero (S := S2) (n := an) hg
          have hq2 : q = Mr.zero := Hq.out.symm.trans e1
          have hqe2 : qe = 6 := Hqe.out.symm.trans e2
          have hr4 : rr = 4 := by simpa using t2
          simp only at t1 t3 t4 t5
          subst hq2 hqe2 hr4 t1
          rw [t4] at a1'
          simp only [Mr.zero] at b0' b1' b2' b3' b4'
          have z0 : (an != x.n) = false := by simp [t3]
          have z1 : (an == x.n) = true := by simp [t3]
          have v1 : wrap64 (now2 - asi) = now2 - asi := by unfold wrap64; omega
          have v2 : IntKind.i64.wrap (now2 - asi) = now2 - asi := by rw [IntKind.wrap_i64]; omega
          clear hg e1 e2 Hq Hqe HEA HA t2 t3 t4
          by_cases h4 : 0 < abd
          · have d1 : decide (0 < abd) = true := decide_eq_true h4
            have d2 : decide (now2 - asi < x.wt) = false := decide_eq_false fun e => t5 ⟨h4, e⟩
            clear h4 t5
            go_wp2_with fail
            go_round
            case rel => exact ⟨j + 1, by omega, by go_num, HB⟩
            case measure => simp [intOf]; omega
          · have d1 : decide (0 < abd) = false := decide_eq_false h4
            clear h4 t5
            go_wp2_with fail
            go_round
            case rel => exact ⟨j + 1, by omega, by go_num, HB⟩
            case measure => simp [intOf]; omega
      | some q2 =>
        obtain ⟨t1, t2, t3, t4, t5⟩ := HEA.out.2 q2 hg
        obtain ⟨e1, e2⟩ := get_get (S := S2) (n := an) hg
        have hq2 : q = q2 := Hq.out.symm.trans e1
        have hqe2 : qe = 0 := Hqe.out.symm.trans e2
        subst hq2 hqe2
        obtain ⟨qn, qst, qi, qb, qs⟩ := q
        simp only at b0' b1' b2' b3' b4' t2 t3 t4 t5
        have d3 : decide (qi < ai) = false := decide_eq_false (by omega)
        have d4 : decide (qb < 0) = false := decide_eq_false (by omega)
        clear e1 e2 Hq Hqe HEA HA hg p4
        by_cases hqa : (⟨qn, qst, qi, qb, qs⟩ : Mr) = ⟨an, ast, ai, abd, asi⟩
        · obtain ⟨rfl, rfl, rfl, rfl, rfl⟩ : qn = an ∧ qst = ast ∧ qi = ai ∧ qb = abd ∧ qs = asi := by
            simpa using hqa
          have d5 : (qst != qst) = false := by simp
          clear hqa t1 t2 t3 t4 t5
          as_aux_lemma =>
            by_cases he : e = 0
            · subst he
              by_cases hn : qn = x.n
              · have z0 : (qn != x.n) = false := by simp [hn]
                clear hn
                go_wp2_with fail
                go_round
                case rel => exact ⟨j + 1, by omega, by go_num, HB⟩
                case measure => simp [intOf]; omega
              · have z0 : (qn != x.n) = true := by simp [hn]
                clear hn
                go_wp2_with fail
                go_round
                case rel => exact ⟨j + 1, by omega, by go_num, HB⟩
                case measure => simp [intOf]; omega
            · have ze : (e != 0) = true := by simp [he]
              clear he
              by_cases hn : qn = x.n
              · have z0 : (qn != x.n) = false := by simp [hn]
                clear hn
                go_wp2_with fail
                go_round
                case rel => exact ⟨j + 1, by omega, by go_num, HB⟩
                case measure => simp [intOf]; omega
              · have z0 : (qn != x.n) = true := by simp [hn]
                clear hn
                go_wp2_with fail
                go_round
                case rel => exact ⟨j + 1, by omega, by go_num, HB⟩
                case measure => simp [intOf]; omega
        · have he : e = 0 := t1.resolve_right hqa
          have hn : an = x.n := t4.resolve_right fun e => hqa e.symm
          as_aux_lemma =>
            subst he
            have z0 : (an != x.n) = false := by simp [hn]
            clear t1 t4 hqa hn t3 t5
            by_cases hst : ast = qst
            · subst hst
              have d5 : (ast != ast) = false := by simp
              clear t2
              go_wp2_with fail
              go_round
              case rel => exact ⟨j + 1, by omega, by go_num, HB⟩
              case measure => simp [intOf]; omega
            · have hgo := goes_any (t2.resolve_left hst) wB
              have d5 : (ast != qst) = true := by simp [hst]
              clear t2 hst
              go_wp2_with (first | (go_at_call 27; (with_reducible refine hgo.mono ?_); rintro e' w9 ⟨rfl, rfl⟩))
              go_round
              case rel => exact ⟨j + 1, by omega, by go_num, HB⟩
              case measure => simp [intOf]; omega
    · have g2 : ¬ (j : Int) < (nw : Int) := by omega
      as_aux_lemma =>
        have hlen := (HE.out _ HV.out).mbs.ok.len
        have HAl : Hid (∀ W, Below wx.heap.size wx W → Calls Try.prog 21 #[.pointer (some ⟨b, 0, none⟩)] W fun e w' => ∃ a cap, e = .returned (.slice a S2.L.length cap) ∧ Hid (RwM 55 w' W.heap.size (.slice a S2.L.length cap) S2.L ∧ Below W.heap.size W w')) := fun W hb => (HE.out _ hb).mbs.cAll
        have HLi : Hid (∀ W, Below wx.heap.size wx W → Calls Try.prog 22 #[.pointer (some ⟨b, 0, none⟩)] W fun e w' => e = .returned (.int .i64 (liveL S2.L)) ∧ Hid (Below W.heap.size W w')) := fun W hb => (HE.out _ hb).mbs.cLive
        have hll : liveL S2.L ≤ S2.L.length := List.length_filter_le _ _
        have HMb : Hid (∀ W, Below wx.heap.size wx W → MbS w b S2 W) := fun W hb => (HE.out _ hb).mbs
        clear hEx HE HA
        generalize S2.L.length = n2 at *
        generalize liveL S2.L = lv at *
        have d1 : decide ((8 : Int) < (n2 : Int)) = false := decide_eq_false (by omega)
        have d2 : decide ((n2 : Int) < (lv : Int)) = false := decide_eq_false (by omega)
        have hA1 := HAl.out _ HV.out
        go_wp2_with fail
        refine hA1.mono ?_
        rintro e' z1 ⟨az, cz, rfl, H1⟩
        have HV1 : Hid (Below wx.heap.size wx z1) := HV.out.trans (H1.out.2.mono HV.out.size)
        have hL1 := HLi.out _ HV1.out
        clear hA1 H1 HV
        go_wp2_with fail
        refine hL1.mono ?_
        rintro e' z2 ⟨rfl, H2⟩
        have HV2 : Hid (Below wx.heap.size wx z2) := HV1.out.trans (H2.out.mono HV1.out.size)
        have hA2 := HAl.out _ HV2.out
        clear hL1 H2 HV1 HLi HAl
        go_wp2_with fail
        refine hA2.mono ?_
        rintro e' z3 ⟨az3, cz3, rfl, H3⟩
        have HV3 : Hid (Below wx.heap.size wx z3) := HV2.out.trans (H3.out.2.mono HV2.out.size)
        have HX : Hid (MbS w b S2 z3 ∧ S2.now ≤ now2 ∧ 0 ≤ now2 ∧ now2 ≤ ((k + 1 : Nat) : Int) * 1048576) := ⟨HMb.out _ HV3.out, HNo.out, hb2.1, by have := hb2.2.1; omega⟩
        clear hA2 H3 HV2 HV3 HMb HNo
        go_wp2_with fail
        go_round
        case rel => exact ⟨k + 1, now2, S2, by omega, rfl, by go_num, HX⟩
        case measure => simp [intOf]; omega
  · have g1 : ¬ (k : Int) < (N : Int) := by omega
    have HV := hid HS.out.1.bel
    clear HS
    go_wp2_with fail
    refine (alive24_any _).mono ?_
    rintro e w4 ⟨rfl, H4⟩
    have HE : Hid (Below w.heap.size w w4) := HV.out.trans (H4.out.mono HV.out.size)
    clear HV H4
    go_wp2_with fail
    go_ret
    exact ⟨rfl, HE⟩
end Go.Proofs.Ytlhhkgjolilpiaa
