/-
  The document's prober: Later, Tick, Pong, Due.
-/
import Derived.Test.YtmpooeflbfggbaaPbRf
import Derived.Test.YtmpooeflbfggbaaPbCl
namespace Go.Proofs.Ytmpooeflbfggbaa
open Go.RowKit
set_option linter.unusedVariables false
set_option maxRecDepth 1000000
variable {b : Nat} {w w' : World} {P : Pk} {a : Int}

theorem rlater_any (h : RkAt w b P a) (ok : PkOk P) (hI : RkI P a) (t : Int) : Calls Try.prog 25 #[.pointer (some ⟨b, 0, none⟩), .int .i64 t] w fun e w' => e = .returned (.tuple #[]) ∧ Hid (RkAt w' b (P.go t) a ∧ Tn b w w') := by
  have c4 := h.cs.now
  have f4 := h.frozen 4
  have okt := ok.tm t
  have hIt := hI.tm t
  have eg : P.go t = if (P.tm t).late = true then (P.tm t).miss else P.tm t := rfl
  rw [eg]
  clear eg
  by_cases hm : P.now < t
  · by_cases hm2 : t ≤ 1099511627776
    · have et : tmZ P.now t = t := if_pos ⟨hm, hm2⟩
      obtain ⟨W1, hW1⟩ : ∃ W1, w.setCell ⟨b, 4, none⟩ (.int .i64 t) = W1 := ⟨_, rfl⟩
      have g1 : RkAt W1 b (P.tm t) a := by rw [← hW1]; exact h.set (by unfold Pk.tm; rw [et]; rfl)
      have t1 : Tn b w W1 := by rw [← hW1]; exact (Tn.refl b w).set _ _
      clear h ok hI et
      generalize P.tm t = Q at *
      have d7 := fun n : Nat => (g1.drewN n).cs.op
      have d8 := fun n : Nat => (g1.drewN n).cs.at'
      have d4 := fun n : Nat => (g1.drewN n).cs.now
      have d1 := fun n : Nat => (g1.drewN n).cs.wt
      have HE := hid fun n : Nat => And.intro (g1.drewN n) (t1.drewN n)
      have HM := hid fun n : Nat => rmissed_any (g1.drewN n) okt
      have hbd := hIt.bd
      have hn := okt.now
      have hat := hIt.at'
      have hs1 : IntKind.i64.wrap (Q.now - a) = Q.now - a := by rw [IntKind.wrap_i64]; omega
      have hs2 : wrap64 (Q.now - a) = Q.now - a := by unfold wrap64; omega
      clear g1 t1 okt hIt hn hbd
      cases ho : Q.op with
      | false =>
        have e : Q.late = false := by unfold Pk.late; rw [ho]; rfl
        rw [e, if_neg (by decide)]
        rw [ho] at d7
        clear e ho HM d8 d4 d1 hat
        go_enter Try.func25, Try.ntmps25
        go_wp2_with fail
        (try rw [hW1]); (try clear hW1)
        go_quiet (fail)
        go_wp2_with fail
        go_end0
        exact ⟨rfl, HE.out _⟩
      | true =>
        have hat2 := hat ho
        rw [ho] at d7
        by_cases hu : Q.en ≤ Q.now
        · have e : Q.late = true := by unfold Pk.late; rw [ho]; simp [hu]
          rw [e, if_pos rfl]
          have db : decide (Q.wt ≤ Q.now - a) = true := decide_eq_true (by omega)
          clear e ho hu hat hat2
          go_enter Try.func25, Try.ntmps25
          go_wp2_with fail
          (try rw [hW1]); (try clear hW1)
          go_quiet (fail)
          go_wp2_with fail
          refine (HM.out _).mono ?_
          rintro e w2 ⟨rfl, H⟩
          have HX := hid (And.intro H.out.1 ((HE.out _).2.trans H.out.2))
          clear HM HE H d7 d8 d4 d1 c4 f4
          go_wp2_with fail
          go_end0
          exact ⟨rfl, HX⟩
        · have e : Q.late = false := by unfold Pk.late; rw [ho]; simp; omega
          rw [e, if_neg (by decide)]
          have db : decide (Q.wt ≤ Q.now - a) = false := decide_eq_false (by omega)
          clear e ho HM hu hat hat2
          go_enter Try.func25, Try.ntmps25
          go_wp2_with fail
          (try rw [hW1]); (try clear hW1)
          go_quiet (fail)
          go_wp2_with fail
          go_end0
          exact ⟨rfl, HE.out _⟩
    · have et : tmZ P.now t = P.now := if_neg (by omega)
      have hm3 : 1099511627776 < t := by omega
      clear hm2
      have g1 : RkAt w b (P.tm t) a := by unfold Pk.tm; rw [et]; exact h
      have t1 : Tn b w w := Tn.refl b w
      clear h ok hI et
      generalize P.tm t = Q at *
      have d7 := fun n : Nat => (g1.drewN n).cs.op
      have d8 := fun n : Nat => (g1.drewN n).cs.at'
      have d4 := fun n : Nat => (g1.drewN n).cs.now
      have d1 := fun n : Nat => (g1.drewN n).cs.wt
      have HE := hid fun n : Nat => And.intro (g1.drewN n) (t1.drewN n)
      have HM := hid fun n : Nat => rmissed_any (g1.drewN n) okt
      have hbd := hIt.bd
      have hn := okt.now
      have hat := hIt.at'
      have hs1 : IntKind.i64.wrap (Q.now - a) = Q.now - a := by rw [IntKind.wrap_i64]; omega
      have hs2 : wrap64 (Q.now - a) = Q.now - a := by unfold wrap64; omega
      clear g1 t1 okt hIt hn hbd
      cases ho : Q.op with
      | false =>
        have e : Q.late = false := by unfold Pk.late; rw [ho]; rfl
        rw [e, if_neg (by decide)]
        rw [ho] at d7
        clear e ho HM d8 d4 d1 hat
        go_enter Try.func25, Try.ntmps25
        go_wp2_with fail
        go_quiet (fail)
        go_wp2_with fail
        go_end0
        exact ⟨rfl, HE.out _⟩
      | true =>
        have hat2 := hat ho
        rw [ho] at d7
        by_cases hu : Q.en ≤ Q.now
        · have e : Q.late = true := by unfold Pk.late; rw [ho]; simp [hu]
          rw [e, if_pos rfl]
          have db : decide (Q.wt ≤ Q.now - a) = true := decide_eq_true (by omega)
          clear e ho hu hat hat2
          go_enter Try.func25, Try.ntmps25
          go_wp2_with fail
          go_quiet (fail)
          go_wp2_with fail
          refine (HM.out _).mono ?_
          rintro e w2 ⟨rfl, H⟩
          have HX := hid (And.intro H.out.1 ((HE.out _).2.trans H.out.2))
          clear HM HE H d7 d8 d4 d1 c4 f4
          go_wp2_with fail
          go_end0
          exact ⟨rfl, HX⟩
        · have e : Q.late = false := by unfold Pk.late; rw [ho]; simp; omega
          rw [e, if_neg (by decide)]
          have db : decide (Q.wt ≤ Q.now - a) = false := decide_eq_false (by omega)
          clear e ho HM hu hat hat2
          go_enter Try.func25, Try.ntmps25
          go_wp2_with fail
          go_quiet (fail)
          go_wp2_with fail
          go_end0
          exact ⟨rfl, HE.out _⟩
  · have et : tmZ P.now t = P.now := if_neg (by omega)
    have hm3 : t ≤ P.now := by omega
    clear hm
    have g1 : RkAt w b (P.tm t) a := by unfold Pk.tm; rw [et]; exact h
    have t1 : Tn b w w := Tn.refl b w
    clear h ok hI et
    generalize P.tm t = Q at *
    have d7 := fun n : Nat => (g1.drewN n).cs.op
    have d8 := fun n : Nat => (g1.drewN n).cs.at'
    have d4 := fun n : Nat => (g1.drewN n).cs.now
    have d1 := fun n : Nat => (g1.drewN n).cs.wt
    have HE := hid fun n : Nat => And.intro (g1.drewN n) (t1.drewN n)
    have HM := hid fun n : Nat => rmissed_any (g1.drewN n) okt
    have hbd := hIt.bd
    have hn := okt.now
    have hat := hIt.at'
    have hs1 : IntKind.i64.wrap (Q.now - a) = Q.now - a := by rw [IntKind.wrap_i64]; omega
    have hs2 : wrap64 (Q.now - a) = Q.now - a := by unfold wrap64; omega
    clear g1 t1 okt hIt hn hbd
    cases ho : Q.op with
    | false =>
      have e : Q.late = false := by unfold Pk.late; rw [ho]; rfl
      rw [e, if_neg (by decide)]
      rw [ho] at d7
      clear e ho HM d8 d4 d1 hat
      go_enter Try.func25, Try.ntmps25
      go_wp2_with fail
      go_quiet (fail)
      go_wp2_with fail
      go_end0
      exact ⟨rfl, HE.out _⟩
    | true =>
      have hat2 := hat ho
      rw [ho] at d7
      by_cases hu : Q.en ≤ Q.now
      · have e : Q.late = true := by unfold Pk.late; rw [ho]; simp [hu]
        rw [e, if_pos rfl]
        have db : decide (Q.wt ≤ Q.now - a) = true := decide_eq_true (by omega)
        clear e ho hu hat hat2
        go_enter Try.func25, Try.ntmps25
        go_wp2_with fail
        go_quiet (fail)
        go_wp2_with fail
        refine (HM.out _).mono ?_
        rintro e w2 ⟨rfl, H⟩
        have HX := hid (And.intro H.out.1 ((HE.out _).2.trans H.out.2))
        clear HM HE H d7 d8 d4 d1 c4 f4
        go_wp2_with fail
        go_end0
        exact ⟨rfl, HX⟩
      · have e : Q.late = false := by unfold Pk.late; rw [ho]; simp; omega
        rw [e, if_neg (by decide)]
        have db : decide (Q.wt ≤ Q.now - a) = false := decide_eq_false (by omega)
        clear e ho HM hu hat hat2
        go_enter Try.func25, Try.ntmps25
        go_wp2_with fail
        go_quiet (fail)
        go_wp2_with fail
        go_end0
        exact ⟨rfl, HE.out _⟩
theorem rtick_any (h : RkAt w b P a) (ok : PkOk P) (hI : RkI P a) (t : Int) : Calls Try.prog 13 #[.pointer (some ⟨b, 0, none⟩), .int .i64 t] w fun e w' => e = .returned (.tuple #[.int .u64 (P.go t).tkn, .bool (P.go t).tkb]) ∧ Hid (RkAt w' b (P.go t).tk ((P.go t).tka a) ∧ Tn b w w') := by
  have hG := rlater_any h ok hI t
  have okg := ok.go t
  have hsh := Pk.go_shut ok t
  clear h ok hI
  generalize P.go t = Q at *
  by_cases hx : Q.now < Q.nx
  · have e1 : Q.tkn = 0 := if_pos hx
    have e2 : Q.tkb = false := decide_eq_false (by omega)
    have e3 : Q.tk = Q := if_pos hx
    have e4 : Q.tka a = a := if_pos hx
    rw [e1, e2, e3, e4]
    have db : decide (Q.now < Q.nx) = true := decide_eq_true hx
    clear e1 e2 e3 e4 hx okg hsh
    go_enter Try.func13, Try.ntmps13
    go_wp2_with fail
    refine hG.mono ?_
    rintro e w2 ⟨rfl, H⟩
    have d4 := fun n : Nat => (H.out.1.drewN n).cs.now
    have d6 := fun n : Nat => (H.out.1.drewN n).cs.nx
    have HE := hid fun n : Nat => And.intro (H.out.1.drewN n) (H.out.2.drewN n)
    clear hG H
    go_wp2_with fail
    go_quiet (fail)
    go_wp2_with fail
    go_ret2
    exact ⟨rfl, HE.out _⟩
  · have e1 : Q.tkn = Q.ask + 1 := if_neg hx
    have e2 : Q.tkb = true := decide_eq_true (by omega)
    have e3 : Q.tk = Q.asks := if_neg hx
    have e4 : Q.tka a = Q.now := if_neg hx
    rw [e1, e2, e3, e4]
    have hop := hid (hsh (by omega))
    have db : decide (Q.now < Q.nx) = false := decide_eq_false hx
    have hw1 : IntKind.u64.wrap (Q.ask + 1) = Q.ask + 1 := by have := okg.ask; have := okg.nx; rw [IntKind.wrap_u64]; omega
    have hw3 : IntKind.i64.wrap (Q.now + Q.e) = Q.now + Q.e := by have := okg.now; have := okg.e; rw [IntKind.wrap_i64]; omega
    have HW := hid (And.intro hw1 hw3)
    clear e1 e2 e3 e4 hx okg hsh hw1 hw3
    go_enter Try.func13, Try.ntmps13
    go_wp2_with fail
    refine hG.mono ?_
    rintro e w2 ⟨rfl, H⟩
    have d4 := fun n : Nat => (H.out.1.drewN n).cs.now
    have d6 := fun n : Nat => (H.out.1.drewN n).cs.nx
    have d7 := fun n : Nat => (H.out.1.drewN n).cs.op
    rw [hop.out] at d7
    have HE := hid fun n : Nat => And.intro (H.out.1.drewN n) (H.out.2.drewN n)
    clear hG H hop
    go_wp2_with fail
    go_quiet (fail)
    have HE9 := hid (HE.out ‹Nat›)
    have d79 := d7 ‹Nat›
    clear HE d4 d6 d7 db
    generalize w2.drewN ‹Nat› = w3 at *
    obtain ⟨hw1, hw3⟩ := HW.out
    have c6 := HE9.out.1.cs.ask
    have f6 := HE9.out.1.frozen 6
    have g1 : RkAt (w3.setCell ⟨b, 6, none⟩ (.int .u64 (Q.ask + 1))) b { Q with ask := Q.ask + 1 } a := HE9.out.1.set rfl
    have x4 := g1.cs.now
    have x7 := g1.cs.op
    have j7 := g1.frozen 7
    have g2 : RkAt ((w3.setCell ⟨b, 6, none⟩ (.int .u64 (Q.ask + 1))).setCell ⟨b, 7, none⟩ (.bool true)) b { Q with ask := Q.ask + 1, op := true } a := g1.set rfl
    have x8 := g2.cs.at'
    have j8 := g2.frozen 8
    obtain ⟨W4, hW4⟩ : ∃ W4, ((w3.setCell ⟨b, 6, none⟩ (.int .u64 (Q.ask + 1))).setCell ⟨b, 7, none⟩ (.bool true)).setCell ⟨b, 8, none⟩ (.int .i64 Q.now) = W4 := ⟨_, rfl⟩
    have g3 : RkAt W4 b { Q with ask := Q.ask + 1, op := true } Q.now := by rw [← hW4]; exact g2.set rfl
    have t3 : Tn b w W4 := by rw [← hW4]; exact ((HE9.out.2.set _ _).set _ _).set _ _
    obtain ⟨W5, hW5⟩ : ∃ W5, W4.drew = W5 := ⟨_, rfl⟩
    have g5 : RkAt W5 b { Q with ask := Q.ask + 1, op := true } Q.now := by rw [← hW5]; exact g3.below (Below.refl _ _).drew
    have t5 : Tn b w W5 := by rw [← hW5]; exact t3.drew
    have y4 := g5.cs.now
    have y0 := g5.cs.e
    have y5 := g5.cs.nx
    have k5 := g5.frozen 5
    have g6 : RkAt (W5.setCell ⟨b, 5, none⟩ (.int .i64 (Q.now + Q.e))) b { Q with ask := Q.ask + 1, op := true, nx := Q.now + Q.e } Q.now := g5.set rfl
    have y6 := g6.cs.ask
    have HF : Hid (RkAt (W5.setCell ⟨b, 5, none⟩ (.int .i64 (Q.now + Q.e))) b Q.asks Q.now ∧ Tn b w (W5.setCell ⟨b, 5, none⟩ (.int .i64 (Q.now + Q.e)))) := ⟨g6, t5.set _ _⟩
    try simp only at x4 x7 x8 y4 y0 y5 y6
    have HW5 := hid hW5
    clear g1 g2 g3 g5 g6 t3 t5 HE9 hW5
    go_wp2_with fail
    try rw [hW4]
    clear hW4 c6 f6 x4 x7 j7 x8 j8 d79
    refine wp_region_still_tail 11 rfl (by kernel_rfl) ?_
    rw [show ({ W4 with drawn := W4.drawn + 1 } : World) = W5 from HW5.out]
    clear HW5
    simp only [List.take_succ_cons, List.take_zero, List.drop_succ_cons, List.drop_zero]
    repeat still_step
    try refine wpStill_nil ?_
    go_wp2_with fail
    go_ret2
    exact ⟨rfl, HF⟩
theorem rpong_any (h : RkAt w b P a) (ok : PkOk P) (hI : RkI P a) (t n : Int) : Calls Try.prog 15 #[.pointer (some ⟨b, 0, none⟩), .int .i64 t, .int .u64 n] w fun e w' => e = .returned (.bool ((P.go t).yes n)) ∧ Hid (RkAt w' b ((P.go t).pg n) a ∧ Tn b w w') := by
  have hG := rlater_any h ok hI t
  have okg := ok.go t
  clear h ok hI
  generalize P.go t = Q at *
  cases ho : Q.op with
  | false =>
    have e1 : Q.yes n = false := by unfold Pk.yes; rw [ho]; rfl
    have e2 : Q.pg n = Q := by unfold Pk.pg; rw [e1, if_neg (by decide)]
    rw [e1, e2]
    have HO := hid ho
    clear e1 e2 ho okg
    go_enter Try.func15, Try.ntmps15
    go_wp2_with fail
    refine hG.mono ?_
    rintro e w2 ⟨rfl, H⟩
    have c9 := H.out.1.cs.op
    rw [HO.out] at c9
    clear hG
    go_wp2_with fail
    go_ret
    exact ⟨rfl, H⟩
  | true =>
    by_cases hn : n = Q.ask
    · have e1 : Q.yes n = true := by unfold Pk.yes; rw [ho]; simp [hn]
      have e2 : Q.pg n = Q.came := by unfold Pk.pg; rw [e1, if_pos rfl]
      rw [e1, e2]
      have HO := hid ho
      have HN := hid hn
      have hw1 : IntKind.i64.wrap (Q.ht + 1) = Q.ht + 1 := by have := okg.ht; have := okg.h; rw [IntKind.wrap_i64]; omega
      have hht := okg.ht
      obtain ⟨hx, hhx⟩ : ∃ hx : Bool, decide (Q.h ≤ Q.ht + 1) = hx := ⟨_, rfl⟩
      have HE0 : Hid (Q.came = if hx = true then { Q with op := false, ms := 0, up := true, ht := 0 } else { Q with op := false, ms := 0, ht := Q.ht + 1 }) := by
        unfold Hid Pk.came
        by_cases hy : Q.ht + 1 = Q.h
        · rw [if_pos hy, if_pos (by rw [← hhx]; exact decide_eq_true (by omega))]
        · rw [if_neg hy, if_neg (by rw [← hhx, decide_eq_false (by omega)]; decide)]
      clear e1 e2 ho hn okg hht
      go_enter Try.func15, Try.ntmps15
      go_wp2_with fail
      refine hG.mono ?_
      rintro e w2 ⟨rfl, H⟩
      have c7 := H.out.1.cs.op
      have c8 := H.out.1.cs.ask
      rw [HO.out] at c7
      rw [← HN.out] at c8
      have f7 := H.out.1.frozen 7
      have g1 : RkAt (w2.setCell ⟨b, 7, none⟩ (.bool false)) b { Q with op := false } a := H.out.1.set rfl
      have x9 := g1.cs.ms
      have f9 := g1.frozen 9
      have g2 : RkAt ((w2.setCell ⟨b, 7, none⟩ (.bool false)).setCell ⟨b, 9, none⟩ (.int .i64 0)) b { Q with op := false, ms := 0 } a := g1.set rfl
      have x10 := g2.cs.ht
      have f10 := g2.frozen 10
      obtain ⟨W1, hW1⟩ : ∃ W1, ((w2.setCell ⟨b, 7, none⟩ (.bool false)).setCell ⟨b, 9, none⟩ (.int .i64 0)).setCell ⟨b, 10, none⟩ (.int .i64 (Q.ht + 1)) = W1 := ⟨_, rfl⟩
      have g3 : RkAt W1 b { Q with op := false, ms := 0, ht := Q.ht + 1 } a := by rw [← hW1]; exact g2.set rfl
      have t3 : Tn b w W1 := by rw [← hW1]; exact ((H.out.2.set _ _).set _ _).set _ _
      have d11 := fun n : Nat => (g3.drewN n).cs.ht
      have d3 := fun n : Nat => (g3.drewN n).cs.h
      have d5 := fun n : Nat => (g3.drewN n).cs.up
      have k5 := fun n : Nat => (g3.drewN n).frozen 11
      have g4 := fun n : Nat => ((g3.drewN n).set (k := 11) (u := .bool true) (P' := { Q with op := false, ms := 0, up := true, ht := Q.ht + 1 }) (a' := a) rfl)
      have d11' := fun n : Nat => (g4 n).cs.ht
      have k11 := fun n : Nat => (g4 n).frozen 10
      have HF1 := hid fun n : Nat => And.intro ((g4 n).set (k := 10) (u := .int .i64 0) (P' := { Q with op := false, ms := 0, up := true, ht := 0 }) (a' := a) rfl) (((t3.drewN n).set 11 (.bool true)).set 10 (.int .i64 0))
      have HF2 := hid fun n : Nat => And.intro (g3.drewN n) (t3.drewN n)
      try simp only at x9 x10 d11 d3 d5 d11'
      clear hG H g1 g2 g3 g4 t3
      go_wp2_with fail
      try rw [hW1]
      clear hW1 x9 f9 x10 f10 c7 c8 f7
      cases hx with
      | true =>
        go_quiet (fail)
        go_wp2_with fail
        go_ret
        exact ⟨rfl, by have h := HE0.out; simp at h; rw [h]; exact HF1.out _⟩
      | false =>
        go_quiet (fail)
        go_wp2_with fail
        go_ret
        exact ⟨rfl, by have h := HE0.out; simp at h; rw [h]; exact HF2.out _⟩
    · have e1 : Q.yes n = false := by unfold Pk.yes; rw [ho]; simp [hn]
      have e2 : Q.pg n = Q := by unfold Pk.pg; rw [e1, if_neg (by decide)]
      rw [e1, e2]
      have HO := hid ho
      have db : decide (n = Q.ask) = false := decide_eq_false hn
      have db2 : (n == Q.ask) = false := beq_eq_false_iff_ne.2 hn
      clear e1 e2 ho okg
      go_enter Try.func15, Try.ntmps15
      go_wp2_with fail
      refine hG.mono ?_
      rintro e w2 ⟨rfl, H⟩
      have c9 := H.out.1.cs.op
      have c8 := H.out.1.cs.ask
      rw [HO.out] at c9
      clear hG
      go_wp2_with fail
      go_ret
      exact ⟨rfl, H⟩
theorem rdue_any (h : RkAt w b P a) (ok : PkOk P) (hI : RkI P a) : Calls Try.prog 18 #[.pointer (some ⟨b, 0, none⟩)] w fun e w' => e = .returned (.int .i64 P.due) ∧ ∃ m, w' = w.drewN m := by
  have c9 := h.cs.op
  have c6 := h.cs.nx
  have d6 := fun n : Nat => (h.drewN n).cs.nx
  have d7 := fun n : Nat => (h.drewN n).cs.at'
  have d1 := fun n : Nat => (h.drewN n).cs.wt
  have hw1 : IntKind.i64.wrap (a + P.wt) = a + P.wt := by have := hI.bd; have := ok.e; have := ok.wt; rw [IntKind.wrap_i64]; omega
  have hat := hI.at'
  clear h ok hI
  cases ho : P.op with
  | false =>
    have e : P.due = P.nx := by unfold Pk.due; rw [ho]; rfl
    rw [e]
    rw [ho] at c9
    clear e ho d6 d7 d1 hw1 hat
    go_enter Try.func18, Try.ntmps18
    go_wp2_with fail
    go_ret
    exact ⟨rfl, 0, rfl⟩
  | true =>
    have e : P.due = if P.nx ≤ P.en then P.nx else P.en := by unfold Pk.due; rw [ho]; rfl
    have hm := fun W : World => min_le P.nx P.en W
    rw [← e, hat ho] at hm
    rw [ho] at c9
    clear e ho c6 hat
    generalize P.due = du at *
    go_enter Try.func18, Try.ntmps18
    go_wp2_with fail
    go_quiet (fail)
    go_wp2_with fail
    go_ret
    exact ⟨rfl, _, rfl⟩
end Go.Proofs.Ytmpooeflbfggbaa
