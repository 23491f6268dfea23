/-
  WheelOnce, over whatever keeps Whl (written by wip/tools/mkow.py).
-/
import Derived.Test.YtdfbnfgemjljgaaWhAl
namespace Go.Proofs.Ytdfbnfgemjljgaa
open Go.RowKit Go.Maps
set_option linter.unusedVariables false
set_option linter.unusedSimpArgs false
set_option maxRecDepth 1000000

theorem timeZ_now {T now : Int} (h : T ≤ now) (h2 : now ≤ 1099511627776) : timeZ T now = now := by unfold timeZ; split <;> omega
/-- Beside a step's block. -/
structure OcM (P : WPred) (w : World) (B : Nat) (F : Nat → Prop) (Mu : Nat) (T last : Int) (L : List Tm) (K : List Int) (f : Int → Int) (ov : Value) (od : List Int) (sb : Nat) (s : Sp) (W : World) : Prop where
  st : OcS P w B F Mu T last L K f ov od W
  blk : W.heap[sb]? = some (.cells (SpV s) 31 (0, 0))
  n1 : ¬ F sb
  n2 : sb ≠ Mu
section
variable {P : WPred} {w W W' : World} {B : Nat} {F : Nat → Prop} {Mu : Nat} {T last T' last' : Int} {L L' : List Tm} {K K' : List Int} {f f' : Int → Int} {ov : Value} {od : List Int} {sb : Nat} {s : Sp}
theorem OcS.next (hP : Whl P) (h : OcS P w B F Mu T last L K f ov od W) (s : Sp) (hW : W' = W.alloc (.cells #[.int .u8 s.kd, .int .i64 s.later, .int .i64 s.after, .int .u64 s.label, .int .i64 s.num] 31)) : OcM P w B F Mu T last L K f ov od W.heap.size s W' := by
  subst hW
  have hb : Below W.heap.size W (W.alloc (.cells #[.int .u8 s.kd, .int .i64 s.later, .int .i64 s.after, .int .u64 s.label, .int .i64 s.num] 31)) := (Below.refl _ _).alloc (Nat.le_refl _) _
  exact ⟨h.below hP hb, heap_alloc_new W _, fun hF => Nat.lt_irrefl _ (hP.lt h.wl _ hF), fun e => by have := h.us.lt; omega⟩
theorem OcM.turn (hP : Whl P) (h : OcM P w B F Mu T last L K f ov od sb s W) {F' : Nat → Prop} (h1 : P W' B F' T' last' L') (h2 : Fb F W W') (h3 : ∀ k, F' k → F k ∨ W.heap.size ≤ k) : OcM P w B F' Mu T' last' L' K f ov od sb s W' :=
  ⟨h.st.turn hP h1 h2 h3, h2.one h.blk h.n1, fun hF => (h3 _ hF).elim h.n1 fun h4 => by have := lt_of_block h.blk; omega, h.n2⟩
theorem OcM.step (hP : Whl P) (h : OcM P w B F Mu T last L K f ov od sb s W) (ho : WlO P W B F T' last' L' W') : ∃ F', OcM P w B F' Mu T' last' L' K f ov od sb s W' := by
  obtain ⟨F', h1, h2, h3⟩ := ho
  exact ⟨F', h.turn hP h1 h2 h3⟩
theorem OcM.cells (h : OcM P w B F Mu T last L K f ov od sb s W) : W.cell? ⟨sb, 0, none⟩ = some (.int .u8 s.kd) ∧ W.cell? ⟨sb, 1, none⟩ = some (.int .i64 s.later) ∧ W.cell? ⟨sb, 2, none⟩ = some (.int .i64 s.after) ∧ W.cell? ⟨sb, 3, none⟩ = some (.int .u64 s.label) ∧ W.cell? ⟨sb, 4, none⟩ = some (.int .i64 s.num) :=
  ⟨by rw [cell_of_row _ _ _ _ _ _ h.blk]; rfl, by rw [cell_of_row _ _ _ _ _ _ h.blk]; rfl, by rw [cell_of_row _ _ _ _ _ _ h.blk]; rfl, by rw [cell_of_row _ _ _ _ _ _ h.blk]; rfl, by rw [cell_of_row _ _ _ _ _ _ h.blk]; rfl⟩
end
theorem setC_cases (last : Int) (L : List Tm) (after : Int) : (setC last L after = 0 ∧ 0 ≤ after ∧ after ≤ 1099511627776 ∧ last < 2147483647) ∨ setC last L after = 1 ∨ setC last L after = 5 := by
  by_cases h : after < 0 ∨ 1099511627776 < after
  · exact .inr (.inl (setC_arg h))
  · by_cases h2 : 4096 ≤ L.length ∨ 2147483647 ≤ last
    · exact .inr (.inr (setC_many h h2))
    · exact .inl ⟨setC_ok h h2, by omega, by omega, by omega⟩
set_option maxHeartbeats 64000000 in
theorem once_any {P : WPred} (HP : Hid (Whl P)) {a0 : Option Addr} {l0 c0 : Nat} {xs0 : List Sp} {w : World} (ga0 : Lst w a0 l0 c0 5 xs0 SpV SpIn) :
    Calls Try.prog 4 #[.slice a0 l0 c0] w fun e w' => e = .returned (.bool true) ∧ Hid (Below w.heap.size w w') := by
  have HSp := hid fun (W' : World) (hb : Below w.heap.size w W') => ga0.below hb
  have hSh := fun W' => short_any a0 l0 c0 W' ga0.room ga0.most
  obtain ⟨n, Hn⟩ : ∃ n, Hid (min l0 300 = n) := ⟨_, rfl⟩
  rw [Hn.out] at hSh
  have hn1 : n ≤ l0 ∧ n ≤ 300 := by have := Hn.out; omega
  have r1 := ga0.room
  have m1 := ga0.most
  have HSh := hid hSh
  clear ga0 hSh
  have hN := HP.out.new w
  have hmk := @run_makeMap Try.prog
  go_enter Try.func4, Try.ntmps4
  go_wp2_with fail
  refine hN.mono ?_
  rintro r w1 ⟨B, rfl, H1⟩
  clear hN
  obtain ⟨F0, hp1, hl1, hb1⟩ := H1.out
  obtain ⟨w2, hw2⟩ : ∃ w2, w2 = w1.alloc (.map #[] 0) := ⟨_, rfl⟩
  have HS2 := hid (OcS.new hp1 hl1 hb1 HP.out hw2)
  clear H1 hp1 hl1 hb1
  obtain ⟨Mu, HMu⟩ : ∃ Mu, Hid (w1.heap.size = Mu) := ⟨_, rfl⟩
  rw [HMu.out] at HS2
  go_wp2_with fail
  rw [← hw2, HMu.out]
  clear hw2 HMu
  with_reducible refine (HSh.out _).mono ?_
  rintro r w3 ⟨rfl, rfl⟩
  clear HSh
  go_wp2_with fail
  go_loopw [5, 6, 31] (fun o t z W' => ∃ (k : Nat) (now T last : Int) (L : List Tm) (K : List Int) (f : Int → Int) (ov : Value) (od : List Int) (F : Nat → Prop), k ≤ n ∧ o = ov ∧ t = .int .i64 now ∧ z = .int .i64 k ∧ Hid (0 ≤ T ∧ T ≤ now ∧ now ≤ 1048576 * k ∧ 0 ≤ last ∧ last ≤ k ∧ K.length ≤ k ∧ od.length ≤ k) ∧ Hid (OcS P w B F Mu T last L K f ov od W' ∧ OnS last L K f)) (fun _ _ z _ => n - (intOf z).toNat)
  case atStart => exact ⟨0, 0, 0, 0, [], [], fun _ => 0, _, [], F0, by omega, rfl, rfl, rfl, by unfold Hid; simp, HS2.out, OnS.zero _⟩
  case round =>
  obtain ⟨k, now, T, last, L, K, f, ov, od, F, hk, hov, rfl, rfl, HTb1, HS⟩ := hrel
  have hov' := hov.symm
  subst hov'
  rename World => wr
  clear HS2
  by_cases hkl : k < n
  · have g1 : (k : Int) < (n : Int) := by omega
    have HTb0 : Hid (0 ≤ T ∧ T ≤ now ∧ now ≤ 1048576 * k ∧ 0 ≤ last ∧ last ≤ k ∧ K.length ≤ k ∧ od.length ≤ k ∧ k < 300) := by have := HTb1.out; unfold Hid; omega
    obtain ⟨b, off, s, rfl, hsk, hsi, q0, q1, q2, q3, q4⟩ := (HSp.out _ HS.out.1.bel).at (i := k) (by omega)
    obtain ⟨w3, hw3⟩ : ∃ w3, w3 = wr.alloc (.cells #[.int .u8 s.kd, .int .i64 s.later, .int .i64 s.after, .int .u64 s.label, .int .i64 s.num] 31) := ⟨_, rfl⟩
    obtain ⟨sb, hsb⟩ : ∃ sb, wr.heap.size = sb := ⟨_, rfl⟩
    have HG : Hid (OcM P w B F Mu T last L K f ov od sb s w3) := by rw [← hsb]; exact HS.out.1.next HP.out s hw3
    have HOn := hid HS.out.2
    obtain ⟨⟨kd0, kd1⟩, hla0, haf, hlb, hnu⟩ := hsi
    obtain ⟨kd, la, af, lb, nu⟩ := s
    have HAf : Hid (isI af) := haf
    have HLb : Hid (isU lb) := hlb
    have HNu : Hid (isI nu) := hnu
    have HLa : Hid (isI la) := hla0
    clear haf hlb hnu hla0
    simp only at kd0 kd1 q0 q1 q2 q3 q4 hw3
    have hla1 : -9223372036854775808 ≤ la ∧ la ≤ 9223372036854775807 := HLa.out
    have hla : (0 < la ∧ la < 1048576) ∨ (0 < la ∧ ¬ la < 1048576) ∨ ¬ 0 < la := by omega
    clear hsk HS HTb1 HLa
    obtain ⟨rr, hrr⟩ : ∃ rr, kd % 5 = rr := ⟨_, rfl⟩
    have hr' : kd.tmod 5 = rr := by rw [Int.tmod_eq_emod_of_nonneg kd0]; exact hrr
    have hwr : IntKind.u8.wrap rr = rr := by rw [IntKind.wrap_u8]; omega
    obtain ⟨tb, Htb⟩ : ∃ tb : Bool, Hid (decide (0 < la ∧ la < 1048576) = tb) := ⟨_, rfl⟩
    obtain ⟨nw, Hnw⟩ : ∃ nw, Hid ((if tb = true then now + la else now) = nw) := ⟨_, rfl⟩
    have HTb : Hid (0 ≤ T ∧ T ≤ nw ∧ nw ≤ 1048576 * (k + 1) ∧ 0 ≤ last ∧ last ≤ k ∧ K.length ≤ k ∧ od.length ≤ k ∧ k < 300) := by
      have h1 := HTb0.out
      have h2 := Hnw.out
      have h3 := Htb.out
      unfold Hid
      cases tb
      · simp at h2; omega
      · simp at h2 h3; omega
    go_upto_region 10 with fail
    rw [← hw3]
    obtain ⟨y0, y1, y2, y3, y4⟩ := HG.out.cells
    simp only at y0 y1 y2 y3 y4
    clear hsb hw3 q0 q1 q2 q3 q4
    go_cut [42] (fun v wx => v = .bool tb ∧ wx = w3)
    case first =>
      rcases hla with ⟨l1, l2⟩ | ⟨l1, l2⟩ | l1
      · have HB : Hid (tb = true) := by unfold Hid; rw [← Htb.out]; exact decide_eq_true ⟨l1, l2⟩
        clear Htb Hnw HTb HTb0 hla1
        go_wp2_with fail
        go_meet
        exact ⟨by rw [HB.out], rfl⟩
      · have HB : Hid (tb = false) := by unfold Hid; rw [← Htb.out]; exact decide_eq_false fun h => l2 h.2
        clear Htb Hnw HTb HTb0 hla1
        go_wp2_with fail
        go_meet
        exact ⟨by rw [HB.out], rfl⟩
      · have HB : Hid (tb = false) := by unfold Hid; rw [← Htb.out]; exact decide_eq_false fun h => l1 h.1
        clear Htb Hnw HTb HTb0 hla1
        go_wp2_with fail
        go_meet
        exact ⟨by rw [HB.out], rfl⟩
    case rest =>
    obtain ⟨rfl, hw⟩ := hcut
    have hw' := hw.symm
    subst hw'
    clear hw hla hla1 Htb
    go_upto_if 42 with fail
    go_cut [6] (fun v wx => v = .int .i64 nw ∧ wx = w3)
    case first =>
      cases tb with
      | true =>
        have hwn : IntKind.i64.wrap (now + la) = nw := by
          have h1 := Hnw.out
          have h2 := HTb.out
          simp at h1
          rw [h1]; exact wrap64_in (by omega) (by omega)
        clear Hnw HTb HTb0
        go_wp2_with fail
        go_meet
        exact ⟨rfl, rfl⟩
      | false =>
        have HB : Hid (now = nw) := by have h1 := Hnw.out; simp at h1; exact h1
        clear Hnw HTb HTb0
        go_wp2_with fail
        go_meet
        exact ⟨by rw [HB.out], rfl⟩
    case rest =>
    obtain ⟨rfl, hw⟩ := hcut
    have hw' := hw.symm
    subst hw'
    clear hw Hnw HTb0
    by_cases h1 : rr = 1
    · subst h1
      as_aux_lemma =>
        by_cases hin : nu ∈ K
        · skip
          have hst := HP.out.stop HG.out.st.wl HNu.out
          have hlu := HG.out.st.us.look HNu.out
          rw [if_pos hin, decide_eq_true hin] at hlu
          have hsc : stpC nu L = 0 := if_pos ((HOn.out.kl nu).1 hin)
          rw [hsc] at hst
          generalize f nu = fv at hlu
          have HOn5 := hid (HOn.out.stop nu)
          have HBd : Hid (0 ≤ T ∧ T ≤ nw ∧ nw ≤ 1048576 * ((k + 1 : Nat) : Int) ∧ 0 ≤ last ∧ last ≤ ((k + 1 : Nat) : Int) ∧ (subK K nu).length ≤ k + 1 ∧ od.length ≤ k + 1) := by
            have h1 := HTb.out
            have h2 : (subK K nu).length ≤ K.length := List.length_filter_le _ _
            unfold Hid; omega
          clear hsc hin HOn
          go_wp2_with fail
          clear y0 y1 y2 y3 y4 hrr hr' hwr
          with_reducible refine hst.mono ?_
          rintro r w4 ⟨rfl, H4⟩
          obtain ⟨F4, hg4⟩ := HG.out.step HP.out H4.out
          obtain ⟨y0, y1, y2, y3, y4⟩ := hg4.cells
          obtain ⟨w5, hdr, hu5, hf5⟩ := hg4.st.us.drop HNu.out 0
          have HS5 := hid (hg4.st.setU HP.out hu5 hf5)
          simp only at y0 y1 y2 y3 y4
          clear hst hlu H4 hg4 hu5 hf5 HG
          have hLe := HP.out.len HS5.out.wl
          obtain ⟨N, HN⟩ : ∃ N, Hid ((stpT nu L).length = N) := ⟨_, rfl⟩
          have HKN : Hid ((subK K nu).length = N) := by unfold Hid; rw [← HN.out]; exact HOn5.out.len HS5.out.us.nodup
          rw [HN.out] at hLe
          go_wp2_with fail
          with_reducible refine hLe.mono ?_
          rintro r w6 ⟨rfl, H6⟩
          have HS6 := hid (HS5.out.below HP.out H6.out)
          have hlen := fun ty => HS6.out.us.len ty
          rw [HKN.out] at hlen
          clear hLe H6 HS5 HN HKN
          go_wp2_with fail
          go_round
          case rel => exact ⟨k + 1, nw, T, last, (stpT nu L), (subK K nu), f, ov, od, _, by omega, rfl, rfl, by go_num, HBd.out, HS6.out, HOn5.out⟩
          case measure => simp [intOf]; omega
        · skip
          have hst := HP.out.stop HG.out.st.wl HNu.out
          have hlu := HG.out.st.us.look HNu.out
          rw [if_neg hin, decide_eq_false hin] at hlu
          have hsc : stpC nu L = 6 := if_neg fun h => hin ((HOn.out.kl nu).2 h)
          rw [hsc] at hst
          generalize f nu = fv at hlu
          have HOn5 := hid (HOn.out.stop nu)
          have HBd : Hid (0 ≤ T ∧ T ≤ nw ∧ nw ≤ 1048576 * ((k + 1 : Nat) : Int) ∧ 0 ≤ last ∧ last ≤ ((k + 1 : Nat) : Int) ∧ (subK K nu).length ≤ k + 1 ∧ od.length ≤ k + 1) := by
            have h1 := HTb.out
            have h2 : (subK K nu).length ≤ K.length := List.length_filter_le _ _
            unfold Hid; omega
          clear hsc hin HOn
          go_wp2_with fail
          clear y0 y1 y2 y3 y4 hrr hr' hwr
          with_reducible refine hst.mono ?_
          rintro r w4 ⟨rfl, H4⟩
          obtain ⟨F4, hg4⟩ := HG.out.step HP.out H4.out
          obtain ⟨y0, y1, y2, y3, y4⟩ := hg4.cells
          obtain ⟨w5, hdr, hu5, hf5⟩ := hg4.st.us.drop HNu.out 0
          have HS5 := hid (hg4.st.setU HP.out hu5 hf5)
          simp only at y0 y1 y2 y3 y4
          clear hst hlu H4 hg4 hu5 hf5 HG
          have hLe := HP.out.len HS5.out.wl
          obtain ⟨N, HN⟩ : ∃ N, Hid ((stpT nu L).length = N) := ⟨_, rfl⟩
          have HKN : Hid ((subK K nu).length = N) := by unfold Hid; rw [← HN.out]; exact HOn5.out.len HS5.out.us.nodup
          rw [HN.out] at hLe
          go_wp2_with fail
          with_reducible refine hLe.mono ?_
          rintro r w6 ⟨rfl, H6⟩
          have HS6 := hid (HS5.out.below HP.out H6.out)
          have hlen := fun ty => HS6.out.us.len ty
          rw [HKN.out] at hlen
          clear hLe H6 HS5 HN HKN
          go_wp2_with fail
          go_round
          case rel => exact ⟨k + 1, nw, T, last, (stpT nu L), (subK K nu), f, ov, od, _, by omega, rfl, rfl, by go_num, HBd.out, HS6.out, HOn5.out⟩
          case measure => simp [intOf]; omega
    · have h1' : (rr == 1) = false := by simpa using h1
      by_cases h3 : rr = 3
      · subst h3
        as_aux_lemma =>
          have hdu := HP.out.due HG.out.st.wl (now := nw) (by have := HTb.out; exact ⟨by omega, by omega⟩)
          have hTz : timeZ T nw = nw := timeZ_now (by have := HTb.out; omega) (by have := HTb.out; omega)
          rw [hTz] at hdu
          obtain ⟨D, HD⟩ : ∃ D, Hid (L.takeWhile (dueB nw) = D) := ⟨_, rfl⟩
          obtain ⟨L1, HL1⟩ : ∃ L1, Hid (L.dropWhile (dueB nw) = L1) := ⟨_, rfl⟩
          have HDd : Hid (∀ t ∈ D, t.due ≤ nw) := fun t ht => by rw [← HD.out] at ht; simpa [dueB] using tw_all ht
          have HLd : Hid (∀ t ∈ L1, nw < t.due) := fun t ht => dw_all HOn.out.so (by rw [← HL1.out] at ht; exact ht)
          have HOD : Hid (OnS last (D ++ L1) K f) := by
            have e : D ++ L1 = L := by rw [← HD.out, ← HL1.out]; exact List.takeWhile_append_dropWhile
            rw [e]; exact HOn.out
          rw [HD.out, HL1.out] at hdu
          obtain ⟨ao, co, hov2, hro⟩ := Reads.own (k := .i64) HG.out.st.ow
          subst hov2
          have rmo := hro.room
          have mso := hro.most
          obtain ⟨m, Hm⟩ : ∃ m, Hid (od.length = m) := ⟨_, rfl⟩
          rw [Hm.out] at hro rmo HG HTb ⊢
          have HBd : Hid (0 ≤ nw ∧ nw ≤ nw ∧ nw ≤ 1048576 * ((k + 1 : Nat) : Int) ∧ 0 ≤ last ∧ last ≤ ((k + 1 : Nat) : Int) ∧ K.length ≤ k + 1 ∧ od.length ≤ k + 1) := by
            have h1 := HTb.out
            have h2 := Hm.out
            unfold Hid; omega
          have HLs : Hid (0 ≤ last ∧ last ≤ 1000) := by have := HTb.out; unfold Hid; omega
          clear hTz HD HL1 HOn hro HTb
          go_wp2_with fail
          clear y0 y1 y2 y3 y4 hrr hr' hwr
          with_reducible refine hdu.mono ?_
          rintro r w4 ⟨a, len, cap, rfl, H4⟩
          obtain ⟨ht4, F4, hp4, hf4, hk4, ha4⟩ := H4.out
          have HS4 := hid (HG.out.turn HP.out hp4 hf4 hk4).st
          have HA4 : Hid (∀ ad, a = some ad → ad.block ≠ Mu ∧ ad.block < w4.heap.size) := fun ad e => ⟨fun hM => by have := (ha4 ad e).1; have := HG.out.st.us.lt; omega, by obtain ⟨_, cur, fr, hc⟩ := ht4.ty ad e; exact lt_of_block hc⟩
          have HT4 := hid ht4
          have hrm := ht4.room
          have hms := ht4.most
          have HDl : Hid (D.length = len) := ht4.size
          clear hdu H4 ht4 hp4 hf4 hk4 ha4 HG
          go_wp2_with fail
          go_loopw [11, 109] (fun lt z W' => ∃ (j : Nat) (K' : List Int) (lst : Int), j ≤ len ∧ lt = .int .i64 lst ∧ z = .int .i64 j ∧ Hid (OcS P w B F4 Mu nw last L1 K' f (.slice ao m co) od W' ∧ Fb (at1 Mu) w4 W' ∧ OnS last (D.drop j ++ L1) K' f ∧ (∀ t ∈ D.drop j, lst ≤ t.due) ∧ K'.length ≤ K.length)) (fun _ z _ => len - (intOf z).toNat)
          case atStart => exact ⟨0, K, 0, Nat.zero_le _, rfl, rfl, HS4.out, Fb.refl _ _, by rw [List.drop_zero]; exact HOD.out, fun t ht => HOD.out.dz t (List.mem_append_left _ (by rw [List.drop_zero] at ht; exact ht)), Nat.le_refl _⟩
          case round =>
          obtain ⟨j, K', lst, hj, rfl, rfl, HR⟩ := hrel
          rename World => wx
          by_cases hjl : j < len
          · have g2 : (j : Int) < (len : Int) := by omega
            have hTx : TsAt 54 wx a len cap D := HT4.out.same fun ad e => HR.out.2.1.block _ (HA4.out ad e).2 fun h => (HA4.out ad e).1 h
            obtain ⟨b1, o1, rfl, hc⟩ := hTx.cell j hjl
            have hjD : j < D.length := by rw [HDl.out]; exact hjl
            have hdr : D.drop j = tk D j :: D.drop (j + 1) := by
              rw [List.drop_eq_getElem_cons hjD]
              congr 1
              have h1 := tk_get hjD
              rw [List.getElem?_eq_getElem hjD] at h1
              exact Option.some.inj h1
            have HXD : Hid (tk D j ∈ D) := tk_mem hjD
            obtain ⟨x, Hx⟩ : ∃ x, Hid (tk D j = x) := ⟨_, rfl⟩
            rw [Hx.out] at hc hdr HXD
            have HOc : Hid (OnS last (x :: (D.drop (j + 1) ++ L1)) K' f) := by have h := HR.out.2.2.1; rw [hdr] at h; exact h
            have HLt : Hid (lst ≤ x.due) := HR.out.2.2.2.1 x (by rw [hdr]; simp)
            obtain ⟨x0, x1, x2, x3⟩ := x
            obtain ⟨e0, e1, e2, e3⟩ := hc
            simp only at e0 e1 e2 e3 HLt
            obtain ⟨hx0, hfx, hnx⟩ := HOc.out.head
            simp only at hx0 hfx hnx
            have HX0 : Hid (isI x0) := by have h := HOc.out.rs _ (List.mem_cons_self ..); have := HLs.out; simp only at h; exact ⟨by omega, by omega⟩
            have hc1 : ¬ nw < x3 := by have := HDd.out _ HXD.out; simp only at this; omega
            have hc2 : ¬ x3 < lst := by have := HLt.out; omega
            obtain ⟨wB, hwB⟩ : ∃ wB, wB = wx.alloc (.cells #[.int .i64 x0, .int .i64 x1, .int .u64 x2, .int .i64 x3] 54) := ⟨_, rfl⟩
            have hbB : Below wx.heap.size wx wB := by rw [hwB]; exact (Below.refl _ _).alloc (Nat.le_refl _) _
            have hnB : wB.heap[wx.heap.size]? = some (.cells #[.int .i64 x0, .int .i64 x1, .int .u64 x2, .int .i64 x3] 54 (0, 0)) := by rw [hwB]; exact heap_alloc_new wx _
            have HSB := hid (HR.out.1.below HP.out hbB)
            have HFB : Hid (Fb (at1 Mu) w4 wB) := HR.out.2.1.below hbB
            have hgM : ¬ at1 Mu wx.heap.size := fun h => by have h' : wx.heap.size = Mu := h; have := HR.out.1.us.lt; omega
            have hlu := HSB.out.us.look HX0.out
            rw [if_pos hx0, decide_eq_true hx0, hfx] at hlu
            obtain ⟨w5, hdl, hu5, hf5⟩ := HSB.out.us.drop HX0.out 0
            have hn5 := hf5.one hnB hgM
            have p3 : w5.cell? ⟨wx.heap.size, 3, none⟩ = some (.int .i64 x3) := by rw [cell_of_row _ _ _ _ _ _ hn5]; rfl
            have p0 : wB.cell? ⟨wx.heap.size, 0, none⟩ = some (.int .i64 x0) := by rw [cell_of_row _ _ _ _ _ _ hnB]; rfl
            have p3b : wB.cell? ⟨wx.heap.size, 3, none⟩ = some (.int .i64 x3) := by rw [cell_of_row _ _ _ _ _ _ hnB]; rfl
            have HRn : Hid (OcS P w B F4 Mu nw last L1 (subK K' x0) f (.slice ao m co) od w5 ∧ Fb (at1 Mu) w4 w5 ∧ OnS last (D.drop (j + 1) ++ L1) (subK K' x0) f ∧ (∀ t ∈ D.drop (j + 1), x3 ≤ t.due) ∧ (subK K' x0).length ≤ K.length) :=
              ⟨HSB.out.setU HP.out hu5 hf5, HFB.out.trans hf5 fun k hk => .inl hk, HOc.out.pop, fun t ht => hnx t (List.mem_append_left _ ht), Nat.le_trans (List.length_filter_le _ _) HR.out.2.2.2.2⟩
            have hq2 : (x3 != x3) = false := by simp
            clear HR HOc HLt HXD hTx hjD hdr Hx hx0 hfx hnx hbB hnB HSB HFB hgM hu5 hf5 hn5
            obtain ⟨gB, hgB⟩ : ∃ gB, wx.heap.size = gB := ⟨_, rfl⟩
            rw [hgB] at p3 p0 p3b
            rw [hwB] at hlu hdl p0 p3b
            clear hwB
            go_wp2_with fail
            go_round
            case rel => exact ⟨j + 1, subK K' x0, x3, by omega, rfl, by go_num, HRn.out⟩
            case measure => simp [intOf]; omega
          · have g2 : ¬ (j : Int) < (len : Int) := by omega
            have HO1 : Hid (OnS last L1 K' f) := by
              have h := HR.out.2.2.1
              rw [List.drop_eq_nil_of_le (by rw [HDl.out]; omega), List.nil_append] at h
              exact h
            have HSx := hid HR.out.1
            have HBx : Hid (0 ≤ nw ∧ nw ≤ nw ∧ nw ≤ 1048576 * ((k + 1 : Nat) : Int) ∧ 0 ≤ last ∧ last ≤ ((k + 1 : Nat) : Int) ∧ K'.length ≤ k + 1 ∧ od.length ≤ k + 1) := by
              have h1 := HBd.out
              have h2 := HR.out.2.2.2.2
              unfold Hid; omega
            have HRd : Hid (Reads .i64 wx ao m co od) := by
              obtain ⟨a', c', h1, h2⟩ := Reads.own (k := .i64) HSx.out.ow
              cases h1
              rw [Hm.out] at h2
              exact h2
            clear HR HA4 HT4 HDl HS4 HOD
            go_wp2_with fail
            go_loopw [148] (fun z W' => ∃ j : Nat, j ≤ m ∧ z = .int .i64 j ∧ Hid (W' = wx)) (fun z _ => m - (intOf z).toNat)
            case atStart => exact ⟨0, Nat.zero_le _, rfl, rfl⟩
            case round =>
            obtain ⟨j2, hj2, rfl, HW2⟩ := hrel
            rename World => wy
            have hW2 := HW2.out
            subst hW2
            by_cases hjm : j2 < m
            · have g3 : (j2 : Int) < (m : Int) := by omega
              obtain ⟨b2, o2, rfl, hcy⟩ := HRd.out.cell j2 hjm
              obtain ⟨y, Hy⟩ : ∃ y, Hid (od[j2]?.getD 0 = y) := ⟨_, rfl⟩
              rw [Hy.out] at hcy
              have HYi : Hid (isI y) := by
                have hjo : j2 < od.length := by rw [Hm.out]; exact hjm
                have h1 := Hy.out
                rw [List.getElem?_eq_getElem hjo] at h1
                have h2 : od[j2] = y := h1
                rw [← h2]
                exact HSx.out.odi _ (List.getElem_mem hjo)
              have hlu := HSx.out.us.look HYi.out
              by_cases hin : y ∈ K'
              · rw [if_pos hin, decide_eq_true hin] at hlu
                have hgt := HO1.out.left HLd.out hin
                generalize f y = fy at hlu hgt
                have hg3 : ¬ fy ≤ nw := by omega
                clear HO1 HSx HYi HRd Hy hgt
                go_wp2_with fail
                go_round
                case rel => exact ⟨j2 + 1, by omega, by go_num, True.intro⟩
                case measure => simp [intOf]; omega
              · rw [if_neg hin, decide_eq_false hin] at hlu
                clear HO1 HSx HYi HRd Hy
                go_wp2_with fail
                go_round
                case rel => exact ⟨j2 + 1, by omega, by go_num, True.intro⟩
                case measure => simp [intOf]; omega
            · have g3 : ¬ (j2 : Int) < (m : Int) := by omega
              have HS5 := HSx
              clear HRd HSx HLd HDd
              have hLe := HP.out.len HS5.out.wl
              obtain ⟨N, HN⟩ : ∃ N, Hid (L1.length = N) := ⟨_, rfl⟩
              have HKN : Hid (K'.length = N) := by unfold Hid; rw [← HN.out]; exact HO1.out.len HS5.out.us.nodup
              rw [HN.out] at hLe
              go_wp2_with fail
              with_reducible refine hLe.mono ?_
              rintro r w6 ⟨rfl, H6⟩
              have HS6 := hid (HS5.out.below HP.out H6.out)
              have hlen := fun ty => HS6.out.us.len ty
              rw [HKN.out] at hlen
              clear hLe H6 HS5 HN HKN
              go_wp2_with fail
              go_round
              case rel => exact ⟨k + 1, nw, nw, last, L1, K', f, (.slice ao m co), od, _, by omega, rfl, rfl, by go_num, HBx.out, HS6.out, HO1.out⟩
              case measure => simp [intOf]; omega
      · have h3' : (rr == 3) = false := by simpa using h3
        as_aux_lemma =>
          rcases setC_cases last L af with ⟨hc, hcf⟩ | hc | hc
          · skip
            have hse := HP.out.set HG.out.st.wl (now := nw) (after := af) (kind := 0) (label := lb) (by have := HTb.out; exact ⟨by omega, by omega⟩) HAf.out ⟨by omega, by omega⟩ HLb.out
            have hTz : timeZ T nw = nw := timeZ_now (by have := HTb.out; omega) (by have := HTb.out; omega)
            rw [hTz, hc] at hse
            obtain ⟨du, Hdu⟩ : ∃ du, Hid (min (nw + af) 1099511627776 = du) := ⟨_, rfl⟩
            have hsl : setL nw last af 0 lb L = insT ⟨last + 1, 0, lb, du⟩ L := by unfold setL newT; rw [hc, if_pos rfl, Hdu.out]
            rw [hsl, if_pos rfl, if_pos rfl] at hse
            have hm1 : min (nw + af) 1099511627776 = du := Hdu.out
            have hdu0 : 0 ≤ du ∧ du ≤ 1099511627776 := by have := HTb.out; rw [← hm1]; omega
            have hm2 : (if nw + af ≤ 1099511627776 then nw + af else 1099511627776) = du := by rw [← hm1]; split <;> omega
            have hm3 : (if 1099511627776 < nw + af then 1099511627776 else nw + af) = du := by rw [← hm1]; split <;> omega
            have hm4 : (if nw + af < 1099511627776 then nw + af else 1099511627776) = du := by rw [← hm1]; split <;> omega
            have hwp : IntKind.i64.wrap (nw + af) = nw + af := by have := HTb.out; rw [IntKind.wrap_i64]; omega
            obtain ⟨ln, Hl1⟩ : ∃ ln, Hid (last + 1 = ln) := ⟨_, rfl⟩
            have hl1 : 1 ≤ ln ∧ ln ≤ 9223372036854775807 := by have := HTb.out; have := Hl1.out; omega
            have HX1 : Hid (isI ln) := ⟨by omega, by omega⟩
            have hnk : ln ∉ K := by rw [← Hl1.out]; exact HOn.out.new
            have HOn5 : Hid (OnS ln (insT ⟨ln, 0, lb, du⟩ L) (addK K ln) (upd f ln du)) := by rw [← Hl1.out]; exact HOn.out.set (by have := HTb.out; omega) 0 lb du (by omega)
            have HBd : Hid (0 ≤ nw ∧ nw ≤ nw ∧ nw ≤ 1048576 * ((k + 1 : Nat) : Int) ∧ 0 ≤ ln ∧ ln ≤ ((k + 1 : Nat) : Int) ∧ (addK K ln).length ≤ k + 1 ∧ (od ++ [ln]).length ≤ k + 1) := by
              have h1 := HTb.out
              have h2 := addK_len K ln
              have h3 := Hl1.out
              unfold Hid; rw [List.length_append, List.length_singleton]; omega
            have HK3 : Hid (K.length ≤ 1000 ∧ od.length ≤ 1000) := by have := HTb.out; unfold Hid; omega
            rw [Hl1.out] at hse
            clear hTz hc hsl hcf HOn Hl1 Hdu
            go_wp2_with fail
            clear y0 y1 y2 y3 y4 hrr hr' hwr
            with_reducible refine hse.mono ?_
            rintro r w4 ⟨rfl, H4⟩
            obtain ⟨F4, hg4⟩ := HG.out.step HP.out H4.out
            obtain ⟨y0, y1, y2, y3, y4⟩ := hg4.cells
            simp only at y0 y1 y2 y3 y4
            have hlu := hg4.st.us.look HX1.out
            rw [if_neg hnk, decide_eq_false hnk] at hlu
            obtain ⟨w5, hup, hu5, hf5⟩ := hg4.st.us.store (by have := HK3.out; omega) HX1.out du
            have HS5a := hid (hg4.st.setU HP.out hu5 hf5)
            obtain ⟨i0, hi, hz0, hz1, hz2⟩ := info_parts Try.info3
            obtain ⟨wC, hwC⟩ : ∃ wC, wC = w5.alloc (.cells #[.int .i64 ln] 3) := ⟨_, rfl⟩
            have hCC : wC.heap[w5.heap.size]? = some (.cells #[.int .i64 ln] 3 (0, 0)) := by rw [hwC]; exact heap_alloc_new w5 _
            have HSC := hid (HS5a.out.below HP.out (W' := wC) (by rw [hwC]; exact (Below.refl _ _).alloc (Nat.le_refl _) _))
            have HCC := hid hCC
            clear hse H4 hg4 hu5 hf5 HG hnk HS5a hCC
            generalize hsz5 : w5.heap.size = s5 at *
            go_wp2_with (at_builtin; (first | rw [← hwC] | skip); refine wpList_append_own_at _ rfl (.tmp 80) (.tmp 82) 53 rfl w.heap.size 3 i0 (.int .i64 0) 1 8 Try.underlying53 hi hz0 hz1 hz2 rfl (by decide) ov od.length _ rfl HSC.out.ow ⟨s5, 0, none⟩ 1 1 [.int .i64 ln] rfl rfl (World.news_of_block HCC.out) (one_cell .i64 ln) (by have := HK3.out; unfold maxLen; omega) (by have := HK3.out; omega) HSC.out.bel.size ?_; intro v5 w5b how5 hgr5 _ hat5)
            have HS5 := hid (HSC.out.app HP.out how5 hgr5 hat5 HX1.out)
            clear how5 hgr5 hat5 hup hlu HSC HCC hwC hsz5 hi hz0 hz1 hz2 hm1 hm2 hm3 hm4 hwp hdu0
            have hLe := HP.out.len HS5.out.wl
            obtain ⟨N, HN⟩ : ∃ N, Hid ((insT ⟨ln, 0, lb, du⟩ L).length = N) := ⟨_, rfl⟩
            have HKN : Hid ((addK K ln).length = N) := by unfold Hid; rw [← HN.out]; exact HOn5.out.len HS5.out.us.nodup
            rw [HN.out] at hLe
            skip
            with_reducible refine hLe.mono ?_
            rintro r w6 ⟨rfl, H6⟩
            have HS6 := hid (HS5.out.below HP.out H6.out)
            have hlen := fun ty => HS6.out.us.len ty
            rw [HKN.out] at hlen
            clear hLe H6 HS5 HN HKN
            go_wp2_with fail
            go_round
            case rel => exact ⟨k + 1, nw, nw, ln, (insT ⟨ln, 0, lb, du⟩ L), (addK K ln), (upd f ln du), v5, (od ++ [ln]), _, by omega, rfl, rfl, by go_num, HBd.out, HS6.out, HOn5.out⟩
            case measure => simp [intOf]; omega
          · skip
            have hse := HP.out.set HG.out.st.wl (now := nw) (after := af) (kind := 0) (label := lb) (by have := HTb.out; exact ⟨by omega, by omega⟩) HAf.out ⟨by omega, by omega⟩ HLb.out
            have hTz : timeZ T nw = nw := timeZ_now (by have := HTb.out; omega) (by have := HTb.out; omega)
            rw [hTz, hc] at hse
            have hsl : setL nw last af 0 lb L = L := by unfold setL; rw [hc]; rfl
            rw [hsl, if_neg (by decide), if_neg (by decide)] at hse
            have HBd : Hid (0 ≤ nw ∧ nw ≤ nw ∧ nw ≤ 1048576 * ((k + 1 : Nat) : Int) ∧ 0 ≤ last ∧ last ≤ ((k + 1 : Nat) : Int) ∧ K.length ≤ k + 1 ∧ od.length ≤ k + 1) := by
              have h1 := HTb.out
              unfold Hid; omega
            clear hTz hc hsl
            go_wp2_with fail
            clear y0 y1 y2 y3 y4 hrr hr' hwr
            with_reducible refine hse.mono ?_
            rintro r w4 ⟨rfl, H4⟩
            obtain ⟨F4, hg4⟩ := HG.out.step HP.out H4.out
            have HS5 := hid hg4.st
            clear hse H4 hg4 HG
            go_wp2_with fail
            go_round
            case rel => exact ⟨k + 1, nw, nw, last, L, K, f, ov, od, _, by omega, rfl, rfl, by go_num, HBd.out, HS5.out, HOn.out⟩
            case measure => simp [intOf]; omega
          · skip
            have hse := HP.out.set HG.out.st.wl (now := nw) (after := af) (kind := 0) (label := lb) (by have := HTb.out; exact ⟨by omega, by omega⟩) HAf.out ⟨by omega, by omega⟩ HLb.out
            have hTz : timeZ T nw = nw := timeZ_now (by have := HTb.out; omega) (by have := HTb.out; omega)
            rw [hTz, hc] at hse
            have hsl : setL nw last af 0 lb L = L := by unfold setL; rw [hc]; rfl
            rw [hsl, if_neg (by decide), if_neg (by decide)] at hse
            have HBd : Hid (0 ≤ nw ∧ nw ≤ nw ∧ nw ≤ 1048576 * ((k + 1 : Nat) : Int) ∧ 0 ≤ last ∧ last ≤ ((k + 1 : Nat) : Int) ∧ K.length ≤ k + 1 ∧ od.length ≤ k + 1) := by
              have h1 := HTb.out
              unfold Hid; omega
            clear hTz hc hsl
            go_wp2_with fail
            clear y0 y1 y2 y3 y4 hrr hr' hwr
            with_reducible refine hse.mono ?_
            rintro r w4 ⟨rfl, H4⟩
            obtain ⟨F4, hg4⟩ := HG.out.step HP.out H4.out
            have HS5 := hid hg4.st
            clear hse H4 hg4 HG
            go_wp2_with fail
            go_round
            case rel => exact ⟨k + 1, nw, nw, last, L, K, f, ov, od, _, by omega, rfl, rfl, by go_num, HBd.out, HS5.out, HOn.out⟩
            case measure => simp [intOf]; omega
  · have g1 : ¬ (k : Int) < (n : Int) := by omega
    have HVE := hid HS.out.1.bel
    clear HS HSp
    go_wp2_with fail
    with_reducible refine (alive20_any HP _).mono ?_
    rintro e wz ⟨rfl, HZ0⟩
    have HZ := hid (HVE.out.trans (HZ0.out.mono HVE.out.size))
    clear HZ0
    go_wp2_with fail
    go_ret
    exact ⟨rfl, HZ.out⟩
end Go.Proofs.Ytdfbnfgemjljgaa
