/-
  The stable sort's parts over elements of k cells: merging in place, in halves.
-/
import Derived.Test.YtmhpgkkaolcncaaRkSym
import Derived.Test.YtmhpgkkaolcncaaRkRot
import Derived.Deep.DeepCutAuto
namespace Go.Proofs.Ytmhpgkkaolcncaa
open Go.RowKit Go.Shelf Go.Sort Go.Lib
set_option linter.unusedVariables false
set_option maxRecDepth 1000000

theorem mul_half {a b : Nat} : ((a : Int) + (b : Int)) / 2 = (((a + b) / 2 : Nat) : Int) := by omega
set_option maxHeartbeats 16000000 in
theorem sym_C {P : Program} {k : Nat} (L : StP P k) {enc : Cd → List Value} {q : Wt} {cf : Cd → Cd → Int} {g : Nat} {cb : Array Value} {blk off cap N : Nat} {d0 : Array Cd} {w0 : World} (R : RowK enc k w0 blk off d0) (hs : d0.size = N)
    (eg : ∀ args w, (callFunc g args).run P w = .ok (.enter g args) w) (hcmp : CmpLays P g cb enc k cf blk off N w0) (hcf : ∀ x y, decide (cf x y < 0) = bet q x y) (hsz : N ≤ 100000)
    (a m b : Nat) (d : Array Cd) (w : World) (hA : ¬ m - a = 1) (hB : ¬ b - m = 1) (HIH : Hid (∀ (a' m' b' : Nat) (d' : Array Cd) (w' : World), b' - a' < b - a → a' < m' → m' < b' → b' ≤ N → d'.size = N → SrI q d' a' m' → SrI q d' m' b' → SWK enc k w0 blk off d' w' →
    Calls P 40 #[.slice (some ⟨blk, off, none⟩) N cap, .int .i64 a', .int .i64 m', .int .i64 b', .func (.func g) #[] cb] w' fun e w'' => e = .returned (.tuple #[]) ∧ Hid (∃ d'' : Array Cd, (Kp q d' d'' a' b' ∧ SrI q d'' a' b') ∧ SWK enc k w0 blk off d'' w''))) (ham : a < m) (hmb : m < b) (hb : b ≤ N) (hN : d.size = N) (h1 : SrI q d a m) (h2 : SrI q d m b) (S : SWK enc k w0 blk off d w) :
    Calls P 40 #[.slice (some ⟨blk, off, none⟩) N cap, .int .i64 a, .int .i64 m, .int .i64 b, .func (.func g) #[] cb] w fun e w' => e = .returned (.tuple #[]) ∧ Hid (∃ d' : Array Cd, (Kp q d d' a b ∧ SrI q d' a b) ∧ SWK enc k w0 blk off d' w') := by
  have mixed := L.mixed; have t0 := L.t0; have a0 := L.a0; have z0 := L.z0; have v0 := L.v0; have t3 := L.t3; have a3 := L.a3; have z3 := L.z3; have v3 := L.v3; have t4 := L.t4; have a4 := L.a4; have z4 := L.z4; have v4 := L.v4; have tS := L.tS; have aS := L.aS; have zS := L.zS; have vS := L.vS; have tF := L.tF; have aF := L.aF; have zF := L.zF; have vF := L.vF; have tU := L.tU; have aU := L.aU; have zU := L.zU; have vU := L.vU; have aE := L.aE; have zE := L.zE
  have FG := L.fSy
  have HC : Aside _ := hcmp
  have HF : Aside (∀ x y, decide (cf x y < 0) = bet q x y) := hcf
  have H1 : Aside (SrI q d a m) := h1
  have H2 : Aside (SrI q d m b) := h2
  have S0 : Aside (SWK enc k w0 blk off d w) := S
  have HN : Aside (d.size = N) := hN
  clear S hN hcmp hcf h1 h2
  have hAz : ¬ ((m : Int) - (a : Int) = 1) := by omega
  have hAb : ((m : Int) - (a : Int) == 1) = false := by simpa using hAz
  have hBz : ¬ ((b : Int) - (m : Int) = 1) := by omega
  have hBb : ((b : Int) - (m : Int) == 1) = false := by simpa using hBz
  have eSy : ∀ args w, (callFunc 40 args).run P w = .ok (.enter 40 args) w := enters_of L.fSy (by kernel_rfl) rfl
  have eRo : ∀ args w, (callFunc 44 args).run P w = .ok (.enter 44 args) w := enters_of L.fRo (by kernel_rfl) rfl
  have HRo := hid fun (s e : Nat) (wk : World) (q1 : s < m) (q2 : m < e) (q3 : e ≤ N) (Sk : SWK enc k w0 blk off d wk) => rotate_any (g := g) (cb := cb) (cap := cap) L R HN.out hs Sk q1 q2 q3 hsz
  obtain ⟨c, hc⟩ : ∃ c : Nat, c = (a + b) / 2 := ⟨_, rfl⟩
  have hcz : ((a : Int) + (b : Int)) / 2 = (c : Int) := by omega
  have hc1 : 2 * c ≤ a + b ∧ a + b ≤ 2 * c + 1 := by omega
  clear hc
  obtain ⟨lo, hi, hlo⟩ : ∃ lo hi : Nat, (c < m ∧ lo = c + m - b ∧ hi = c) ∨ (m ≤ c ∧ lo = a ∧ hi = m) := by
    by_cases h : c < m
    · exact ⟨_, _, .inl ⟨h, rfl, rfl⟩⟩
    · exact ⟨_, _, .inr ⟨by omega, rfl, rfl⟩⟩
  have hlh : lo ≤ hi ∧ a ≤ lo ∧ hi ≤ m ∧ hi ≤ c := by omega
  have HLO := hid hlo
  clear hlo
  go_enter FG, Try.ntmps40
  go_upto_if 140 with fail
  go_cut [20, 21] (fun v u wx => v = .int .i64 (lo : Int) ∧ u = .int .i64 (hi : Int) ∧ Aside (SWK enc k w0 blk off d wx))
  case first =>
    as_aux_lemma =>
      rcases HLO.out with ⟨q1, q2, q3⟩ | ⟨q1, q2, q3⟩
      · have g1 : (c : Int) < (m : Int) := by omega
        have g2 : (c : Int) + (m : Int) - (b : Int) = (lo : Int) := by omega
        have HE := hid q3
        clear q2 q3
        go_wp2_with fail
        go_meet
        exact ⟨rfl, by rw [HE.out], S0⟩
      · have g1 : ¬ (c : Int) < (m : Int) := by omega
        have HE := hid q3
        have HE2 := hid q2
        clear q2 q3
        go_wp2_with fail
        go_meet
        exact ⟨by rw [HE2.out], by rw [HE.out], S0⟩
  case rest =>
  obtain ⟨rfl, rfl, S1⟩ := hcut
  clear S0
  go_wp2_with fail
  go_loopg [20, 21, 23] (b - a) (fun kx s20 s21 s23 wr => ∃ (i j : Nat), s20 = .int .i64 i ∧ s21 = .int .i64 j ∧ lo ≤ i ∧ i ≤ j ∧ j ≤ hi ∧ j - i ≤ kx ∧ Aside ((i = lo ∨ bet q d[c + m - i]! d[i - 1]! = false) ∧ (j = hi ∨ bet q d[c + m - 1 - j]! d[j]! = true)) ∧ Aside (SWK enc k w0 blk off d wr))
  case atStart => exact ⟨lo, hi, rfl, rfl, by omega, by omega, by omega, by omega, ⟨.inl rfl, .inl rfl⟩, S1⟩
  case round =>
    clear S1
    obtain ⟨i, j, rfl, rfl, hi1, hij, hj, hkx, HI, S1⟩ := hrel
    have hdN : d.size = N := HN.out
    by_cases hlt : i < j
    · as_aux_lemma =>
        have hltz : (i : Int) < (j : Int) := by omega
        obtain ⟨h, hh⟩ : ∃ h : Nat, h = (i + j) / 2 := ⟨_, rfl⟩
        have hhz : ((i : Int) + (j : Int)) / 2 = (h : Int) := by omega
        have hih : i ≤ h ∧ h < j := by omega
        clear hh
        have hx0 : c + m - 1 - h < N := by rcases HLO.out with q | q <;> omega
        obtain ⟨x, hx⟩ : ∃ x : Nat, x = c + m - 1 - h := ⟨_, rfl⟩
        have hxz : (c : Int) + (m : Int) - 1 - (h : Int) = (x : Int) := by omega
        have HXE := hid hx
        have hwx : IntKind.i64.wrap (x : Int) = (x : Int) := by rw [IntKind.wrap_i64]; omega
        have bx : (x : Int) < (N : Int) := by omega
        have bh : (h : Int) < (N : Int) := by omega
        clear hx
        obtain ⟨xx, hxx⟩ : ∃ z, z = d[x]! := ⟨_, rfl⟩
        obtain ⟨yy, hyy⟩ : ∃ z, z = d[h]! := ⟨_, rfl⟩
        have lx := S1.out.ld R (by omega) P (x) (by omega)
        have ly := S1.out.ld R (by omega) P (h) (by omega)
        rw [← hxx] at lx
        rw [← hyy] at ly
        have hc := S1.out.cmp HC.out (by omega) xx yy
        have HX : Aside (bet q xx yy = bet q d[x]! d[h]!) := by show _ = _; rw [hxx, hyy]
        clear hxx hyy
        by_cases hlv : cf xx yy < 0
        · have HL : Aside (bet q d[x]! d[h]! = true) := by rw [← HX.out, ← HF.out]; exact decide_eq_true hlv
          have hdv : decide (cf xx yy < 0) = true := decide_eq_true hlv
          clear HX
          go_wp2_with fail
          go_quiet_grown (first | (go_at_fn g; refine Calls.grown_of (hc _ _)))
          have S2 : Aside (SWK enc k w0 blk off d (grow (wr.drewN nq) osq)) := S1.out.grown nq osq
          clear lx ly hc S1
          generalize grow (wr.drewN nq) osq = w2 at S2 ⊢
          clear nq osq
          go_wp2
          go_roundg (h - i)
          case measure => omega
          case rel => exact ⟨i, h, rfl, by go_num, by omega, by omega, by omega, Nat.le_refl _, ⟨HI.out.1, .inr (by rw [← HXE.out]; exact HL.out)⟩, S2⟩
        · have HL : Aside (bet q d[x]! d[h]! = false) := by rw [← HX.out, ← HF.out]; exact decide_eq_false hlv
          have hdv : decide (cf xx yy < 0) = false := decide_eq_false hlv
          clear HX
          go_wp2_with fail
          go_quiet_grown (first | (go_at_fn g; refine Calls.grown_of (hc _ _)))
          have S2 : Aside (SWK enc k w0 blk off d (grow (wr.drewN nq) osq)) := S1.out.grown nq osq
          clear lx ly hc S1
          generalize grow (wr.drewN nq) osq = w2 at S2 ⊢
          clear nq osq
          go_wp2
          go_roundg (j - (h + 1))
          case measure => omega
          case rel => exact ⟨h + 1, j, by go_num, rfl, by omega, by omega, by omega, Nat.le_refl _, ⟨.inr (by rw [Nat.add_sub_cancel, show c + m - (h + 1) = c + m - 1 - h by omega, ← HXE.out]; exact HL.out), HI.out.2⟩, S2⟩
    · have hltz : ¬ (i : Int) < (j : Int) := by omega
      obtain rfl : i = j := by omega
      clear hij hkx
      obtain ⟨e, he⟩ : ∃ e : Nat, e = c + m - i := ⟨_, rfl⟩
      have hez : (c : Int) + (m : Int) - (i : Int) = (e : Int) := by omega
      have hce : Hid (c = i + (e - m) ∧ a ≤ i ∧ i ≤ m ∧ m ≤ e ∧ e ≤ b) := by show _ ∧ _; rcases HLO.out with q | q <;> omega
      have hce' : a ≤ i ∧ i ≤ m ∧ m ≤ e ∧ e ≤ b := hce.out.2
      have HCR : Aside (∀ D, RotR d i m e D → MrS q d a i c e b D) := fun D hD => mrg_rot H1.out H2.out hD hce.out.2.1 hce.out.2.2.1 hce.out.2.2.2.1 hce.out.2.2.2.2 (by omega) hce.out.1
        (by
          rcases HI.out.2 with q | q
          · rcases HLO.out with q' | q'
            · exact .inr (.inl (by omega))
            · exact .inl (by omega)
          · exact .inr (.inr (by rw [show e - 1 = c + m - 1 - i by omega]; exact q)))
        (by
          rcases HI.out.1 with q | q
          · rcases HLO.out with q' | q'
            · exact .inr (.inl (by omega))
            · exact .inl (by omega)
          · exact .inr (.inr (by rw [he]; exact q)))
      clear HI HLO
      clear he
      go_upto_region 39 with fail
      go_cut [185] (fun v wx => v = .bool (decide (i < m ∧ m < e)) ∧ Aside (SWK enc k w0 blk off d wx))
      case first =>
        as_aux_lemma =>
          by_cases q1 : i < m
          · by_cases q2 : m < e
            · have g1 : (i : Int) < (m : Int) := by omega
              have g2 : (m : Int) < (e : Int) := by omega
              go_wp2_with fail
              go_meet
              exact ⟨by rw [decide_eq_true ⟨q1, q2⟩], S1⟩
            · have g1 : (i : Int) < (m : Int) := by omega
              have g2 : ¬ (m : Int) < (e : Int) := by omega
              go_wp2_with fail
              go_meet
              exact ⟨by rw [decide_eq_false fun h => q2 h.2], S1⟩
          · have g1 : ¬ (i : Int) < (m : Int) := by omega
            go_wp2_with fail
            go_meet
            exact ⟨by rw [decide_eq_false fun h => q1 h.1], S1⟩
      case rest =>
      obtain ⟨rfl, S2⟩ := hcut
      clear S1
      go_upto_if 185 with fail
      go_cut [] (fun wx => Aside (∃ D, RotR d i m e D ∧ SWK enc k w0 blk off D wx))
      case first =>
        as_aux_lemma =>
          by_cases qq : i < m ∧ m < e
          · have hd1 : decide (i < m ∧ m < e) = true := decide_eq_true qq
            have hcc := HRo.out i e wc qq.1 qq.2 (by omega) S2.out
            go_wp2_with (go_at_fn 44; refine hcc.mono ?_; rintro e w' ⟨rfl, H⟩)
            go_meet
            exact H.out
          · have hd1 : decide (i < m ∧ m < e) = false := decide_eq_false qq
            go_wp2_with fail
            go_meet
            exact ⟨d, RotR.nil d (by omega) hce.out.2.2.1 hce.out.2.2.2.1, S2.out⟩
      case rest =>
      obtain ⟨D, hD, hS⟩ := hcut.out
      clear hcut S2
      have HM := HCR.out D hD
      have HMS : Aside (MrS q d a i c e b D ∧ D.size = N) := ⟨HM, HM.kp.size.trans hdN⟩
      have S3 : Aside (SWK enc k w0 blk off D wc) := hS
      clear HM hS hD HCR
      have hdN' : D.size = N := HMS.out.2
      go_upto_region 41 with fail
      go_cut [199] (fun v wx => v = .bool (decide (a < i ∧ i < c)) ∧ Aside (SWK enc k w0 blk off D wx))
      case first =>
        as_aux_lemma =>
          by_cases q1 : a < i
          · by_cases q2 : i < c
            · have g1 : (a : Int) < (i : Int) := by omega
              have g2 : (i : Int) < (c : Int) := by omega
              go_wp2_with fail
              go_meet
              exact ⟨by rw [decide_eq_true ⟨q1, q2⟩], S3⟩
            · have g1 : (a : Int) < (i : Int) := by omega
              have g2 : ¬ (i : Int) < (c : Int) := by omega
              go_wp2_with fail
              go_meet
              exact ⟨by rw [decide_eq_false fun h => q2 h.2], S3⟩
          · have g1 : ¬ (a : Int) < (i : Int) := by omega
            go_wp2_with fail
            go_meet
            exact ⟨by rw [decide_eq_false fun h => q1 h.1], S3⟩
      case rest =>
      obtain ⟨rfl, S4⟩ := hcut
      clear S3
      rename World => wc4
      go_upto_if 199 with fail
      go_cut [] (fun wx => Aside (∃ D2, (Kp q D D2 a c ∧ SrI q D2 a c) ∧ SWK enc k w0 blk off D2 wx))
      case first =>
        as_aux_lemma =>
          by_cases qq : a < i ∧ i < c
          · have hd1 : decide (a < i ∧ i < c) = true := decide_eq_true qq
            have hcc := HIH.out a i c D wc4 (by omega) qq.1 qq.2 (by omega) hdN' HMS.out.1.s1 HMS.out.1.s2 S4.out
            clear HIH
            go_wp2_with (go_at_fn 40; refine hcc.mono ?_; rintro e w' ⟨rfl, H⟩)
            go_meet
            exact H.out
          · have hd1 : decide (a < i ∧ i < c) = false := decide_eq_false qq
            go_wp2_with fail
            go_meet
            refine ⟨D, ⟨Kp.refl q D a c, ?_⟩, S4.out⟩
            have hm := HMS.out.1
            by_cases hai : a = i
            · rw [hai]; exact hm.s2
            · have : i = c := by omega
              rw [← this]; exact hm.s1
      case rest =>
      obtain ⟨D2, hD2, hS⟩ := hcut.out
      clear hcut S4
      rename World => wc5
      have HM2 : Aside (Kp q D D2 a c ∧ SrI q D2 a c) := hD2
      have hdN2 : D2.size = N := hD2.1.size.trans hdN'
      have S5 : Aside (SWK enc k w0 blk off D2 wc5) := hS
      clear hD2 hS
      go_upto_region 43 with fail
      go_cut [213] (fun v wx => v = .bool (decide (c < e ∧ e < b)) ∧ Aside (SWK enc k w0 blk off D2 wx))
      case first =>
        as_aux_lemma =>
          by_cases q1 : c < e
          · by_cases q2 : e < b
            · have g1 : (c : Int) < (e : Int) := by omega
              have g2 : (e : Int) < (b : Int) := by omega
              go_wp2_with fail
              go_meet
              exact ⟨by rw [decide_eq_true ⟨q1, q2⟩], S5⟩
            · have g1 : (c : Int) < (e : Int) := by omega
              have g2 : ¬ (e : Int) < (b : Int) := by omega
              go_wp2_with fail
              go_meet
              exact ⟨by rw [decide_eq_false fun h => q2 h.2], S5⟩
          · have g1 : ¬ (c : Int) < (e : Int) := by omega
            go_wp2_with fail
            go_meet
            exact ⟨by rw [decide_eq_false fun h => q1 h.1], S5⟩
      case rest =>
      obtain ⟨rfl, S6⟩ := hcut
      clear S5
      rename World => wc6
      have hac : a ≤ c ∧ c ≤ b := by omega
      by_cases qq : c < e ∧ e < b
      · have hd1 : decide (c < e ∧ e < b) = true := decide_eq_true qq
        have hcc := HIH.out c e b D2 wc6 (by omega) qq.1 qq.2 hb hdN2 (HM2.out.1.sr HMS.out.1.s3 (.inr (Nat.le_refl _))) (HM2.out.1.sr HMS.out.1.s4 (.inr (by omega))) S6.out
        clear HIH
        go_wp2_with (go_at_fn 40; refine hcc.mono ?_; rintro e w' ⟨rfl, H⟩)
        go_end0
        obtain ⟨D3, ⟨k3, r3⟩, hS⟩ := H.out
        exact ⟨rfl, ⟨D3, HMS.out.1.join hac.1 hac.2 HM2.out.1 HM2.out.2 k3 r3, hS⟩⟩
      · have hd1 : decide (c < e ∧ e < b) = false := decide_eq_false qq
        go_wp2
        go_end0
        refine ⟨rfl, ⟨D2, HMS.out.1.join hac.1 hac.2 HM2.out.1 HM2.out.2 (Kp.refl q D2 c b) ?_, S6.out⟩⟩
        have hm := HMS.out.1
        by_cases hai : c < e
        · have heb : e = b := by omega
          rw [← heb]
          exact HM2.out.1.sr hm.s3 (.inr (Nat.le_refl _))
        · by_cases hce2 : c = e
          · rw [hce2] at hm ⊢
            exact HM2.out.1.sr hm.s4 (.inr (by omega))
          · exfalso; have := hce.out; omega
end Go.Proofs.Ytmhpgkkaolcncaa
