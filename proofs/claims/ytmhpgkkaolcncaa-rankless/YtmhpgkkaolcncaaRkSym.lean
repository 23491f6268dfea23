/-
  The stable sort's parts over elements of k cells: merging in place.
-/
import Derived.Test.YtmhpgkkaolcncaaRkMrg
import Derived.Test.YtmhpgkkaolcncaaRkRot
import Derived.Deep.DeepCutAuto
namespace Go.Proofs.Ytmhpgkkaolcncaa
open Go.RowKit Go.Shelf Go.Sort Go.Lib
set_option linter.unusedVariables false
set_option maxRecDepth 1000000

set_option maxHeartbeats 16000000 in
theorem sym_A {P : Program} {k : Nat} (L : StP P k) {enc : Cd → List Value} {q : Wt} {cf : Cd → Cd → Int} {g : Nat} {cb : Array Value} {blk off cap N : Nat} {d0 : Array Cd} {w0 : World} (R : RowK enc k w0 blk off d0) (hs : d0.size = N)
    (eg : ∀ args w, (callFunc g args).run P w = .ok (.enter g args) w) (hcmp : CmpLays P g cb enc k cf blk off N w0) (hcf : ∀ x y, decide (cf x y < 0) = bet q x y) (hsz : N ≤ 100000)
    (a m b : Nat) (d : Array Cd) (w : World) (hA : m - a = 1) (ham : a < m) (hmb : m < b) (hb : b ≤ N) (hN : d.size = N) (h1 : SrI q d a m) (h2 : SrI q d m b) (S : SWK enc k w0 blk off d w) :
    Calls P 40 #[.slice (some ⟨blk, off, none⟩) N cap, .int .i64 a, .int .i64 m, .int .i64 b, .func (.func g) #[] cb] w fun e w' => e = .returned (.tuple #[]) ∧ Hid (∃ d' : Array Cd, (Kp q d d' a b ∧ SrI q d' a b) ∧ SWK enc k w0 blk off d' w') := by
  have mixed := L.mixed; have t0 := L.t0; have a0 := L.a0; have z0 := L.z0; have v0 := L.v0; have t3 := L.t3; have a3 := L.a3; have z3 := L.z3; have v3 := L.v3; have t4 := L.t4; have a4 := L.a4; have z4 := L.z4; have v4 := L.v4; have tS := L.tS; have aS := L.aS; have zS := L.zS; have vS := L.vS; have tF := L.tF; have aF := L.aF; have zF := L.zF; have vF := L.vF; have tU := L.tU; have aU := L.aU; have zU := L.zU; have vU := L.vU; have aE := L.aE; have zE := L.zE
  have FG := L.fSy
  have HC : Aside _ := hcmp
  have HF : Aside (∀ x y, decide (cf x y < 0) = bet q x y) := hcf
  have H1 : Aside (SrI q d a m) := h1
  have H2 : Aside (SrI q d m b) := h2
  have S0 : Aside (SWK enc k w0 blk off d w) := S
  have HN : Aside (d.size = N) := hN
  clear S hN hcmp hcf h1 h2
  have hmz : (m : Int) - (a : Int) = 1 := by omega
  have hmb : ((m : Int) - (a : Int) == 1) = true := by rw [hmz]; rfl
  clear H1
  go_enter FG, Try.ntmps40
  go_wp2
  go_loopg [10, 11, 12] (b - a) (fun kx s10 s11 s12 wr => ∃ (i j : Nat), s10 = .int .i64 i ∧ s11 = .int .i64 j ∧ m ≤ i ∧ i ≤ j ∧ j ≤ b ∧ j - i ≤ kx ∧ Aside ((i = m ∨ bet q d[i - 1]! d[a]! = true) ∧ (j = b ∨ bet q d[j]! d[a]! = false)) ∧ Aside (SWK enc k w0 blk off d wr))
  case atStart => exact ⟨m, b, by first | rfl | go_num, rfl, by omega, by omega, by omega, by omega, ⟨.inl rfl, .inl rfl⟩, S0⟩
  case round =>
    clear S0
    obtain ⟨i, j, rfl, rfl, hi, hij, hj, hkx, HI, S1⟩ := hrel
    have hdN : d.size = N := HN.out
    by_cases hlt : i < j
    · have hltz : (i : Int) < (j : Int) := by omega
      obtain ⟨h, hh⟩ : ∃ h : Nat, h = (i + j) / 2 := ⟨_, rfl⟩
      have hhz : ((i : Int) + (j : Int)) / 2 = (h : Int) := by omega
      have hih : i ≤ h ∧ h < j := by omega
      clear hh
      have bh : (h : Int) < (N : Int) := by omega
      have ba : (a : Int) < (N : Int) := by omega
      obtain ⟨xx, hxx⟩ : ∃ z, z = d[h]! := ⟨_, rfl⟩
      obtain ⟨yy, hyy⟩ : ∃ z, z = d[a]! := ⟨_, rfl⟩
      have lx := S1.out.ld R (by omega) P (h) (by omega)
      have ly := S1.out.ld R (by omega) P (a) (by omega)
      rw [← hxx] at lx
      rw [← hyy] at ly
      have hc := S1.out.cmp HC.out (by omega) xx yy
      have HX : Aside (bet q xx yy = bet q d[h]! d[a]!) := by show _ = _; rw [hxx, hyy]
      clear hxx hyy
      by_cases hlv : cf xx yy < 0
      · have HL : Aside (bet q d[h]! d[a]! = true) := by rw [← HX.out, ← HF.out]; exact decide_eq_true hlv
        have hdv : decide (cf xx yy < 0) = true := decide_eq_true hlv
        clear HX
        go_wp2_with fail
        go_quiet_grown (first | (go_at_fn g; refine Calls.grown_of (hc _ _)))
        have S2 : Aside (SWK enc k w0 blk off d (grow (wr.drewN nq) osq)) := S1.out.grown nq osq
        clear lx ly hc S1
        generalize grow (wr.drewN nq) osq = w2 at S2 ⊢
        clear nq osq
        go_wp2
        go_roundg (j - (h + 1))
        case measure => omega
        case rel => exact ⟨h + 1, j, by go_num, rfl, by omega, by omega, by omega, Nat.le_refl _, ⟨.inr (by rw [Nat.add_sub_cancel]; exact HL.out), HI.out.2⟩, S2⟩
      · have HL : Aside (bet q d[h]! d[a]! = false) := by rw [← HX.out, ← HF.out]; exact decide_eq_false hlv
        have hdv : decide (cf xx yy < 0) = false := decide_eq_false hlv
        clear HX
        go_wp2_with fail
        go_quiet_grown (first | (go_at_fn g; refine Calls.grown_of (hc _ _)))
        have S2 : Aside (SWK enc k w0 blk off d (grow (wr.drewN nq) osq)) := S1.out.grown nq osq
        clear lx ly hc S1
        generalize grow (wr.drewN nq) osq = w2 at S2 ⊢
        clear nq osq
        go_wp2
        go_roundg (h - i)
        case measure => omega
        case rel => exact ⟨i, h, rfl, by go_num, by omega, by omega, by omega, Nat.le_refl _, ⟨HI.out.1, .inr HL.out⟩, S2⟩
    · have hltz : ¬ (i : Int) < (j : Int) := by omega
      obtain rfl : i = j := by omega
      clear hij hkx
      go_wp2
      go_loopg [13] i (fun kx s13 wr => ∃ (j : Nat) (dk : Array Cd), s13 = .int .i64 j ∧ a ≤ j ∧ j + 1 ≤ i ∧ i - j ≤ kx ∧ Aside (RotR d a m (j + 1) dk) ∧ Aside (SWK enc k w0 blk off dk wr))
      case atStart => exact ⟨a, d, rfl, by omega, by omega, by omega, RotR.nil d (.inr (by omega)) (by omega) (by omega), S1⟩
      case round =>
        clear S1
        obtain ⟨j, dk, rfl, haj, hji, hkx, HR, S1⟩ := hrel
        have hdk : dk.size = N := HR.out.size.trans hdN
        by_cases hlt : j + 1 < i
        · have hltz : (j : Int) < (i : Int) - 1 := by omega
          have ea : ((j : Int) + 1).toNat = j + 1 := by omega
          have pa : (0 : Int) ≤ (j : Int) + 1 := by omega
          have ba : (j : Int) + 1 < (N : Int) := by omega
          have bj : (j : Int) < (N : Int) := by omega
          go_wp2_with fail
          have S3 : Aside (SWK enc k w0 blk off (swp dk (j) (j + 1)) ((wr.drew.setCells blk (off + (j) * k) (enc dk[j + 1]!)).setCells blk (off + (j + 1) * k) (enc dk[j]!))) := S1.out.swapped R (j) (j + 1) (by omega) (by omega)
          have la := S1.out.ld1 R (by omega) P (j) (by omega)
          have lb := S1.out.ld1 R (by omega) P (j + 1) (by omega)
          have sa := S1.out.st1 R (by omega) P (j) (by omega) dk[j + 1]!
          have sb := S1.out.st2 R (by omega) P (j) (j + 1) (by omega) (by omega) dk[j + 1]! dk[j]!
          have na : (enc dk[j]!).length = k := R.hk _
          have nb : (enc dk[j + 1]!).length = k := R.hk _
          generalize enc dk[j]! = cI at S3 la sb na
          generalize enc dk[j + 1]! = cJ at S3 lb sa sb nb
          clear S1
          go_big_region_o
          all_goals
            clear la lb sa sb
            generalize (wr.drew.setCells blk (off + (j) * k) cJ).setCells blk (off + (j + 1) * k) cI = w3 at S3 ⊢
            go_wp2
            go_roundg (i - (j + 1))
            case measure => omega
            case rel => exact ⟨j + 1, _, by go_num, by omega, by omega, Nat.le_refl _, HR.out.up' hmz haj (by omega), S3⟩
        · have hltz : ¬ (j : Int) < (i : Int) - 1 := by omega
          go_wp2
          (try simp only [Exit.inBlock, Exit.then])
          refine bodyPost_ret (results_none rfl _ _ _) rfl ?_
          obtain rfl : i = j + 1 := by omega
          exact ⟨rfl, ⟨dk, mrg_up' hmz H2.out HR.out hi hj (by omega) HI.out.1 HI.out.2, S1.out⟩⟩
set_option maxHeartbeats 16000000 in
theorem sym_B {P : Program} {k : Nat} (L : StP P k) {enc : Cd → List Value} {q : Wt} {cf : Cd → Cd → Int} {g : Nat} {cb : Array Value} {blk off cap N : Nat} {d0 : Array Cd} {w0 : World} (R : RowK enc k w0 blk off d0) (hs : d0.size = N)
    (eg : ∀ args w, (callFunc g args).run P w = .ok (.enter g args) w) (hcmp : CmpLays P g cb enc k cf blk off N w0) (hcf : ∀ x y, decide (cf x y < 0) = bet q x y) (hsz : N ≤ 100000)
    (a m b : Nat) (d : Array Cd) (w : World) (hA : ¬ m - a = 1) (hB : b - m = 1) (ham : a < m) (hmb : m < b) (hb : b ≤ N) (hN : d.size = N) (h1 : SrI q d a m) (h2 : SrI q d m b) (S : SWK enc k w0 blk off d w) :
    Calls P 40 #[.slice (some ⟨blk, off, none⟩) N cap, .int .i64 a, .int .i64 m, .int .i64 b, .func (.func g) #[] cb] w fun e w' => e = .returned (.tuple #[]) ∧ Hid (∃ d' : Array Cd, (Kp q d d' a b ∧ SrI q d' a b) ∧ SWK enc k w0 blk off d' w') := by
  have mixed := L.mixed; have t0 := L.t0; have a0 := L.a0; have z0 := L.z0; have v0 := L.v0; have t3 := L.t3; have a3 := L.a3; have z3 := L.z3; have v3 := L.v3; have t4 := L.t4; have a4 := L.a4; have z4 := L.z4; have v4 := L.v4; have tS := L.tS; have aS := L.aS; have zS := L.zS; have vS := L.vS; have tF := L.tF; have aF := L.aF; have zF := L.zF; have vF := L.vF; have tU := L.tU; have aU := L.aU; have zU := L.zU; have vU := L.vU; have aE := L.aE; have zE := L.zE
  have FG := L.fSy
  have HC : Aside _ := hcmp
  have HF : Aside (∀ x y, decide (cf x y < 0) = bet q x y) := hcf
  have H1 : Aside (SrI q d a m) := h1
  have H2 : Aside (SrI q d m b) := h2
  have S0 : Aside (SWK enc k w0 blk off d w) := S
  have HN : Aside (d.size = N) := hN
  clear S hN hcmp hcf h1 h2
  have hAz : ¬ ((m : Int) - (a : Int) = 1) := by omega
  have hAb : ((m : Int) - (a : Int) == 1) = false := by simpa using hAz
  have hbz : (b : Int) - (m : Int) = 1 := by omega
  have hbb : ((b : Int) - (m : Int) == 1) = true := by rw [hbz]; rfl
  clear H2
  go_enter FG, Try.ntmps40
  go_wp2
  go_loopg [14, 15, 16] (m - a) (fun kx s14 s15 s16 wr => ∃ (i j : Nat), s14 = .int .i64 i ∧ s15 = .int .i64 j ∧ a ≤ i ∧ i ≤ j ∧ j ≤ m ∧ j - i ≤ kx ∧ Aside ((i = a ∨ bet q d[m]! d[i - 1]! = false) ∧ (j = m ∨ bet q d[m]! d[j]! = true)) ∧ Aside (SWK enc k w0 blk off d wr))
  case atStart => exact ⟨a, m, by first | rfl | go_num, rfl, by omega, by omega, by omega, by omega, ⟨.inl rfl, .inl rfl⟩, S0⟩
  case round =>
    clear S0
    obtain ⟨i, j, rfl, rfl, hi, hij, hj, hkx, HI, S1⟩ := hrel
    have hdN : d.size = N := HN.out
    by_cases hlt : i < j
    · have hltz : (i : Int) < (j : Int) := by omega
      obtain ⟨h, hh⟩ : ∃ h : Nat, h = (i + j) / 2 := ⟨_, rfl⟩
      have hhz : ((i : Int) + (j : Int)) / 2 = (h : Int) := by omega
      have hih : i ≤ h ∧ h < j := by omega
      clear hh
      have bh : (h : Int) < (N : Int) := by omega
      have bm : (m : Int) < (N : Int) := by omega
      obtain ⟨xx, hxx⟩ : ∃ z, z = d[m]! := ⟨_, rfl⟩
      obtain ⟨yy, hyy⟩ : ∃ z, z = d[h]! := ⟨_, rfl⟩
      have lx := S1.out.ld R (by omega) P (m) (by omega)
      have ly := S1.out.ld R (by omega) P (h) (by omega)
      rw [← hxx] at lx
      rw [← hyy] at ly
      have hc := S1.out.cmp HC.out (by omega) xx yy
      have HX : Aside (bet q xx yy = bet q d[m]! d[h]!) := by show _ = _; rw [hxx, hyy]
      clear hxx hyy
      by_cases hlv : cf xx yy < 0
      · have HL : Aside (bet q d[m]! d[h]! = true) := by rw [← HX.out, ← HF.out]; exact decide_eq_true hlv
        have hdv : decide (cf xx yy < 0) = true := decide_eq_true hlv
        clear HX
        go_wp2_with fail
        go_quiet_grown (first | (go_at_fn g; refine Calls.grown_of (hc _ _)))
        have S2 : Aside (SWK enc k w0 blk off d (grow (wr.drewN nq) osq)) := S1.out.grown nq osq
        clear lx ly hc S1
        generalize grow (wr.drewN nq) osq = w2 at S2 ⊢
        clear nq osq
        go_wp2
        go_roundg (h - i)
        case measure => omega
        case rel => exact ⟨i, h, rfl, by go_num, by omega, by omega, by omega, Nat.le_refl _, ⟨HI.out.1, .inr HL.out⟩, S2⟩
      · have HL : Aside (bet q d[m]! d[h]! = false) := by rw [← HX.out, ← HF.out]; exact decide_eq_false hlv
        have hdv : decide (cf xx yy < 0) = false := decide_eq_false hlv
        clear HX
        go_wp2_with fail
        go_quiet_grown (first | (go_at_fn g; refine Calls.grown_of (hc _ _)))
        have S2 : Aside (SWK enc k w0 blk off d (grow (wr.drewN nq) osq)) := S1.out.grown nq osq
        clear lx ly hc S1
        generalize grow (wr.drewN nq) osq = w2 at S2 ⊢
        clear nq osq
        go_wp2
        go_roundg (j - (h + 1))
        case measure => omega
        case rel => exact ⟨h + 1, j, by go_num, rfl, by omega, by omega, by omega, Nat.le_refl _, ⟨.inr (by rw [Nat.add_sub_cancel]; exact HL.out), HI.out.2⟩, S2⟩
    · have hltz : ¬ (i : Int) < (j : Int) := by omega
      obtain rfl : i = j := by omega
      clear hij hkx
      go_wp2
      go_loopg [17] m (fun kx s17 wr => ∃ (j : Nat) (dk : Array Cd), s17 = .int .i64 j ∧ i ≤ j ∧ j ≤ m ∧ j - i ≤ kx ∧ Aside (RotR d j m b dk) ∧ Aside (SWK enc k w0 blk off dk wr))
      case atStart => exact ⟨m, d, rfl, by omega, by omega, by omega, RotR.nil d (.inl rfl) (Nat.le_refl _) (by omega), S1⟩
      case round =>
        clear S1
        obtain ⟨j, dk, rfl, haj, hji, hkx, HR, S1⟩ := hrel
        have hdk : dk.size = N := HR.out.size.trans hdN
        by_cases hlt : i < j
        · have hltz : (i : Int) < (j : Int) := by omega
          obtain ⟨jp, rfl⟩ : ∃ jp, j = jp + 1 := ⟨j - 1, by omega⟩
          have hltz' : (i : Int) < (jp : Int) + 1 := by omega
          have ea : ((jp : Int) + 1).toNat = jp + 1 := by omega
          have pa : (0 : Int) ≤ (jp : Int) + 1 := by omega
          have ba : (jp : Int) + 1 < (N : Int) := by omega
          have bj : (jp : Int) < (N : Int) := by omega
          have hwp : IntKind.i64.wrap (jp : Int) = (jp : Int) := by rw [IntKind.wrap_i64]; omega
          go_wp2_with fail
          have S3 : Aside (SWK enc k w0 blk off (swp dk (jp + 1) (jp)) ((wr.drew.setCells blk (off + (jp + 1) * k) (enc dk[jp]!)).setCells blk (off + (jp) * k) (enc dk[jp + 1]!))) := S1.out.swapped R (jp + 1) (jp) (by omega) (by omega)
          have la := S1.out.ld1 R (by omega) P (jp + 1) (by omega)
          have lb := S1.out.ld1 R (by omega) P (jp) (by omega)
          have sa := S1.out.st1 R (by omega) P (jp + 1) (by omega) dk[jp]!
          have sb := S1.out.st2 R (by omega) P (jp + 1) (jp) (by omega) (by omega) dk[jp]! dk[jp + 1]!
          have na : (enc dk[jp + 1]!).length = k := R.hk _
          have nb : (enc dk[jp]!).length = k := R.hk _
          generalize enc dk[jp + 1]! = cI at S3 la sb na
          generalize enc dk[jp]! = cJ at S3 lb sa sb nb
          clear S1
          go_big_region_o
          all_goals
            clear la lb sa sb
            generalize (wr.drew.setCells blk (off + (jp + 1) * k) cJ).setCells blk (off + (jp) * k) cI = w3 at S3 ⊢
            go_wp2
            go_roundg (jp - i)
            case measure => omega
            case rel => exact ⟨jp, _, by first | rfl | go_num | (congr 1; omega), by omega, by omega, Nat.le_refl _, HR.out.down' hbz (by omega) (by omega), S3⟩
        · have hltz : ¬ (i : Int) < (j : Int) := by omega
          go_wp2
          (try simp only [Exit.inBlock, Exit.then])
          refine bodyPost_ret (results_none rfl _ _ _) rfl ?_
          obtain rfl : i = j := by omega
          exact ⟨rfl, ⟨dk, mrg_down' hbz H1.out HR.out hi hj (by omega) HI.out.1 HI.out.2, S1.out⟩⟩
end Go.Proofs.Ytmhpgkkaolcncaa
