/-
  AffinKeeps: a binding that is used within its time stays, as long as the room suffices; nothing is found that was not bound so last.
-/
import Derived.Test.YtfnbofhppfjmgaaRows
import Derived.Test.YtfnbofhppfjmgaaAfKp
import Derived.WalkKit
import Derived.ProofKit
import Derived.OpenShut
import Derived.ShutString
import Derived.ChangeOld
import Derived.Below
namespace Go.Proofs.Ytfnbofhppfjmgaa.affinKeeps
open Go.ChangeShapes Go.WideShapes Go.ChangeAt Go.RowKit
open Go.ChangeMaps (open_string shut_string)
set_option linter.unusedVariables false

theorem own : ownKnob Try.prog.godebug = none := by kernel_rfl
theorem laidOut : laidOutB Try.prog = true := by kernel_rfl

/-! ### The walk -/
set_option maxRecDepth 1000000 in
set_option maxHeartbeats 8000000 in
theorem walk (a0 : Option Addr) (l0 c0 : Nat) (xs0 : List Sp) (w : World) (ga0 : Lst w a0 l0 c0 4 xs0 SpV SpIn) :
    Calls Try.prog 4 #[.slice a0 l0 c0] w fun e w' => e = .returned (.bool true) ∧ Below w.heap.size w w' := by
  have HSp := hid fun (W' : World) (hb : Below w.heap.size w W') => ga0.below hb
  have hSh := fun W' => short_any a0 l0 c0 W' ga0.room ga0.most
  obtain ⟨n, Hn⟩ : ∃ n, Hid (min l0 150 = n) := ⟨_, rfl⟩
  rw [Hn.out] at hSh
  have hn1 : n ≤ l0 ∧ n ≤ 150 := by have := Hn.out; omega
  have r1 := ga0.room
  have m1 := ga0.most
  have HSh := hid hSh
  clear ga0 hSh
  have hN := tnew_yes 1024 100 w (by omega) (by omega)
  have hmk := @run_makeMap Try.prog
  go_enter Try.func4, Try.ntmps4
  go_wp2_with fail
  refine hN.mono ?_
  rintro r w1 ⟨rfl, H1⟩
  clear hN
  have HS0 := hid (AfS.new (Below.refl _ _) H1.out)
  clear H1
  obtain ⟨B, HB⟩ : ∃ B, Hid (w.heap.size + 1 = B) := ⟨_, rfl⟩
  rw [HB.out] at HS0
  rw [HB.out]
  obtain ⟨M, HS1⟩ : ∃ M, Hid (AfS w B 1024 100 M 0 [] w1) := ⟨_, HS0.out⟩
  clear HS0 HB
  obtain ⟨w2, hw2⟩ : ∃ w2, w2 = (w1.alloc (.map #[] 0)).alloc (.map #[] 0) := ⟨_, rfl⟩
  have HS2 : Hid (KsS w B M w1.heap.size (w1.heap.size + 1) 0 0 [] [] (fun _ => 0) (fun _ => 0) w2) := by
    have hb1 : Below w1.heap.size w1 (w1.alloc (.map #[] 0)) := (Below.refl _ _).alloc (Nat.le_refl _) _
    have hb2 : Below (w1.alloc (.map #[] 0)).heap.size (w1.alloc (.map #[] 0)) w2 := by rw [hw2]; exact (Below.refl _ _).alloc (Nat.le_refl _) _
    have h1 : BoAt w2 w1.heap.size 0 (fun _ => 0) := (BoAt.new w1).same (hb2.block _ (by simp))
    have h2 : UsAt w2 (w1.heap.size + 1) [] (fun _ => 0) := by
      have := UsAt.new (w1.alloc (.map #[] 0))
      rw [World.size_alloc] at this
      rw [hw2]
      exact this
    have h3 := HS1.out.bel.size
    exact ⟨(HS1.out.below hb1).below hb2, h1, h2, ⟨fun hF => Nat.lt_irrefl _ (HS1.out.tb.lts hF), fun hF => by have := HS1.out.tb.lts hF; omega, by omega⟩, by omega, by omega⟩
  obtain ⟨Mb, HMb⟩ : ∃ Mb, Hid (w1.heap.size = Mb) := ⟨_, rfl⟩
  rw [HMb.out] at HS2
  obtain ⟨Mu, HMu⟩ : ∃ Mu, Hid (Mb + 1 = Mu) := ⟨_, rfl⟩
  rw [HMu.out] at HS2
  go_wp2_with fail
  rw [← hw2, HMb.out, HMu.out]
  clear hw2 HMb HMu HS1
  with_reducible refine (HSh.out _).mono ?_
  rintro r w3 ⟨rfl, rfl⟩
  go_wp2_with fail
  go_loopw [7, 29] (fun a z W' => ∃ (k : Nat) (T : Int) (L : List Bd) (K : List Int) (u bf : Int → Int) (nb : Nat), k ≤ n ∧ a = .int .i64 T ∧ z = .int .i64 k ∧ Hid (0 ≤ T ∧ T ≤ 1000 * k ∧ K.length ≤ k ∧ nb ≤ k) ∧ Hid (KsS w B M Mb Mu nb T L K u bf W' ∧ KpS T L K u bf)) (fun _ z _ => n - (intOf z).toNat)
  case atStart => exact ⟨0, 0, [], [], fun _ => 0, fun _ => 0, 0, by omega, rfl, rfl, by unfold Hid; simp, HS2.out, KpS.zero⟩
  case round =>
  obtain ⟨k, T, L, K, u, bf, nb, hk, rfl, rfl, HTb1, HS⟩ := hrel
  rename World => w2
  clear HS2
  by_cases hkl : k < n
  · have g1 : (k : Int) < (n : Int) := by omega
    have HTb0 : Hid (0 ≤ T ∧ T ≤ 1000 * k ∧ K.length ≤ k ∧ nb ≤ k ∧ k < 150) := by have := HTb1.out; unfold Hid; omega
    obtain ⟨b, off, s, rfl, hsk, hsi, q0, q1, q2, q3⟩ := (HSp.out _ HS.out.1.af.bel).at (i := k) (by omega)
    obtain ⟨w3, hw3⟩ : ∃ w3, w3 = w2.alloc (.cells #[.int .u8 s.kd, .int .i64 s.later, .int .u64 s.ses, .int .u64 s.rep] 36) := ⟨_, rfl⟩
    obtain ⟨sb, hsb⟩ : ∃ sb, w2.heap.size = sb := ⟨_, rfl⟩
    have HG : Hid (KsM w B M Mb Mu nb T L K u bf sb s w3) := by rw [← hsb]; exact HS.out.1.next s hw3
    have HKp0 := hid HS.out.2
    obtain ⟨⟨kd0, kd1⟩, hla0, hse, hrp⟩ := hsi
    obtain ⟨kd, la, se, rp⟩ := s
    have HSe : Hid (isU se) := hse
    have HRp : Hid (isU rp) := hrp
    have HLa : Hid (isI la) := hla0
    clear hse hrp hla0
    simp only at kd0 kd1 q0 q1 q2 q3 hw3
    have hla1 : -9223372036854775808 ≤ la ∧ la ≤ 9223372036854775807 := HLa.out
    have hla : (0 < la ∧ la < 1000) ∨ (0 < la ∧ ¬ la < 1000) ∨ ¬ 0 < la := by omega
    clear hsk HS HTb1 HLa
    obtain ⟨rr, hrr⟩ : ∃ rr, kd % 4 = rr := ⟨_, rfl⟩
    have hr' : kd.tmod 4 = rr := by rw [Int.tmod_eq_emod_of_nonneg kd0]; exact hrr
    have hwr : IntKind.u8.wrap rr = rr := by rw [IntKind.wrap_u8]; omega
    by_cases h1 : rr = 1
    · subst h1
      rcases hla with ⟨l1, l2⟩ | ⟨l1, l2⟩ | l1
      · obtain ⟨nw, Hnw⟩ : ∃ nw, Hid (T + la = nw) := ⟨_, rfl⟩
        have hwn : IntKind.i64.wrap (T + la) = nw := by rw [Hnw.out]; have := Hnw.out; have := HTb0.out; exact wrap64_in (by omega) (by omega)
        have HTb : Hid (0 ≤ T ∧ T ≤ 1000 * k ∧ K.length ≤ k ∧ nb ≤ k ∧ k < 150 ∧ T ≤ nw ∧ nw ≤ 1000 * (k + 1)) := by have := Hnw.out; have := HTb0.out; unfold Hid; omega
        clear Hnw HTb0
        by_cases hin : se ∈ K
        · by_cases hlt : nw < u se + 100
          · skip
            have hTz : timeZ T nw = nw := timeZ_now (by have := HTb.out; omega) (by have := HTb.out; omega)
            have hF := tfind_any HG.out.af.tb nw (s := se) HSe.out
            have HKp := hid (And.intro (HKp0.out.later (now := nw) (by have := HTb.out; omega)) (endL_liv nw L))
            rw [hTz] at hF
            generalize endL nw L = L1 at *
            have hq := HKp.out.1.yes hin hlt
            rw [hq] at hF
            simp only [Option.getD_some, Option.isSome_some] at hF
            have HKn := hid (HKp.out.1.use (by have := HTb.out; omega) hin hlt)
            have HUb := hid (HKp.out.1.ub se hin)
            obtain ⟨ua, Hua⟩ : ∃ ua, Hid (u se = ua) := ⟨_, rfl⟩
            obtain ⟨br, Hbr⟩ : ∃ br, Hid (bf se = br) := ⟨_, rfl⟩
            have HLu : Hid (∀ W', UsAt W' Mu K u → (Instr.lookup 46 (.map (some Mu)) (.int .u64 se) true).run Try.prog W' = .ok (.tuple #[.int .i64 ua, .bool true]) W') := fun W' h => by
              have h1 := h.look HSe.out
              rw [if_pos hin, decide_eq_true hin, Hua.out] at h1
              exact h1
            have HLb : Hid (∀ W' m, BoAt W' Mb m bf → (Instr.lookup 45 (.map (some Mb)) (.int .u64 se) false).run Try.prog W' = .ok (.int .u64 br) W') := fun W' m h => by
              have h1 := h.look HSe.out
              rw [Hbr.out] at h1
              exact h1
            rw [Hbr.out] at hF
            rw [Hua.out] at hlt HUb
            have hw1 : IntKind.i64.wrap (ua + 100) = ua + 100 := by have := HUb.out; have := HTb.out; exact wrap64_in (by omega) (by omega)
            have d1 : decide (nw < ua + 100) = true := decide_eq_true hlt
            have hua : -9223372036854775808 ≤ ua ∧ ua ≤ 9223372036854000000 := by have := HUb.out; have := HTb.out; omega
            clear hq hTz HKp HKp0
            clear Hua HUb hlt
            clear Hbr
            clear hin
            go_wp2_with fail
            rw [← hw3]
            clear hsb hw3 q0 q1 q2 q3
            with_reducible refine hF.mono ?_
            rintro r w4 ⟨rfl, H4⟩
            have HG4 := hid (HG.out.tab H4.out)
            obtain ⟨y0, y1, y2, y3⟩ := HG4.out.cells
            have hlu := HLu.out _ HG4.out.us
            have hlb := HLb.out _ _ HG4.out.bo
            obtain ⟨w5, hst, hu5, hf5⟩ := HG4.out.us.store (by have := HTb.out; omega) HSe.out nw
            have HS5 := hid (HG4.out.setU hu5 hf5).out
            have HKl : Hid ((addK K se).length ≤ k + 1) := by have := addK_len K se; have := HTb.out; unfold Hid; omega
            clear hu5 hf5 HLb
            clear hF H4 HG HLu HG4
            go_wp2_with fail
            go_round
            case rel => exact ⟨k + 1, nw, useB L1 se (nw + 100), addK K se, upd u se nw, bf, nb, by omega, rfl, by go_num, by have := HTb.out; have := HKl.out; unfold Hid; omega, HS5.out, HKn.out⟩
            case measure => simp [intOf]; omega
          · have hno : ¬ (se ∈ K ∧ nw < u se + 100) := fun h => hlt h.2
            have hTz : timeZ T nw = nw := timeZ_now (by have := HTb.out; omega) (by have := HTb.out; omega)
            have hF := tfind_any HG.out.af.tb nw (s := se) HSe.out
            have HKp := hid (And.intro (HKp0.out.later (now := nw) (by have := HTb.out; omega)) (endL_liv nw L))
            rw [hTz] at hF
            generalize endL nw L = L1 at *
            have hq := HKp.out.1.no HKp.out.2 hno
            rw [hq, useB_not _ hq] at hF
            simp only [Option.getD_none, Option.isSome_none] at hF
            have HKn := hid (HKp.out.1.del hq)
            have HUb := hid (HKp.out.1.ub se hin)
            obtain ⟨ua, Hua⟩ : ∃ ua, Hid (u se = ua) := ⟨_, rfl⟩
            have HLu : Hid (∀ W', UsAt W' Mu K u → (Instr.lookup 46 (.map (some Mu)) (.int .u64 se) true).run Try.prog W' = .ok (.tuple #[.int .i64 ua, .bool true]) W') := fun W' h => by
              have h1 := h.look HSe.out
              rw [if_pos hin, decide_eq_true hin, Hua.out] at h1
              exact h1
            rw [Hua.out] at hlt HUb
            have hw1 : IntKind.i64.wrap (ua + 100) = ua + 100 := by have := HUb.out; have := HTb.out; exact wrap64_in (by omega) (by omega)
            have d1 : decide (nw < ua + 100) = false := decide_eq_false hlt
            have hua : -9223372036854775808 ≤ ua ∧ ua ≤ 9223372036854000000 := by have := HUb.out; have := HTb.out; omega
            clear hq hTz HKp HKp0
            clear Hua HUb hlt
            clear hin
            clear hno
            go_wp2_with fail
            rw [← hw3]
            clear hsb hw3 q0 q1 q2 q3
            with_reducible refine hF.mono ?_
            rintro r w4 ⟨rfl, H4⟩
            have HG4 := hid (HG.out.tab H4.out)
            obtain ⟨y0, y1, y2, y3⟩ := HG4.out.cells
            have hlu := HLu.out _ HG4.out.us
            obtain ⟨w5, hst, hu5, hf5⟩ := HG4.out.us.drop HSe.out 0
            have HS5 := hid (HG4.out.setU hu5 hf5).out
            have HKl : Hid ((subK K se).length ≤ k + 1) := by have := subK_len HG4.out.us.nodup se; have := HTb.out; unfold Hid; omega
            clear hu5 hf5
            clear hF H4 HG HLu HG4
            go_wp2_with fail
            go_round
            case rel => exact ⟨k + 1, nw, L1, subK K se, u, bf, nb, by omega, rfl, by go_num, by have := HTb.out; have := HKl.out; unfold Hid; omega, HS5.out, HKn.out⟩
            case measure => simp [intOf]; omega
        · have hno : ¬ (se ∈ K ∧ nw < u se + 100) := fun h => hin h.1
          have hTz : timeZ T nw = nw := timeZ_now (by have := HTb.out; omega) (by have := HTb.out; omega)
          have hF := tfind_any HG.out.af.tb nw (s := se) HSe.out
          have HKp := hid (And.intro (HKp0.out.later (now := nw) (by have := HTb.out; omega)) (endL_liv nw L))
          rw [hTz] at hF
          generalize endL nw L = L1 at *
          have hq := HKp.out.1.no HKp.out.2 hno
          rw [hq, useB_not _ hq] at hF
          simp only [Option.getD_none, Option.isSome_none] at hF
          have HKn := hid (HKp.out.1.del hq)
          have HLu : Hid (∀ W', UsAt W' Mu K u → (Instr.lookup 46 (.map (some Mu)) (.int .u64 se) true).run Try.prog W' = .ok (.tuple #[.int .i64 0, .bool false]) W') := fun W' h => by
            have h1 := h.look HSe.out
            rw [if_neg hin, decide_eq_false hin] at h1
            exact h1
          clear hq hTz HKp HKp0
          clear hin
          clear hno
          go_wp2_with fail
          rw [← hw3]
          clear hsb hw3 q0 q1 q2 q3
          with_reducible refine hF.mono ?_
          rintro r w4 ⟨rfl, H4⟩
          have HG4 := hid (HG.out.tab H4.out)
          obtain ⟨y0, y1, y2, y3⟩ := HG4.out.cells
          have hlu := HLu.out _ HG4.out.us
          obtain ⟨w5, hst, hu5, hf5⟩ := HG4.out.us.drop HSe.out 0
          have HS5 := hid (HG4.out.setU hu5 hf5).out
          have HKl : Hid ((subK K se).length ≤ k + 1) := by have := subK_len HG4.out.us.nodup se; have := HTb.out; unfold Hid; omega
          clear hu5 hf5
          clear hF H4 HG HLu HG4
          go_wp2_with fail
          go_round
          case rel => exact ⟨k + 1, nw, L1, subK K se, u, bf, nb, by omega, rfl, by go_num, by have := HTb.out; have := HKl.out; unfold Hid; omega, HS5.out, HKn.out⟩
          case measure => simp [intOf]; omega
      · have HTb : Hid (0 ≤ T ∧ T ≤ 1000 * k ∧ K.length ≤ k ∧ nb ≤ k ∧ k < 150 ∧ T ≤ T ∧ T ≤ 1000 * (k + 1)) := by have := HTb0.out; unfold Hid; omega
        clear HTb0
        by_cases hin : se ∈ K
        · by_cases hlt : T < u se + 100
          · skip
            have hTz : timeZ T T = T := timeZ_now (by have := HTb.out; omega) (by have := HTb.out; omega)
            have hF := tfind_any HG.out.af.tb T (s := se) HSe.out
            have HKp := hid (And.intro (HKp0.out.later (now := T) (by have := HTb.out; omega)) (endL_liv T L))
            rw [hTz] at hF
            generalize endL T L = L1 at *
            have hq := HKp.out.1.yes hin hlt
            rw [hq] at hF
            simp only [Option.getD_some, Option.isSome_some] at hF
            have HKn := hid (HKp.out.1.use (by have := HTb.out; omega) hin hlt)
            have HUb := hid (HKp.out.1.ub se hin)
            obtain ⟨ua, Hua⟩ : ∃ ua, Hid (u se = ua) := ⟨_, rfl⟩
            obtain ⟨br, Hbr⟩ : ∃ br, Hid (bf se = br) := ⟨_, rfl⟩
            have HLu : Hid (∀ W', UsAt W' Mu K u → (Instr.lookup 46 (.map (some Mu)) (.int .u64 se) true).run Try.prog W' = .ok (.tuple #[.int .i64 ua, .bool true]) W') := fun W' h => by
              have h1 := h.look HSe.out
              rw [if_pos hin, decide_eq_true hin, Hua.out] at h1
              exact h1
            have HLb : Hid (∀ W' m, BoAt W' Mb m bf → (Instr.lookup 45 (.map (some Mb)) (.int .u64 se) false).run Try.prog W' = .ok (.int .u64 br) W') := fun W' m h => by
              have h1 := h.look HSe.out
              rw [Hbr.out] at h1
              exact h1
            rw [Hbr.out] at hF
            rw [Hua.out] at hlt HUb
            have hw1 : IntKind.i64.wrap (ua + 100) = ua + 100 := by have := HUb.out; have := HTb.out; exact wrap64_in (by omega) (by omega)
            have d1 : decide (T < ua + 100) = true := decide_eq_true hlt
            have hua : -9223372036854775808 ≤ ua ∧ ua ≤ 9223372036854000000 := by have := HUb.out; have := HTb.out; omega
            clear hq hTz HKp HKp0
            clear Hua HUb hlt
            clear Hbr
            clear hin
            go_wp2_with fail
            rw [← hw3]
            clear hsb hw3 q0 q1 q2 q3
            with_reducible refine hF.mono ?_
            rintro r w4 ⟨rfl, H4⟩
            have HG4 := hid (HG.out.tab H4.out)
            obtain ⟨y0, y1, y2, y3⟩ := HG4.out.cells
            have hlu := HLu.out _ HG4.out.us
            have hlb := HLb.out _ _ HG4.out.bo
            obtain ⟨w5, hst, hu5, hf5⟩ := HG4.out.us.store (by have := HTb.out; omega) HSe.out T
            have HS5 := hid (HG4.out.setU hu5 hf5).out
            have HKl : Hid ((addK K se).length ≤ k + 1) := by have := addK_len K se; have := HTb.out; unfold Hid; omega
            clear hu5 hf5 HLb
            clear hF H4 HG HLu HG4
            go_wp2_with fail
            go_round
            case rel => exact ⟨k + 1, T, useB L1 se (T + 100), addK K se, upd u se T, bf, nb, by omega, rfl, by go_num, by have := HTb.out; have := HKl.out; unfold Hid; omega, HS5.out, HKn.out⟩
            case measure => simp [intOf]; omega
          · have hno : ¬ (se ∈ K ∧ T < u se + 100) := fun h => hlt h.2
            have hTz : timeZ T T = T := timeZ_now (by have := HTb.out; omega) (by have := HTb.out; omega)
            have hF := tfind_any HG.out.af.tb T (s := se) HSe.out
            have HKp := hid (And.intro (HKp0.out.later (now := T) (by have := HTb.out; omega)) (endL_liv T L))
            rw [hTz] at hF
            generalize endL T L = L1 at *
            have hq := HKp.out.1.no HKp.out.2 hno
            rw [hq, useB_not _ hq] at hF
            simp only [Option.getD_none, Option.isSome_none] at hF
            have HKn := hid (HKp.out.1.del hq)
            have HUb := hid (HKp.out.1.ub se hin)
            obtain ⟨ua, Hua⟩ : ∃ ua, Hid (u se = ua) := ⟨_, rfl⟩
            have HLu : Hid (∀ W', UsAt W' Mu K u → (Instr.lookup 46 (.map (some Mu)) (.int .u64 se) true).run Try.prog W' = .ok (.tuple #[.int .i64 ua, .bool true]) W') := fun W' h => by
              have h1 := h.look HSe.out
              rw [if_pos hin, decide_eq_true hin, Hua.out] at h1
              exact h1
            rw [Hua.out] at hlt HUb
            have hw1 : IntKind.i64.wrap (ua + 100) = ua + 100 := by have := HUb.out; have := HTb.out; exact wrap64_in (by omega) (by omega)
            have d1 : decide (T < ua + 100) = false := decide_eq_false hlt
            have hua : -9223372036854775808 ≤ ua ∧ ua ≤ 9223372036854000000 := by have := HUb.out; have := HTb.out; omega
            clear hq hTz HKp HKp0
            clear Hua HUb hlt
            clear hin
            clear hno
            go_wp2_with fail
            rw [← hw3]
            clear hsb hw3 q0 q1 q2 q3
            with_reducible refine hF.mono ?_
            rintro r w4 ⟨rfl, H4⟩
            have HG4 := hid (HG.out.tab H4.out)
            obtain ⟨y0, y1, y2, y3⟩ := HG4.out.cells
            have hlu := HLu.out _ HG4.out.us
            obtain ⟨w5, hst, hu5, hf5⟩ := HG4.out.us.drop HSe.out 0
            have HS5 := hid (HG4.out.setU hu5 hf5).out
            have HKl : Hid ((subK K se).length ≤ k + 1) := by have := subK_len HG4.out.us.nodup se; have := HTb.out; unfold Hid; omega
            clear hu5 hf5
            clear hF H4 HG HLu HG4
            go_wp2_with fail
            go_round
            case rel => exact ⟨k + 1, T, L1, subK K se, u, bf, nb, by omega, rfl, by go_num, by have := HTb.out; have := HKl.out; unfold Hid; omega, HS5.out, HKn.out⟩
            case measure => simp [intOf]; omega
        · have hno : ¬ (se ∈ K ∧ T < u se + 100) := fun h => hin h.1
          have hTz : timeZ T T = T := timeZ_now (by have := HTb.out; omega) (by have := HTb.out; omega)
          have hF := tfind_any HG.out.af.tb T (s := se) HSe.out
          have HKp := hid (And.intro (HKp0.out.later (now := T) (by have := HTb.out; omega)) (endL_liv T L))
          rw [hTz] at hF
          generalize endL T L = L1 at *
          have hq := HKp.out.1.no HKp.out.2 hno
          rw [hq, useB_not _ hq] at hF
          simp only [Option.getD_none, Option.isSome_none] at hF
          have HKn := hid (HKp.out.1.del hq)
          have HLu : Hid (∀ W', UsAt W' Mu K u → (Instr.lookup 46 (.map (some Mu)) (.int .u64 se) true).run Try.prog W' = .ok (.tuple #[.int .i64 0, .bool false]) W') := fun W' h => by
            have h1 := h.look HSe.out
            rw [if_neg hin, decide_eq_false hin] at h1
            exact h1
          clear hq hTz HKp HKp0
          clear hin
          clear hno
          go_wp2_with fail
          rw [← hw3]
          clear hsb hw3 q0 q1 q2 q3
          with_reducible refine hF.mono ?_
          rintro r w4 ⟨rfl, H4⟩
          have HG4 := hid (HG.out.tab H4.out)
          obtain ⟨y0, y1, y2, y3⟩ := HG4.out.cells
          have hlu := HLu.out _ HG4.out.us
          obtain ⟨w5, hst, hu5, hf5⟩ := HG4.out.us.drop HSe.out 0
          have HS5 := hid (HG4.out.setU hu5 hf5).out
          have HKl : Hid ((subK K se).length ≤ k + 1) := by have := subK_len HG4.out.us.nodup se; have := HTb.out; unfold Hid; omega
          clear hu5 hf5
          clear hF H4 HG HLu HG4
          go_wp2_with fail
          go_round
          case rel => exact ⟨k + 1, T, L1, subK K se, u, bf, nb, by omega, rfl, by go_num, by have := HTb.out; have := HKl.out; unfold Hid; omega, HS5.out, HKn.out⟩
          case measure => simp [intOf]; omega
      · have HTb : Hid (0 ≤ T ∧ T ≤ 1000 * k ∧ K.length ≤ k ∧ nb ≤ k ∧ k < 150 ∧ T ≤ T ∧ T ≤ 1000 * (k + 1)) := by have := HTb0.out; unfold Hid; omega
        clear HTb0
        by_cases hin : se ∈ K
        · by_cases hlt : T < u se + 100
          · skip
            have hTz : timeZ T T = T := timeZ_now (by have := HTb.out; omega) (by have := HTb.out; omega)
            have hF := tfind_any HG.out.af.tb T (s := se) HSe.out
            have HKp := hid (And.intro (HKp0.out.later (now := T) (by have := HTb.out; omega)) (endL_liv T L))
            rw [hTz] at hF
            generalize endL T L = L1 at *
            have hq := HKp.out.1.yes hin hlt
            rw [hq] at hF
            simp only [Option.getD_some, Option.isSome_some] at hF
            have HKn := hid (HKp.out.1.use (by have := HTb.out; omega) hin hlt)
            have HUb := hid (HKp.out.1.ub se hin)
            obtain ⟨ua, Hua⟩ : ∃ ua, Hid (u se = ua) := ⟨_, rfl⟩
            obtain ⟨br, Hbr⟩ : ∃ br, Hid (bf se = br) := ⟨_, rfl⟩
            have HLu : Hid (∀ W', UsAt W' Mu K u → (Instr.lookup 46 (.map (some Mu)) (.int .u64 se) true).run Try.prog W' = .ok (.tuple #[.int .i64 ua, .bool true]) W') := fun W' h => by
              have h1 := h.look HSe.out
              rw [if_pos hin, decide_eq_true hin, Hua.out] at h1
              exact h1
            have HLb : Hid (∀ W' m, BoAt W' Mb m bf → (Instr.lookup 45 (.map (some Mb)) (.int .u64 se) false).run Try.prog W' = .ok (.int .u64 br) W') := fun W' m h => by
              have h1 := h.look HSe.out
              rw [Hbr.out] at h1
              exact h1
            rw [Hbr.out] at hF
            rw [Hua.out] at hlt HUb
            have hw1 : IntKind.i64.wrap (ua + 100) = ua + 100 := by have := HUb.out; have := HTb.out; exact wrap64_in (by omega) (by omega)
            have d1 : decide (T < ua + 100) = true := decide_eq_true hlt
            have hua : -9223372036854775808 ≤ ua ∧ ua ≤ 9223372036854000000 := by have := HUb.out; have := HTb.out; omega
            clear hq hTz HKp HKp0
            clear Hua HUb hlt
            clear Hbr
            clear hin
            go_wp2_with fail
            rw [← hw3]
            clear hsb hw3 q0 q1 q2 q3
            with_reducible refine hF.mono ?_
            rintro r w4 ⟨rfl, H4⟩
            have HG4 := hid (HG.out.tab H4.out)
            obtain ⟨y0, y1, y2, y3⟩ := HG4.out.cells
            have hlu := HLu.out _ HG4.out.us
            have hlb := HLb.out _ _ HG4.out.bo
            obtain ⟨w5, hst, hu5, hf5⟩ := HG4.out.us.store (by have := HTb.out; omega) HSe.out T
            have HS5 := hid (HG4.out.setU hu5 hf5).out
            have HKl : Hid ((addK K se).length ≤ k + 1) := by have := addK_len K se; have := HTb.out; unfold Hid; omega
            clear hu5 hf5 HLb
            clear hF H4 HG HLu HG4
            go_wp2_with fail
            go_round
            case rel => exact ⟨k + 1, T, useB L1 se (T + 100), addK K se, upd u se T, bf, nb, by omega, rfl, by go_num, by have := HTb.out; have := HKl.out; unfold Hid; omega, HS5.out, HKn.out⟩
            case measure => simp [intOf]; omega
          · have hno : ¬ (se ∈ K ∧ T < u se + 100) := fun h => hlt h.2
            have hTz : timeZ T T = T := timeZ_now (by have := HTb.out; omega) (by have := HTb.out; omega)
            have hF := tfind_any HG.out.af.tb T (s := se) HSe.out
            have HKp := hid (And.intro (HKp0.out.later (now := T) (by have := HTb.out; omega)) (endL_liv T L))
            rw [hTz] at hF
            generalize endL T L = L1 at *
            have hq := HKp.out.1.no HKp.out.2 hno
            rw [hq, useB_not _ hq] at hF
            simp only [Option.getD_none, Option.isSome_none] at hF
            have HKn := hid (HKp.out.1.del hq)
            have HUb := hid (HKp.out.1.ub se hin)
            obtain ⟨ua, Hua⟩ : ∃ ua, Hid (u se = ua) := ⟨_, rfl⟩
            have HLu : Hid (∀ W', UsAt W' Mu K u → (Instr.lookup 46 (.map (some Mu)) (.int .u64 se) true).run Try.prog W' = .ok (.tuple #[.int .i64 ua, .bool true]) W') := fun W' h => by
              have h1 := h.look HSe.out
              rw [if_pos hin, decide_eq_true hin, Hua.out] at h1
              exact h1
            rw [Hua.out] at hlt HUb
            have hw1 : IntKind.i64.wrap (ua + 100) = ua + 100 := by have := HUb.out; have := HTb.out; exact wrap64_in (by omega) (by omega)
            have d1 : decide (T < ua + 100) = false := decide_eq_false hlt
            have hua : -9223372036854775808 ≤ ua ∧ ua ≤ 9223372036854000000 := by have := HUb.out; have := HTb.out; omega
            clear hq hTz HKp HKp0
            clear Hua HUb hlt
            clear hin
            clear hno
            go_wp2_with fail
            rw [← hw3]
            clear hsb hw3 q0 q1 q2 q3
            with_reducible refine hF.mono ?_
            rintro r w4 ⟨rfl, H4⟩
            have HG4 := hid (HG.out.tab H4.out)
            obtain ⟨y0, y1, y2, y3⟩ := HG4.out.cells
            have hlu := HLu.out _ HG4.out.us
            obtain ⟨w5, hst, hu5, hf5⟩ := HG4.out.us.drop HSe.out 0
            have HS5 := hid (HG4.out.setU hu5 hf5).out
            have HKl : Hid ((subK K se).length ≤ k + 1) := by have := subK_len HG4.out.us.nodup se; have := HTb.out; unfold Hid; omega
            clear hu5 hf5
            clear hF H4 HG HLu HG4
            go_wp2_with fail
            go_round
            case rel => exact ⟨k + 1, T, L1, subK K se, u, bf, nb, by omega, rfl, by go_num, by have := HTb.out; have := HKl.out; unfold Hid; omega, HS5.out, HKn.out⟩
            case measure => simp [intOf]; omega
        · have hno : ¬ (se ∈ K ∧ T < u se + 100) := fun h => hin h.1
          have hTz : timeZ T T = T := timeZ_now (by have := HTb.out; omega) (by have := HTb.out; omega)
          have hF := tfind_any HG.out.af.tb T (s := se) HSe.out
          have HKp := hid (And.intro (HKp0.out.later (now := T) (by have := HTb.out; omega)) (endL_liv T L))
          rw [hTz] at hF
          generalize endL T L = L1 at *
          have hq := HKp.out.1.no HKp.out.2 hno
          rw [hq, useB_not _ hq] at hF
          simp only [Option.getD_none, Option.isSome_none] at hF
          have HKn := hid (HKp.out.1.del hq)
          have HLu : Hid (∀ W', UsAt W' Mu K u → (Instr.lookup 46 (.map (some Mu)) (.int .u64 se) true).run Try.prog W' = .ok (.tuple #[.int .i64 0, .bool false]) W') := fun W' h => by
            have h1 := h.look HSe.out
            rw [if_neg hin, decide_eq_false hin] at h1
            exact h1
          clear hq hTz HKp HKp0
          clear hin
          clear hno
          go_wp2_with fail
          rw [← hw3]
          clear hsb hw3 q0 q1 q2 q3
          with_reducible refine hF.mono ?_
          rintro r w4 ⟨rfl, H4⟩
          have HG4 := hid (HG.out.tab H4.out)
          obtain ⟨y0, y1, y2, y3⟩ := HG4.out.cells
          have hlu := HLu.out _ HG4.out.us
          obtain ⟨w5, hst, hu5, hf5⟩ := HG4.out.us.drop HSe.out 0
          have HS5 := hid (HG4.out.setU hu5 hf5).out
          have HKl : Hid ((subK K se).length ≤ k + 1) := by have := subK_len HG4.out.us.nodup se; have := HTb.out; unfold Hid; omega
          clear hu5 hf5
          clear hF H4 HG HLu HG4
          go_wp2_with fail
          go_round
          case rel => exact ⟨k + 1, T, L1, subK K se, u, bf, nb, by omega, rfl, by go_num, by have := HTb.out; have := HKl.out; unfold Hid; omega, HS5.out, HKn.out⟩
          case measure => simp [intOf]; omega
    · have h1' : (rr == 1) = false := by simpa using h1
      rcases hla with ⟨l1, l2⟩ | ⟨l1, l2⟩ | l1
      · obtain ⟨nw, Hnw⟩ : ∃ nw, Hid (T + la = nw) := ⟨_, rfl⟩
        have hwn : IntKind.i64.wrap (T + la) = nw := by rw [Hnw.out]; have := Hnw.out; have := HTb0.out; exact wrap64_in (by omega) (by omega)
        have HTb : Hid (0 ≤ T ∧ T ≤ 1000 * k ∧ K.length ≤ k ∧ nb ≤ k ∧ k < 150 ∧ T ≤ nw ∧ nw ≤ 1000 * (k + 1)) := by have := Hnw.out; have := HTb0.out; unfold Hid; omega
        clear Hnw HTb0
        have hTz : timeZ T nw = nw := timeZ_now (by have := HTb.out; omega) (by have := HTb.out; omega)
        have hTz2 : timeZ nw nw = nw := timeZ_now (Int.le_refl _) (by have := HTb.out; omega)
        have hB := tbind_any HG.out.af.tb nw (s := se) (r := rp) HSe.out HRp.out
        have HKp := hid (And.intro (HKp0.out.later (now := nw) (by have := HTb.out; omega)) (endL_liv nw L))
        rw [hTz] at hB
        generalize endL nw L = L1 at *
        have HBd : Hid (∀ L', BindP 1024 L1 ⟨se, rp, nw + 100⟩ L' → KpS nw L' (addK K se) (upd u se nw) (upd bf se rp) ∧ endL nw L' = L' ∧ L'.length ≤ (addK K se).length) := fun L' hp => by
          have h1 := HKp.out.1.bind (by have := HTb.out; omega) hp (by have := HKp.out.1.len; have := HTb.out; omega) HKp.out.2
          exact ⟨h1.1, endL_all h1.2, h1.1.len⟩
        clear hTz HKp HKp0
        go_wp2_with fail
        rw [← hw3]
        clear hsb hw3 q0 q1 q2 q3
        with_reducible refine hB.mono ?_
        rintro r w4 ⟨rfl, H4⟩
        obtain ⟨L2, hp4, ho4⟩ := H4.out
        have HB4 := hid (HBd.out L2 hp4)
        have HG4 := hid (HG.out.tab ho4)
        obtain ⟨y0, y1, y2, y3⟩ := HG4.out.cells
        obtain ⟨w5, hst5, hb5, hf5⟩ := HG4.out.bo.store (by have := HTb.out; omega) HSe.out rp
        have HG5 := hid (HG4.out.setB hb5 hf5)
        obtain ⟨z0, z1, z2, z3⟩ := HG5.out.cells
        obtain ⟨w6, hst6, hu6, hf6⟩ := HG5.out.us.store (by have := HTb.out; omega) HSe.out nw
        have HG6 := hid (HG5.out.setU hu6 hf6)
        have hLe := tlen_any HG6.out.af.tb nw
        rw [hTz2, HB4.out.2.1] at hLe
        have HKl : Hid ((addK K se).length ≤ k + 1) := by have := addK_len K se; have := HTb.out; unfold Hid; omega
        obtain ⟨ll, Hll⟩ : ∃ ll, Hid (L2.length = ll) := ⟨_, rfl⟩
        obtain ⟨kl, Hkl⟩ : ∃ kl, Hid ((addK K se).length = kl) := ⟨_, rfl⟩
        have hcmp : ¬ (kl : Int) < (ll : Int) := by have := HB4.out.2.2; rw [Hll.out, Hkl.out] at this; omega
        have hcmp2 : ¬ kl < ll := by omega
        rw [Hll.out] at hLe
        clear hB H4 hp4 ho4 HG HG4 HG5 hb5 hf5 hu6 hf6 HBd hTz2
        go_wp2_with fail
        with_reducible refine hLe.mono ?_
        rintro r w7 ⟨rfl, H7⟩
        have HG7 := hid (HG6.out.tab H7.out)
        have hlen := fun ty => HG7.out.us.len ty
        rw [Hkl.out] at hlen
        have HS7 := hid HG7.out.out
        clear hLe H7 HG6 HG7
        go_wp2_with fail
        go_round
        case rel => exact ⟨k + 1, nw, L2, addK K se, upd u se nw, upd bf se rp, nb + 1, by omega, rfl, by go_num, by have := HTb.out; have := HKl.out; unfold Hid; omega, HS7.out, HB4.out.1⟩
        case measure => simp [intOf]; omega
      · have HTb : Hid (0 ≤ T ∧ T ≤ 1000 * k ∧ K.length ≤ k ∧ nb ≤ k ∧ k < 150 ∧ T ≤ T ∧ T ≤ 1000 * (k + 1)) := by have := HTb0.out; unfold Hid; omega
        clear HTb0
        have hTz : timeZ T T = T := timeZ_now (by have := HTb.out; omega) (by have := HTb.out; omega)
        have hTz2 : timeZ T T = T := timeZ_now (Int.le_refl _) (by have := HTb.out; omega)
        have hB := tbind_any HG.out.af.tb T (s := se) (r := rp) HSe.out HRp.out
        have HKp := hid (And.intro (HKp0.out.later (now := T) (by have := HTb.out; omega)) (endL_liv T L))
        rw [hTz] at hB
        generalize endL T L = L1 at *
        have HBd : Hid (∀ L', BindP 1024 L1 ⟨se, rp, T + 100⟩ L' → KpS T L' (addK K se) (upd u se T) (upd bf se rp) ∧ endL T L' = L' ∧ L'.length ≤ (addK K se).length) := fun L' hp => by
          have h1 := HKp.out.1.bind (by have := HTb.out; omega) hp (by have := HKp.out.1.len; have := HTb.out; omega) HKp.out.2
          exact ⟨h1.1, endL_all h1.2, h1.1.len⟩
        clear hTz HKp HKp0
        go_wp2_with fail
        rw [← hw3]
        clear hsb hw3 q0 q1 q2 q3
        with_reducible refine hB.mono ?_
        rintro r w4 ⟨rfl, H4⟩
        obtain ⟨L2, hp4, ho4⟩ := H4.out
        have HB4 := hid (HBd.out L2 hp4)
        have HG4 := hid (HG.out.tab ho4)
        obtain ⟨y0, y1, y2, y3⟩ := HG4.out.cells
        obtain ⟨w5, hst5, hb5, hf5⟩ := HG4.out.bo.store (by have := HTb.out; omega) HSe.out rp
        have HG5 := hid (HG4.out.setB hb5 hf5)
        obtain ⟨z0, z1, z2, z3⟩ := HG5.out.cells
        obtain ⟨w6, hst6, hu6, hf6⟩ := HG5.out.us.store (by have := HTb.out; omega) HSe.out T
        have HG6 := hid (HG5.out.setU hu6 hf6)
        have hLe := tlen_any HG6.out.af.tb T
        rw [hTz2, HB4.out.2.1] at hLe
        have HKl : Hid ((addK K se).length ≤ k + 1) := by have := addK_len K se; have := HTb.out; unfold Hid; omega
        obtain ⟨ll, Hll⟩ : ∃ ll, Hid (L2.length = ll) := ⟨_, rfl⟩
        obtain ⟨kl, Hkl⟩ : ∃ kl, Hid ((addK K se).length = kl) := ⟨_, rfl⟩
        have hcmp : ¬ (kl : Int) < (ll : Int) := by have := HB4.out.2.2; rw [Hll.out, Hkl.out] at this; omega
        have hcmp2 : ¬ kl < ll := by omega
        rw [Hll.out] at hLe
        clear hB H4 hp4 ho4 HG HG4 HG5 hb5 hf5 hu6 hf6 HBd hTz2
        go_wp2_with fail
        with_reducible refine hLe.mono ?_
        rintro r w7 ⟨rfl, H7⟩
        have HG7 := hid (HG6.out.tab H7.out)
        have hlen := fun ty => HG7.out.us.len ty
        rw [Hkl.out] at hlen
        have HS7 := hid HG7.out.out
        clear hLe H7 HG6 HG7
        go_wp2_with fail
        go_round
        case rel => exact ⟨k + 1, T, L2, addK K se, upd u se T, upd bf se rp, nb + 1, by omega, rfl, by go_num, by have := HTb.out; have := HKl.out; unfold Hid; omega, HS7.out, HB4.out.1⟩
        case measure => simp [intOf]; omega
      · have HTb : Hid (0 ≤ T ∧ T ≤ 1000 * k ∧ K.length ≤ k ∧ nb ≤ k ∧ k < 150 ∧ T ≤ T ∧ T ≤ 1000 * (k + 1)) := by have := HTb0.out; unfold Hid; omega
        clear HTb0
        have hTz : timeZ T T = T := timeZ_now (by have := HTb.out; omega) (by have := HTb.out; omega)
        have hTz2 : timeZ T T = T := timeZ_now (Int.le_refl _) (by have := HTb.out; omega)
        have hB := tbind_any HG.out.af.tb T (s := se) (r := rp) HSe.out HRp.out
        have HKp := hid (And.intro (HKp0.out.later (now := T) (by have := HTb.out; omega)) (endL_liv T L))
        rw [hTz] at hB
        generalize endL T L = L1 at *
        have HBd : Hid (∀ L', BindP 1024 L1 ⟨se, rp, T + 100⟩ L' → KpS T L' (addK K se) (upd u se T) (upd bf se rp) ∧ endL T L' = L' ∧ L'.length ≤ (addK K se).length) := fun L' hp => by
          have h1 := HKp.out.1.bind (by have := HTb.out; omega) hp (by have := HKp.out.1.len; have := HTb.out; omega) HKp.out.2
          exact ⟨h1.1, endL_all h1.2, h1.1.len⟩
        clear hTz HKp HKp0
        go_wp2_with fail
        rw [← hw3]
        clear hsb hw3 q0 q1 q2 q3
        with_reducible refine hB.mono ?_
        rintro r w4 ⟨rfl, H4⟩
        obtain ⟨L2, hp4, ho4⟩ := H4.out
        have HB4 := hid (HBd.out L2 hp4)
        have HG4 := hid (HG.out.tab ho4)
        obtain ⟨y0, y1, y2, y3⟩ := HG4.out.cells
        obtain ⟨w5, hst5, hb5, hf5⟩ := HG4.out.bo.store (by have := HTb.out; omega) HSe.out rp
        have HG5 := hid (HG4.out.setB hb5 hf5)
        obtain ⟨z0, z1, z2, z3⟩ := HG5.out.cells
        obtain ⟨w6, hst6, hu6, hf6⟩ := HG5.out.us.store (by have := HTb.out; omega) HSe.out T
        have HG6 := hid (HG5.out.setU hu6 hf6)
        have hLe := tlen_any HG6.out.af.tb T
        rw [hTz2, HB4.out.2.1] at hLe
        have HKl : Hid ((addK K se).length ≤ k + 1) := by have := addK_len K se; have := HTb.out; unfold Hid; omega
        obtain ⟨ll, Hll⟩ : ∃ ll, Hid (L2.length = ll) := ⟨_, rfl⟩
        obtain ⟨kl, Hkl⟩ : ∃ kl, Hid ((addK K se).length = kl) := ⟨_, rfl⟩
        have hcmp : ¬ (kl : Int) < (ll : Int) := by have := HB4.out.2.2; rw [Hll.out, Hkl.out] at this; omega
        have hcmp2 : ¬ kl < ll := by omega
        rw [Hll.out] at hLe
        clear hB H4 hp4 ho4 HG HG4 HG5 hb5 hf5 hu6 hf6 HBd hTz2
        go_wp2_with fail
        with_reducible refine hLe.mono ?_
        rintro r w7 ⟨rfl, H7⟩
        have HG7 := hid (HG6.out.tab H7.out)
        have hlen := fun ty => HG7.out.us.len ty
        rw [Hkl.out] at hlen
        have HS7 := hid HG7.out.out
        clear hLe H7 HG6 HG7
        go_wp2_with fail
        go_round
        case rel => exact ⟨k + 1, T, L2, addK K se, upd u se T, upd bf se rp, nb + 1, by omega, rfl, by go_num, by have := HTb.out; have := HKl.out; unfold Hid; omega, HS7.out, HB4.out.1⟩
        case measure => simp [intOf]; omega
  · have g1 : ¬ (k : Int) < (n : Int) := by omega
    have HVE := hid HS.out.1.af.bel
    clear HS HSp
    go_wp2_with fail
    with_reducible refine (alive18_any _).mono ?_
    rintro e wz ⟨rfl, HZ0⟩
    have HZ := hid (HVE.out.trans (HZ0.out.mono HVE.out.size))
    clear HZ0
    go_wp2_with fail
    go_ret
    exact ⟨rfl, HZ.out⟩

/-! ### The row's step -/
set_option maxRecDepth 1000000 in
theorem lifted (os : Os) (started : os.Started) (H : Type) (enc : TypeId × Value → H) :
    ReturnsInHanded {} Try.checked os 4 .any (Rows.affinKeepsSpec.pre6 enc Try.prog Try.f4 Rows.affinKeepsRow.domain false) (Rows.affinKeepsSpec.post enc Try.prog Try.f4 false true false false) := by
  refine returnsInHanded_of_change (C := Try.checked) own started (by kernel_rfl) Try.func4
    (ChangeSpec.witness6 (enc := enc) (C := Try.checked) false ⟨#[], #[.slice none 0 0], []⟩ 8 (by kernel_rfl) (by kernel_rfl) (by kernel_rfl) (by kernel_rfl)) ?_
  intro W base args ds gs before hval0 hW hcnd _
  have hval : ∀ (j : Nat) t v, Try.f4.params[j]? = some t → args[j]? = some v → Value.okWide Try.prog W .any base t v := hval0
  have hW' := hW
  obtain ⟨p, q, hA0, hV, rfl, hfz, hnd⟩ := hW
  have hA : DataW.TrodAll enc Try.prog W 0 (fun _ => true) true Try.f4.params.toList args.toList ds p := hA0
  rw [Try.params4] at hA hval
  obtain ⟨v0, vs0, d0, ds0, p0, q0, hargs, rfl, rfl, h0, r0⟩ := trodAll_cons hA
  obtain ⟨rfl, rfl, rfl⟩ := trodAll_nil r0
  obtain rfl : args = #[v0] := by cases args; simp_all
  obtain ⟨rfl, rfl⟩ := trodVars_none hV
  have k0 := h0
  have lt0 : ∀ x ∈ p0, x.block < W.heap.size := by obtain ⟨m, hm⟩ := k0; exact DataW.trod_lt m _ _ _ hm
  obtain ⟨a0, l0, c0, xs0, rfl, ga0⟩ := steps18_open (hval 0 22 v0 rfl rfl) h0
  clear hA0 hval0
  refine (walk a0 l0 c0 xs0 W ga0).mono fun e W' ⟨he, bel⟩ => ?_
  subst he
  exact ⟨_, rfl, _, _, _, [], _, [], hW', trodAll_mk1 (shut_bool Try.underlying4 _), (trodAll_cons_mk (Below.trod laidOut (by kernel_rfl) (of_decide_eq_true (by kernel_rfl)) k0 bel lt0) trodAll_mk0), rfl, bel.frame _, fun h => by cases h⟩

theorem over : Rows.affinKeepsRow.holds Try.pinned (OpenSpec.ofChange Rows.affinKeepsSpec) :=
  OpenClaim.holds_of_wide 4 Try.f4 rfl rfl rfl rfl rfl rfl rfl ⟨rfl, rfl, rfl, rfl, rfl⟩ rfl rfl rfl rfl rfl (by kernel_rfl) Try.func4 (by kernel_rfl)
    (of_decide_eq_true (by kernel_rfl)) (by unfold Func.isWrapper; first | (rw [if_pos (by decide +kernel)]; kernel_rfl) | (rw [if_neg (by decide +kernel)]; exact ⟨rfl, rfl⟩))
    (fun os started H enc _ => lifted os started H enc)

/-- The statement. -/
theorem proved : Rows.AffinKeepsSaid := over
#print axioms proved
end Go.Proofs.Ytfnbofhppfjmgaa.affinKeeps
