/-
  AffinPlays: a table answers every call, in every order, at every time, as the document says.
-/
import Derived.Test.YtfnbofhppfjmgaaRows
import Derived.Test.YtfnbofhppfjmgaaAfTwo
import Derived.Deep.RegionHeld3
import Derived.WalkKit
import Derived.ProofKit
import Derived.OpenShut
import Derived.ShutString
import Derived.ChangeOld
import Derived.Below
namespace Go.Proofs.Ytfnbofhppfjmgaa.affinPlays
open Go.ChangeShapes Go.WideShapes Go.ChangeAt Go.RowKit
open Go.ChangeMaps (open_string shut_string)
set_option linter.unusedVariables false

theorem own : ownKnob Try.prog.godebug = none := by kernel_rfl
theorem laidOut : laidOutB Try.prog = true := by kernel_rfl

/-! ### The walk -/
set_option maxRecDepth 1000000 in
set_option maxHeartbeats 8000000 in
theorem walk (a0 : Int) (a1 : Int) (a2 : Option Addr) (l2 c2 : Nat) (xs2 : List Sp) (w : World) (ga0 : isI a0) (ga1 : isI a1) (ga2 : Lst w a2 l2 c2 4 xs2 SpV SpIn) :
    Calls Try.prog 3 #[.int .i64 a0, .int .i64 a1, .slice a2 l2 c2] w fun e w' => e = .returned (.bool true) ∧ Below w.heap.size w w' := by
  have HSp := hid fun (W' : World) (hb : Below w.heap.size w W') => ga2.below hb
  have hSh := fun W' => short_any a2 l2 c2 W' ga2.room ga2.most
  obtain ⟨n, Hn⟩ : ∃ n, Hid (min l2 150 = n) := ⟨_, rfl⟩
  rw [Hn.out] at hSh
  have hn1 : n ≤ l2 ∧ n ≤ 150 := by have := Hn.out; omega
  have r1 := ga2.room
  have m1 := ga2.most
  have HSh := hid hSh
  clear ga2 hSh
  by_cases hno : a0 < 1 ∨ 1024 < a0 ∨ a1 < 1 ∨ 4294967296 < a1
  · have hN := tnew_no a0 a1 w hno
    have hR := rnew18_no a0 a1 w hno
    clear hno
    have HVE := hid (Below.refl w.heap.size w)
    go_enter Try.func3, Try.ntmps3
    go_wp2_with fail
    refine hN.mono ?_
    rintro r w1 ⟨rfl, rfl⟩
    clear hN
    go_wp2_with fail
    with_reducible refine hR.mono ?_
    rintro r w2 ⟨rfl, H2⟩
    have HV2 := hid (H2.out.alloc H2.out.size (.cells #[.int .i64 0, .int .i64 0, .int .i64 0, .slice none 0 0] 29))
    clear hR H2
    go_wp2_with fail
    with_reducible refine (alive18_any _).mono ?_
    rintro e wz ⟨rfl, HZ0⟩
    have HZ := hid (HV2.out.trans (HZ0.out.mono HV2.out.size))
    clear HZ0
    go_wp2_with fail
    go_ret
    exact ⟨rfl, HZ.out⟩
  · obtain ⟨rm, rfl⟩ : ∃ rm : Nat, (rm : Int) = a0 := ⟨a0.toNat, by omega⟩
    obtain ⟨keep, rfl⟩ : ∃ keep : Int, keep = a1 := ⟨a1, rfl⟩
    have hN := tnew_yes rm keep w (by omega) (by omega)
    have HR0 := hid fun (W : World) => rnew18_yes rm keep W (by omega) (by omega)
    clear hno ga0 ga1
    go_enter Try.func3, Try.ntmps3
    go_wp2_with fail
    refine hN.mono ?_
    rintro r w1 ⟨rfl, H1⟩
    have hR := HR0.out w1
    clear hN HR0
    go_wp2_with fail
    with_reducible refine hR.mono ?_
    rintro r w2 ⟨rfl, H2⟩
    clear hR
    obtain ⟨w3, hw3⟩ : ∃ w3, w3 = w2.alloc (.cells #[.int .i64 rm, .int .i64 keep, .int .i64 0, .slice none 0 0] 29) := ⟨_, rfl⟩
    have HS0 : Hid (PaS w (w.heap.size + 1) rm keep w.heap.size 0 [] w2.heap.size (.slice none 0 0) w3) := by
      have hb3 : Below w2.heap.size w2 w3 := by rw [hw3]; exact (Below.refl _ _).alloc (Nat.le_refl _) _
      have st := (AfS.new (Below.refl _ _) H1.out).below H2.out
      have hrt : ∀ k, rcF w2.heap.size (.slice none 0 0) k → k = w2.heap.size := by
        rintro k (h | h)
        · exact h
        · cases h
      refine ⟨st.below hb3, ⟨by rw [hw3]; exact heap_alloc_new w2 _, World.ownsRow_nil _ _ _ _, by simp⟩, fun k hk hr => ?_, fun k hr => ?_⟩
      · have := hrt k hr
        have := st.tb.lts hk
        omega
      · rw [hrt k hr]; exact st.bel.size
    clear H1 H2
    obtain ⟨B, HB⟩ : ∃ B, Hid (w.heap.size + 1 = B) := ⟨_, rfl⟩
    rw [HB.out] at HS0
    rw [HB.out]
    obtain ⟨B2, hB2⟩ : ∃ B2, w2.heap.size = B2 := ⟨_, rfl⟩
    rw [hB2] at HS0
    obtain ⟨M, HS1⟩ : ∃ M, Hid (PaS w B rm keep M 0 [] B2 (.slice none 0 0) w3) := ⟨_, HS0.out⟩
    clear HS0 HB
    go_wp2_with fail
    rw [← hw3]
    clear hw3 hB2
    with_reducible refine (HSh.out _).mono ?_
    rintro r w4 ⟨rfl, rfl⟩
    go_wp2_with fail
    go_loopw [58] (fun z W' => ∃ (k : Nat) (T : Int) (L : List Bd) (v : Value), k ≤ n ∧ z = .int .i64 k ∧ Hid (PaS w B rm keep M T L B2 v W')) (fun z _ => n - (intOf z).toNat)
    case atStart => exact ⟨0, 0, [], _, by omega, rfl, HS1⟩
    case round =>
    obtain ⟨k, T, L, v, hk, rfl, HS⟩ := hrel
    rename World => w3
    clear HS1
    by_cases hkl : k < n
    · have g1 : (k : Int) < (n : Int) := by omega
      obtain ⟨b, off, s, rfl, hsk, hsi, q0, q1, q2, q3⟩ := (HSp.out _ HS.out.af.bel).at (i := k) (by omega)
      obtain ⟨w4, hw4⟩ : ∃ w4, w4 = w3.alloc (.cells #[.int .u8 s.kd, .int .i64 s.later, .int .u64 s.ses, .int .u64 s.rep] 36) := ⟨_, rfl⟩
      obtain ⟨sb, hsb⟩ : ∃ sb, w3.heap.size = sb := ⟨_, rfl⟩
      have HG : Hid (PaG w B rm keep M T L B2 T v L sb s w4) := by rw [← hsb]; exact HS.out.step s hw4
      have HTb := hid HS.out.af.tb.tm
      obtain ⟨⟨kd0, kd1⟩, hla0, hse, hrp⟩ := hsi
      obtain ⟨kd, la, se, rp⟩ := s
      have HSe : Hid (isU se) := hse
      have HRp : Hid (isU rp) := hrp
      have HLa : Hid (isI la) := hla0
      clear hse hrp hla0
      simp only at kd0 kd1 q0 q1 q2 q3 hw4
      have hla1 : -9223372036854775808 ≤ la ∧ la ≤ 9223372036854775807 := HLa.out
      have hla : (-100000 < la ∧ la < 1125899906842624) ∨ (-100000 < la ∧ ¬ la < 1125899906842624) ∨ ¬ -100000 < la := by omega
      obtain ⟨y0, y1, y2, y3⟩ := HG.out.cells
      simp only at y0 y1 y2 y3
      have hrT := HG.out.rt.cells.2.2.1
      rw [hw4] at y0 y1 y2 y3 hrT
      clear hsk HS HLa
      obtain ⟨rr, hrr⟩ : ∃ rr, kd % 4 = rr := ⟨_, rfl⟩
      have hr' : kd.tmod 4 = rr := by rw [Int.tmod_eq_emod_of_nonneg kd0]; exact hrr
      have hwr : IntKind.u8.wrap rr = rr := by rw [IntKind.wrap_u8]; omega
      by_cases h1 : rr = 1
      · subst h1
        rcases hla with ⟨l1, l2⟩ | ⟨l1, l2⟩ | l1
        · obtain ⟨nw, Hnw⟩ : ∃ nw, Hid (T + la = nw) := ⟨_, rfl⟩
          have hwn : IntKind.i64.wrap (T + la) = nw := by rw [Hnw.out]; have := Hnw.out; have := HTb.out; exact wrap64_in (by omega) (by omega)
          clear Hnw HTb
          have h1 := HG.out.find1 nw HSe.out
          have HF2 : Hid (∀ (T' : Int) (L' : List Bd) (W' : World), PaG w B rm keep M T' L' B2 T v L sb ⟨kd, la, se, rp⟩ W' → Calls Try.prog 11 #[.pointer (some ⟨B2, 0, none⟩), .int .i64 nw, .int .u64 se] W' fun e w' => e = .returned (.tuple #[.int .u64 ((lk (endL (timeZ T nw) L) se).getD (0, 0)).1, .bool (lk (endL (timeZ T nw) L) se).isSome]) ∧ Hid (∃ v', PaG w B rm keep M T' L' B2 (timeZ T nw) v' (useB (endL (timeZ T nw) L) se (timeZ T nw + keep)) sb ⟨kd, la, se, rp⟩ w')) := fun T' L' W' h => h.find2 HG.out.af.tb.map.nodup HG.out.af.tb.tm nw se
          obtain ⟨T1, HT1⟩ : ∃ T1, Hid (timeZ T nw = T1) := ⟨_, rfl⟩
          have HT2 : Hid (timeZ T1 nw = T1) := by rw [← HT1.out]; exact timeZ_two T nw
          rw [HT1.out] at h1 HF2
          generalize ((lk (endL T1 L) se).getD (0, 0)).1 = fr at *
          generalize (lk (endL T1 L) se).isSome = fb at *
          generalize useB (endL T1 L) se (T1 + keep) = L1 at *
          clear HT1
          go_wp2_with fail
          rw [← hw4]
          clear hsb hw4 q0 q1 q2 q3 y0 y1 y2 y3 hrT
          with_reducible refine h1.mono ?_
          rintro r w5 ⟨rfl, H5⟩
          obtain ⟨y0, y1, y2, y3⟩ := H5.out.cells
          simp only at y0 y1 y2 y3
          have h2 := HF2.out _ _ _ H5.out
          clear h1 HF2 HG H5
          go_wp2_with fail
          with_reducible refine h2.mono ?_
          rintro r w6 ⟨rfl, H6⟩
          obtain ⟨v1, hg6⟩ := H6.out
          have HGx := hid hg6
          clear h2 H6 hg6 y0 y1 y2 y3
          cases fb
          all_goals
            obtain ⟨av, cv, rfl, rv9, mv9⟩ := HGx.out.rt.isSl
            obtain ⟨N, HN⟩ : ∃ N, Hid (L1.length = N) := ⟨_, rfl⟩
            rw [HN.out] at HGx rv9
            have HLe : Hid (∀ W' : World, PaG w B rm keep M T1 L1 B2 T1 (.slice av N cv) L1 sb ⟨kd, la, se, rp⟩ W' → Calls Try.prog 16 #[.pointer (some ⟨B, 0, none⟩), .int .i64 nw] W' fun e w' => e = .returned (.int .i64 N) ∧ Hid (PaG w B rm keep M T1 L1 B2 T1 (.slice av N cv) L1 sb ⟨kd, la, se, rp⟩ w')) := fun W' h => by rw [← HN.out] at h ⊢; exact h.len1 nw HT2.out
            have HNw : Hid (∀ W' : World, PaG w B rm keep M T1 L1 B2 T1 (.slice av N cv) L1 sb ⟨kd, la, se, rp⟩ W' → Calls Try.prog 17 #[.pointer (some ⟨B, 0, none⟩)] W' fun e w' => e = .returned (.int .i64 T1) ∧ w' = W') := fun W' h => h.now1
            have HCx : Hid (∀ W' : World, PaG w B rm keep M T1 L1 B2 T1 (.slice av N cv) L1 sb ⟨kd, la, se, rp⟩ W' → W'.cell? ⟨B2, 2, none⟩ = some (.int .i64 T1) ∧ W'.cell? ⟨B2, 3, none⟩ = some (.slice av N cv)) := fun W' h => ⟨h.rt.cells.2.2.1, h.rt.cells.2.2.2⟩
            have HGy := hid (HGx.out.below (Below.refl _ _).drew)
            clear HN HT2
            go_wp2_with fail
            go_region_held3 (fun W' : World => W'.cell? ⟨B2, 2, none⟩ = some (.int .i64 T1) ∧ W'.cell? ⟨B2, 3, none⟩ = some (.slice av N cv))
              (first | (with_reducible exact HCx.out _ HGx.out) | (with_reducible exact HCx.out _ HGy.out) | (with_reducible exact HCx.out _ HGe.out))
              (first
                | (go_at_call 16; (with_reducible refine (HLe.out _ HGy.out).mono ?_); rintro r wa ⟨rfl, H5⟩; have HGe := hid H5.out; clear H5)
                | (go_at_call 17; (with_reducible refine (HNw.out _ HGe.out).mono ?_); rintro r wb ⟨rfl, rfl⟩))
            all_goals
              have HSx := hid HGe.out.to
              clear HGx HGy HGe HLe HNw HCx
              go_wp2_with fail
              go_round
              case rel => exact ⟨k + 1, T1, L1, _, by omega, by go_num, HSx⟩
              case measure => simp [intOf]; omega
        · clear HTb
          have h1 := HG.out.find1 T HSe.out
          have HF2 : Hid (∀ (T' : Int) (L' : List Bd) (W' : World), PaG w B rm keep M T' L' B2 T v L sb ⟨kd, la, se, rp⟩ W' → Calls Try.prog 11 #[.pointer (some ⟨B2, 0, none⟩), .int .i64 T, .int .u64 se] W' fun e w' => e = .returned (.tuple #[.int .u64 ((lk (endL (timeZ T T) L) se).getD (0, 0)).1, .bool (lk (endL (timeZ T T) L) se).isSome]) ∧ Hid (∃ v', PaG w B rm keep M T' L' B2 (timeZ T T) v' (useB (endL (timeZ T T) L) se (timeZ T T + keep)) sb ⟨kd, la, se, rp⟩ w')) := fun T' L' W' h => h.find2 HG.out.af.tb.map.nodup HG.out.af.tb.tm T se
          obtain ⟨T1, HT1⟩ : ∃ T1, Hid (timeZ T T = T1) := ⟨_, rfl⟩
          have HT2 : Hid (timeZ T1 T = T1) := by rw [← HT1.out]; exact timeZ_two T T
          rw [HT1.out] at h1 HF2
          generalize ((lk (endL T1 L) se).getD (0, 0)).1 = fr at *
          generalize (lk (endL T1 L) se).isSome = fb at *
          generalize useB (endL T1 L) se (T1 + keep) = L1 at *
          clear HT1
          go_wp2_with fail
          rw [← hw4]
          clear hsb hw4 q0 q1 q2 q3 y0 y1 y2 y3 hrT
          with_reducible refine h1.mono ?_
          rintro r w5 ⟨rfl, H5⟩
          obtain ⟨y0, y1, y2, y3⟩ := H5.out.cells
          simp only at y0 y1 y2 y3
          have h2 := HF2.out _ _ _ H5.out
          clear h1 HF2 HG H5
          go_wp2_with fail
          with_reducible refine h2.mono ?_
          rintro r w6 ⟨rfl, H6⟩
          obtain ⟨v1, hg6⟩ := H6.out
          have HGx := hid hg6
          clear h2 H6 hg6 y0 y1 y2 y3
          cases fb
          all_goals
            obtain ⟨av, cv, rfl, rv9, mv9⟩ := HGx.out.rt.isSl
            obtain ⟨N, HN⟩ : ∃ N, Hid (L1.length = N) := ⟨_, rfl⟩
            rw [HN.out] at HGx rv9
            have HLe : Hid (∀ W' : World, PaG w B rm keep M T1 L1 B2 T1 (.slice av N cv) L1 sb ⟨kd, la, se, rp⟩ W' → Calls Try.prog 16 #[.pointer (some ⟨B, 0, none⟩), .int .i64 T] W' fun e w' => e = .returned (.int .i64 N) ∧ Hid (PaG w B rm keep M T1 L1 B2 T1 (.slice av N cv) L1 sb ⟨kd, la, se, rp⟩ w')) := fun W' h => by rw [← HN.out] at h ⊢; exact h.len1 T HT2.out
            have HNw : Hid (∀ W' : World, PaG w B rm keep M T1 L1 B2 T1 (.slice av N cv) L1 sb ⟨kd, la, se, rp⟩ W' → Calls Try.prog 17 #[.pointer (some ⟨B, 0, none⟩)] W' fun e w' => e = .returned (.int .i64 T1) ∧ w' = W') := fun W' h => h.now1
            have HCx : Hid (∀ W' : World, PaG w B rm keep M T1 L1 B2 T1 (.slice av N cv) L1 sb ⟨kd, la, se, rp⟩ W' → W'.cell? ⟨B2, 2, none⟩ = some (.int .i64 T1) ∧ W'.cell? ⟨B2, 3, none⟩ = some (.slice av N cv)) := fun W' h => ⟨h.rt.cells.2.2.1, h.rt.cells.2.2.2⟩
            have HGy := hid (HGx.out.below (Below.refl _ _).drew)
            clear HN HT2
            go_wp2_with fail
            go_region_held3 (fun W' : World => W'.cell? ⟨B2, 2, none⟩ = some (.int .i64 T1) ∧ W'.cell? ⟨B2, 3, none⟩ = some (.slice av N cv))
              (first | (with_reducible exact HCx.out _ HGx.out) | (with_reducible exact HCx.out _ HGy.out) | (with_reducible exact HCx.out _ HGe.out))
              (first
                | (go_at_call 16; (with_reducible refine (HLe.out _ HGy.out).mono ?_); rintro r wa ⟨rfl, H5⟩; have HGe := hid H5.out; clear H5)
                | (go_at_call 17; (with_reducible refine (HNw.out _ HGe.out).mono ?_); rintro r wb ⟨rfl, rfl⟩))
            all_goals
              have HSx := hid HGe.out.to
              clear HGx HGy HGe HLe HNw HCx
              go_wp2_with fail
              go_round
              case rel => exact ⟨k + 1, T1, L1, _, by omega, by go_num, HSx⟩
              case measure => simp [intOf]; omega
        · clear HTb
          have h1 := HG.out.find1 T HSe.out
          have HF2 : Hid (∀ (T' : Int) (L' : List Bd) (W' : World), PaG w B rm keep M T' L' B2 T v L sb ⟨kd, la, se, rp⟩ W' → Calls Try.prog 11 #[.pointer (some ⟨B2, 0, none⟩), .int .i64 T, .int .u64 se] W' fun e w' => e = .returned (.tuple #[.int .u64 ((lk (endL (timeZ T T) L) se).getD (0, 0)).1, .bool (lk (endL (timeZ T T) L) se).isSome]) ∧ Hid (∃ v', PaG w B rm keep M T' L' B2 (timeZ T T) v' (useB (endL (timeZ T T) L) se (timeZ T T + keep)) sb ⟨kd, la, se, rp⟩ w')) := fun T' L' W' h => h.find2 HG.out.af.tb.map.nodup HG.out.af.tb.tm T se
          obtain ⟨T1, HT1⟩ : ∃ T1, Hid (timeZ T T = T1) := ⟨_, rfl⟩
          have HT2 : Hid (timeZ T1 T = T1) := by rw [← HT1.out]; exact timeZ_two T T
          rw [HT1.out] at h1 HF2
          generalize ((lk (endL T1 L) se).getD (0, 0)).1 = fr at *
          generalize (lk (endL T1 L) se).isSome = fb at *
          generalize useB (endL T1 L) se (T1 + keep) = L1 at *
          clear HT1
          go_wp2_with fail
          rw [← hw4]
          clear hsb hw4 q0 q1 q2 q3 y0 y1 y2 y3 hrT
          with_reducible refine h1.mono ?_
          rintro r w5 ⟨rfl, H5⟩
          obtain ⟨y0, y1, y2, y3⟩ := H5.out.cells
          simp only at y0 y1 y2 y3
          have h2 := HF2.out _ _ _ H5.out
          clear h1 HF2 HG H5
          go_wp2_with fail
          with_reducible refine h2.mono ?_
          rintro r w6 ⟨rfl, H6⟩
          obtain ⟨v1, hg6⟩ := H6.out
          have HGx := hid hg6
          clear h2 H6 hg6 y0 y1 y2 y3
          cases fb
          all_goals
            obtain ⟨av, cv, rfl, rv9, mv9⟩ := HGx.out.rt.isSl
            obtain ⟨N, HN⟩ : ∃ N, Hid (L1.length = N) := ⟨_, rfl⟩
            rw [HN.out] at HGx rv9
            have HLe : Hid (∀ W' : World, PaG w B rm keep M T1 L1 B2 T1 (.slice av N cv) L1 sb ⟨kd, la, se, rp⟩ W' → Calls Try.prog 16 #[.pointer (some ⟨B, 0, none⟩), .int .i64 T] W' fun e w' => e = .returned (.int .i64 N) ∧ Hid (PaG w B rm keep M T1 L1 B2 T1 (.slice av N cv) L1 sb ⟨kd, la, se, rp⟩ w')) := fun W' h => by rw [← HN.out] at h ⊢; exact h.len1 T HT2.out
            have HNw : Hid (∀ W' : World, PaG w B rm keep M T1 L1 B2 T1 (.slice av N cv) L1 sb ⟨kd, la, se, rp⟩ W' → Calls Try.prog 17 #[.pointer (some ⟨B, 0, none⟩)] W' fun e w' => e = .returned (.int .i64 T1) ∧ w' = W') := fun W' h => h.now1
            have HCx : Hid (∀ W' : World, PaG w B rm keep M T1 L1 B2 T1 (.slice av N cv) L1 sb ⟨kd, la, se, rp⟩ W' → W'.cell? ⟨B2, 2, none⟩ = some (.int .i64 T1) ∧ W'.cell? ⟨B2, 3, none⟩ = some (.slice av N cv)) := fun W' h => ⟨h.rt.cells.2.2.1, h.rt.cells.2.2.2⟩
            have HGy := hid (HGx.out.below (Below.refl _ _).drew)
            clear HN HT2
            go_wp2_with fail
            go_region_held3 (fun W' : World => W'.cell? ⟨B2, 2, none⟩ = some (.int .i64 T1) ∧ W'.cell? ⟨B2, 3, none⟩ = some (.slice av N cv))
              (first | (with_reducible exact HCx.out _ HGx.out) | (with_reducible exact HCx.out _ HGy.out) | (with_reducible exact HCx.out _ HGe.out))
              (first
                | (go_at_call 16; (with_reducible refine (HLe.out _ HGy.out).mono ?_); rintro r wa ⟨rfl, H5⟩; have HGe := hid H5.out; clear H5)
                | (go_at_call 17; (with_reducible refine (HNw.out _ HGe.out).mono ?_); rintro r wb ⟨rfl, rfl⟩))
            all_goals
              have HSx := hid HGe.out.to
              clear HGx HGy HGe HLe HNw HCx
              go_wp2_with fail
              go_round
              case rel => exact ⟨k + 1, T1, L1, _, by omega, by go_num, HSx⟩
              case measure => simp [intOf]; omega
      · by_cases h2 : rr = 2
        · subst h2
          rcases hla with ⟨l1, l2⟩ | ⟨l1, l2⟩ | l1
          · obtain ⟨nw, Hnw⟩ : ∃ nw, Hid (T + la = nw) := ⟨_, rfl⟩
            have hwn : IntKind.i64.wrap (T + la) = nw := by rw [Hnw.out]; have := Hnw.out; have := HTb.out; exact wrap64_in (by omega) (by omega)
            clear Hnw HTb
            have HF1 : Hid (∀ (W' : World), PaG w B rm keep M T L B2 T v L sb ⟨kd, la, se, rp⟩ W' → Calls Try.prog 12 #[.pointer (some ⟨B, 0, none⟩), .int .i64 nw, .int .u64 rp] W' fun e w' => e = .returned (.int .i64 (((endL (timeZ T nw) L).length : Int) - (forB (endL (timeZ T nw) L) rp).length)) ∧ Hid (PaG w B rm keep M (timeZ T nw) (forB (endL (timeZ T nw) L) rp) B2 T v L sb ⟨kd, la, se, rp⟩ w')) := fun W' h => h.forget1 nw rp
            have HF2 : Hid (∀ (T' : Int) (L' : List Bd) (W' : World), PaG w B rm keep M T' L' B2 T v L sb ⟨kd, la, se, rp⟩ W' → Calls Try.prog 13 #[.pointer (some ⟨B2, 0, none⟩), .int .i64 nw, .int .u64 rp] W' fun e w' => e = .returned (.int .i64 (((endL (timeZ T nw) L).length : Int) - (forB (endL (timeZ T nw) L) rp).length)) ∧ Hid (∃ v', PaG w B rm keep M T' L' B2 (timeZ T nw) v' (forB (endL (timeZ T nw) L) rp) sb ⟨kd, la, se, rp⟩ w')) := fun T' L' W' h => h.forget2 nw rp
            obtain ⟨T1, HT1⟩ : ∃ T1, Hid (timeZ T nw = T1) := ⟨_, rfl⟩
            have HT2 : Hid (timeZ T1 nw = T1) := by rw [← HT1.out]; exact timeZ_two T nw
            rw [HT1.out] at HF1 HF2
            generalize ((endL T1 L).length : Int) - (forB (endL T1 L) rp).length = fr at *
            generalize forB (endL T1 L) rp = L1 at *
            have HC0 : Hid (∀ (T' : Int) (L' : List Bd) (T2 : Int) (v' : Value) (L2 : List Bd) (W' : World), PaG w B rm keep M T' L' B2 T2 v' L2 sb ⟨kd, la, se, rp⟩ W' → W'.cell? ⟨sb, 3, none⟩ = some (.int .u64 rp)) := fun _ _ _ _ _ W' h => h.cells.2.2.2
            have HGd := hid (HG.out.below (Below.refl _ _).drew)
            clear HT1
            go_wp2_with fail
            rw [← hw4]
            clear hsb hw4 q0 q1 q2 q3 y0 y1 y2 y3 hrT
            go_region_held3 (fun W' : World => W'.cell? ⟨sb, 3, none⟩ = some (.int .u64 rp))
              (first | (with_reducible exact HC0.out _ _ _ _ _ _ HG.out) | (with_reducible exact HC0.out _ _ _ _ _ _ HGd.out) | (with_reducible exact HC0.out _ _ _ _ _ _ HG1.out) | (with_reducible exact HC0.out _ _ _ _ _ _ HG2.out))
              (first
                | (go_at_call 12; (with_reducible refine (HF1.out _ HGd.out).mono ?_); rintro r x1 ⟨rfl, H5⟩; have HG1 := hid H5.out; clear H5)
                | (go_at_call 13; (with_reducible refine (HF2.out _ _ _ HG1.out).mono ?_); rintro r x2 ⟨rfl, H5⟩; obtain ⟨v1, hg2⟩ := H5.out; have HG2 := hid hg2; clear H5 hg2))
            all_goals
              have HGx := hid HG2.out
              clear HG HGd HG1 HG2 HF1 HF2 HC0
              obtain ⟨av, cv, rfl, rv9, mv9⟩ := HGx.out.rt.isSl
              obtain ⟨N, HN⟩ : ∃ N, Hid (L1.length = N) := ⟨_, rfl⟩
              rw [HN.out] at HGx rv9
              have HLe : Hid (∀ W' : World, PaG w B rm keep M T1 L1 B2 T1 (.slice av N cv) L1 sb ⟨kd, la, se, rp⟩ W' → Calls Try.prog 16 #[.pointer (some ⟨B, 0, none⟩), .int .i64 nw] W' fun e w' => e = .returned (.int .i64 N) ∧ Hid (PaG w B rm keep M T1 L1 B2 T1 (.slice av N cv) L1 sb ⟨kd, la, se, rp⟩ w')) := fun W' h => by rw [← HN.out] at h ⊢; exact h.len1 nw HT2.out
              have HNw : Hid (∀ W' : World, PaG w B rm keep M T1 L1 B2 T1 (.slice av N cv) L1 sb ⟨kd, la, se, rp⟩ W' → Calls Try.prog 17 #[.pointer (some ⟨B, 0, none⟩)] W' fun e w' => e = .returned (.int .i64 T1) ∧ w' = W') := fun W' h => h.now1
              have HCx : Hid (∀ W' : World, PaG w B rm keep M T1 L1 B2 T1 (.slice av N cv) L1 sb ⟨kd, la, se, rp⟩ W' → W'.cell? ⟨B2, 2, none⟩ = some (.int .i64 T1) ∧ W'.cell? ⟨B2, 3, none⟩ = some (.slice av N cv)) := fun W' h => ⟨h.rt.cells.2.2.1, h.rt.cells.2.2.2⟩
              have HGy := hid (HGx.out.below (Below.refl _ _).drew)
              clear HN HT2
              go_wp2_with fail
              go_region_held3 (fun W' : World => W'.cell? ⟨B2, 2, none⟩ = some (.int .i64 T1) ∧ W'.cell? ⟨B2, 3, none⟩ = some (.slice av N cv))
                (first | (with_reducible exact HCx.out _ HGx.out) | (with_reducible exact HCx.out _ HGy.out) | (with_reducible exact HCx.out _ HGe.out))
                (first
                  | (go_at_call 16; (with_reducible refine (HLe.out _ HGy.out).mono ?_); rintro r wa ⟨rfl, H5⟩; have HGe := hid H5.out; clear H5)
                  | (go_at_call 17; (with_reducible refine (HNw.out _ HGe.out).mono ?_); rintro r wb ⟨rfl, rfl⟩))
              all_goals
                have HSx := hid HGe.out.to
                clear HGx HGy HGe HLe HNw HCx
                go_wp2_with fail
                go_round
                case rel => exact ⟨k + 1, T1, L1, _, by omega, by go_num, HSx⟩
                case measure => simp [intOf]; omega
          · clear HTb
            have HF1 : Hid (∀ (W' : World), PaG w B rm keep M T L B2 T v L sb ⟨kd, la, se, rp⟩ W' → Calls Try.prog 12 #[.pointer (some ⟨B, 0, none⟩), .int .i64 T, .int .u64 rp] W' fun e w' => e = .returned (.int .i64 (((endL (timeZ T T) L).length : Int) - (forB (endL (timeZ T T) L) rp).length)) ∧ Hid (PaG w B rm keep M (timeZ T T) (forB (endL (timeZ T T) L) rp) B2 T v L sb ⟨kd, la, se, rp⟩ w')) := fun W' h => h.forget1 T rp
            have HF2 : Hid (∀ (T' : Int) (L' : List Bd) (W' : World), PaG w B rm keep M T' L' B2 T v L sb ⟨kd, la, se, rp⟩ W' → Calls Try.prog 13 #[.pointer (some ⟨B2, 0, none⟩), .int .i64 T, .int .u64 rp] W' fun e w' => e = .returned (.int .i64 (((endL (timeZ T T) L).length : Int) - (forB (endL (timeZ T T) L) rp).length)) ∧ Hid (∃ v', PaG w B rm keep M T' L' B2 (timeZ T T) v' (forB (endL (timeZ T T) L) rp) sb ⟨kd, la, se, rp⟩ w')) := fun T' L' W' h => h.forget2 T rp
            obtain ⟨T1, HT1⟩ : ∃ T1, Hid (timeZ T T = T1) := ⟨_, rfl⟩
            have HT2 : Hid (timeZ T1 T = T1) := by rw [← HT1.out]; exact timeZ_two T T
            rw [HT1.out] at HF1 HF2
            generalize ((endL T1 L).length : Int) - (forB (endL T1 L) rp).length = fr at *
            generalize forB (endL T1 L) rp = L1 at *
            have HC0 : Hid (∀ (T' : Int) (L' : List Bd) (T2 : Int) (v' : Value) (L2 : List Bd) (W' : World), PaG w B rm keep M T' L' B2 T2 v' L2 sb ⟨kd, la, se, rp⟩ W' → W'.cell? ⟨sb, 3, none⟩ = some (.int .u64 rp)) := fun _ _ _ _ _ W' h => h.cells.2.2.2
            have HGd := hid (HG.out.below (Below.refl _ _).drew)
            clear HT1
            go_wp2_with fail
            rw [← hw4]
            clear hsb hw4 q0 q1 q2 q3 y0 y1 y2 y3 hrT
            go_region_held3 (fun W' : World => W'.cell? ⟨sb, 3, none⟩ = some (.int .u64 rp))
              (first | (with_reducible exact HC0.out _ _ _ _ _ _ HG.out) | (with_reducible exact HC0.out _ _ _ _ _ _ HGd.out) | (with_reducible exact HC0.out _ _ _ _ _ _ HG1.out) | (with_reducible exact HC0.out _ _ _ _ _ _ HG2.out))
              (first
                | (go_at_call 12; (with_reducible refine (HF1.out _ HGd.out).mono ?_); rintro r x1 ⟨rfl, H5⟩; have HG1 := hid H5.out; clear H5)
                | (go_at_call 13; (with_reducible refine (HF2.out _ _ _ HG1.out).mono ?_); rintro r x2 ⟨rfl, H5⟩; obtain ⟨v1, hg2⟩ := H5.out; have HG2 := hid hg2; clear H5 hg2))
            all_goals
              have HGx := hid HG2.out
              clear HG HGd HG1 HG2 HF1 HF2 HC0
              obtain ⟨av, cv, rfl, rv9, mv9⟩ := HGx.out.rt.isSl
              obtain ⟨N, HN⟩ : ∃ N, Hid (L1.length = N) := ⟨_, rfl⟩
              rw [HN.out] at HGx rv9
              have HLe : Hid (∀ W' : World, PaG w B rm keep M T1 L1 B2 T1 (.slice av N cv) L1 sb ⟨kd, la, se, rp⟩ W' → Calls Try.prog 16 #[.pointer (some ⟨B, 0, none⟩), .int .i64 T] W' fun e w' => e = .returned (.int .i64 N) ∧ Hid (PaG w B rm keep M T1 L1 B2 T1 (.slice av N cv) L1 sb ⟨kd, la, se, rp⟩ w')) := fun W' h => by rw [← HN.out] at h ⊢; exact h.len1 T HT2.out
              have HNw : Hid (∀ W' : World, PaG w B rm keep M T1 L1 B2 T1 (.slice av N cv) L1 sb ⟨kd, la, se, rp⟩ W' → Calls Try.prog 17 #[.pointer (some ⟨B, 0, none⟩)] W' fun e w' => e = .returned (.int .i64 T1) ∧ w' = W') := fun W' h => h.now1
              have HCx : Hid (∀ W' : World, PaG w B rm keep M T1 L1 B2 T1 (.slice av N cv) L1 sb ⟨kd, la, se, rp⟩ W' → W'.cell? ⟨B2, 2, none⟩ = some (.int .i64 T1) ∧ W'.cell? ⟨B2, 3, none⟩ = some (.slice av N cv)) := fun W' h => ⟨h.rt.cells.2.2.1, h.rt.cells.2.2.2⟩
              have HGy := hid (HGx.out.below (Below.refl _ _).drew)
              clear HN HT2
              go_wp2_with fail
              go_region_held3 (fun W' : World => W'.cell? ⟨B2, 2, none⟩ = some (.int .i64 T1) ∧ W'.cell? ⟨B2, 3, none⟩ = some (.slice av N cv))
                (first | (with_reducible exact HCx.out _ HGx.out) | (with_reducible exact HCx.out _ HGy.out) | (with_reducible exact HCx.out _ HGe.out))
                (first
                  | (go_at_call 16; (with_reducible refine (HLe.out _ HGy.out).mono ?_); rintro r wa ⟨rfl, H5⟩; have HGe := hid H5.out; clear H5)
                  | (go_at_call 17; (with_reducible refine (HNw.out _ HGe.out).mono ?_); rintro r wb ⟨rfl, rfl⟩))
              all_goals
                have HSx := hid HGe.out.to
                clear HGx HGy HGe HLe HNw HCx
                go_wp2_with fail
                go_round
                case rel => exact ⟨k + 1, T1, L1, _, by omega, by go_num, HSx⟩
                case measure => simp [intOf]; omega
          · clear HTb
            have HF1 : Hid (∀ (W' : World), PaG w B rm keep M T L B2 T v L sb ⟨kd, la, se, rp⟩ W' → Calls Try.prog 12 #[.pointer (some ⟨B, 0, none⟩), .int .i64 T, .int .u64 rp] W' fun e w' => e = .returned (.int .i64 (((endL (timeZ T T) L).length : Int) - (forB (endL (timeZ T T) L) rp).length)) ∧ Hid (PaG w B rm keep M (timeZ T T) (forB (endL (timeZ T T) L) rp) B2 T v L sb ⟨kd, la, se, rp⟩ w')) := fun W' h => h.forget1 T rp
            have HF2 : Hid (∀ (T' : Int) (L' : List Bd) (W' : World), PaG w B rm keep M T' L' B2 T v L sb ⟨kd, la, se, rp⟩ W' → Calls Try.prog 13 #[.pointer (some ⟨B2, 0, none⟩), .int .i64 T, .int .u64 rp] W' fun e w' => e = .returned (.int .i64 (((endL (timeZ T T) L).length : Int) - (forB (endL (timeZ T T) L) rp).length)) ∧ Hid (∃ v', PaG w B rm keep M T' L' B2 (timeZ T T) v' (forB (endL (timeZ T T) L) rp) sb ⟨kd, la, se, rp⟩ w')) := fun T' L' W' h => h.forget2 T rp
            obtain ⟨T1, HT1⟩ : ∃ T1, Hid (timeZ T T = T1) := ⟨_, rfl⟩
            have HT2 : Hid (timeZ T1 T = T1) := by rw [← HT1.out]; exact timeZ_two T T
            rw [HT1.out] at HF1 HF2
            generalize ((endL T1 L).length : Int) - (forB (endL T1 L) rp).length = fr at *
            generalize forB (endL T1 L) rp = L1 at *
            have HC0 : Hid (∀ (T' : Int) (L' : List Bd) (T2 : Int) (v' : Value) (L2 : List Bd) (W' : World), PaG w B rm keep M T' L' B2 T2 v' L2 sb ⟨kd, la, se, rp⟩ W' → W'.cell? ⟨sb, 3, none⟩ = some (.int .u64 rp)) := fun _ _ _ _ _ W' h => h.cells.2.2.2
            have HGd := hid (HG.out.below (Below.refl _ _).drew)
            clear HT1
            go_wp2_with fail
            rw [← hw4]
            clear hsb hw4 q0 q1 q2 q3 y0 y1 y2 y3 hrT
            go_region_held3 (fun W' : World => W'.cell? ⟨sb, 3, none⟩ = some (.int .u64 rp))
              (first | (with_reducible exact HC0.out _ _ _ _ _ _ HG.out) | (with_reducible exact HC0.out _ _ _ _ _ _ HGd.out) | (with_reducible exact HC0.out _ _ _ _ _ _ HG1.out) | (with_reducible exact HC0.out _ _ _ _ _ _ HG2.out))
              (first
                | (go_at_call 12; (with_reducible refine (HF1.out _ HGd.out).mono ?_); rintro r x1 ⟨rfl, H5⟩; have HG1 := hid H5.out; clear H5)
                | (go_at_call 13; (with_reducible refine (HF2.out _ _ _ HG1.out).mono ?_); rintro r x2 ⟨rfl, H5⟩; obtain ⟨v1, hg2⟩ := H5.out; have HG2 := hid hg2; clear H5 hg2))
            all_goals
              have HGx := hid HG2.out
              clear HG HGd HG1 HG2 HF1 HF2 HC0
              obtain ⟨av, cv, rfl, rv9, mv9⟩ := HGx.out.rt.isSl
              obtain ⟨N, HN⟩ : ∃ N, Hid (L1.length = N) := ⟨_, rfl⟩
              rw [HN.out] at HGx rv9
              have HLe : Hid (∀ W' : World, PaG w B rm keep M T1 L1 B2 T1 (.slice av N cv) L1 sb ⟨kd, la, se, rp⟩ W' → Calls Try.prog 16 #[.pointer (some ⟨B, 0, none⟩), .int .i64 T] W' fun e w' => e = .returned (.int .i64 N) ∧ Hid (PaG w B rm keep M T1 L1 B2 T1 (.slice av N cv) L1 sb ⟨kd, la, se, rp⟩ w')) := fun W' h => by rw [← HN.out] at h ⊢; exact h.len1 T HT2.out
              have HNw : Hid (∀ W' : World, PaG w B rm keep M T1 L1 B2 T1 (.slice av N cv) L1 sb ⟨kd, la, se, rp⟩ W' → Calls Try.prog 17 #[.pointer (some ⟨B, 0, none⟩)] W' fun e w' => e = .returned (.int .i64 T1) ∧ w' = W') := fun W' h => h.now1
              have HCx : Hid (∀ W' : World, PaG w B rm keep M T1 L1 B2 T1 (.slice av N cv) L1 sb ⟨kd, la, se, rp⟩ W' → W'.cell? ⟨B2, 2, none⟩ = some (.int .i64 T1) ∧ W'.cell? ⟨B2, 3, none⟩ = some (.slice av N cv)) := fun W' h => ⟨h.rt.cells.2.2.1, h.rt.cells.2.2.2⟩
              have HGy := hid (HGx.out.below (Below.refl _ _).drew)
              clear HN HT2
              go_wp2_with fail
              go_region_held3 (fun W' : World => W'.cell? ⟨B2, 2, none⟩ = some (.int .i64 T1) ∧ W'.cell? ⟨B2, 3, none⟩ = some (.slice av N cv))
                (first | (with_reducible exact HCx.out _ HGx.out) | (with_reducible exact HCx.out _ HGy.out) | (with_reducible exact HCx.out _ HGe.out))
                (first
                  | (go_at_call 16; (with_reducible refine (HLe.out _ HGy.out).mono ?_); rintro r wa ⟨rfl, H5⟩; have HGe := hid H5.out; clear H5)
                  | (go_at_call 17; (with_reducible refine (HNw.out _ HGe.out).mono ?_); rintro r wb ⟨rfl, rfl⟩))
              all_goals
                have HSx := hid HGe.out.to
                clear HGx HGy HGe HLe HNw HCx
                go_wp2_with fail
                go_round
                case rel => exact ⟨k + 1, T1, L1, _, by omega, by go_num, HSx⟩
                case measure => simp [intOf]; omega
        · have h1' : (rr == 1) = false := by simpa using h1
          have h2' : (rr == 2) = false := by simpa using h2
          rcases hla with ⟨l1, l2⟩ | ⟨l1, l2⟩ | l1
          · obtain ⟨nw, Hnw⟩ : ∃ nw, Hid (T + la = nw) := ⟨_, rfl⟩
            have hwn : IntKind.i64.wrap (T + la) = nw := by rw [Hnw.out]; have := Hnw.out; have := HTb.out; exact wrap64_in (by omega) (by omega)
            clear Hnw HTb
            have h1 := HG.out.bind1 nw HSe.out HRp.out
            have HF2 : Hid (∀ (T' : Int) (L' : List Bd) (W' : World), BindP rm (endL (timeZ T nw) L) ⟨se, rp, timeZ T nw + keep⟩ L' → PaG w B rm keep M T' L' B2 T v L sb ⟨kd, la, se, rp⟩ W' → Calls Try.prog 15 #[.pointer (some ⟨B2, 0, none⟩), .int .i64 nw, .int .u64 se, .int .u64 rp] W' fun e w' => e = .returned (.tuple #[]) ∧ Hid (∃ v', PaG w B rm keep M T' L' B2 (timeZ T nw) v' L' sb ⟨kd, la, se, rp⟩ w')) := fun T' L' W' hp h => h.bind2 HG.out.af.tb.map.nodup HG.out.af.tb.tm HG.out.af.tb.len nw se rp hp
            obtain ⟨T1, HT1⟩ : ∃ T1, Hid (timeZ T nw = T1) := ⟨_, rfl⟩
            have HT2 : Hid (timeZ T1 nw = T1) := by rw [← HT1.out]; exact timeZ_two T nw
            rw [HT1.out] at h1 HF2
            clear HT1
            go_wp2_with fail
            rw [← hw4]
            clear hsb hw4 q0 q1 q2 q3 y0 y1 y2 y3 hrT
            with_reducible refine h1.mono ?_
            rintro r w5 ⟨rfl, H5⟩
            obtain ⟨L1, hp5, hg5⟩ := H5.out
            obtain ⟨y0, y1, y2, y3⟩ := hg5.cells
            simp only at y0 y1 y2 y3
            have h2 := HF2.out _ _ _ hp5 hg5
            clear h1 HF2 HG H5 hp5 hg5
            go_wp2_with fail
            with_reducible refine h2.mono ?_
            rintro r w6 ⟨rfl, H6⟩
            obtain ⟨v1, hg6⟩ := H6.out
            have HGx := hid hg6
            clear h2 H6 hg6 y0 y1 y2 y3
            obtain ⟨av, cv, rfl, rv9, mv9⟩ := HGx.out.rt.isSl
            obtain ⟨N, HN⟩ : ∃ N, Hid (L1.length = N) := ⟨_, rfl⟩
            rw [HN.out] at HGx rv9
            have HLe : Hid (∀ W' : World, PaG w B rm keep M T1 L1 B2 T1 (.slice av N cv) L1 sb ⟨kd, la, se, rp⟩ W' → Calls Try.prog 16 #[.pointer (some ⟨B, 0, none⟩), .int .i64 nw] W' fun e w' => e = .returned (.int .i64 N) ∧ Hid (PaG w B rm keep M T1 L1 B2 T1 (.slice av N cv) L1 sb ⟨kd, la, se, rp⟩ w')) := fun W' h => by rw [← HN.out] at h ⊢; exact h.len1 nw HT2.out
            have HNw : Hid (∀ W' : World, PaG w B rm keep M T1 L1 B2 T1 (.slice av N cv) L1 sb ⟨kd, la, se, rp⟩ W' → Calls Try.prog 17 #[.pointer (some ⟨B, 0, none⟩)] W' fun e w' => e = .returned (.int .i64 T1) ∧ w' = W') := fun W' h => h.now1
            have HCx : Hid (∀ W' : World, PaG w B rm keep M T1 L1 B2 T1 (.slice av N cv) L1 sb ⟨kd, la, se, rp⟩ W' → W'.cell? ⟨B2, 2, none⟩ = some (.int .i64 T1) ∧ W'.cell? ⟨B2, 3, none⟩ = some (.slice av N cv)) := fun W' h => ⟨h.rt.cells.2.2.1, h.rt.cells.2.2.2⟩
            have HGy := hid (HGx.out.below (Below.refl _ _).drew)
            clear HN HT2
            go_wp2_with fail
            go_region_held3 (fun W' : World => W'.cell? ⟨B2, 2, none⟩ = some (.int .i64 T1) ∧ W'.cell? ⟨B2, 3, none⟩ = some (.slice av N cv))
              (first | (with_reducible exact HCx.out _ HGx.out) | (with_reducible exact HCx.out _ HGy.out) | (with_reducible exact HCx.out _ HGe.out))
              (first
                | (go_at_call 16; (with_reducible refine (HLe.out _ HGy.out).mono ?_); rintro r wa ⟨rfl, H5⟩; have HGe := hid H5.out; clear H5)
                | (go_at_call 17; (with_reducible refine (HNw.out _ HGe.out).mono ?_); rintro r wb ⟨rfl, rfl⟩))
            all_goals
              have HSx := hid HGe.out.to
              clear HGx HGy HGe HLe HNw HCx
              go_wp2_with fail
              go_round
              case rel => exact ⟨k + 1, T1, L1, _, by omega, by go_num, HSx⟩
              case measure => simp [intOf]; omega
          · clear HTb
            have h1 := HG.out.bind1 T HSe.out HRp.out
            have HF2 : Hid (∀ (T' : Int) (L' : List Bd) (W' : World), BindP rm (endL (timeZ T T) L) ⟨se, rp, timeZ T T + keep⟩ L' → PaG w B rm keep M T' L' B2 T v L sb ⟨kd, la, se, rp⟩ W' → Calls Try.prog 15 #[.pointer (some ⟨B2, 0, none⟩), .int .i64 T, .int .u64 se, .int .u64 rp] W' fun e w' => e = .returned (.tuple #[]) ∧ Hid (∃ v', PaG w B rm keep M T' L' B2 (timeZ T T) v' L' sb ⟨kd, la, se, rp⟩ w')) := fun T' L' W' hp h => h.bind2 HG.out.af.tb.map.nodup HG.out.af.tb.tm HG.out.af.tb.len T se rp hp
            obtain ⟨T1, HT1⟩ : ∃ T1, Hid (timeZ T T = T1) := ⟨_, rfl⟩
            have HT2 : Hid (timeZ T1 T = T1) := by rw [← HT1.out]; exact timeZ_two T T
            rw [HT1.out] at h1 HF2
            clear HT1
            go_wp2_with fail
            rw [← hw4]
            clear hsb hw4 q0 q1 q2 q3 y0 y1 y2 y3 hrT
            with_reducible refine h1.mono ?_
            rintro r w5 ⟨rfl, H5⟩
            obtain ⟨L1, hp5, hg5⟩ := H5.out
            obtain ⟨y0, y1, y2, y3⟩ := hg5.cells
            simp only at y0 y1 y2 y3
            have h2 := HF2.out _ _ _ hp5 hg5
            clear h1 HF2 HG H5 hp5 hg5
            go_wp2_with fail
            with_reducible refine h2.mono ?_
            rintro r w6 ⟨rfl, H6⟩
            obtain ⟨v1, hg6⟩ := H6.out
            have HGx := hid hg6
            clear h2 H6 hg6 y0 y1 y2 y3
            obtain ⟨av, cv, rfl, rv9, mv9⟩ := HGx.out.rt.isSl
            obtain ⟨N, HN⟩ : ∃ N, Hid (L1.length = N) := ⟨_, rfl⟩
            rw [HN.out] at HGx rv9
            have HLe : Hid (∀ W' : World, PaG w B rm keep M T1 L1 B2 T1 (.slice av N cv) L1 sb ⟨kd, la, se, rp⟩ W' → Calls Try.prog 16 #[.pointer (some ⟨B, 0, none⟩), .int .i64 T] W' fun e w' => e = .returned (.int .i64 N) ∧ Hid (PaG w B rm keep M T1 L1 B2 T1 (.slice av N cv) L1 sb ⟨kd, la, se, rp⟩ w')) := fun W' h => by rw [← HN.out] at h ⊢; exact h.len1 T HT2.out
            have HNw : Hid (∀ W' : World, PaG w B rm keep M T1 L1 B2 T1 (.slice av N cv) L1 sb ⟨kd, la, se, rp⟩ W' → Calls Try.prog 17 #[.pointer (some ⟨B, 0, none⟩)] W' fun e w' => e = .returned (.int .i64 T1) ∧ w' = W') := fun W' h => h.now1
            have HCx : Hid (∀ W' : World, PaG w B rm keep M T1 L1 B2 T1 (.slice av N cv) L1 sb ⟨kd, la, se, rp⟩ W' → W'.cell? ⟨B2, 2, none⟩ = some (.int .i64 T1) ∧ W'.cell? ⟨B2, 3, none⟩ = some (.slice av N cv)) := fun W' h => ⟨h.rt.cells.2.2.1, h.rt.cells.2.2.2⟩
            have HGy := hid (HGx.out.below (Below.refl _ _).drew)
            clear HN HT2
            go_wp2_with fail
            go_region_held3 (fun W' : World => W'.cell? ⟨B2, 2, none⟩ = some (.int .i64 T1) ∧ W'.cell? ⟨B2, 3, none⟩ = some (.slice av N cv))
              (first | (with_reducible exact HCx.out _ HGx.out) | (with_reducible exact HCx.out _ HGy.out) | (with_reducible exact HCx.out _ HGe.out))
              (first
                | (go_at_call 16; (with_reducible refine (HLe.out _ HGy.out).mono ?_); rintro r wa ⟨rfl, H5⟩; have HGe := hid H5.out; clear H5)
                | (go_at_call 17; (with_reducible refine (HNw.out _ HGe.out).mono ?_); rintro r wb ⟨rfl, rfl⟩))
            all_goals
              have HSx := hid HGe.out.to
              clear HGx HGy HGe HLe HNw HCx
              go_wp2_with fail
              go_round
              case rel => exact ⟨k + 1, T1, L1, _, by omega, by go_num, HSx⟩
              case measure => simp [intOf]; omega
          · clear HTb
            have h1 := HG.out.bind1 T HSe.out HRp.out
            have HF2 : Hid (∀ (T' : Int) (L' : List Bd) (W' : World), BindP rm (endL (timeZ T T) L) ⟨se, rp, timeZ T T + keep⟩ L' → PaG w B rm keep M T' L' B2 T v L sb ⟨kd, la, se, rp⟩ W' → Calls Try.prog 15 #[.pointer (some ⟨B2, 0, none⟩), .int .i64 T, .int .u64 se, .int .u64 rp] W' fun e w' => e = .returned (.tuple #[]) ∧ Hid (∃ v', PaG w B rm keep M T' L' B2 (timeZ T T) v' L' sb ⟨kd, la, se, rp⟩ w')) := fun T' L' W' hp h => h.bind2 HG.out.af.tb.map.nodup HG.out.af.tb.tm HG.out.af.tb.len T se rp hp
            obtain ⟨T1, HT1⟩ : ∃ T1, Hid (timeZ T T = T1) := ⟨_, rfl⟩
            have HT2 : Hid (timeZ T1 T = T1) := by rw [← HT1.out]; exact timeZ_two T T
            rw [HT1.out] at h1 HF2
            clear HT1
            go_wp2_with fail
            rw [← hw4]
            clear hsb hw4 q0 q1 q2 q3 y0 y1 y2 y3 hrT
            with_reducible refine h1.mono ?_
            rintro r w5 ⟨rfl, H5⟩
            obtain ⟨L1, hp5, hg5⟩ := H5.out
            obtain ⟨y0, y1, y2, y3⟩ := hg5.cells
            simp only at y0 y1 y2 y3
            have h2 := HF2.out _ _ _ hp5 hg5
            clear h1 HF2 HG H5 hp5 hg5
            go_wp2_with fail
            with_reducible refine h2.mono ?_
            rintro r w6 ⟨rfl, H6⟩
            obtain ⟨v1, hg6⟩ := H6.out
            have HGx := hid hg6
            clear h2 H6 hg6 y0 y1 y2 y3
            obtain ⟨av, cv, rfl, rv9, mv9⟩ := HGx.out.rt.isSl
            obtain ⟨N, HN⟩ : ∃ N, Hid (L1.length = N) := ⟨_, rfl⟩
            rw [HN.out] at HGx rv9
            have HLe : Hid (∀ W' : World, PaG w B rm keep M T1 L1 B2 T1 (.slice av N cv) L1 sb ⟨kd, la, se, rp⟩ W' → Calls Try.prog 16 #[.pointer (some ⟨B, 0, none⟩), .int .i64 T] W' fun e w' => e = .returned (.int .i64 N) ∧ Hid (PaG w B rm keep M T1 L1 B2 T1 (.slice av N cv) L1 sb ⟨kd, la, se, rp⟩ w')) := fun W' h => by rw [← HN.out] at h ⊢; exact h.len1 T HT2.out
            have HNw : Hid (∀ W' : World, PaG w B rm keep M T1 L1 B2 T1 (.slice av N cv) L1 sb ⟨kd, la, se, rp⟩ W' → Calls Try.prog 17 #[.pointer (some ⟨B, 0, none⟩)] W' fun e w' => e = .returned (.int .i64 T1) ∧ w' = W') := fun W' h => h.now1
            have HCx : Hid (∀ W' : World, PaG w B rm keep M T1 L1 B2 T1 (.slice av N cv) L1 sb ⟨kd, la, se, rp⟩ W' → W'.cell? ⟨B2, 2, none⟩ = some (.int .i64 T1) ∧ W'.cell? ⟨B2, 3, none⟩ = some (.slice av N cv)) := fun W' h => ⟨h.rt.cells.2.2.1, h.rt.cells.2.2.2⟩
            have HGy := hid (HGx.out.below (Below.refl _ _).drew)
            clear HN HT2
            go_wp2_with fail
            go_region_held3 (fun W' : World => W'.cell? ⟨B2, 2, none⟩ = some (.int .i64 T1) ∧ W'.cell? ⟨B2, 3, none⟩ = some (.slice av N cv))
              (first | (with_reducible exact HCx.out _ HGx.out) | (with_reducible exact HCx.out _ HGy.out) | (with_reducible exact HCx.out _ HGe.out))
              (first
                | (go_at_call 16; (with_reducible refine (HLe.out _ HGy.out).mono ?_); rintro r wa ⟨rfl, H5⟩; have HGe := hid H5.out; clear H5)
                | (go_at_call 17; (with_reducible refine (HNw.out _ HGe.out).mono ?_); rintro r wb ⟨rfl, rfl⟩))
            all_goals
              have HSx := hid HGe.out.to
              clear HGx HGy HGe HLe HNw HCx
              go_wp2_with fail
              go_round
              case rel => exact ⟨k + 1, T1, L1, _, by omega, by go_num, HSx⟩
              case measure => simp [intOf]; omega
    · have g1 : ¬ (k : Int) < (n : Int) := by omega
      have HVE := hid HS.out.af.bel
      clear HS HSp
      go_wp2_with fail
      with_reducible refine (alive18_any _).mono ?_
      rintro e wz ⟨rfl, HZ0⟩
      have HZ := hid (HVE.out.trans (HZ0.out.mono HVE.out.size))
      clear HZ0
      go_wp2_with fail
      go_ret
      exact ⟨rfl, HZ.out⟩

/-! ### The row's step -/
set_option maxRecDepth 1000000 in
theorem lifted (os : Os) (started : os.Started) (H : Type) (enc : TypeId × Value → H) :
    ReturnsInHanded {} Try.checked os 3 .any (Rows.affinPlaysSpec.pre6 enc Try.prog Try.f3 Rows.affinPlaysRow.domain false) (Rows.affinPlaysSpec.post enc Try.prog Try.f3 false true false false) := by
  refine returnsInHanded_of_change (C := Try.checked) own started (by kernel_rfl) Try.func3
    (ChangeSpec.witness6 (enc := enc) (C := Try.checked) false ⟨#[], #[.int .i64 0, .int .i64 0, .slice none 0 0], []⟩ 8 (by kernel_rfl) (by kernel_rfl) (by kernel_rfl) (by kernel_rfl)) ?_
  intro W base args ds gs before hval0 hW hcnd _
  have hval : ∀ (j : Nat) t v, Try.f3.params[j]? = some t → args[j]? = some v → Value.okWide Try.prog W .any base t v := hval0
  have hW' := hW
  obtain ⟨p, q, hA0, hV, rfl, hfz, hnd⟩ := hW
  have hA : DataW.TrodAll enc Try.prog W 0 (fun _ => true) true Try.f3.params.toList args.toList ds p := hA0
  rw [Try.params3] at hA hval
  obtain ⟨v0, vs0, d0, ds0, p0, q0, hargs, rfl, rfl, h0, r0⟩ := trodAll_cons hA
  obtain ⟨v1, vs1, d1, ds1, p1, q1, rfl, rfl, rfl, h1, r1⟩ := trodAll_cons r0
  obtain ⟨v2, vs2, d2, ds2, p2, q2, rfl, rfl, rfl, h2, r2⟩ := trodAll_cons r1
  obtain ⟨rfl, rfl, rfl⟩ := trodAll_nil r2
  obtain rfl : args = #[v0, v1, v2] := by cases args; simp_all
  obtain ⟨rfl, rfl⟩ := trodVars_none hV
  have k0 := h0
  have lt0 : ∀ x ∈ p0, x.block < W.heap.size := by obtain ⟨m, hm⟩ := k0; exact DataW.trod_lt m _ _ _ hm
  obtain ⟨a0, rfl, ga0⟩ := inum_open (hval 0 3 v0 rfl rfl) h0
  have k1 := h1
  have lt1 : ∀ x ∈ p1, x.block < W.heap.size := by obtain ⟨m, hm⟩ := k1; exact DataW.trod_lt m _ _ _ hm
  obtain ⟨a1, rfl, ga1⟩ := jnum_open (hval 1 2 v1 rfl rfl) h1
  have k2 := h2
  have lt2 : ∀ x ∈ p2, x.block < W.heap.size := by obtain ⟨m, hm⟩ := k2; exact DataW.trod_lt m _ _ _ hm
  obtain ⟨a2, l2, c2, xs2, rfl, ga2⟩ := steps18_open (hval 2 22 v2 rfl rfl) h2
  clear hA0 hval0
  refine (walk a0 a1 a2 l2 c2 xs2 W ga0 ga1 ga2).mono fun e W' ⟨he, bel⟩ => ?_
  subst he
  exact ⟨_, rfl, _, _, _, [], _, [], hW', trodAll_mk1 (shut_bool Try.underlying4 _), (trodAll_cons_mk (Below.trod laidOut (by kernel_rfl) (of_decide_eq_true (by kernel_rfl)) k0 bel lt0) (trodAll_cons_mk (Below.trod laidOut (by kernel_rfl) (of_decide_eq_true (by kernel_rfl)) k1 bel lt1) (trodAll_cons_mk (Below.trod laidOut (by kernel_rfl) (of_decide_eq_true (by kernel_rfl)) k2 bel lt2) trodAll_mk0))), rfl, bel.frame _, fun h => by cases h⟩

theorem over : Rows.affinPlaysRow.holds Try.pinned (OpenSpec.ofChange Rows.affinPlaysSpec) :=
  OpenClaim.holds_of_wide 3 Try.f3 rfl rfl rfl rfl rfl rfl rfl ⟨rfl, rfl, rfl, rfl, rfl⟩ rfl rfl rfl rfl rfl (by kernel_rfl) Try.func3 (by kernel_rfl)
    (of_decide_eq_true (by kernel_rfl)) (by unfold Func.isWrapper; first | (rw [if_pos (by decide +kernel)]; kernel_rfl) | (rw [if_neg (by decide +kernel)]; exact ⟨rfl, rfl⟩))
    (fun os started H enc _ => lifted os started H enc)

/-- The statement. -/
theorem proved : Rows.AffinPlaysSaid := over
#print axioms proved
end Go.Proofs.Ytfnbofhppfjmgaa.affinPlays
