/-
  Proved: for any vector of at most 300 numbers and any number of places, what Top hands back are places of the vector, each once, from the greatest down, and no other one is greater than the last one; the law VecGreatest returns true at every input, and its arguments read as before. No condition.
-/
import Derived.Test.YthfblcdlibkchabRows
import Derived.Test.YthfblcdlibkchabGMath
import Derived.WalkKit
import Derived.ProofKit
import Derived.OpenShut
import Derived.ShutString
import Derived.ChangeOld
import Derived.Below
namespace Go.Proofs.Ythfblcdlibkchab.vecGreatest
open Go.ChangeShapes Go.WideShapes Go.ChangeAt Go.RowKit
open Go.ChangeMaps (open_string shut_string)
set_option linter.unusedVariables false

theorem own : ownKnob Try.prog.godebug = none := by kernel_rfl
theorem laidOut : laidOutB Try.prog = true := by kernel_rfl

/-- WHAT THE WALK IS TOLD OF A SLICE OF INTEGERS THAT CAME IN: it is nil; or it leads to a row of 'cap' cells, the numbers 'zs' (the first 'len' are its elements, the rest its spare room), each fitting its kind. -/
def IsRow (k : IntKind) (w : World) (a : Option Addr) (len cap : Nat) (zs : List Int) : Prop :=
  (a = none ∧ len = 0 ∧ cap = 0 ∧ zs = []) ∨
  ∃ x, a = some x ∧ len ≤ cap ∧ cap ≤ maxLen ∧ zs.length = cap ∧ (∀ i, i < zs.length → w.cell? (x.add i) = some (.int k (zs.getD i 0))) ∧ ∀ n ∈ zs, (Lit.int k n).wf = true

/-! ### The walk -/
set_option maxRecDepth 1000000 in
set_option maxHeartbeats 2000000 in
theorem walk (a0 : Option Addr) (len0 cap0 : Nat) (z0 : List Int) (a1 : Int) (w : World) (w0 : IsRow .i64 w a0 len0 cap0 z0) (w1 : (Lit.int .i64 a1).wf = true) :
    Calls Try.prog 3 #[.slice a0 len0 cap0, .int .i64 a1] w fun e w' => e = .returned (.bool true) ∧ Below w.heap.size w w' := by
  obtain ⟨h0, wf0⟩ := Reads.row w0
  clear w0 w1
  generalize z0.take len0 = x0 at *
  have hbl : Below w.heap.size w (w.alloc (.cells #[.slice a0 len0 cap0] 22)) := (Below.refl _ _).alloc (Nat.le_refl _) _
  have HB := hid hbl
  have R0 := hid (h0.below hbl)
  have hR := rd2_one w a0 len0 cap0
  clear hbl h0
  by_cases hf : 300 < len0
  · have hF := far_yes _ _ _ _ _ hR (far_one.2 hf)
    clear hR hf R0 wf0
    go_enter Try.func3, Try.ntmps3
    go_wp2_with fail
    refine hF.mono ?_
    rintro e w' ⟨rfl, rfl⟩
    go_wp2_with fail
    refine (alive_any _).mono ?_
    rintro e w2 ⟨rfl, hb2⟩
    replace HB := hid (HB.out.trans (hb2.mono HB.out.size))
    clear hb2 hF
    go_wp2
    go_ret
    exact ⟨rfl, HB.out⟩
  · have hF := far_no _ _ _ _ _ hR (fun h => hf (far_one.1 h))
    have l0 : len0 ≤ 300 := by omega
    clear hR hf
    go_enter Try.func3, Try.ntmps3
    go_wp2_with fail
    refine hF.mono ?_
    rintro e w' ⟨rfl, rfl⟩
    clear hF
    generalize w.alloc (.cells #[.slice a0 len0 cap0] 22) = W0 at *
    obtain ⟨K, hK, hKl⟩ := kof_any a1 len0
    rcases id hK with ⟨hc0, hc1⟩ | ⟨hc0, hc1, hc2⟩ | ⟨hc0, hc1⟩
    · have hk0 : (K : Int) = 0 := by omega
      have HK0 := hid hc1
      clear hc1
      have hC := top_any a0 len0 cap0 K _ x0 W0 R0.out (by omega) hK hKl
      clear hK
      go_wp2_with fail
      refine hC.mono ?_
      rintro e W1 ⟨g, ps, rfl, hO, hT, hb⟩
      have HTS := hid hT.spec
      replace HB := hid (HB.out.trans (hb.mono HB.out.size))
      replace R0 := hid (R0.out.below hb)
      have Rp := hid hO.reads
      have hmk : ∀ W : World, (Instr.makeSlice 27 (.int .i64 (len0 : Int)) (.int .i64 (len0 : Int))).run Try.prog W = .ok (.slice (some ⟨W.heap.size, 0, none⟩) len0 len0) (W.alloc (.cells (madeCells #[.bool false] len0) 4)) := fun W => make_bools W len0 (by omega)
      have HM0 : Hid (OwnB W1.heap.size len0 (List.replicate len0 false) (W1.alloc (.cells (madeCells #[.bool false] len0) 4))) := own_bools W1 len0 (by omega)
      have HBm : Hid (Below W1.heap.size W1 (W1.alloc (.cells (madeCells #[.bool false] len0) 4))) := (Below.refl _ _).alloc (Nat.le_refl _) _
      have r0 := R0.out.room
      have m0 := R0.out.most
      clear hb hC hO hT wf0
      go_wp2_with fail
      clear hmk
      go_loopw [31] (fun i W => ∃ (j : Nat) (bs : List Bool), j ≤ K ∧ i = .int .i64 j ∧ Hid (MetK ps bs j) ∧ Hid (OwnB W1.heap.size len0 bs W) ∧ Hid (Below W1.heap.size W1 W)) (fun i _ => K - (intOf i).toNat)
      case atStart => exact ⟨0, _, Nat.zero_le _, rfl, MetK.start _ _, HM0, HBm⟩
      case round =>
        obtain ⟨j, bs, hj, rfl, HM, HO, HW⟩ := hrel
        clear HM0 HBm
        rename World => wr
        clear hk0
        have hlt : ¬ j < K := by have := HK0.out; omega
        · obtain rfl : K = j := by omega
          have HB2 := hid (HB.out.trans (HW.out.mono HB.out.size))
          go_wp2_with fail
          go_loopw [77] (fun i W => ∃ n : Nat, n ≤ len0 ∧ i = .int .i64 n ∧ Hid (OwnB W1.heap.size len0 bs W) ∧ Hid (Below W1.heap.size W1 W)) (fun i _ => len0 - (intOf i).toNat)
          case atStart => exact ⟨0, Nat.zero_le _, rfl, HO, HW⟩
          case round =>
            clear HO HW HB2
            obtain ⟨n, hn, rfl, HO, HWn⟩ := hrel
            rename World => wn
            by_cases hnl : n < len0
            · obtain ⟨b1, o1, rfl, ca⟩ := (R0.out.below HWn.out).cell n hnl
              have cm := HO.out.cell hnl
              have q1 : (n : Int) < (len0 : Int) := by omega
              have hK0 : ¬ 0 < K := by have := HK0.out; omega
              · have d3 : decide ((0 : Int) < (K : Int)) = false := decide_eq_false (by omega)
                have q3 : ¬ (0 : Int) < (K : Int) := by omega
                have d4 : decide (0 < K) = false := decide_eq_false (by omega)
                clear Rp R0 HTS HM
                go_wp2_with fail
                go_quiet ((go_at_call 8; exact Calls.quiet_of_same (rwithin_any _ _)))
                go_wp2_with fail
                go_round
                case rel => exact ⟨n + 1, by omega, by go_num, HO.out, HWn.out.trans ⟨rfl, rfl, rfl, Nat.le_refl _, fun _ _ => rfl⟩⟩
                case measure => simp [intOf]; omega
            · replace HB := hid (HB.out.trans (HWn.out.mono HB.out.size))
              clear Rp R0 HTS HM HO
              go_wp2_with fail
              refine (alive_any _).mono ?_
              rintro e w2 ⟨rfl, hb2⟩
              replace HB := hid (HB.out.trans (hb2.mono HB.out.size))
              clear hb2 HWn
              go_wp2
              go_ret
              exact ⟨rfl, HB.out⟩
    · subst hc2
      clear hc0
      have hc0 : ¬ (K : Int) < 0 := by omega
      have hC := top_any a0 len0 cap0 K _ x0 W0 R0.out (by omega) hK hKl
      clear hK
      go_wp2_with fail
      refine hC.mono ?_
      rintro e W1 ⟨g, ps, rfl, hO, hT, hb⟩
      have HTS := hid hT.spec
      replace HB := hid (HB.out.trans (hb.mono HB.out.size))
      replace R0 := hid (R0.out.below hb)
      have Rp := hid hO.reads
      have hmk : ∀ W : World, (Instr.makeSlice 27 (.int .i64 (len0 : Int)) (.int .i64 (len0 : Int))).run Try.prog W = .ok (.slice (some ⟨W.heap.size, 0, none⟩) len0 len0) (W.alloc (.cells (madeCells #[.bool false] len0) 4)) := fun W => make_bools W len0 (by omega)
      have HM0 : Hid (OwnB W1.heap.size len0 (List.replicate len0 false) (W1.alloc (.cells (madeCells #[.bool false] len0) 4))) := own_bools W1 len0 (by omega)
      have HBm : Hid (Below W1.heap.size W1 (W1.alloc (.cells (madeCells #[.bool false] len0) 4))) := (Below.refl _ _).alloc (Nat.le_refl _) _
      have r0 := R0.out.room
      have m0 := R0.out.most
      clear hb hC hO hT wf0
      go_wp2_with fail
      clear hmk
      go_loopw [31] (fun i W => ∃ (j : Nat) (bs : List Bool), j ≤ K ∧ i = .int .i64 j ∧ Hid (MetK ps bs j) ∧ Hid (OwnB W1.heap.size len0 bs W) ∧ Hid (Below W1.heap.size W1 W)) (fun i _ => K - (intOf i).toNat)
      case atStart => exact ⟨0, _, Nat.zero_le _, rfl, MetK.start _ _, HM0, HBm⟩
      case round =>
        obtain ⟨j, bs, hj, rfl, HM, HO, HW⟩ := hrel
        clear HM0 HBm
        rename World => wr
        by_cases hlt : j < K
        · obtain ⟨hP, eP⟩ := HTS.out.at_ j hlt
          have cl := (Rp.out.below HW.out).at (i := j) hlt
          rw [eP, Nat.zero_add] at cl
          have hnew := HM.out.new HTS.out hlt
          have HMn := hid (HM.out.next (k := j) (by rw [HO.out.len]; exact hP))
          have HPL : Hid (pl ps j = pl ps j) := rfl
          have HF := hid fun i (h : i + 1 = j) => HTS.out.falls i (by omega)
          obtain ⟨P, hPe⟩ : ∃ P, pl ps j = P := ⟨_, rfl⟩
          have HFs : Hid (∀ i, i + 1 = j → wi (x0[P]?.getD 0) ≤ wi (x0[pl ps i]?.getD 0)) := by
            intro i h
            have := HF.out i h
            rw [h, hPe] at this
            exact this
          rw [hPe] at hP cl hnew HMn
          clear HPL HF eP
          have cm := HO.out.cell hP
          rw [hnew] at cm
          have fm := HO.out.frozen P
          have HOn : Hid (∀ q, OwnB W1.heap.size len0 (bs.set P true) ((wr.drewN q).setCell ⟨W1.heap.size, P, none⟩ (.bool true))) := fun q => OwnB.set (w := wr.drewN q) HO.out P true
          have HWs : Hid (∀ q, Below W1.heap.size W1 ((wr.drewN q).setCell ⟨W1.heap.size, P, none⟩ (.bool true))) := fun q => Below.setCell (p := ⟨W1.heap.size, P, none⟩) (Below.trans HW.out (⟨rfl, rfl, rfl, Nat.le_refl _, fun _ _ => rfl⟩ : Below W1.heap.size wr (wr.drewN q))) (Nat.le_refl _) _
          obtain ⟨b1, o1, rfl, ca⟩ := (R0.out.below HW.out).cell P hP
          have d1 : decide ((P : Int) < 0) = false := decide_eq_false (by omega)
          have d2 : decide ((len0 : Int) ≤ (P : Int)) = false := decide_eq_false (by omega)
          have d2n : decide (len0 ≤ P) = false := decide_eq_false (by omega)
          have q1 : (P : Int) < (len0 : Int) := by omega
          have q2 : (j : Int) < (K : Int) := by omega
          by_cases hj0 : ¬ 0 < j
          · have d3 : decide ((0 : Int) < (j : Int)) = false := decide_eq_false (by omega)
            have d3n : decide (0 < j) = false := decide_eq_false hj0
            have q3 : ¬ (0 : Int) < (j : Int) := by omega
            clear Rp R0 HTS HFs HM HO hPe hnew
            go_wp2_with fail
            go_quiet ((go_at_call 8; exact Calls.quiet_of_same (rwithin_any _ _)))
            go_wp2_with fail
            go_round
            case rel => exact ⟨j + 1, bs.set P true, by omega, by go_num, HMn, HOn.out _, HWs.out _⟩
            case measure => simp [intOf]; omega
          · obtain ⟨i, hi⟩ : ∃ i : Nat, (j : Int) - 1 = (i : Int) := ⟨j - 1, by omega⟩
            have hij : i + 1 = j := by omega
            have d3 : decide ((0 : Int) < (j : Int)) = true := decide_eq_true (by omega)
            have d3n : decide (0 < j) = true := decide_eq_true (by omega)
            have q3 : (0 : Int) < (j : Int) := by omega
            obtain ⟨hQ, eQ⟩ := HTS.out.at_ i (by omega)
            have cl2 := (Rp.out.below HW.out).at (i := i) (by omega)
            rw [eQ, Nat.zero_add] at cl2
            have hfl := HFs.out i hij
            have ca2 := (R0.out.below HW.out).at (i := pl ps i) hQ
            clear Rp R0 HTS HFs HM HO hPe hnew eQ
            generalize pl ps i = Qp at *
            have q4 : (Qp : Int) < (len0 : Int) := by omega
            have q5 : (i : Int) < (K : Int) := by omega
            have q6 : i < K := by omega
            generalize x0[Qp]?.getD 0 = y at *
            generalize x0[P]?.getD 0 = x at *
            have q7 : ¬ wi y < wi x := by omega
            clear hij
            go_wp2_with fail
            go_quiet ((go_at_call 8; exact Calls.quiet_of_same (rwithin_any _ _)))
            go_wp2_with fail
            go_round
            case rel => exact ⟨j + 1, bs.set P true, by omega, by go_num, HMn, HOn.out _, HWs.out _⟩
            case measure => simp [intOf]; omega
        · obtain rfl : K = j := by omega
          have HB2 := hid (HB.out.trans (HW.out.mono HB.out.size))
          go_wp2_with fail
          go_loopw [77] (fun i W => ∃ n : Nat, n ≤ len0 ∧ i = .int .i64 n ∧ Hid (OwnB W1.heap.size len0 bs W) ∧ Hid (Below W1.heap.size W1 W)) (fun i _ => len0 - (intOf i).toNat)
          case atStart => exact ⟨0, Nat.zero_le _, rfl, HO, HW⟩
          case round =>
            clear HO HW HB2
            obtain ⟨n, hn, rfl, HO, HWn⟩ := hrel
            rename World => wn
            by_cases hnl : n < len0
            · obtain ⟨b1, o1, rfl, ca⟩ := (R0.out.below HWn.out).cell n hnl
              have cm := HO.out.cell hnl
              have q1 : (n : Int) < (len0 : Int) := by omega
              by_cases hK0 : ¬ 0 < K
              · have d3 : decide ((0 : Int) < (K : Int)) = false := decide_eq_false (by omega)
                have q3 : ¬ (0 : Int) < (K : Int) := by omega
                have d4 : decide (0 < K) = false := decide_eq_false (by omega)
                clear Rp R0 HTS HM
                go_wp2_with fail
                go_quiet ((go_at_call 8; exact Calls.quiet_of_same (rwithin_any _ _)))
                go_wp2_with fail
                go_round
                case rel => exact ⟨n + 1, by omega, by go_num, HO.out, HWn.out.trans ⟨rfl, rfl, rfl, Nat.le_refl _, fun _ _ => rfl⟩⟩
                case measure => simp [intOf]; omega
              · have d3 : decide ((0 : Int) < (K : Int)) = true := decide_eq_true (by omega)
                have q3 : (0 : Int) < (K : Int) := by omega
                have d4 : decide (0 < K) = true := decide_eq_true (by omega)
                cases hmt : mt bs n with
                | true =>
                  rw [hmt] at cm
                  clear Rp R0 HTS HM hmt
                  go_wp2_with fail
                  go_quiet ((go_at_call 8; exact Calls.quiet_of_same (rwithin_any _ _)))
                  go_wp2_with fail
                  go_round
                  case rel => exact ⟨n + 1, by omega, by go_num, HO.out, HWn.out.trans ⟨rfl, rfl, rfl, Nat.le_refl _, fun _ _ => rfl⟩⟩
                  case measure => simp [intOf]; omega
                | false =>
                  rw [hmt] at cm
                  obtain ⟨i, hi⟩ : ∃ i : Nat, (K : Int) - 1 = (i : Int) := ⟨K - 1, by omega⟩
                  obtain ⟨hQ, eQ⟩ := HTS.out.at_ i (by omega)
                  have cl2 := (Rp.out.below HWn.out).at (i := i) (by omega)
                  rw [eQ, Nat.zero_add] at cl2
                  have hge : wi (x0[n]?.getD 0) ≤ wi (x0[pl ps i]?.getD 0) := by
                    have := HTS.out.rest n hnl (fun k hk e => by
                      have := (HM.out n).2 ⟨k, hk, e⟩
                      rw [hmt] at this
                      cases this) (by omega)
                    rw [show K - 1 = i by omega] at this
                    exact this
                  have ca2 := (R0.out.below HWn.out).at (i := pl ps i) hQ
                  clear Rp R0 HTS HM hmt eQ
                  generalize pl ps i = Qp at *
                  have q4 : (Qp : Int) < (len0 : Int) := by omega
                  have q5 : (i : Int) < (K : Int) := by omega
                  have q6 : i < K := by omega
                  generalize x0[Qp]?.getD 0 = y at *
                  generalize x0[n]?.getD 0 = x at *
                  have q7 : ¬ wi y < wi x := by omega
                  go_wp2_with fail
                  go_quiet ((go_at_call 8; exact Calls.quiet_of_same (rwithin_any _ _)))
                  go_wp2_with fail
                  go_round
                  case rel => exact ⟨n + 1, by omega, by go_num, HO.out, HWn.out.trans ⟨rfl, rfl, rfl, Nat.le_refl _, fun _ _ => rfl⟩⟩
                  case measure => simp [intOf]; omega
            · replace HB := hid (HB.out.trans (HWn.out.mono HB.out.size))
              clear Rp R0 HTS HM HO
              go_wp2_with fail
              refine (alive_any _).mono ?_
              rintro e w2 ⟨rfl, hb2⟩
              replace HB := hid (HB.out.trans (hb2.mono HB.out.size))
              clear hb2 HWn
              go_wp2
              go_ret
              exact ⟨rfl, HB.out⟩
    · have hc2 : ¬ a1 < 0 := by omega
      have hk3 : len0 = K := hc1.symm
      subst hk3
      clear hc1
      have hC := top_any a0 len0 cap0 len0 _ x0 W0 R0.out (by omega) hK hKl
      clear hK
      go_wp2_with fail
      refine hC.mono ?_
      rintro e W1 ⟨g, ps, rfl, hO, hT, hb⟩
      have HTS := hid hT.spec
      replace HB := hid (HB.out.trans (hb.mono HB.out.size))
      replace R0 := hid (R0.out.below hb)
      have Rp := hid hO.reads
      have hmk : ∀ W : World, (Instr.makeSlice 27 (.int .i64 (len0 : Int)) (.int .i64 (len0 : Int))).run Try.prog W = .ok (.slice (some ⟨W.heap.size, 0, none⟩) len0 len0) (W.alloc (.cells (madeCells #[.bool false] len0) 4)) := fun W => make_bools W len0 (by omega)
      have HM0 : Hid (OwnB W1.heap.size len0 (List.replicate len0 false) (W1.alloc (.cells (madeCells #[.bool false] len0) 4))) := own_bools W1 len0 (by omega)
      have HBm : Hid (Below W1.heap.size W1 (W1.alloc (.cells (madeCells #[.bool false] len0) 4))) := (Below.refl _ _).alloc (Nat.le_refl _) _
      have r0 := R0.out.room
      have m0 := R0.out.most
      clear hb hC hO hT wf0
      go_wp2_with fail
      clear hmk
      go_loopw [31] (fun i W => ∃ (j : Nat) (bs : List Bool), j ≤ len0 ∧ i = .int .i64 j ∧ Hid (MetK ps bs j) ∧ Hid (OwnB W1.heap.size len0 bs W) ∧ Hid (Below W1.heap.size W1 W)) (fun i _ => len0 - (intOf i).toNat)
      case atStart => exact ⟨0, _, Nat.zero_le _, rfl, MetK.start _ _, HM0, HBm⟩
      case round =>
        obtain ⟨j, bs, hj, rfl, HM, HO, HW⟩ := hrel
        clear HM0 HBm
        rename World => wr
        by_cases hlt : j < len0
        · obtain ⟨hP, eP⟩ := HTS.out.at_ j hlt
          have cl := (Rp.out.below HW.out).at (i := j) hlt
          rw [eP, Nat.zero_add] at cl
          have hnew := HM.out.new HTS.out hlt
          have HMn := hid (HM.out.next (k := j) (by rw [HO.out.len]; exact hP))
          have HPL : Hid (pl ps j = pl ps j) := rfl
          have HF := hid fun i (h : i + 1 = j) => HTS.out.falls i (by omega)
          obtain ⟨P, hPe⟩ : ∃ P, pl ps j = P := ⟨_, rfl⟩
          have HFs : Hid (∀ i, i + 1 = j → wi (x0[P]?.getD 0) ≤ wi (x0[pl ps i]?.getD 0)) := by
            intro i h
            have := HF.out i h
            rw [h, hPe] at this
            exact this
          rw [hPe] at hP cl hnew HMn
          clear HPL HF eP
          have cm := HO.out.cell hP
          rw [hnew] at cm
          have fm := HO.out.frozen P
          have HOn : Hid (∀ q, OwnB W1.heap.size len0 (bs.set P true) ((wr.drewN q).setCell ⟨W1.heap.size, P, none⟩ (.bool true))) := fun q => OwnB.set (w := wr.drewN q) HO.out P true
          have HWs : Hid (∀ q, Below W1.heap.size W1 ((wr.drewN q).setCell ⟨W1.heap.size, P, none⟩ (.bool true))) := fun q => Below.setCell (p := ⟨W1.heap.size, P, none⟩) (Below.trans HW.out (⟨rfl, rfl, rfl, Nat.le_refl _, fun _ _ => rfl⟩ : Below W1.heap.size wr (wr.drewN q))) (Nat.le_refl _) _
          obtain ⟨b1, o1, rfl, ca⟩ := (R0.out.below HW.out).cell P hP
          have d1 : decide ((P : Int) < 0) = false := decide_eq_false (by omega)
          have d2 : decide ((len0 : Int) ≤ (P : Int)) = false := decide_eq_false (by omega)
          have d2n : decide (len0 ≤ P) = false := decide_eq_false (by omega)
          have q1 : (P : Int) < (len0 : Int) := by omega
          have q2 : (j : Int) < (len0 : Int) := by omega
          by_cases hj0 : ¬ 0 < j
          · have d3 : decide ((0 : Int) < (j : Int)) = false := decide_eq_false (by omega)
            have d3n : decide (0 < j) = false := decide_eq_false hj0
            have q3 : ¬ (0 : Int) < (j : Int) := by omega
            clear Rp R0 HTS HFs HM HO hPe hnew
            go_wp2_with fail
            go_quiet ((go_at_call 8; exact Calls.quiet_of_same (rwithin_any _ _)))
            go_wp2_with fail
            go_round
            case rel => exact ⟨j + 1, bs.set P true, by omega, by go_num, HMn, HOn.out _, HWs.out _⟩
            case measure => simp [intOf]; omega
          · obtain ⟨i, hi⟩ : ∃ i : Nat, (j : Int) - 1 = (i : Int) := ⟨j - 1, by omega⟩
            have hij : i + 1 = j := by omega
            have d3 : decide ((0 : Int) < (j : Int)) = true := decide_eq_true (by omega)
            have d3n : decide (0 < j) = true := decide_eq_true (by omega)
            have q3 : (0 : Int) < (j : Int) := by omega
            obtain ⟨hQ, eQ⟩ := HTS.out.at_ i (by omega)
            have cl2 := (Rp.out.below HW.out).at (i := i) (by omega)
            rw [eQ, Nat.zero_add] at cl2
            have hfl := HFs.out i hij
            have ca2 := (R0.out.below HW.out).at (i := pl ps i) hQ
            clear Rp R0 HTS HFs HM HO hPe hnew eQ
            generalize pl ps i = Qp at *
            have q4 : (Qp : Int) < (len0 : Int) := by omega
            have q5 : (i : Int) < (len0 : Int) := by omega
            have q6 : i < len0 := by omega
            generalize x0[Qp]?.getD 0 = y at *
            generalize x0[P]?.getD 0 = x at *
            have q7 : ¬ wi y < wi x := by omega
            clear hij
            go_wp2_with fail
            go_quiet ((go_at_call 8; exact Calls.quiet_of_same (rwithin_any _ _)))
            go_wp2_with fail
            go_round
            case rel => exact ⟨j + 1, bs.set P true, by omega, by go_num, HMn, HOn.out _, HWs.out _⟩
            case measure => simp [intOf]; omega
        · obtain rfl : len0 = j := by omega
          have HB2 := hid (HB.out.trans (HW.out.mono HB.out.size))
          go_wp2_with fail
          go_loopw [77] (fun i W => ∃ n : Nat, n ≤ len0 ∧ i = .int .i64 n ∧ Hid (OwnB W1.heap.size len0 bs W) ∧ Hid (Below W1.heap.size W1 W)) (fun i _ => len0 - (intOf i).toNat)
          case atStart => exact ⟨0, Nat.zero_le _, rfl, HO, HW⟩
          case round =>
            clear HO HW HB2
            obtain ⟨n, hn, rfl, HO, HWn⟩ := hrel
            rename World => wn
            by_cases hnl : n < len0
            · obtain ⟨b1, o1, rfl, ca⟩ := (R0.out.below HWn.out).cell n hnl
              have cm := HO.out.cell hnl
              have q1 : (n : Int) < (len0 : Int) := by omega
              by_cases hK0 : ¬ 0 < len0
              · have d3 : decide ((0 : Int) < (len0 : Int)) = false := decide_eq_false (by omega)
                have q3 : ¬ (0 : Int) < (len0 : Int) := by omega
                have d4 : decide (0 < len0) = false := decide_eq_false (by omega)
                clear Rp R0 HTS HM
                go_wp2_with fail
                go_quiet ((go_at_call 8; exact Calls.quiet_of_same (rwithin_any _ _)))
                go_wp2_with fail
                go_round
                case rel => exact ⟨n + 1, by omega, by go_num, HO.out, HWn.out.trans ⟨rfl, rfl, rfl, Nat.le_refl _, fun _ _ => rfl⟩⟩
                case measure => simp [intOf]; omega
              · have d3 : decide ((0 : Int) < (len0 : Int)) = true := decide_eq_true (by omega)
                have q3 : (0 : Int) < (len0 : Int) := by omega
                have d4 : decide (0 < len0) = true := decide_eq_true (by omega)
                cases hmt : mt bs n with
                | true =>
                  rw [hmt] at cm
                  clear Rp R0 HTS HM hmt
                  go_wp2_with fail
                  go_quiet ((go_at_call 8; exact Calls.quiet_of_same (rwithin_any _ _)))
                  go_wp2_with fail
                  go_round
                  case rel => exact ⟨n + 1, by omega, by go_num, HO.out, HWn.out.trans ⟨rfl, rfl, rfl, Nat.le_refl _, fun _ _ => rfl⟩⟩
                  case measure => simp [intOf]; omega
                | false =>
                  rw [hmt] at cm
                  obtain ⟨i, hi⟩ : ∃ i : Nat, (len0 : Int) - 1 = (i : Int) := ⟨len0 - 1, by omega⟩
                  obtain ⟨hQ, eQ⟩ := HTS.out.at_ i (by omega)
                  have cl2 := (Rp.out.below HWn.out).at (i := i) (by omega)
                  rw [eQ, Nat.zero_add] at cl2
                  have hge : wi (x0[n]?.getD 0) ≤ wi (x0[pl ps i]?.getD 0) := by
                    have := HTS.out.rest n hnl (fun k hk e => by
                      have := (HM.out n).2 ⟨k, hk, e⟩
                      rw [hmt] at this
                      cases this) (by omega)
                    rw [show len0 - 1 = i by omega] at this
                    exact this
                  have ca2 := (R0.out.below HWn.out).at (i := pl ps i) hQ
                  clear Rp R0 HTS HM hmt eQ
                  generalize pl ps i = Qp at *
                  have q4 : (Qp : Int) < (len0 : Int) := by omega
                  have q5 : (i : Int) < (len0 : Int) := by omega
                  have q6 : i < len0 := by omega
                  generalize x0[Qp]?.getD 0 = y at *
                  generalize x0[n]?.getD 0 = x at *
                  have q7 : ¬ wi y < wi x := by omega
                  go_wp2_with fail
                  go_quiet ((go_at_call 8; exact Calls.quiet_of_same (rwithin_any _ _)))
                  go_wp2_with fail
                  go_round
                  case rel => exact ⟨n + 1, by omega, by go_num, HO.out, HWn.out.trans ⟨rfl, rfl, rfl, Nat.le_refl _, fun _ _ => rfl⟩⟩
                  case measure => simp [intOf]; omega
            · replace HB := hid (HB.out.trans (HWn.out.mono HB.out.size))
              clear Rp R0 HTS HM HO
              go_wp2_with fail
              refine (alive_any _).mono ?_
              rintro e w2 ⟨rfl, hb2⟩
              replace HB := hid (HB.out.trans (hb2.mono HB.out.size))
              clear hb2 HWn
              go_wp2
              go_ret
              exact ⟨rfl, HB.out⟩

/-! ### THE ROW's STEP: WRITTEN OUT: LEAVE IT -/
set_option maxRecDepth 100000 in
theorem lifted (os : Os) (started : os.Started) (H : Type) (enc : TypeId × Value → H) :
    ReturnsInHanded {} Try.checked os 3 .any (Rows.vecGreatestSpec.pre6 enc Try.prog Try.f3 Rows.vecGreatestRow.domain false) (Rows.vecGreatestSpec.post enc Try.prog Try.f3 false true false false) := by
  refine returnsInHanded_of_change (C := Try.checked) own started (by kernel_rfl) Try.func3
    (ChangeSpec.witness6 (enc := enc) (C := Try.checked) false ⟨#[], #[.slice none 0 0, .int .i64 0], []⟩ 8 (by kernel_rfl) (by kernel_rfl) (by kernel_rfl) (by kernel_rfl)) ?_
  intro W base args ds gs before hval0 hW hcnd _
  have hval : ∀ (j : Nat) t v, Try.f3.params[j]? = some t → args[j]? = some v → Value.okWide Try.prog W .any base t v := hval0
  have hW' := hW
  obtain ⟨p, q, hA0, hV, rfl, hfz, hnd⟩ := hW
  have hA : DataW.TrodAll enc Try.prog W 0 (fun _ => true) true Try.f3.params.toList args.toList ds p := hA0
  rw [Try.params3] at hA hval
  obtain ⟨v0, vs0, d0, ds0, p0, q0, hargs, rfl, rfl, h0, r0⟩ := trodAll_cons hA
  obtain ⟨v1, vs1, d1, ds1, p1, q1, rfl, rfl, rfl, h1, r1⟩ := trodAll_cons r0
  obtain ⟨rfl, rfl, rfl⟩ := trodAll_nil r1
  obtain rfl : args = #[v0, v1] := by cases args; simp_all
  obtain ⟨rfl, rfl⟩ := trodVars_none hV
  obtain ⟨a0, len0, cap0, rfl⟩ := okWide_slice Try.underlying22 (hval 0 22 v0 rfl rfl)
  have k0 := h0
  have lt0 : ∀ x ∈ p0, x.block < W.heap.size := by obtain ⟨m, hm⟩ := k0; exact DataW.trod_lt m _ _ _ hm
  obtain ⟨z0, w0⟩ : ∃ zs, IsRow .i64 W a0 len0 cap0 zs := by
    obtain ⟨fuel, hf⟩ := h0
    rcases open_ints Try.underlying22 Try.underlying2 (by kernel_rfl) hf with ⟨hcs, _⟩ | ⟨x, l, c, zs, hcs, _, hl, hm, hz, _, hcell, hwz⟩
    · simp [Value.cells] at hcs
      obtain ⟨rfl, rfl, rfl⟩ := hcs
      exact ⟨[], .inl ⟨rfl, rfl, rfl, rfl⟩⟩
    · simp [Value.cells] at hcs
      obtain ⟨rfl, rfl, rfl⟩ := hcs
      exact ⟨zs, .inr ⟨_, rfl, hl, hm, by simpa using hz, hcell, hwz⟩⟩
  obtain ⟨a1, rfl, rfl, rfl, w1⟩ := open_int Try.underlying3 (hval 1 3 v1 rfl rfl) h1
  clear hA0 hval0
  refine (walk a0 len0 cap0 z0 a1 W w0 w1).mono fun e W' ⟨he, bel⟩ => ?_
  subst he
  exact ⟨_, rfl, _, _, _, [], _, [], hW', trodAll_mk1 (shut_bool Try.underlying4 _), (trodAll_cons_mk (Below.trod laidOut (by kernel_rfl) (of_decide_eq_true (by kernel_rfl)) k0 bel lt0) (trodAll_cons_mk (shut_int Try.underlying3 w1) trodAll_mk0)), rfl, bel.frame _, fun h => by cases h⟩

theorem over : Rows.vecGreatestRow.holds Try.pinned (OpenSpec.ofChange Rows.vecGreatestSpec) :=
  OpenClaim.holds_of_wide 3 Try.f3 rfl rfl rfl rfl rfl rfl rfl ⟨rfl, rfl, rfl, rfl, rfl⟩ rfl rfl rfl rfl rfl (by kernel_rfl) Try.func3 (by kernel_rfl)
    (of_decide_eq_true (by kernel_rfl)) (by unfold Func.isWrapper; first | (rw [if_pos (by decide +kernel)]; kernel_rfl) | (rw [if_neg (by decide +kernel)]; exact ⟨rfl, rfl⟩))
    (fun os started H enc _ => lifted os started H enc)

/-- ████ THE STATEMENT ████ -/
theorem proved : Rows.VecGreatestSaid := over
#print axioms proved
end Go.Proofs.Ythfblcdlibkchab.vecGreatest
