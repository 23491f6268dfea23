/-
  Proved: the statement RandPerms, by its walk.
-/
import Derived.Test.YtfnbkmhhiflkjaaRows
import Derived.Test.YtfnbkmhhiflkjaaRPerms
import Derived.WalkKit
import Derived.ProofKit
import Derived.OpenShut
import Derived.ShutString
import Derived.Below
namespace Go.Proofs.Ytfnbkmhhiflkjaa.randPerms
open Go.ChangeShapes Go.WideShapes Go.ChangeAt Go.RowKit
open Go.ChangeMaps (open_string shut_string)
set_option linter.unusedVariables false      -- a walk need not use every 'w<i>' (that an integer argument fits its kind)

theorem own : ownKnob Try.prog.godebug = none := by kernel_rfl

/-! ### The walk -/
set_option maxRecDepth 1000000 in
set_option maxHeartbeats 2000000 in
theorem walk (a0 : Int) (a1 : Int) (w0 : (Lit.int .u64 a0).wf = true) (w1 : (Lit.int .i64 a1).wf = true) (w : World) :
    Calls Try.prog 5 #[.int .u64 a0, .int .i64 a1] w fun e w' => e = .returned (.bool true) ∧ Below w.heap.size w w' := by
  obtain ⟨m, hp, hm⟩ := places_any a1
  have hP := perm_any a0 a1 m w hp
  have HR := hid fun W => rperm_any a0 a1 m W hp hm
  clear w0 w1
  rcases hp with ⟨h, rfl⟩ | ⟨h, h1, rfl⟩ | ⟨h, h4⟩
  · rcases (by omega : a1 < 0 ∨ a1 = 0) with h' | rfl
    · clear h
      go_enter Try.func5, Try.ntmps5
      go_wp2_with fail
      refine hP.mono ?_
      rintro e w1 ⟨rfl, hA, hb1⟩
      have hR := HR.out w1
      have HA1 := hid hA
      have HB1 := hid hb1
      clear hP hA hb1 HR
      go_wp2_with fail
      refine hR.mono ?_
      rintro e w2 ⟨v, rfl, hV, hb2⟩
      have HA : Hid (OwnI w.heap.size w.heap.size 0 0 (permL a0 0) w2) := HA1.out.stays hb2
      have HB2 : Hid (Below w.heap.size w w2) := HB1.out.trans (hb2.mono HB1.out.size)
      have HU : Hid (Once 0 (permL a0 0)) := Once.perm a0 0
      rcases own_cases hV with ⟨h0, rfl⟩ | ⟨gb, cb0, rfl, hBB⟩
      · clear hV hb2 HA1 hR HB1 h0
        generalize permL a0 0 = xs at *
        have HM : Hid (OwnB w2.heap.size 0 (metL 0 xs 0) (w2.alloc (.cells (madeCells #[.bool false] 0) 4))) := own_bools w2 0 xs (by omega)
        have HZ : Hid (Below w2.heap.size w2 (w2.alloc (.cells (madeCells #[.bool false] 0) 4))) := (Below.refl _ _).alloc (Nat.le_refl _) _
        have hmk := make_bools w2 0 (by omega)
        have hmk2 : (Instr.makeSlice 34 (.int .i64 0) (.int .i64 0)).run Try.prog w2 = .ok (.slice (some ⟨w2.heap.size, 0, none⟩) 0 0) (w2.alloc (.cells (madeCells #[.bool false] 0) 4)) := make_bools w2 0 (by omega)
        go_wp2_with fail
        clear hmk hmk2
        go_loopw [34] (fun i wr => ∃ k : Nat, k ≤ 0 ∧ i = .int .i64 k ∧ Hid (OwnB w2.heap.size 0 (metL 0 xs k) wr) ∧ Hid (Below w2.heap.size w2 wr)) (fun i _ => 0 - (intOf i).toNat)
        case atStart => exact ⟨0, Nat.zero_le _, rfl, HM, HZ⟩
        case round =>
          obtain ⟨k, hk, rfl, HK, HL⟩ := hrel
          clear HM HZ
          obtain rfl : k = 0 := by omega
          go_wp2_with fail
          refine (alive_any _).mono ?_
          rintro e w' ⟨rfl, rfl⟩
          go_wp2
          go_ret
          exact ⟨rfl, HB2.out.trans (HL.out.mono HB2.out.size)⟩
      · have HBB := hid hBB
        clear hV hb2 HA1 hR HB1 hBB
        generalize permL a0 0 = xs at *
        have HM : Hid (OwnB w2.heap.size 0 (metL 0 xs 0) (w2.alloc (.cells (madeCells #[.bool false] 0) 4))) := own_bools w2 0 xs (by omega)
        have HZ : Hid (Below w2.heap.size w2 (w2.alloc (.cells (madeCells #[.bool false] 0) 4))) := (Below.refl _ _).alloc (Nat.le_refl _) _
        have hmk := make_bools w2 0 (by omega)
        have hmk2 : (Instr.makeSlice 34 (.int .i64 0) (.int .i64 0)).run Try.prog w2 = .ok (.slice (some ⟨w2.heap.size, 0, none⟩) 0 0) (w2.alloc (.cells (madeCells #[.bool false] 0) 4)) := make_bools w2 0 (by omega)
        go_wp2_with fail
        clear hmk hmk2
        go_loopw [34] (fun i wr => ∃ k : Nat, k ≤ 0 ∧ i = .int .i64 k ∧ Hid (OwnB w2.heap.size 0 (metL 0 xs k) wr) ∧ Hid (Below w2.heap.size w2 wr)) (fun i _ => 0 - (intOf i).toNat)
        case atStart => exact ⟨0, Nat.zero_le _, rfl, HM, HZ⟩
        case round =>
          obtain ⟨k, hk, rfl, HK, HL⟩ := hrel
          clear HM HZ
          obtain rfl : k = 0 := by omega
          go_wp2_with fail
          refine (alive_any _).mono ?_
          rintro e w' ⟨rfl, rfl⟩
          go_wp2
          go_ret
          exact ⟨rfl, HB2.out.trans (HL.out.mono HB2.out.size)⟩
    · clear h
      go_enter Try.func5, Try.ntmps5
      go_wp2_with fail
      refine hP.mono ?_
      rintro e w1 ⟨rfl, hA, hb1⟩
      have hR := HR.out w1
      have HA1 := hid hA
      have HB1 := hid hb1
      clear hP hA hb1 HR
      go_wp2_with fail
      refine hR.mono ?_
      rintro e w2 ⟨v, rfl, hV, hb2⟩
      have HA : Hid (OwnI w.heap.size w.heap.size 0 0 (permL a0 0) w2) := HA1.out.stays hb2
      have HB2 : Hid (Below w.heap.size w w2) := HB1.out.trans (hb2.mono HB1.out.size)
      have HU : Hid (Once 0 (permL a0 0)) := Once.perm a0 0
      rcases own_cases hV with ⟨h0, rfl⟩ | ⟨gb, cb0, rfl, hBB⟩
      · clear hV hb2 HA1 hR HB1 h0
        generalize permL a0 0 = xs at *
        have HM : Hid (OwnB w2.heap.size 0 (metL 0 xs 0) (w2.alloc (.cells (madeCells #[.bool false] 0) 4))) := own_bools w2 0 xs (by omega)
        have HZ : Hid (Below w2.heap.size w2 (w2.alloc (.cells (madeCells #[.bool false] 0) 4))) := (Below.refl _ _).alloc (Nat.le_refl _) _
        have hmk := make_bools w2 0 (by omega)
        have hmk2 : (Instr.makeSlice 34 (.int .i64 0) (.int .i64 0)).run Try.prog w2 = .ok (.slice (some ⟨w2.heap.size, 0, none⟩) 0 0) (w2.alloc (.cells (madeCells #[.bool false] 0) 4)) := make_bools w2 0 (by omega)
        go_wp2_with fail
        clear hmk hmk2
        go_loopw [34] (fun i wr => ∃ k : Nat, k ≤ 0 ∧ i = .int .i64 k ∧ Hid (OwnB w2.heap.size 0 (metL 0 xs k) wr) ∧ Hid (Below w2.heap.size w2 wr)) (fun i _ => 0 - (intOf i).toNat)
        case atStart => exact ⟨0, Nat.zero_le _, rfl, HM, HZ⟩
        case round =>
          obtain ⟨k, hk, rfl, HK, HL⟩ := hrel
          clear HM HZ
          obtain rfl : k = 0 := by omega
          go_wp2_with fail
          refine (alive_any _).mono ?_
          rintro e w' ⟨rfl, rfl⟩
          go_wp2
          go_ret
          exact ⟨rfl, HB2.out.trans (HL.out.mono HB2.out.size)⟩
      · have HBB := hid hBB
        clear hV hb2 HA1 hR HB1 hBB
        generalize permL a0 0 = xs at *
        have HM : Hid (OwnB w2.heap.size 0 (metL 0 xs 0) (w2.alloc (.cells (madeCells #[.bool false] 0) 4))) := own_bools w2 0 xs (by omega)
        have HZ : Hid (Below w2.heap.size w2 (w2.alloc (.cells (madeCells #[.bool false] 0) 4))) := (Below.refl _ _).alloc (Nat.le_refl _) _
        have hmk := make_bools w2 0 (by omega)
        have hmk2 : (Instr.makeSlice 34 (.int .i64 0) (.int .i64 0)).run Try.prog w2 = .ok (.slice (some ⟨w2.heap.size, 0, none⟩) 0 0) (w2.alloc (.cells (madeCells #[.bool false] 0) 4)) := make_bools w2 0 (by omega)
        go_wp2_with fail
        clear hmk hmk2
        go_loopw [34] (fun i wr => ∃ k : Nat, k ≤ 0 ∧ i = .int .i64 k ∧ Hid (OwnB w2.heap.size 0 (metL 0 xs k) wr) ∧ Hid (Below w2.heap.size w2 wr)) (fun i _ => 0 - (intOf i).toNat)
        case atStart => exact ⟨0, Nat.zero_le _, rfl, HM, HZ⟩
        case round =>
          obtain ⟨k, hk, rfl, HK, HL⟩ := hrel
          clear HM HZ
          obtain rfl : k = 0 := by omega
          go_wp2_with fail
          refine (alive_any _).mono ?_
          rintro e w' ⟨rfl, rfl⟩
          go_wp2
          go_ret
          exact ⟨rfl, HB2.out.trans (HL.out.mono HB2.out.size)⟩
  · go_enter Try.func5, Try.ntmps5
    go_wp2_with fail
    refine hP.mono ?_
    rintro e w1 ⟨rfl, hA, hb1⟩
    have hR := HR.out w1
    have HA1 := hid hA
    have HB1 := hid hb1
    clear hP hA hb1 HR
    go_wp2_with fail
    refine hR.mono ?_
    rintro e w2 ⟨v, rfl, hV, hb2⟩
    have HA : Hid (OwnI w.heap.size w.heap.size m m (permL a0 m) w2) := HA1.out.stays hb2
    have HB2 : Hid (Below w.heap.size w w2) := HB1.out.trans (hb2.mono HB1.out.size)
    have HU : Hid (Once m (permL a0 m)) := Once.perm a0 m
    rcases own_cases hV with ⟨h0, rfl⟩ | ⟨gb, cb0, rfl, hBB⟩
    · omega
    · have HBB := hid hBB
      clear hV hb2 HA1 hR HB1 hBB
      generalize permL a0 m = xs at *
      have HM : Hid (OwnB w2.heap.size m (metL m xs 0) (w2.alloc (.cells (madeCells #[.bool false] m) 4))) := own_bools w2 m xs (by omega)
      have HZ : Hid (Below w2.heap.size w2 (w2.alloc (.cells (madeCells #[.bool false] m) 4))) := (Below.refl _ _).alloc (Nat.le_refl _) _
      have hmk := make_bools w2 m (by omega)
      go_wp2_with fail
      clear hmk
      go_loopw [34] (fun i wr => ∃ k : Nat, k ≤ m ∧ i = .int .i64 k ∧ Hid (OwnB w2.heap.size m (metL m xs k) wr) ∧ Hid (Below w2.heap.size w2 wr)) (fun i _ => m - (intOf i).toNat)
      case atStart => exact ⟨0, Nat.zero_le _, rfl, HM, HZ⟩
      case round =>
        obtain ⟨k, hk, rfl, HK, HL⟩ := hrel
        clear HM HZ
        by_cases hlt : k < m
        · have HX : Hid ((metL m xs k).set (atL xs k).toNat true = metL m xs (k + 1)) := metL_set HU.out hlt
          obtain ⟨x0, x1⟩ := HU.out.low k hlt
          have cm := HK.out.cell (k := (atL xs k).toNat) (by omega) (metL_at HU.out hlt)
          have fm := HK.out.frozen (atL xs k).toNat
          have ca := (HA.out.stays HL.out).cell hlt
          have cb := (HBB.out.stays HL.out).cell hlt
          generalize atL xs k = x at *
          obtain ⟨X, rfl⟩ := Int.eq_ofNat_of_zero_le x0
          have HS : Hid (OwnB w2.heap.size m (metL m xs (k + 1)) (wr.setCell ⟨w2.heap.size, X, none⟩ (.bool true))) := by
            unfold Hid
            rw [← HX.out]
            exact HK.out.set X true
          simp only [Int.toNat_natCast] at cm fm
          clear HX x0
          go_wp2_with fail
          go_round
          case rel => exact ⟨k + 1, by omega, by go_num, HS, HL.out.setCell (Nat.le_refl _) _⟩
          case measure => simp [intOf]; omega
        · go_wp2_with fail
          refine (alive_any _).mono ?_
          rintro e w' ⟨rfl, rfl⟩
          go_wp2
          go_ret
          exact ⟨rfl, HB2.out.trans (HL.out.mono HB2.out.size)⟩
  · have H4 : Hid ((m : Int) = 4096) := by unfold Hid; omega
    clear h4
    rcases (by omega : 4096 < a1 ∨ a1 = 4096) with h' | rfl
    · clear h
      go_enter Try.func5, Try.ntmps5
      go_wp2_with fail
      refine hP.mono ?_
      rintro e w1 ⟨rfl, hA, hb1⟩
      have hR := HR.out w1
      have HA1 := hid hA
      have HB1 := hid hb1
      clear hP hA hb1 HR
      go_wp2_with fail
      refine hR.mono ?_
      rintro e w2 ⟨v, rfl, hV, hb2⟩
      have HA : Hid (OwnI w.heap.size w.heap.size m m (permL a0 m) w2) := HA1.out.stays hb2
      have HB2 : Hid (Below w.heap.size w w2) := HB1.out.trans (hb2.mono HB1.out.size)
      have HU : Hid (Once m (permL a0 m)) := Once.perm a0 m
      rcases own_cases hV with ⟨h0, rfl⟩ | ⟨gb, cb0, rfl, hBB⟩
      · have := H4.out; omega
      · have HBB := hid hBB
        clear hV hb2 HA1 hR HB1 hBB
        generalize permL a0 m = xs at *
        have HM : Hid (OwnB w2.heap.size m (metL m xs 0) (w2.alloc (.cells (madeCells #[.bool false] m) 4))) := own_bools w2 m xs (by omega)
        have HZ : Hid (Below w2.heap.size w2 (w2.alloc (.cells (madeCells #[.bool false] m) 4))) := (Below.refl _ _).alloc (Nat.le_refl _) _
        have hmk := make_bools w2 m (by omega)
        have hmk2 : (Instr.makeSlice 34 (.int .i64 4096) (.int .i64 4096)).run Try.prog w2 = .ok (.slice (some ⟨w2.heap.size, 0, none⟩) m m) (w2.alloc (.cells (madeCells #[.bool false] m) 4)) := by
          rw [← H4.out]; exact hmk
        have h4 := H4.out
        go_wp2_with fail
        clear hmk hmk2 h4
        go_loopw [34] (fun i wr => ∃ k : Nat, k ≤ m ∧ i = .int .i64 k ∧ Hid (OwnB w2.heap.size m (metL m xs k) wr) ∧ Hid (Below w2.heap.size w2 wr)) (fun i _ => m - (intOf i).toNat)
        case atStart => exact ⟨0, Nat.zero_le _, rfl, HM, HZ⟩
        case round =>
          obtain ⟨k, hk, rfl, HK, HL⟩ := hrel
          clear HM HZ
          by_cases hlt : k < m
          · have q4 : (k : Int) < 4096 := by have := H4.out; omega
            have HX : Hid ((metL m xs k).set (atL xs k).toNat true = metL m xs (k + 1)) := metL_set HU.out hlt
            obtain ⟨x0, x1⟩ := HU.out.low k hlt
            have cm := HK.out.cell (k := (atL xs k).toNat) (by omega) (metL_at HU.out hlt)
            have fm := HK.out.frozen (atL xs k).toNat
            have ca := (HA.out.stays HL.out).cell hlt
            have cb := (HBB.out.stays HL.out).cell hlt
            generalize atL xs k = x at *
            obtain ⟨X, rfl⟩ := Int.eq_ofNat_of_zero_le x0
            have HS : Hid (OwnB w2.heap.size m (metL m xs (k + 1)) (wr.setCell ⟨w2.heap.size, X, none⟩ (.bool true))) := by
              unfold Hid
              rw [← HX.out]
              exact HK.out.set X true
            simp only [Int.toNat_natCast] at cm fm
            clear HX x0
            go_wp2_with fail
            go_round
            case rel => exact ⟨k + 1, by omega, by go_num, HS, HL.out.setCell (Nat.le_refl _) _⟩
            case measure => simp [intOf]; omega
          · have q4 : ¬ (k : Int) < 4096 := by have := H4.out; omega
            go_wp2_with fail
            refine (alive_any _).mono ?_
            rintro e w' ⟨rfl, rfl⟩
            go_wp2
            go_ret
            exact ⟨rfl, HB2.out.trans (HL.out.mono HB2.out.size)⟩
    · clear h
      go_enter Try.func5, Try.ntmps5
      go_wp2_with fail
      refine hP.mono ?_
      rintro e w1 ⟨rfl, hA, hb1⟩
      have hR := HR.out w1
      have HA1 := hid hA
      have HB1 := hid hb1
      clear hP hA hb1 HR
      go_wp2_with fail
      refine hR.mono ?_
      rintro e w2 ⟨v, rfl, hV, hb2⟩
      have HA : Hid (OwnI w.heap.size w.heap.size m m (permL a0 m) w2) := HA1.out.stays hb2
      have HB2 : Hid (Below w.heap.size w w2) := HB1.out.trans (hb2.mono HB1.out.size)
      have HU : Hid (Once m (permL a0 m)) := Once.perm a0 m
      rcases own_cases hV with ⟨h0, rfl⟩ | ⟨gb, cb0, rfl, hBB⟩
      · have := H4.out; omega
      · have HBB := hid hBB
        clear hV hb2 HA1 hR HB1 hBB
        generalize permL a0 m = xs at *
        have HM : Hid (OwnB w2.heap.size m (metL m xs 0) (w2.alloc (.cells (madeCells #[.bool false] m) 4))) := own_bools w2 m xs (by omega)
        have HZ : Hid (Below w2.heap.size w2 (w2.alloc (.cells (madeCells #[.bool false] m) 4))) := (Below.refl _ _).alloc (Nat.le_refl _) _
        have hmk := make_bools w2 m (by omega)
        have hmk2 : (Instr.makeSlice 34 (.int .i64 4096) (.int .i64 4096)).run Try.prog w2 = .ok (.slice (some ⟨w2.heap.size, 0, none⟩) m m) (w2.alloc (.cells (madeCells #[.bool false] m) 4)) := by
          rw [← H4.out]; exact hmk
        have h4 := H4.out
        go_wp2_with fail
        clear hmk hmk2 h4
        go_loopw [34] (fun i wr => ∃ k : Nat, k ≤ m ∧ i = .int .i64 k ∧ Hid (OwnB w2.heap.size m (metL m xs k) wr) ∧ Hid (Below w2.heap.size w2 wr)) (fun i _ => m - (intOf i).toNat)
        case atStart => exact ⟨0, Nat.zero_le _, rfl, HM, HZ⟩
        case round =>
          obtain ⟨k, hk, rfl, HK, HL⟩ := hrel
          clear HM HZ
          by_cases hlt : k < m
          · have q4 : (k : Int) < 4096 := by have := H4.out; omega
            have HX : Hid ((metL m xs k).set (atL xs k).toNat true = metL m xs (k + 1)) := metL_set HU.out hlt
            obtain ⟨x0, x1⟩ := HU.out.low k hlt
            have cm := HK.out.cell (k := (atL xs k).toNat) (by omega) (metL_at HU.out hlt)
            have fm := HK.out.frozen (atL xs k).toNat
            have ca := (HA.out.stays HL.out).cell hlt
            have cb := (HBB.out.stays HL.out).cell hlt
            generalize atL xs k = x at *
            obtain ⟨X, rfl⟩ := Int.eq_ofNat_of_zero_le x0
            have HS : Hid (OwnB w2.heap.size m (metL m xs (k + 1)) (wr.setCell ⟨w2.heap.size, X, none⟩ (.bool true))) := by
              unfold Hid
              rw [← HX.out]
              exact HK.out.set X true
            simp only [Int.toNat_natCast] at cm fm
            clear HX x0
            go_wp2_with fail
            go_round
            case rel => exact ⟨k + 1, by omega, by go_num, HS, HL.out.setCell (Nat.le_refl _) _⟩
            case measure => simp [intOf]; omega
          · have q4 : ¬ (k : Int) < 4096 := by have := H4.out; omega
            go_wp2_with fail
            refine (alive_any _).mono ?_
            rintro e w' ⟨rfl, rfl⟩
            go_wp2
            go_ret
            exact ⟨rfl, HB2.out.trans (HL.out.mono HB2.out.size)⟩

/-! ### THE ROW's STEP: WRITTEN OUT: LEAVE IT -/
set_option maxRecDepth 100000 in
theorem lifted (os : Os) (started : os.Started) (H : Type) (enc : TypeId × Value → H) :
    ReturnsInHanded {} Try.checked os 5 .any (Rows.randPermsSpec.pre6 enc Try.prog Try.f5 Rows.randPermsRow.domain false) (Rows.randPermsSpec.post enc Try.prog Try.f5 false true false false) := by
  refine returnsInHanded_of_change (C := Try.checked) own started (by kernel_rfl) Try.func5
    (ChangeSpec.witness6 (enc := enc) (C := Try.checked) false ⟨#[], #[.int .u64 0, .int .i64 0], []⟩ 8 (by kernel_rfl) (by kernel_rfl) (by kernel_rfl) (by kernel_rfl)) ?_
  intro W base args ds gs before hval0 hW hcnd _
  have hval : ∀ (j : Nat) t v, Try.f5.params[j]? = some t → args[j]? = some v → Value.okWide Try.prog W .any base t v := hval0
  have hW' := hW
  obtain ⟨p, q, hA0, hV, rfl, hfz, hnd⟩ := hW
  have hA : DataW.TrodAll enc Try.prog W 0 (fun _ => true) true Try.f5.params.toList args.toList ds p := hA0
  rw [Try.params5] at hA hval
  obtain ⟨v0, vs0, d0, ds0, p0, q0, hargs, rfl, rfl, h0, r0⟩ := trodAll_cons hA
  obtain ⟨v1, vs1, d1, ds1, p1, q1, rfl, rfl, rfl, h1, r1⟩ := trodAll_cons r0
  obtain ⟨rfl, rfl, rfl⟩ := trodAll_nil r1
  obtain rfl : args = #[v0, v1] := by cases args; simp_all
  obtain ⟨rfl, rfl⟩ := trodVars_none hV
  obtain ⟨a0, rfl, rfl, rfl, w0⟩ := open_int Try.underlying22 (hval 0 22 v0 rfl rfl) h0
  obtain ⟨a1, rfl, rfl, rfl, w1⟩ := open_int Try.underlying3 (hval 1 3 v1 rfl rfl) h1
  clear hA0 hval0
  simp only [List.append_nil] at hW'
  refine (walk a0 a1 w0 w1 W).mono fun e W' ⟨he, bel⟩ => ?_
  subst he
  exact ⟨_, rfl, _, _, _, [], [], [], hW', trodAll_mk1 (shut_bool Try.underlying4 _), (trodAll_cons_mk (shut_int Try.underlying22 w0) (trodAll_cons_mk (shut_int Try.underlying3 w1) trodAll_mk0)), rfl, bel.frame _, fun h => by cases h⟩

theorem over : Rows.randPermsRow.holds Try.pinned (OpenSpec.ofChange Rows.randPermsSpec) :=
  OpenClaim.holds_of_wide 5 Try.f5 rfl rfl rfl rfl rfl rfl rfl ⟨rfl, rfl, rfl, rfl, rfl⟩ rfl rfl rfl rfl rfl (by kernel_rfl) Try.func5 (by kernel_rfl)
    (of_decide_eq_true (by kernel_rfl)) (by unfold Func.isWrapper; first | (rw [if_pos (by decide +kernel)]; kernel_rfl) | (rw [if_neg (by decide +kernel)]; exact ⟨rfl, rfl⟩))
    (fun os started H enc _ => lifted os started H enc)

/-- ████ THE STATEMENT ████ -/
theorem proved : Rows.RandPermsSaid :=
  over
#print axioms proved
end Go.Proofs.Ytfnbkmhhiflkjaa.randPerms
