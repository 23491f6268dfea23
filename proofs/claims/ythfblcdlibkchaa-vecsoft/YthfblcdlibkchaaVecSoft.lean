/-
  Proved: for any vector of at most 300 numbers, the weights that Soft hands back are from 0 to One, and their order is that of what was handed in; the law VecSoft returns true at every input, and its argument reads as before. No condition.
-/
import Derived.Test.YthfblcdlibkchaaRows
import Derived.Test.YthfblcdlibkchaaSMath
import Derived.WalkKit
import Derived.ProofKit
import Derived.OpenShut
import Derived.ShutString
import Derived.ChangeOld
import Derived.Below
namespace Go.Proofs.Ythfblcdlibkchaa.vecSoft
open Go.ChangeShapes Go.WideShapes Go.ChangeAt Go.RowKit
open Go.ChangeMaps (open_string shut_string)
set_option linter.unusedVariables false

theorem own : ownKnob Try.prog.godebug = none := by kernel_rfl
theorem laidOut : laidOutB Try.prog = true := by kernel_rfl

/-- WHAT THE WALK IS TOLD OF A SLICE OF INTEGERS THAT CAME IN: it is nil; or it leads to a row of 'cap' cells, the numbers 'zs' (the first 'len' are its elements, the rest its spare room), each fitting its kind. -/
def IsRow (k : IntKind) (w : World) (a : Option Addr) (len cap : Nat) (zs : List Int) : Prop :=
  (a = none ∧ len = 0 ∧ cap = 0 ∧ zs = []) ∨
  ∃ x, a = some x ∧ len ≤ cap ∧ cap ≤ maxLen ∧ zs.length = cap ∧ (∀ i, i < zs.length → w.cell? (x.add i) = some (.int k (zs.getD i 0))) ∧ ∀ n ∈ zs, (Lit.int k n).wf = true

/-! ### The walk -/
set_option maxRecDepth 1000000 in
set_option maxHeartbeats 2000000 in
theorem walk (a0 : Option Addr) (len0 cap0 : Nat) (z0 : List Int) (w : World) (w0 : IsRow .i64 w a0 len0 cap0 z0) :
    Calls Try.prog 8 #[.slice a0 len0 cap0] w fun e w' => e = .returned (.bool true) ∧ Below w.heap.size w w' := by
  obtain ⟨h0, wf0⟩ := Reads.row w0
  clear w0
  generalize z0.take len0 = x0 at *
  have hbl : Below w.heap.size w (w.alloc (.cells #[.slice a0 len0 cap0] 22)) := (Below.refl _ _).alloc (Nat.le_refl _) _
  have HB := hid hbl
  have R0 := hid (h0.below hbl)
  have hR := rd2_one w a0 len0 cap0
  clear hbl h0
  by_cases hf : 300 < len0
  · have hF := far_yes _ _ _ _ _ hR (far_one.2 hf)
    clear hR hf R0 wf0
    go_enter Try.func8, Try.ntmps8
    go_wp2_with fail
    refine hF.mono ?_
    rintro e w' ⟨rfl, rfl⟩
    go_wp2_with fail
    refine (alive_any _).mono ?_
    rintro e w2 ⟨rfl, hb2⟩
    replace HB := hid (HB.out.trans (hb2.mono HB.out.size))
    clear hb2 hF
    go_wp2
    go_ret
    exact ⟨rfl, HB.out⟩
  · have hF := far_no _ _ _ _ _ hR (fun h => hf (far_one.1 h))
    have l0 : len0 ≤ 300 := by omega
    clear hR hf
    go_enter Try.func8, Try.ntmps8
    go_wp2_with fail
    refine hF.mono ?_
    rintro e w' ⟨rfl, rfl⟩
    clear hF
    generalize w.alloc (.cells #[.slice a0 len0 cap0] 22) = W0 at *
    have hC := (soft_any a0 len0 cap0 x0 W0 R0.out (by omega)).mono fun e w' h => h.gives
    go_wp2_with fail
    refine hC.mono ?_
    rintro e W1 ⟨sa, sc, rfl, hr, hb⟩
    replace HB := hid (HB.out.trans (hb.mono HB.out.size))
    replace R0 := hid (R0.out.below hb)
    have Rs := hid hr
    clear hb hC hr
    have HZ := hid R0.out.size
    have r0 := R0.out.room
    have m0 := R0.out.most
    have rs := Rs.out.room
    have ms := Rs.out.most
    clear wf0
    go_wp2_with fail
    go_loopw [21] (fun i W => ∃ n : Nat, n ≤ len0 ∧ i = .int .i64 n ∧ Hid (Below W1.heap.size W1 W)) (fun i _ => len0 - (intOf i).toNat)
    case atStart => exact ⟨0, Nat.zero_le _, rfl, Below.refl _ _⟩
    case round =>
      obtain ⟨n, hn, rfl, HW⟩ := hrel
      rename World => wr
      by_cases hlt : n < len0
      · obtain ⟨b1, o1, rfl, c1⟩ := (Rs.out.below HW.out).cell n hlt
        obtain ⟨s0, s1⟩ := softL_bd x0 n
        obtain ⟨x, hx⟩ : ∃ x, (softL x0)[n]?.getD 0 = x := ⟨_, rfl⟩
        rw [hx] at c1 s0 s1
        have HX := hid hx
        clear hx
        go_wp2_with fail
        go_loopw [34] (fun i W => ∃ k : Nat, k ≤ len0 ∧ i = .int .i64 k ∧ Hid (Below W1.heap.size W1 W)) (fun i _ => len0 - (intOf i).toNat)
        case atStart => exact ⟨0, Nat.zero_le _, rfl, HW⟩
        case round =>
          obtain ⟨k, hk, rfl, HWk⟩ := hrel
          clear c1 HW
          rename World => wk
          by_cases hkl : k < len0
          · have c2 := (Rs.out.below HWk.out).at (i := k) hkl
            obtain ⟨b2, o2, rfl, d1⟩ := (R0.out.below HWk.out).cell n hlt
            have d2 := (R0.out.below HWk.out).at (i := k) hkl
            have HL : Hid (wi (x0[n]?.getD 0) ≤ wi (x0[k]?.getD 0) → x ≤ (softL x0)[k]?.getD 0) := by
              rw [← HX.out]
              exact softL_le (by rw [HZ.out]; exact hlt) (by rw [HZ.out]; exact hkl)
            have q1 : (n : Int) < (len0 : Int) := by omega
            have q2 : (k : Int) < (len0 : Int) := by omega
            clear Rs R0
            generalize (softL x0)[k]?.getD 0 = y at *
            generalize x0[n]?.getD 0 = u at *
            generalize x0[k]?.getD 0 = v at *
            by_cases hle : wi u ≤ wi v
            · have hxy : x ≤ y := HL.out hle
              have hg : ¬ y < x := by omega
              clear HL
              go_wp2_with fail
              go_quiet ((go_at_call 30; exact Calls.quiet_of_same (rwithin_any _ _)))
              go_wp2_with fail
              go_round
              case rel => exact ⟨k + 1, by omega, by go_num, HWk.out.trans ⟨rfl, rfl, rfl, Nat.le_refl _, fun _ _ => rfl⟩⟩
              case measure => simp [intOf]; omega
            · have hd : decide (wi u ≤ wi v) = false := decide_eq_false hle
              clear HL
              go_wp2_with fail
              go_quiet ((go_at_call 30; exact Calls.quiet_of_same (rwithin_any _ _)))
              go_wp2_with fail
              go_round
              case rel => exact ⟨k + 1, by omega, by go_num, HWk.out.trans ⟨rfl, rfl, rfl, Nat.le_refl _, fun _ _ => rfl⟩⟩
              case measure => simp [intOf]; omega
          · clear Rs R0
            go_wp2_with fail
            go_round
            case rel => exact ⟨n + 1, by omega, by go_num, HWk⟩
            case measure => simp [intOf]; omega
      · replace HB := hid (HB.out.trans (HW.out.mono HB.out.size))
        clear Rs R0
        go_wp2_with fail
        refine (alive_any _).mono ?_
        rintro e w2 ⟨rfl, hb2⟩
        replace HB := hid (HB.out.trans (hb2.mono HB.out.size))
        clear hb2 HW
        go_wp2
        go_ret
        exact ⟨rfl, HB.out⟩

/-! ### THE ROW's STEP: WRITTEN OUT: LEAVE IT -/
set_option maxRecDepth 100000 in
theorem lifted (os : Os) (started : os.Started) (H : Type) (enc : TypeId × Value → H) :
    ReturnsInHanded {} Try.checked os 8 .any (Rows.vecSoftSpec.pre6 enc Try.prog Try.f8 Rows.vecSoftRow.domain false) (Rows.vecSoftSpec.post enc Try.prog Try.f8 false true false false) := by
  refine returnsInHanded_of_change (C := Try.checked) own started (by kernel_rfl) Try.func8
    (ChangeSpec.witness6 (enc := enc) (C := Try.checked) false ⟨#[], #[.slice none 0 0], []⟩ 8 (by kernel_rfl) (by kernel_rfl) (by kernel_rfl) (by kernel_rfl)) ?_
  intro W base args ds gs before hval0 hW hcnd _
  have hval : ∀ (j : Nat) t v, Try.f8.params[j]? = some t → args[j]? = some v → Value.okWide Try.prog W .any base t v := hval0
  have hW' := hW
  obtain ⟨p, q, hA0, hV, rfl, hfz, hnd⟩ := hW
  have hA : DataW.TrodAll enc Try.prog W 0 (fun _ => true) true Try.f8.params.toList args.toList ds p := hA0
  rw [Try.params8] at hA hval
  obtain ⟨v0, vs0, d0, ds0, p0, q0, hargs, rfl, rfl, h0, r0⟩ := trodAll_cons hA
  obtain ⟨rfl, rfl, rfl⟩ := trodAll_nil r0
  obtain rfl : args = #[v0] := by cases args; simp_all
  obtain ⟨rfl, rfl⟩ := trodVars_none hV
  obtain ⟨a0, len0, cap0, rfl⟩ := okWide_slice Try.underlying22 (hval 0 22 v0 rfl rfl)
  have k0 := h0
  have lt0 : ∀ x ∈ p0, x.block < W.heap.size := by obtain ⟨m, hm⟩ := k0; exact DataW.trod_lt m _ _ _ hm
  obtain ⟨z0, w0⟩ : ∃ zs, IsRow .i64 W a0 len0 cap0 zs := by
    obtain ⟨fuel, hf⟩ := h0
    rcases open_ints Try.underlying22 Try.underlying2 (by kernel_rfl) hf with ⟨hcs, _⟩ | ⟨x, l, c, zs, hcs, _, hl, hm, hz, _, hcell, hwz⟩
    · simp [Value.cells] at hcs
      obtain ⟨rfl, rfl, rfl⟩ := hcs
      exact ⟨[], .inl ⟨rfl, rfl, rfl, rfl⟩⟩
    · simp [Value.cells] at hcs
      obtain ⟨rfl, rfl, rfl⟩ := hcs
      exact ⟨zs, .inr ⟨_, rfl, hl, hm, by simpa using hz, hcell, hwz⟩⟩
  clear hA0 hval0
  refine (walk a0 len0 cap0 z0 W w0).mono fun e W' ⟨he, bel⟩ => ?_
  subst he
  exact ⟨_, rfl, _, _, _, [], _, [], hW', trodAll_mk1 (shut_bool Try.underlying4 _), (trodAll_cons_mk (Below.trod laidOut (by kernel_rfl) (of_decide_eq_true (by kernel_rfl)) k0 bel lt0) trodAll_mk0), rfl, bel.frame _, fun h => by cases h⟩

theorem over : Rows.vecSoftRow.holds Try.pinned (OpenSpec.ofChange Rows.vecSoftSpec) :=
  OpenClaim.holds_of_wide 8 Try.f8 rfl rfl rfl rfl rfl rfl rfl ⟨rfl, rfl, rfl, rfl, rfl⟩ rfl rfl rfl rfl rfl (by kernel_rfl) Try.func8 (by kernel_rfl)
    (of_decide_eq_true (by kernel_rfl)) (by unfold Func.isWrapper; first | (rw [if_pos (by decide +kernel)]; kernel_rfl) | (rw [if_neg (by decide +kernel)]; exact ⟨rfl, rfl⟩))
    (fun os started H enc _ => lifted os started H enc)

/-- ████ THE STATEMENT ████ -/
theorem proved : Rows.VecSoftSaid := over
#print axioms proved
end Go.Proofs.Ythfblcdlibkchaa.vecSoft
