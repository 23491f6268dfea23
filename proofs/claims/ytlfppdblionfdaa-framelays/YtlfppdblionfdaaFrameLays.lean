/-
  Proved: for any load and any number, what frame.Lay and frame.Size hand back is what the document's Lay and Size do, with the same error, and Size of the load's length is the frame's; the law FrameLays returns true, and its arguments read as before. No condition.
-/
import Derived.Test.YtlfppdblionfdaaRows
import Derived.Test.YtlfppdblionfdaaOnes
import Derived.WalkKit
import Derived.ProofKit
import Derived.OpenShut
import Derived.ShutString
import Derived.ChangeOld
import Derived.Below
namespace Go.Proofs.Ytlfppdblionfdaa.frameLays
open Go.ChangeShapes Go.WideShapes Go.ChangeAt Go.RowKit
open Go.ChangeMaps (open_string shut_string)
set_option linter.unusedVariables false

theorem own : ownKnob Try.prog.godebug = none := by kernel_rfl
theorem laidOut : laidOutB Try.prog = true := by kernel_rfl

/-- WHAT THE WALK IS TOLD OF A SLICE OF INTEGERS THAT CAME IN: it is nil; or it leads to a row of 'cap' cells, the numbers 'zs' (the first 'len' are its elements, the rest its spare room), each fitting its kind. -/
def IsRow (k : IntKind) (w : World) (a : Option Addr) (len cap : Nat) (zs : List Int) : Prop :=
  (a = none ∧ len = 0 ∧ cap = 0 ∧ zs = []) ∨
  ∃ x, a = some x ∧ len ≤ cap ∧ cap ≤ maxLen ∧ zs.length = cap ∧ (∀ i, i < zs.length → w.cell? (x.add i) = some (.int k (zs.getD i 0))) ∧ ∀ n ∈ zs, (Lit.int k n).wf = true

/-! ### The walk -/
open M in
set_option maxHeartbeats 2000000 in
theorem walk (a0 : Option Addr) (len0 cap0 : Nat) (z0 : List Int) (a1 : Int) (w : World) (w0 : IsRow .u8 w a0 len0 cap0 z0) (w1 : (Lit.int .i64 a1).wf = true) :
    Calls Try.prog 3 #[.slice a0 len0 cap0, .int .i64 a1] w fun e w' => e = .returned (.bool true) ∧ Below w.heap.size w w' := by
  obtain ⟨hr, hwf⟩ := Reads.row (show IsRow' .u8 w a0 len0 cap0 z0 from w0)
  have hz := bytes_of_wf hwf
  have hlm : len0 ≤ 9223372036854775807 := Nat.le_trans hr.room hr.most
  obtain ⟨p0, p1⟩ := bounds_i64 w1
  clear w0 w1 hwf
  generalize z0.take len0 = zs at *
  have hF := far_any a0 len0 cap0 w
  by_cases hf : (1000 < len0 ∧ len0 ≤ 2048) ∨ 5000 < len0
  · rw [farF, decide_eq_true hf] at hF
    go_enter Try.func3, Try.ntmps3
    go_wp2_with fail
    refine hF.mono ?_
    rintro e w' ⟨rfl, rfl⟩
    go_wp2_with fail
    refine (alive_any _).mono ?_
    rintro e w' ⟨rfl, b⟩
    go_wp2
    go_ret
    exact ⟨rfl, b⟩
  rw [farF, decide_eq_false hf] at hF
  by_cases hm : 2048 < len0
  · have hL := lay_many a0 len0 cap0 w hm (by omega)
    have hRL := rlay_many a0 len0 cap0 w hm (by omega)
    have hS := fsize_any a1 w p0 p1
    have hRS := rsize_any a1 w p0 p1
    have HS2 : Hid (∀ W : World, Calls Try.prog 12 #[.int .i64 (len0 : Int)] W fun e w' => e = .returned (.int .i64 0) ∧ w' = W) := by
      intro W
      have := fsize_any (len0 : Int) W (by omega) (by omega)
      rw [show sizeF (len0 : Int) = 0 from by unfold sizeF; rw [if_pos (by omega)]] at this
      exact this
    have cn := (Reads.nil .u8 w).conv (P := Try.prog) 22 9 5 Try.underlying22 Try.underlying5 Try.underlying9
    clear hr hz
    generalize sizeF a1 = s at *
    go_enter Try.func3, Try.ntmps3
    go_wp2_with fail
    refine hF.mono ?_
    rintro e w' ⟨rfl, rfl⟩
    go_wp2_with fail
    refine hL.mono ?_
    rintro e w' ⟨rfl, rfl⟩
    go_wp2_with fail
    refine hRL.mono ?_
    rintro e w' ⟨rfl, rfl⟩
    go_wp2_with fail
    refine hS.mono ?_
    rintro e w' ⟨rfl, rfl⟩
    go_wp2_with fail
    refine hRS.mono ?_
    rintro e w1 ⟨rfl, hb1⟩
    go_wp2_with fail
    refine (HS2.out _).mono ?_
    rintro e w2 ⟨rfl, rfl⟩
    go_wp2_with fail
    refine (alive_any _).mono ?_
    rintro e w3 ⟨rfl, hb3⟩
    go_wp2
    go_ret
    exact ⟨rfl, hb1.trans (hb3.mono hb1.size)⟩
  · have hL := lay_ok a0 len0 cap0 zs w hr hz (by omega)
    have HRL : Hid (∀ W : World, Below w.heap.size w W → _) := fun W hW => rlay_ok a0 len0 cap0 zs W (hr.below hW) hz (by omega)
    have HS2 : Hid (∀ W : World, Calls Try.prog 12 #[.int .i64 (len0 : Int)] W fun e w' => e = .returned (.int .i64 ((layL zs).length : Int)) ∧ w' = W) := by
      intro W
      have := fsize_any (len0 : Int) W (by omega) (by omega)
      rw [show sizeF (len0 : Int) = ((layL zs).length : Int) from by unfold sizeF; rw [if_neg (by omega), layL_len, hr.size]; simp] at this
      exact this
    have hle : (layL zs).length ≤ 5000 := by
      have := encZ_len2 (n := zs.length) (by rw [hr.size]; omega)
      rw [layL_len, hr.size] at *; omega
    clear hr hz
    generalize layL zs = us at *
    go_enter Try.func3, Try.ntmps3
    go_wp2_with fail
    refine hF.mono ?_
    rintro e w' ⟨rfl, rfl⟩
    go_wp2_with fail
    refine hL.mono ?_
    rintro e w1 ⟨v1, rfl, how1, hb1⟩
    obtain ⟨c1, k1, rfl, hr1⟩ := Reads.own how1
    have hQ := HRL.out w1 hb1
    clear hL how1
    go_wp2_with fail
    refine hQ.mono ?_
    rintro e w2 ⟨v2, rfl, how2, hb2⟩
    obtain ⟨c2, k2, rfl, hr2⟩ := Reads.own how2
    have hb02 : Below w'.heap.size w' w2 := hb1.trans (hb2.mono hb1.size)
    have cv1 := (hr1.below hb2).conv (P := Try.prog) 22 9 5 Try.underlying22 Try.underlying5 Try.underlying9
    have cv2 := hr2.conv (P := Try.prog) 22 9 5 Try.underlying22 Try.underlying5 Try.underlying9
    have hS := fsize_any a1 w2 p0 p1
    have hRS := rsize_any a1 w2 p0 p1
    generalize sizeF a1 = s at *
    clear hQ how2 hr1 hr2
    go_wp2_with fail
    refine hS.mono ?_
    rintro e w3 ⟨rfl, rfl⟩
    go_wp2_with fail
    refine hRS.mono ?_
    rintro e w4 ⟨rfl, hb4⟩
    go_wp2_with fail
    refine (HS2.out _).mono ?_
    rintro e w5 ⟨rfl, rfl⟩
    go_wp2_with fail
    refine (alive_any _).mono ?_
    rintro e w6 ⟨rfl, hb6⟩
    have hb05 := hb02.trans (hb4.mono hb02.size)
    go_wp2
    go_ret
    exact ⟨rfl, hb05.trans (hb6.mono hb05.size)⟩

/-! ### THE ROW's STEP: WRITTEN OUT: LEAVE IT -/
set_option maxRecDepth 100000 in
theorem lifted (os : Os) (started : os.Started) (H : Type) (enc : TypeId × Value → H) :
    ReturnsInHanded {} Try.checked os 3 .any (Rows.frameLaysSpec.pre6 enc Try.prog Try.f3 Rows.frameLaysRow.domain false) (Rows.frameLaysSpec.post enc Try.prog Try.f3 false true false false) := by
  refine returnsInHanded_of_change (C := Try.checked) own started (by kernel_rfl) Try.func3
    (ChangeSpec.witness6 (enc := enc) (C := Try.checked) false ⟨#[], #[.slice none 0 0, .int .i64 0], []⟩ 8 (by kernel_rfl) (by kernel_rfl) (by kernel_rfl) (by kernel_rfl)) ?_
  intro W base args ds gs before hval0 hW hcnd _
  have hval : ∀ (j : Nat) t v, Try.f3.params[j]? = some t → args[j]? = some v → Value.okWide Try.prog W .any base t v := hval0
  have hW' := hW
  obtain ⟨p, q, hA0, hV, rfl, hfz, hnd⟩ := hW
  have hA : DataW.TrodAll enc Try.prog W 0 (fun _ => true) true Try.f3.params.toList args.toList ds p := hA0
  rw [Try.params3] at hA hval
  obtain ⟨v0, vs0, d0, ds0, p0, q0, hargs, rfl, rfl, h0, r0⟩ := trodAll_cons hA
  obtain ⟨v1, vs1, d1, ds1, p1, q1, rfl, rfl, rfl, h1, r1⟩ := trodAll_cons r0
  obtain ⟨rfl, rfl, rfl⟩ := trodAll_nil r1
  obtain rfl : args = #[v0, v1] := by cases args; simp_all
  obtain ⟨rfl, rfl⟩ := trodVars_none hV
  obtain ⟨a0, len0, cap0, rfl⟩ := okWide_slice Try.underlying22 (hval 0 22 v0 rfl rfl)
  have k0 := h0
  have lt0 : ∀ x ∈ p0, x.block < W.heap.size := by obtain ⟨m, hm⟩ := k0; exact DataW.trod_lt m _ _ _ hm
  obtain ⟨z0, w0⟩ : ∃ zs, IsRow .u8 W a0 len0 cap0 zs := by
    obtain ⟨fuel, hf⟩ := h0
    rcases open_ints Try.underlying22 Try.underlying5 (by kernel_rfl) hf with ⟨hcs, _⟩ | ⟨x, l, c, zs, hcs, _, hl, hm, hz, _, hcell, hwz⟩
    · simp [Value.cells] at hcs
      obtain ⟨rfl, rfl, rfl⟩ := hcs
      exact ⟨[], .inl ⟨rfl, rfl, rfl, rfl⟩⟩
    · simp [Value.cells] at hcs
      obtain ⟨rfl, rfl, rfl⟩ := hcs
      exact ⟨zs, .inr ⟨_, rfl, hl, hm, by simpa using hz, hcell, hwz⟩⟩
  obtain ⟨a1, rfl, rfl, rfl, w1⟩ := open_int Try.underlying3 (hval 1 3 v1 rfl rfl) h1
  clear hA0 hval0
  refine (walk a0 len0 cap0 z0 a1 W w0 w1).mono fun e W' ⟨he, bel⟩ => ?_
  subst he
  exact ⟨_, rfl, _, _, _, [], _, [], hW', trodAll_mk1 (shut_bool Try.underlying4 _), (trodAll_cons_mk (Below.trod laidOut (by kernel_rfl) (of_decide_eq_true (by kernel_rfl)) k0 bel lt0) (trodAll_cons_mk (shut_int Try.underlying3 w1) trodAll_mk0)), rfl, bel.frame _, fun h => by cases h⟩

theorem over : Rows.frameLaysRow.holds Try.pinned (OpenSpec.ofChange Rows.frameLaysSpec) :=
  OpenClaim.holds_of_wide 3 Try.f3 rfl rfl rfl rfl rfl rfl rfl ⟨rfl, rfl, rfl, rfl, rfl⟩ rfl rfl rfl rfl rfl (by kernel_rfl) Try.func3 (by kernel_rfl)
    (of_decide_eq_true (by kernel_rfl)) (by unfold Func.isWrapper; first | (rw [if_pos (by decide +kernel)]; kernel_rfl) | (rw [if_neg (by decide +kernel)]; exact ⟨rfl, rfl⟩))
    (fun os started H enc _ => lifted os started H enc)

/-- ████ THE STATEMENT ████ -/
theorem proved : Rows.FrameLaysSaid := over
#print axioms proved
end Go.Proofs.Ytlfppdblionfdaa.frameLays
