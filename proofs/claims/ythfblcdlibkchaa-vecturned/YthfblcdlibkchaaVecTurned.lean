/-
  Proved: for any two vectors of at most 300 numbers, Dot and Add may be turned about; the law VecTurned returns true at every input, and its arguments read as before. No condition.
-/
import Derived.Test.YthfblcdlibkchaaRows
import Derived.Test.YthfblcdlibkchaaHelps
import Derived.WalkKit
import Derived.ProofKit
import Derived.OpenShut
import Derived.ShutString
import Derived.ChangeOld
import Derived.Below
namespace Go.Proofs.Ythfblcdlibkchaa.vecTurned
open Go.ChangeShapes Go.WideShapes Go.ChangeAt Go.RowKit
open Go.ChangeMaps (open_string shut_string)
set_option linter.unusedVariables false

theorem own : ownKnob Try.prog.godebug = none := by kernel_rfl
theorem laidOut : laidOutB Try.prog = true := by kernel_rfl

/-- WHAT THE WALK IS TOLD OF A SLICE OF INTEGERS THAT CAME IN: it is nil; or it leads to a row of 'cap' cells, the numbers 'zs' (the first 'len' are its elements, the rest its spare room), each fitting its kind. -/
def IsRow (k : IntKind) (w : World) (a : Option Addr) (len cap : Nat) (zs : List Int) : Prop :=
  (a = none ∧ len = 0 ∧ cap = 0 ∧ zs = []) ∨
  ∃ x, a = some x ∧ len ≤ cap ∧ cap ≤ maxLen ∧ zs.length = cap ∧ (∀ i, i < zs.length → w.cell? (x.add i) = some (.int k (zs.getD i 0))) ∧ ∀ n ∈ zs, (Lit.int k n).wf = true

/-! ### The walk -/
set_option maxRecDepth 1000000 in
set_option maxHeartbeats 2000000 in
theorem walk (a0 : Option Addr) (len0 cap0 : Nat) (z0 : List Int) (a1 : Option Addr) (len1 cap1 : Nat) (z1 : List Int) (w : World) (w0 : IsRow .i64 w a0 len0 cap0 z0) (w1 : IsRow .i64 w a1 len1 cap1 z1) :
    Calls Try.prog 7 #[.slice a0 len0 cap0, .slice a1 len1 cap1] w fun e w' => e = .returned (.bool true) ∧ Below w.heap.size w w' := by
  obtain ⟨h0, wf0⟩ := Reads.row w0
  obtain ⟨h1, wf1⟩ := Reads.row w1
  clear w0 w1
  generalize z0.take len0 = x0 at *
  generalize z1.take len1 = x1 at *
  have hbl : Below w.heap.size w (w.alloc (.cells #[.slice a0 len0 cap0, .slice a1 len1 cap1] 22)) := (Below.refl _ _).alloc (Nat.le_refl _) _
  have HB := hid hbl
  have R0 := hid (h0.below hbl)
  have R1 := hid (h1.below hbl)
  have hR := rd2_two w a0 a1 len0 cap0 len1 cap1
  clear hbl h0 h1
  by_cases hf : 300 < len0 ∨ 300 < len1
  · have hF := far_yes _ _ _ _ _ hR (far_two.2 hf)
    clear hR hf R0 wf0 R1 wf1
    go_enter Try.func7, Try.ntmps7
    go_wp2_with fail
    refine hF.mono ?_
    rintro e w' ⟨rfl, rfl⟩
    go_wp2_with fail
    refine (alive_any _).mono ?_
    rintro e w2 ⟨rfl, hb2⟩
    replace HB := hid (HB.out.trans (hb2.mono HB.out.size))
    clear hb2 hF
    go_wp2
    go_ret
    exact ⟨rfl, HB.out⟩
  · have hF := far_no _ _ _ _ _ hR (fun h => hf (far_two.1 h))
    have l0 : len0 ≤ 300 := by omega
    have l1 : len1 ≤ 300 := by omega
    clear hR hf
    go_enter Try.func7, Try.ntmps7
    go_wp2_with fail
    refine hF.mono ?_
    rintro e w' ⟨rfl, rfl⟩
    clear hF
    generalize w.alloc (.cells #[.slice a0 len0 cap0, .slice a1 len1 cap1] 22) = W0 at *
    obtain ⟨m, hm⟩ : ∃ m, min len0 len1 = m := ⟨_, rfl⟩
    have lm : m ≤ 300 := by omega
    have HM := hid hm
    have HM2 : Hid (min len1 len0 = m) := (Nat.min_comm _ _).trans hm
    clear hm
    have hC := dot_any a0 a1 len0 cap0 len1 cap1 x0 x1 W0 R0.out R1.out (by omega) (by omega)
    rw [HM.out] at hC
    go_wp2_with fail
    refine hC.mono ?_
    rintro e W1 ⟨rfl, hb⟩
    replace HB := hid (HB.out.trans (hb.mono HB.out.size))
    replace R0 := hid (R0.out.below hb)
    replace R1 := hid (R1.out.below hb)
    clear hb hC
    have hC := dot_any a1 a0 len1 cap1 len0 cap0 x1 x0 W1 R1.out R0.out (by omega) (by omega)
    rw [HM2.out, dotK_comm] at hC
    go_wp2_with fail
    refine hC.mono ?_
    rintro e W2 ⟨rfl, hb⟩
    replace HB := hid (HB.out.trans (hb.mono HB.out.size))
    replace R0 := hid (R0.out.below hb)
    replace R1 := hid (R1.out.below hb)
    clear hb hC
    have hC := (vadd_any a0 a1 len0 cap0 len1 cap1 x0 x1 W2 R0.out R1.out (by omega) (by omega)).mono fun e w' h => h.gives
    rw [HM.out] at hC
    go_wp2_with fail
    refine hC.mono ?_
    rintro e W3 ⟨pa, pc, rfl, hr, hb⟩
    replace HB := hid (HB.out.trans (hb.mono HB.out.size))
    replace R0 := hid (R0.out.below hb)
    replace R1 := hid (R1.out.below hb)
    have Rp := hid hr
    clear hb hC hr
    have hC := (vadd_any a1 a0 len1 cap1 len0 cap0 x1 x0 W3 R1.out R0.out (by omega) (by omega)).mono fun e w' h => h.gives
    rw [HM2.out, pairK_comm] at hC
    go_wp2_with fail
    refine hC.mono ?_
    rintro e W4 ⟨qa, qc, rfl, hr, hb⟩
    replace HB := hid (HB.out.trans (hb.mono HB.out.size))
    replace R0 := hid (R0.out.below hb)
    replace R1 := hid (R1.out.below hb)
    replace Rp := hid (Rp.out.below hb)
    have Rq := hid hr
    clear hb hC hr
    have hC := same_yes pa qa m pc qc _ W4 Rp.out Rq.out (by omega)
    go_wp2_with fail
    refine hC.mono ?_
    rintro e W5 ⟨rfl, hb⟩
    replace HB := hid (HB.out.trans (hb.mono HB.out.size))
    replace R0 := hid (R0.out.below hb)
    replace R1 := hid (R1.out.below hb)
    replace Rp := hid (Rp.out.below hb)
    replace Rq := hid (Rq.out.below hb)
    clear hb hC
    have hC := alive_any W5
    go_wp2_with fail
    refine hC.mono ?_
    rintro e W6 ⟨rfl, hb⟩
    replace HB := hid (HB.out.trans (hb.mono HB.out.size))
    replace R0 := hid (R0.out.below hb)
    replace R1 := hid (R1.out.below hb)
    replace Rp := hid (Rp.out.below hb)
    replace Rq := hid (Rq.out.below hb)
    clear hb hC
    go_wp2
    go_ret
    exact ⟨rfl, HB.out⟩

/-! ### THE ROW's STEP: WRITTEN OUT: LEAVE IT -/
set_option maxRecDepth 100000 in
theorem lifted (os : Os) (started : os.Started) (H : Type) (enc : TypeId × Value → H) :
    ReturnsInHanded {} Try.checked os 7 .any (Rows.vecTurnedSpec.pre6 enc Try.prog Try.f7 Rows.vecTurnedRow.domain false) (Rows.vecTurnedSpec.post enc Try.prog Try.f7 false true false false) := by
  refine returnsInHanded_of_change (C := Try.checked) own started (by kernel_rfl) Try.func7
    (ChangeSpec.witness6 (enc := enc) (C := Try.checked) false ⟨#[], #[.slice none 0 0, .slice none 0 0], []⟩ 8 (by kernel_rfl) (by kernel_rfl) (by kernel_rfl) (by kernel_rfl)) ?_
  intro W base args ds gs before hval0 hW hcnd _
  have hval : ∀ (j : Nat) t v, Try.f7.params[j]? = some t → args[j]? = some v → Value.okWide Try.prog W .any base t v := hval0
  have hW' := hW
  obtain ⟨p, q, hA0, hV, rfl, hfz, hnd⟩ := hW
  have hA : DataW.TrodAll enc Try.prog W 0 (fun _ => true) true Try.f7.params.toList args.toList ds p := hA0
  rw [Try.params7] at hA hval
  obtain ⟨v0, vs0, d0, ds0, p0, q0, hargs, rfl, rfl, h0, r0⟩ := trodAll_cons hA
  obtain ⟨v1, vs1, d1, ds1, p1, q1, rfl, rfl, rfl, h1, r1⟩ := trodAll_cons r0
  obtain ⟨rfl, rfl, rfl⟩ := trodAll_nil r1
  obtain rfl : args = #[v0, v1] := by cases args; simp_all
  obtain ⟨rfl, rfl⟩ := trodVars_none hV
  obtain ⟨a0, len0, cap0, rfl⟩ := okWide_slice Try.underlying22 (hval 0 22 v0 rfl rfl)
  have k0 := h0
  have lt0 : ∀ x ∈ p0, x.block < W.heap.size := by obtain ⟨m, hm⟩ := k0; exact DataW.trod_lt m _ _ _ hm
  obtain ⟨z0, w0⟩ : ∃ zs, IsRow .i64 W a0 len0 cap0 zs := by
    obtain ⟨fuel, hf⟩ := h0
    rcases open_ints Try.underlying22 Try.underlying2 (by kernel_rfl) hf with ⟨hcs, _⟩ | ⟨x, l, c, zs, hcs, _, hl, hm, hz, _, hcell, hwz⟩
    · simp [Value.cells] at hcs
      obtain ⟨rfl, rfl, rfl⟩ := hcs
      exact ⟨[], .inl ⟨rfl, rfl, rfl, rfl⟩⟩
    · simp [Value.cells] at hcs
      obtain ⟨rfl, rfl, rfl⟩ := hcs
      exact ⟨zs, .inr ⟨_, rfl, hl, hm, by simpa using hz, hcell, hwz⟩⟩
  obtain ⟨a1, len1, cap1, rfl⟩ := okWide_slice Try.underlying22 (hval 1 22 v1 rfl rfl)
  have k1 := h1
  have lt1 : ∀ x ∈ p1, x.block < W.heap.size := by obtain ⟨m, hm⟩ := k1; exact DataW.trod_lt m _ _ _ hm
  obtain ⟨z1, w1⟩ : ∃ zs, IsRow .i64 W a1 len1 cap1 zs := by
    obtain ⟨fuel, hf⟩ := h1
    rcases open_ints Try.underlying22 Try.underlying2 (by kernel_rfl) hf with ⟨hcs, _⟩ | ⟨x, l, c, zs, hcs, _, hl, hm, hz, _, hcell, hwz⟩
    · simp [Value.cells] at hcs
      obtain ⟨rfl, rfl, rfl⟩ := hcs
      exact ⟨[], .inl ⟨rfl, rfl, rfl, rfl⟩⟩
    · simp [Value.cells] at hcs
      obtain ⟨rfl, rfl, rfl⟩ := hcs
      exact ⟨zs, .inr ⟨_, rfl, hl, hm, by simpa using hz, hcell, hwz⟩⟩
  clear hA0 hval0
  refine (walk a0 len0 cap0 z0 a1 len1 cap1 z1 W w0 w1).mono fun e W' ⟨he, bel⟩ => ?_
  subst he
  exact ⟨_, rfl, _, _, _, [], _, [], hW', trodAll_mk1 (shut_bool Try.underlying4 _), (trodAll_cons_mk (Below.trod laidOut (by kernel_rfl) (of_decide_eq_true (by kernel_rfl)) k0 bel lt0) (trodAll_cons_mk (Below.trod laidOut (by kernel_rfl) (of_decide_eq_true (by kernel_rfl)) k1 bel lt1) trodAll_mk0)), rfl, bel.frame _, fun h => by cases h⟩

theorem over : Rows.vecTurnedRow.holds Try.pinned (OpenSpec.ofChange Rows.vecTurnedSpec) :=
  OpenClaim.holds_of_wide 7 Try.f7 rfl rfl rfl rfl rfl rfl rfl ⟨rfl, rfl, rfl, rfl, rfl⟩ rfl rfl rfl rfl rfl (by kernel_rfl) Try.func7 (by kernel_rfl)
    (of_decide_eq_true (by kernel_rfl)) (by unfold Func.isWrapper; first | (rw [if_pos (by decide +kernel)]; kernel_rfl) | (rw [if_neg (by decide +kernel)]; exact ⟨rfl, rfl⟩))
    (fun os started H enc _ => lifted os started H enc)

/-- ████ THE STATEMENT ████ -/
theorem proved : Rows.VecTurnedSaid := over
#print axioms proved
end Go.Proofs.Ythfblcdlibkchaa.vecTurned
