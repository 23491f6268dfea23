/-
  Proved: for any bytes, what frame.Parse, frame.One and frame.All hand back is what the document's Parse, One and All do, load by load, with the same numbers and errors; the law FrameParses returns true, and its argument reads as before. No condition.
-/
import Derived.Test.YtlfppdblionfdaaRows
import Derived.Test.YtlfppdblionfdaaAlls
import Derived.Deep.RegionHeld
import Derived.WalkKit
import Derived.ProofKit
import Derived.OpenShut
import Derived.ShutString
import Derived.ChangeOld
import Derived.Below
namespace Go.Proofs.Ytlfppdblionfdaa.frameParses
open Go.ChangeShapes Go.WideShapes Go.ChangeAt Go.RowKit
open Go.ChangeMaps (open_string shut_string)
set_option linter.unusedVariables false

theorem own : ownKnob Try.prog.godebug = none := by kernel_rfl
theorem laidOut : laidOutB Try.prog = true := by kernel_rfl

/-- WHAT THE WALK IS TOLD OF A SLICE OF INTEGERS THAT CAME IN: it is nil; or it leads to a row of 'cap' cells, the numbers 'zs' (the first 'len' are its elements, the rest its spare room), each fitting its kind. -/
def IsRow (k : IntKind) (w : World) (a : Option Addr) (len cap : Nat) (zs : List Int) : Prop :=
  (a = none ∧ len = 0 ∧ cap = 0 ∧ zs = []) ∨
  ∃ x, a = some x ∧ len ≤ cap ∧ cap ≤ maxLen ∧ zs.length = cap ∧ (∀ i, i < zs.length → w.cell? (x.add i) = some (.int k (zs.getD i 0))) ∧ ∀ n ∈ zs, (Lit.int k n).wf = true

/-! ### The walk -/
open M in
set_option maxHeartbeats 2000000 in
theorem walk (a0 : Option Addr) (len0 cap0 : Nat) (z0 : List Int) (w : World) (w0 : IsRow .u8 w a0 len0 cap0 z0) :
    Calls Try.prog 4 #[.slice a0 len0 cap0] w fun e w' => e = .returned (.bool true) ∧ Below w.heap.size w w' := by
  obtain ⟨hr, hwf⟩ := Reads.row (show IsRow' .u8 w a0 len0 cap0 z0 from w0)
  have hz := bytes_of_wf hwf
  have hlm : len0 ≤ 9223372036854775807 := Nat.le_trans hr.room hr.most
  clear w0 hwf
  generalize z0.take len0 = zs at *
  by_cases hl : 3000 < len0
  · clear hr hz
    go_enter Try.func4, Try.ntmps4
    go_wp2_with fail
    refine (alive_any _).mono ?_
    rintro e w' ⟨rfl, b⟩
    go_wp2
    go_ret
    exact ⟨rfl, b⟩
  have HP : Hid (∀ W : World, Below w.heap.size w W → _) := fun W hW => parse_any a0 len0 cap0 zs W (hr.below hW) hz (by omega)
  have HRP : Hid (∀ W : World, Below w.heap.size w W → _) := fun W hW => rparse_any a0 len0 cap0 zs W (hr.below hW) hz (by omega)
  have HO : Hid (∀ W : World, Below w.heap.size w W → _) := fun W hW => one_any a0 len0 cap0 zs W (hr.below hW) hz (by omega)
  have HRO : Hid (∀ W : World, Below w.heap.size w W → _) := fun W hW => rone_any a0 len0 cap0 zs W (hr.below hW) hz (by omega)
  have HA : Hid (∀ W : World, Below w.heap.size w W → _) := fun W hW => all_any a0 len0 cap0 zs W (hr.below hW) hz (by omega)
  have HRA : Hid (∀ W : World, Below w.heap.size w W → _) := fun W hW => rall_any a0 len0 cap0 zs W (hr.below hW) hz (by omega)
  obtain ⟨q, hq, hqe, _, _, hq8⟩ := all_lay zs.length zs hz
  have hls : (allF zs.length zs).1.length ≤ 3000 := by rw [hr.size] at *; omega
  clear hr hz hq hqe hq8
  unfold Told at HP HRP
  unfold Told1 at HO HRO
  unfold ToldAll at HA HRA
  generalize parseF zs = p1 at *
  generalize oneF zs = p2 at *
  generalize allF zs.length zs = p3 at *
  obtain ⟨x, n, f⟩ := p1
  obtain ⟨y, g⟩ := p2
  obtain ⟨ls, t, h⟩ := p3
  simp only at HP HRP HO HRO HA HRA hls
  have hb0 : Below w.heap.size w w := Below.refl _ _
  go_enter Try.func4, Try.ntmps4
  go_wp2_with fail
  refine (HP.out w hb0).mono ?_
  rintro e w1 ⟨a1, l1, c1, rfl, hr1, _, hb1⟩
  go_wp2_with fail
  refine (HRP.out w1 hb1).mono ?_
  rintro e w2 ⟨a2, l2, c2, rfl, hr2, _, hb2⟩
  have hb02 : Below w.heap.size w w2 := hb1.trans (hb2.mono hb1.size)
  go_wp2_with fail
  refine (HO.out w2 hb02).mono ?_
  rintro e w3 ⟨a3, l3, c3, rfl, hr3, hb3⟩
  have hb03 : Below w.heap.size w w3 := hb02.trans (hb3.mono hb02.size)
  go_wp2_with fail
  refine (HRO.out w3 hb03).mono ?_
  rintro e w4 ⟨a4, l4, c4, rfl, hr4, hb4⟩
  have hb04 : Below w.heap.size w w4 := hb03.trans (hb4.mono hb03.size)
  go_wp2_with fail
  refine (HA.out w4 hb04).mono ?_
  rintro e w5 ⟨a5, n5, c5, rfl, hp5, hb5⟩
  have hb05 : Below w.heap.size w w5 := hb04.trans (hb5.mono hb04.size)
  go_wp2_with fail
  refine (HRA.out w5 hb05).mono ?_
  rintro e w6 ⟨a6, n6, c6, rfl, hp6, hb6⟩
  have hb06 : Below w.heap.size w w6 := hb05.trans (hb6.mono hb05.size)
  have hb46 : Below w4.heap.size w4 w6 := hb5.trans (hb6.mono hb5.size)
  have hb36 : Below w3.heap.size w3 w6 := hb4.trans (hb46.mono hb4.size)
  have hb26 : Below w2.heap.size w2 w6 := hb3.trans (hb36.mono hb3.size)
  have hb16 : Below w1.heap.size w1 w6 := hb2.trans (hb26.mono hb2.size)
  have cv1 := (hr1.below hb16).conv (P := Try.prog) 22 9 5 Try.underlying22 Try.underlying5 Try.underlying9
  have cv2 := (hr2.below hb26).conv (P := Try.prog) 22 9 5 Try.underlying22 Try.underlying5 Try.underlying9
  have cv3 := (hr3.below hb36).conv (P := Try.prog) 22 9 5 Try.underlying22 Try.underlying5 Try.underlying9
  have cv4 := (hr4.below hb46).conv (P := Try.prog) 22 9 5 Try.underlying22 Try.underlying5 Try.underlying9
  obtain rfl : n5 = n6 := by rw [← hp5.size, ← hp6.size]
  have hn5 : n5 ≤ 3000 := by rw [← hp5.size]; exact hls
  have H5 := hid (hp5.below hb6)
  have H6 := hid hp6
  clear hr1 hr2 hr3 hr4 hp5 hp6 HP HRP HO HRO HA HRA hb1 hb2 hb3 hb4 hb5 hb6 hb02 hb03 hb04 hb05 hb16 hb26 hb36 hb46 hls
  go_wp2_with fail
  clear cv1 cv2 cv3 cv4
  go_loopw [104] (fun i wr => ∃ k : Nat, k ≤ n5 ∧ i = .int .i64 k ∧ Below w6.heap.size w6 wr) (fun i _ => n5 - (intOf i).toNat)
  case atStart => exact ⟨0, by omega, rfl, Below.refl _ _⟩
  case round =>
    obtain ⟨k, hk, rfl, hb⟩ := hrel
    have hb0r : Below w.heap.size w wr := hb06.trans (hb.mono hb06.size)
    by_cases hlt : k < n5
    · have hbd : Below wr.heap.size wr wr.drew := (Below.refl _ _).drew
      obtain ⟨b, off, a7, l7, c7, rfl, hc, hr7⟩ := ((H5.out.below hb).below hbd).cell k hlt
      obtain ⟨b', off', a8, l8, c8, rfl, hc', hr8⟩ := ((H6.out.below hb).below hbd).cell k hlt
      have cv7 := hr7.conv (P := Try.prog) 22 9 5 Try.underlying22 Try.underlying5 Try.underlying9
      have cv8 := hr8.conv (P := Try.prog) 22 9 5 Try.underlying22 Try.underlying5 Try.underlying9
      clear hr7 hr8
      generalize ls[k]?.getD [] = us at *
      go_wp2_with fail
      go_region
      clear cv7 cv8 hc hc'
      go_wp2_with fail
      go_roundw
      case rel => exact ⟨k + 1, by omega, by go_num, hb.drew⟩
      case measure => simp [intOf]; omega
    · go_wp2_with fail
      refine (alive_any _).mono ?_
      rintro e w9 ⟨rfl, hb9⟩
      go_wp2
      go_ret
      exact ⟨rfl, hb0r.trans (hb9.mono hb0r.size)⟩

/-! ### THE ROW's STEP: WRITTEN OUT: LEAVE IT -/
set_option maxRecDepth 100000 in
theorem lifted (os : Os) (started : os.Started) (H : Type) (enc : TypeId × Value → H) :
    ReturnsInHanded {} Try.checked os 4 .any (Rows.frameParsesSpec.pre6 enc Try.prog Try.f4 Rows.frameParsesRow.domain false) (Rows.frameParsesSpec.post enc Try.prog Try.f4 false true false false) := by
  refine returnsInHanded_of_change (C := Try.checked) own started (by kernel_rfl) Try.func4
    (ChangeSpec.witness6 (enc := enc) (C := Try.checked) false ⟨#[], #[.slice none 0 0], []⟩ 8 (by kernel_rfl) (by kernel_rfl) (by kernel_rfl) (by kernel_rfl)) ?_
  intro W base args ds gs before hval0 hW hcnd _
  have hval : ∀ (j : Nat) t v, Try.f4.params[j]? = some t → args[j]? = some v → Value.okWide Try.prog W .any base t v := hval0
  have hW' := hW
  obtain ⟨p, q, hA0, hV, rfl, hfz, hnd⟩ := hW
  have hA : DataW.TrodAll enc Try.prog W 0 (fun _ => true) true Try.f4.params.toList args.toList ds p := hA0
  rw [Try.params4] at hA hval
  obtain ⟨v0, vs0, d0, ds0, p0, q0, hargs, rfl, rfl, h0, r0⟩ := trodAll_cons hA
  obtain ⟨rfl, rfl, rfl⟩ := trodAll_nil r0
  obtain rfl : args = #[v0] := by cases args; simp_all
  obtain ⟨rfl, rfl⟩ := trodVars_none hV
  obtain ⟨a0, len0, cap0, rfl⟩ := okWide_slice Try.underlying22 (hval 0 22 v0 rfl rfl)
  have k0 := h0
  have lt0 : ∀ x ∈ p0, x.block < W.heap.size := by obtain ⟨m, hm⟩ := k0; exact DataW.trod_lt m _ _ _ hm
  obtain ⟨z0, w0⟩ : ∃ zs, IsRow .u8 W a0 len0 cap0 zs := by
    obtain ⟨fuel, hf⟩ := h0
    rcases open_ints Try.underlying22 Try.underlying5 (by kernel_rfl) hf with ⟨hcs, _⟩ | ⟨x, l, c, zs, hcs, _, hl, hm, hz, _, hcell, hwz⟩
    · simp [Value.cells] at hcs
      obtain ⟨rfl, rfl, rfl⟩ := hcs
      exact ⟨[], .inl ⟨rfl, rfl, rfl, rfl⟩⟩
    · simp [Value.cells] at hcs
      obtain ⟨rfl, rfl, rfl⟩ := hcs
      exact ⟨zs, .inr ⟨_, rfl, hl, hm, by simpa using hz, hcell, hwz⟩⟩
  clear hA0 hval0
  refine (walk a0 len0 cap0 z0 W w0).mono fun e W' ⟨he, bel⟩ => ?_
  subst he
  exact ⟨_, rfl, _, _, _, [], _, [], hW', trodAll_mk1 (shut_bool Try.underlying4 _), (trodAll_cons_mk (Below.trod laidOut (by kernel_rfl) (of_decide_eq_true (by kernel_rfl)) k0 bel lt0) trodAll_mk0), rfl, bel.frame _, fun h => by cases h⟩

theorem over : Rows.frameParsesRow.holds Try.pinned (OpenSpec.ofChange Rows.frameParsesSpec) :=
  OpenClaim.holds_of_wide 4 Try.f4 rfl rfl rfl rfl rfl rfl rfl ⟨rfl, rfl, rfl, rfl, rfl⟩ rfl rfl rfl rfl rfl (by kernel_rfl) Try.func4 (by kernel_rfl)
    (of_decide_eq_true (by kernel_rfl)) (by unfold Func.isWrapper; first | (rw [if_pos (by decide +kernel)]; kernel_rfl) | (rw [if_neg (by decide +kernel)]; exact ⟨rfl, rfl⟩))
    (fun os started H enc _ => lifted os started H enc)

/-- ████ THE STATEMENT ████ -/
theorem proved : Rows.FrameParsesSaid := over
#print axioms proved
end Go.Proofs.Ytlfppdblionfdaa.frameParses
