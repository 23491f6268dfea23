/-
  Proved: for any bytes, what crc.Seal and crc.Open hand back is what the document's Seal and Open do, with the same error; the law CrcSeals returns true, and its argument reads as before. No condition.
-/
import Derived.Test.YtknhpeienllebaaRows
import Derived.Test.YtknhpeienllebaaAlive
import Derived.Test.YtknhpeienllebaaOpened
import Derived.Deep.RegionHeld
import Derived.WalkKit
import Derived.ProofKit
import Derived.OpenShut
import Derived.ShutString
import Derived.ChangeOld
import Derived.Below
namespace Go.Proofs.Ytknhpeienllebaa.crcSeals
open Go.ChangeShapes Go.WideShapes Go.ChangeAt Go.RowKit
open Go.ChangeMaps (open_string shut_string)
set_option linter.unusedVariables false

theorem own : ownKnob Try.prog.godebug = none := by kernel_rfl
theorem laidOut : laidOutB Try.prog = true := by kernel_rfl

/-- WHAT THE WALK IS TOLD OF A SLICE OF INTEGERS THAT CAME IN: it is nil; or it leads to a row of 'cap' cells, the numbers 'zs' (the first 'len' are its elements, the rest its spare room), each fitting its kind. -/
def IsRow (k : IntKind) (w : World) (a : Option Addr) (len cap : Nat) (zs : List Int) : Prop :=
  (a = none ∧ len = 0 ∧ cap = 0 ∧ zs = []) ∨
  ∃ x, a = some x ∧ len ≤ cap ∧ cap ≤ maxLen ∧ zs.length = cap ∧ (∀ i, i < zs.length → w.cell? (x.add i) = some (.int k (zs.getD i 0))) ∧ ∀ n ∈ zs, (Lit.int k n).wf = true

/-! ### The walk -/
open M in
set_option maxHeartbeats 2000000 in
theorem walk (a0 : Option Addr) (len0 cap0 : Nat) (z0 : List Int) (w : World) (w0 : IsRow .u8 w a0 len0 cap0 z0) :
    Calls Try.prog 4 #[.slice a0 len0 cap0] w fun e w' => e = .returned (.bool true) ∧ Below w.heap.size w w' := by
  obtain ⟨hr, hwf⟩ := Reads.row (show IsRow' .u8 w a0 len0 cap0 z0 from w0)
  have hz := bytes_of_wf hwf
  have hlm : len0 ≤ 9223372036854775807 := Nat.le_trans hr.room hr.most
  clear w0 hwf
  generalize z0.take len0 = zs at *
  have hLn := long_any a0 len0 cap0 w
  by_cases hl : 1000 < len0
  · rw [decide_eq_true hl] at hLn
    go_enter Try.func4, Try.ntmps4
    go_wp2_with fail
    refine hLn.mono ?_
    rintro e w' ⟨rfl, rfl⟩
    go_wp2_with fail
    refine (alive_any _).mono ?_
    rintro e w' ⟨rfl, b⟩
    go_wp2
    go_ret
    exact ⟨rfl, b⟩
  rw [decide_eq_false hl] at hLn
  obtain ⟨f, xs, hO⟩ := opens_same zs hz (by rw [hr.size]; omega)
  have HO := hid hO
  have HR := hid hr
  have HLn := hid hLn
  have HB : Hid (∀ W : World, Below w.heap.size w W → _) := fun W hW => seal_any a0 len0 cap0 zs W (hr.below hW) hz (by omega)
  have HC : Hid (∀ W : World, Below w.heap.size w W → _) := fun W hW => rseal_any a0 len0 cap0 zs W (hr.below hW) hz (by omega)
  clear hr hz hLn hO
  generalize zs ++ text (crc zs) = us at *
  go_enter Try.func4, Try.ntmps4
  go_wp2_with fail
  refine HLn.out.mono ?_
  rintro e w' ⟨rfl, rfl⟩
  go_wp2_with fail
  refine (HO.out a0 len0 cap0 w' HR.out).1.mono ?_
  rintro e w1 ⟨ax, lx, cx, rfl, hx, hb1⟩
  go_wp2_with fail
  refine (HO.out a0 len0 cap0 w1 (HR.out.below hb1)).2.mono ?_
  rintro e w2 ⟨ay, ly, cy, rfl, hy, hb2⟩
  have hb02 : Below w'.heap.size w' w2 := hb1.trans (hb2.mono hb1.size)
  have hbd : Below w'.heap.size w' w2.drew := hb02.drew
  have hbe : Below w2.heap.size w2 w2.drew := (Below.refl _ _).drew
  have HX := hid (hx.below hb2)
  have HY := hid hy
  have cx0 := (HX.out.below hbe).conv (P := Try.prog) 24 9 5 Try.underlying24 Try.underlying5 Try.underlying9
  have cy0 := (HY.out.below hbe).conv (P := Try.prog) 24 9 5 Try.underlying24 Try.underlying5 Try.underlying9
  clear hx hy
  go_wp2_with fail
  go_region_held (fun _ => True) (trivial) (first | (go_at_call 17; refine (HB.out _ hbd).mono ?_; rintro e wp ⟨vp, rfl, howp, hbp0⟩; have hbp : Below w'.heap.size w' wp := hbd.trans (hbp0.mono hbd.size); obtain ⟨ap, cp, rfl, hrp⟩ := Reads.own howp; have cvp := hrp.conv (P := Try.prog) 24 9 5 Try.underlying24 Try.underlying5 Try.underlying9) | (go_at_call 18; refine (HC.out _ hbp).mono ?_; rintro e wq ⟨vq, rfl, howq, hbq0⟩; have hbq : Below w'.heap.size w' wq := hbp.trans (hbq0.mono hbp.size); have hbr : Below w2.heap.size w2 wq := hbe.trans (hbp0.trans (hbq0.mono hbp0.size)); obtain ⟨aq, cq, rfl, hrq⟩ := Reads.own howq; have cvq := hrq.conv (P := Try.prog) 24 9 5 Try.underlying24 Try.underlying5 Try.underlying9; have cvpq := (hrp.below hbq0).conv (P := Try.prog) 24 9 5 Try.underlying24 Try.underlying5 Try.underlying9; have cvx := (HX.out.below hbr).conv (P := Try.prog) 24 9 5 Try.underlying24 Try.underlying5 Try.underlying9; have cvy := (HY.out.below hbr).conv (P := Try.prog) 24 9 5 Try.underlying24 Try.underlying5 Try.underlying9) | (go_at_call 8; refine (alive_any _).mono ?_; rintro e wa ⟨rfl, hba⟩))
  all_goals
    go_wp2
    go_ret
    exact ⟨rfl, hbq.trans (hba.mono hbq.size)⟩

/-! ### THE ROW's STEP: WRITTEN OUT: LEAVE IT -/
set_option maxRecDepth 100000 in
theorem lifted (os : Os) (started : os.Started) (H : Type) (enc : TypeId × Value → H) :
    ReturnsInHanded {} Try.checked os 4 .any (Rows.crcSealsSpec.pre6 enc Try.prog Try.f4 Rows.crcSealsRow.domain false) (Rows.crcSealsSpec.post enc Try.prog Try.f4 false true false false) := by
  refine returnsInHanded_of_change (C := Try.checked) own started (by kernel_rfl) Try.func4
    (ChangeSpec.witness6 (enc := enc) (C := Try.checked) false ⟨#[], #[.slice none 0 0], []⟩ 8 (by kernel_rfl) (by kernel_rfl) (by kernel_rfl) (by kernel_rfl)) ?_
  intro W base args ds gs before hval0 hW hcnd _
  have hval : ∀ (j : Nat) t v, Try.f4.params[j]? = some t → args[j]? = some v → Value.okWide Try.prog W .any base t v := hval0
  have hW' := hW
  obtain ⟨p, q, hA0, hV, rfl, hfz, hnd⟩ := hW
  have hA : DataW.TrodAll enc Try.prog W 0 (fun _ => true) true Try.f4.params.toList args.toList ds p := hA0
  rw [Try.params4] at hA hval
  obtain ⟨v0, vs0, d0, ds0, p0, q0, hargs, rfl, rfl, h0, r0⟩ := trodAll_cons hA
  obtain ⟨rfl, rfl, rfl⟩ := trodAll_nil r0
  obtain rfl : args = #[v0] := by cases args; simp_all
  obtain ⟨rfl, rfl⟩ := trodVars_none hV
  obtain ⟨a0, len0, cap0, rfl⟩ := okWide_slice Try.underlying24 (hval 0 24 v0 rfl rfl)
  have k0 := h0
  have lt0 : ∀ x ∈ p0, x.block < W.heap.size := by obtain ⟨m, hm⟩ := k0; exact DataW.trod_lt m _ _ _ hm
  obtain ⟨z0, w0⟩ : ∃ zs, IsRow .u8 W a0 len0 cap0 zs := by
    obtain ⟨fuel, hf⟩ := h0
    rcases open_ints Try.underlying24 Try.underlying5 (by kernel_rfl) hf with ⟨hcs, _⟩ | ⟨x, l, c, zs, hcs, _, hl, hm, hz, _, hcell, hwz⟩
    · simp [Value.cells] at hcs
      obtain ⟨rfl, rfl, rfl⟩ := hcs
      exact ⟨[], .inl ⟨rfl, rfl, rfl, rfl⟩⟩
    · simp [Value.cells] at hcs
      obtain ⟨rfl, rfl, rfl⟩ := hcs
      exact ⟨zs, .inr ⟨_, rfl, hl, hm, by simpa using hz, hcell, hwz⟩⟩
  clear hA0 hval0
  refine (walk a0 len0 cap0 z0 W w0).mono fun e W' ⟨he, bel⟩ => ?_
  subst he
  exact ⟨_, rfl, _, _, _, [], _, [], hW', trodAll_mk1 (shut_bool Try.underlying4 _), (trodAll_cons_mk (Below.trod laidOut (by kernel_rfl) (of_decide_eq_true (by kernel_rfl)) k0 bel lt0) trodAll_mk0), rfl, bel.frame _, fun h => by cases h⟩

theorem over : Rows.crcSealsRow.holds Try.pinned (OpenSpec.ofChange Rows.crcSealsSpec) :=
  OpenClaim.holds_of_wide 4 Try.f4 rfl rfl rfl rfl rfl rfl rfl ⟨rfl, rfl, rfl, rfl, rfl⟩ rfl rfl rfl rfl rfl (by kernel_rfl) Try.func4 (by kernel_rfl)
    (of_decide_eq_true (by kernel_rfl)) (by unfold Func.isWrapper; first | (rw [if_pos (by decide +kernel)]; kernel_rfl) | (rw [if_neg (by decide +kernel)]; exact ⟨rfl, rfl⟩))
    (fun os started H enc _ => lifted os started H enc)

/-- ████ THE STATEMENT ████ -/
theorem proved : Rows.CrcSealsSaid := over
#print axioms proved
end Go.Proofs.Ytknhpeienllebaa.crcSeals
