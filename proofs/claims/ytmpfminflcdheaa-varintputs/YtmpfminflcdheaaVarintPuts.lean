/-
  Proved: for any bytes, numbers and signed number, varint.Put, Size, Fold and Unfold answer what the document's do; the law VarintPuts returns true, and its arguments read as before. No condition.
-/
import Derived.Test.YtmpfminflcdheaaRows
import Derived.Test.YtmpfminflcdheaaFolds
import Derived.Deep.RegionHeld
import Derived.WalkKit
import Derived.ProofKit
import Derived.OpenShut
import Derived.ShutString
import Derived.ChangeOld
import Derived.Below
namespace Go.Proofs.Ytmpfminflcdheaa.varintPuts
open Go.ChangeShapes Go.WideShapes Go.ChangeAt Go.RowKit
open Go.ChangeMaps (open_string shut_string)
set_option linter.unusedVariables false

theorem own : ownKnob Try.prog.godebug = none := by kernel_rfl
theorem laidOut : laidOutB Try.prog = true := by kernel_rfl

/-- WHAT THE WALK IS TOLD OF A SLICE OF INTEGERS THAT CAME IN: it is nil; or it leads to a row of 'cap' cells, the numbers 'zs' (the first 'len' are its elements, the rest its spare room), each fitting its kind. -/
def IsRow (k : IntKind) (w : World) (a : Option Addr) (len cap : Nat) (zs : List Int) : Prop :=
  (a = none ∧ len = 0 ∧ cap = 0 ∧ zs = []) ∨
  ∃ x, a = some x ∧ len ≤ cap ∧ cap ≤ maxLen ∧ zs.length = cap ∧ (∀ i, i < zs.length → w.cell? (x.add i) = some (.int k (zs.getD i 0))) ∧ ∀ n ∈ zs, (Lit.int k n).wf = true

/-! ### The walk -/
open M in
set_option maxHeartbeats 4000000 in
theorem walk (a0 : Option Addr) (len0 cap0 : Nat) (z0 : List Int) (a1 : Option Addr) (len1 cap1 : Nat) (z1 : List Int) (a2 : Int) (w : World) (w0 : IsRow .u8 w a0 len0 cap0 z0) (w1 : IsRow .u64 w a1 len1 cap1 z1) (w2 : (Lit.int .i64 a2).wf = true) :
    Calls Try.prog 3 #[.slice a0 len0 cap0, .slice a1 len1 cap1, .int .i64 a2] w fun e w' => e = .returned (.bool true) ∧ Below w.heap.size w w' := by
  obtain ⟨hr, hwf⟩ := Reads.row (show IsRow' .u8 w a0 len0 cap0 z0 from w0)
  obtain ⟨hr1, hwf1⟩ := Reads.row (show IsRow' .u64 w a1 len1 cap1 z1 from w1)
  obtain ⟨p1, p2⟩ := bounds_i64 w2
  have hz := bytes_of_wf hwf
  have hu := u64s_of_wf hwf1
  have hlm : len0 ≤ 9223372036854775807 := Nat.le_trans hr.room hr.most
  have hlm1 : len1 ≤ 9223372036854775807 := Nat.le_trans hr1.room hr1.most
  clear w0 w1 w2 hwf hwf1
  generalize z0.take len0 = bs at *
  generalize z1.take len1 = ns at *
  have hLn := long_any a0 len0 cap0 w
  by_cases hl : 3000 < len0
  · rw [decide_eq_true hl] at hLn
    go_enter Try.func3, Try.ntmps3
    go_wp2_with fail
    refine hLn.mono ?_
    rintro e w' ⟨rfl, rfl⟩
    go_wp2_with fail
    refine (alive_any _).mono ?_
    rintro e w' ⟨rfl, b⟩
    go_wp2
    go_ret
    exact ⟨rfl, b⟩
  rw [decide_eq_false hl] at hLn
  by_cases hl1 : 300 < len1
  · go_enter Try.func3, Try.ntmps3
    go_wp2_with fail
    refine hLn.mono ?_
    rintro e w' ⟨rfl, rfl⟩
    go_wp2_with fail
    refine (alive_any _).mono ?_
    rintro e w' ⟨rfl, b⟩
    go_wp2
    go_ret
    exact ⟨rfl, b⟩
  go_enter Try.func3, Try.ntmps3
  go_wp2_with fail
  refine hLn.mono ?_
  rintro e w' ⟨rfl, rfl⟩
  go_wp2_with fail
  go_loopw [19] (fun i wr => ∃ k : Nat, k ≤ len1 ∧ i = .int .i64 k ∧ Below w'.heap.size w' wr) (fun i _ => len1 - (intOf i).toNat)
  case atStart => exact ⟨0, Nat.zero_le _, rfl, Below.refl _ _⟩
  case round =>
    obtain ⟨k, hk, rfl, hb⟩ := hrel
    have hsz := hb.size
    by_cases hlt : k < len1
    · obtain ⟨b1, o1, rfl, hc0⟩ := hr1.cell k hlt
      obtain ⟨n0, n1⟩ := hu.at k
      have hc := (hb.cell (World.block_lt_of_cell? _ _ hc0)).trans hc0
      have hS := size_any (ns[k]?.getD 0) wr n0 n1
      have hB := rbytes_any (ns[k]?.getD 0) wr n0 n1
      have hL10 := (encZ_len n1).2
      clear hc0 hr hr1 hu hz hLn
      generalize ns[k]?.getD 0 = x at *
      go_wp2_with fail
      refine hS.mono ?_
      rintro e w2 ⟨rfl, rfl⟩
      go_wp2_with fail
      refine hB.mono ?_
      rintro e w2 ⟨v2, rfl, how2, hb2⟩
      obtain ⟨a2', c2, rfl, hr2⟩ := Reads.own how2
      clear hr2 how2 hB hS
      go_wp2_with fail
      go_roundw
      case rel => exact ⟨k + 1, by omega, by go_num, hb.trans (hb2.mono hsz)⟩
      case measure => simp [intOf]; omega
    · have hr' := hr.below hb
      have hr1' := hr1.below hb
      have hbd : Below wr.heap.size wr wr.drew := (Below.refl _ _).drew
      have hP := put_any a0 len0 cap0 bs a1 len1 cap1 ns wr.drew (hr'.below hbd) (hr1'.below hbd) hu (by omega) (by omega)
      have hsd : wr.drew.heap.size = wr.heap.size := rfl
      have hR : ∀ W, Below wr.heap.size wr W → _ := fun W hW => rput_any a0 len0 cap0 bs a1 len1 cap1 ns W (hr'.below hW) (hr1'.below hW) hu (by omega) (by omega)
      obtain ⟨U, hU, u0, u1⟩ : ∃ U, IntKind.u64.wrap a2 = U ∧ 0 ≤ U ∧ U ≤ 18446744073709551615 := ⟨_, rfl, by simp [IntKind.wrap, IntKind.bits, IntKind.signed]; omega, by simp [IntKind.wrap, IntKind.bits, IntKind.signed]; omega⟩
      have hF := fun W => fold_any a2 W p1 p2
      have hG := fun W => rfold_any a2 W p1 p2
      have hM := fun W => unfold_any U W u0 u1
      have hN := fun W => runfold_any U W u0 u1
      generalize foldZ a2 = f at *
      generalize unfoldZ U = g at *
      generalize bs ++ encsZ ns = S at *
      generalize len0 + (encsZ ns).length = L at *
      have HP := hid hP
      have HR := hid hR
      have HF := hid hF
      have HG := hid hG
      have HM := hid hM
      have HN := hid hN
      clear hr hr1 hr' hr1' hu hz hLn hP hR hF hG hM hN
      go_wp2_with fail
      go_region_held (fun _ => True) (trivial) (first | (go_at_call 11; refine HP.out.mono ?_; rintro e wp ⟨vp, rfl, howp, hbp0⟩; have hbp : Below wr.heap.size wr wp := hbd.trans hbp0; obtain ⟨ap, cp, rfl, hrp⟩ := Reads.own howp; have cvp := hrp.conv 22 9 5 Try.underlying22 Try.underlying5 Try.underlying9) | (go_at_call 12; refine (HR.out _ hbp).mono ?_; rintro e wq ⟨vq, rfl, howq, hbq⟩; obtain ⟨aq, cq, rfl, hrq⟩ := Reads.own howq; have cvq := hrq.conv 22 9 5 Try.underlying22 Try.underlying5 Try.underlying9; have cvp' := (hrp.below hbq).conv 22 9 5 Try.underlying22 Try.underlying5 Try.underlying9) | (go_at_call 13; refine (HF.out _).mono ?_; rintro e wf ⟨rfl, rfl⟩) | (go_at_call 14; refine (HG.out _).mono ?_; rintro e wf ⟨rfl, rfl⟩) | (go_at_call 15; refine (HM.out _).mono ?_; rintro e wf ⟨rfl, rfl⟩) | (go_at_call 16; refine (HN.out _).mono ?_; rintro e wf ⟨rfl, rfl⟩) | (go_at_call 8; refine (alive_any _).mono ?_; rintro e wa ⟨rfl, hba⟩))
      all_goals
        go_wp2
        go_ret
        exact ⟨rfl, hb.trans (((hbp.trans (hbq.mono hbp.size)).trans (hba.mono (Nat.le_trans hbp.size hbq.size))).mono hsz)⟩

/-! ### THE ROW's STEP: WRITTEN OUT: LEAVE IT -/
set_option maxRecDepth 100000 in
theorem lifted (os : Os) (started : os.Started) (H : Type) (enc : TypeId × Value → H) :
    ReturnsInHanded {} Try.checked os 3 .any (Rows.varintPutsSpec.pre6 enc Try.prog Try.f3 Rows.varintPutsRow.domain false) (Rows.varintPutsSpec.post enc Try.prog Try.f3 false true false false) := by
  refine returnsInHanded_of_change (C := Try.checked) own started (by kernel_rfl) Try.func3
    (ChangeSpec.witness6 (enc := enc) (C := Try.checked) false ⟨#[], #[.slice none 0 0, .slice none 0 0, .int .i64 0], []⟩ 8 (by kernel_rfl) (by kernel_rfl) (by kernel_rfl) (by kernel_rfl)) ?_
  intro W base args ds gs before hval0 hW hcnd _
  have hval : ∀ (j : Nat) t v, Try.f3.params[j]? = some t → args[j]? = some v → Value.okWide Try.prog W .any base t v := hval0
  have hW' := hW
  obtain ⟨p, q, hA0, hV, rfl, hfz, hnd⟩ := hW
  have hA : DataW.TrodAll enc Try.prog W 0 (fun _ => true) true Try.f3.params.toList args.toList ds p := hA0
  rw [Try.params3] at hA hval
  obtain ⟨v0, vs0, d0, ds0, p0, q0, hargs, rfl, rfl, h0, r0⟩ := trodAll_cons hA
  obtain ⟨v1, vs1, d1, ds1, p1, q1, rfl, rfl, rfl, h1, r1⟩ := trodAll_cons r0
  obtain ⟨v2, vs2, d2, ds2, p2, q2, rfl, rfl, rfl, h2, r2⟩ := trodAll_cons r1
  obtain ⟨rfl, rfl, rfl⟩ := trodAll_nil r2
  obtain rfl : args = #[v0, v1, v2] := by cases args; simp_all
  obtain ⟨rfl, rfl⟩ := trodVars_none hV
  obtain ⟨a0, len0, cap0, rfl⟩ := okWide_slice Try.underlying22 (hval 0 22 v0 rfl rfl)
  have k0 := h0
  have lt0 : ∀ x ∈ p0, x.block < W.heap.size := by obtain ⟨m, hm⟩ := k0; exact DataW.trod_lt m _ _ _ hm
  obtain ⟨z0, w0⟩ : ∃ zs, IsRow .u8 W a0 len0 cap0 zs := by
    obtain ⟨fuel, hf⟩ := h0
    rcases open_ints Try.underlying22 Try.underlying5 (by kernel_rfl) hf with ⟨hcs, _⟩ | ⟨x, l, c, zs, hcs, _, hl, hm, hz, _, hcell, hwz⟩
    · simp [Value.cells] at hcs
      obtain ⟨rfl, rfl, rfl⟩ := hcs
      exact ⟨[], .inl ⟨rfl, rfl, rfl, rfl⟩⟩
    · simp [Value.cells] at hcs
      obtain ⟨rfl, rfl, rfl⟩ := hcs
      exact ⟨zs, .inr ⟨_, rfl, hl, hm, by simpa using hz, hcell, hwz⟩⟩
  obtain ⟨a1, len1, cap1, rfl⟩ := okWide_slice Try.underlying23 (hval 1 23 v1 rfl rfl)
  have k1 := h1
  have lt1 : ∀ x ∈ p1, x.block < W.heap.size := by obtain ⟨m, hm⟩ := k1; exact DataW.trod_lt m _ _ _ hm
  obtain ⟨z1, w1⟩ : ∃ zs, IsRow .u64 W a1 len1 cap1 zs := by
    obtain ⟨fuel, hf⟩ := h1
    rcases open_ints Try.underlying23 Try.underlying26 (by kernel_rfl) hf with ⟨hcs, _⟩ | ⟨x, l, c, zs, hcs, _, hl, hm, hz, _, hcell, hwz⟩
    · simp [Value.cells] at hcs
      obtain ⟨rfl, rfl, rfl⟩ := hcs
      exact ⟨[], .inl ⟨rfl, rfl, rfl, rfl⟩⟩
    · simp [Value.cells] at hcs
      obtain ⟨rfl, rfl, rfl⟩ := hcs
      exact ⟨zs, .inr ⟨_, rfl, hl, hm, by simpa using hz, hcell, hwz⟩⟩
  obtain ⟨a2, rfl, rfl, rfl, w2⟩ := open_int Try.underlying2 (hval 2 2 v2 rfl rfl) h2
  clear hA0 hval0
  refine (walk a0 len0 cap0 z0 a1 len1 cap1 z1 a2 W w0 w1 w2).mono fun e W' ⟨he, bel⟩ => ?_
  subst he
  exact ⟨_, rfl, _, _, _, [], _, [], hW', trodAll_mk1 (shut_bool Try.underlying4 _), (trodAll_cons_mk (Below.trod laidOut (by kernel_rfl) (of_decide_eq_true (by kernel_rfl)) k0 bel lt0) (trodAll_cons_mk (Below.trod laidOut (by kernel_rfl) (of_decide_eq_true (by kernel_rfl)) k1 bel lt1) (trodAll_cons_mk (shut_int Try.underlying2 w2) trodAll_mk0))), rfl, bel.frame _, fun h => by cases h⟩

theorem over : Rows.varintPutsRow.holds Try.pinned (OpenSpec.ofChange Rows.varintPutsSpec) :=
  OpenClaim.holds_of_wide 3 Try.f3 rfl rfl rfl rfl rfl rfl rfl ⟨rfl, rfl, rfl, rfl, rfl⟩ rfl rfl rfl rfl rfl (by kernel_rfl) Try.func3 (by kernel_rfl)
    (of_decide_eq_true (by kernel_rfl)) (by unfold Func.isWrapper; first | (rw [if_pos (by decide +kernel)]; kernel_rfl) | (rw [if_neg (by decide +kernel)]; exact ⟨rfl, rfl⟩))
    (fun os started H enc _ => lifted os started H enc)

/-- ████ THE STATEMENT ████ -/
theorem proved : Rows.VarintPutsSaid := over
#print axioms proved
end Go.Proofs.Ytmpfminflcdheaa.varintPuts
