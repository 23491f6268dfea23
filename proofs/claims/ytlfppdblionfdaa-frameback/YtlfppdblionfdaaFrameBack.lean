/-
  Proved: for any load and any bytes behind, what frame.Lay lays frame.Parse parses, and frame.One alone, as the same load; a load that is refused is longer than 2048 bytes; the law FrameBack returns true, and its arguments read as before. No condition.
-/
import Derived.Test.YtlfppdblionfdaaRows
import Derived.Test.YtlfppdblionfdaaOnes
import Derived.WalkKit
import Derived.ProofKit
import Derived.OpenShut
import Derived.ShutString
import Derived.ChangeOld
import Derived.Below
namespace Go.Proofs.Ytlfppdblionfdaa.frameBack
open Go.ChangeShapes Go.WideShapes Go.ChangeAt Go.RowKit
open Go.ChangeMaps (open_string shut_string)
set_option linter.unusedVariables false

theorem own : ownKnob Try.prog.godebug = none := by kernel_rfl
theorem laidOut : laidOutB Try.prog = true := by kernel_rfl

/-- WHAT THE WALK IS TOLD OF A SLICE OF INTEGERS THAT CAME IN: it is nil; or it leads to a row of 'cap' cells, the numbers 'zs' (the first 'len' are its elements, the rest its spare room), each fitting its kind. -/
def IsRow (k : IntKind) (w : World) (a : Option Addr) (len cap : Nat) (zs : List Int) : Prop :=
  (a = none ∧ len = 0 ∧ cap = 0 ∧ zs = []) ∨
  ∃ x, a = some x ∧ len ≤ cap ∧ cap ≤ maxLen ∧ zs.length = cap ∧ (∀ i, i < zs.length → w.cell? (x.add i) = some (.int k (zs.getD i 0))) ∧ ∀ n ∈ zs, (Lit.int k n).wf = true

/-! ### The walk -/
open M in
set_option maxHeartbeats 2000000 in
theorem walk (a0 : Option Addr) (len0 cap0 : Nat) (z0 : List Int) (a1 : Option Addr) (len1 cap1 : Nat) (z1 : List Int) (w : World) (w0 : IsRow .u8 w a0 len0 cap0 z0) (w1 : IsRow .u8 w a1 len1 cap1 z1) :
    Calls Try.prog 5 #[.slice a0 len0 cap0, .slice a1 len1 cap1] w fun e w' => e = .returned (.bool true) ∧ Below w.heap.size w w' := by
  obtain ⟨hr, hwf⟩ := Reads.row (show IsRow' .u8 w a0 len0 cap0 z0 from w0)
  have hz := bytes_of_wf hwf
  have hlm : len0 ≤ 9223372036854775807 := Nat.le_trans hr.room hr.most
  obtain ⟨hr1, hwf1⟩ := Reads.row (show IsRow' .u8 w a1 len1 cap1 z1 from w1)
  have hz1 := bytes_of_wf hwf1
  have hlm1 : len1 ≤ 9223372036854775807 := Nat.le_trans hr1.room hr1.most
  clear w0 w1 hwf hwf1
  generalize z0.take len0 = zs at *
  generalize z1.take len1 = ys at *
  obtain ⟨i0, hi, hy0, hy1, hy2⟩ := info_parts Try.info5
  have hF := far_any a0 len0 cap0 w
  by_cases hf : (1000 < len0 ∧ len0 ≤ 2048) ∨ 5000 < len0
  · rw [farF, decide_eq_true hf] at hF
    go_enter Try.func5, Try.ntmps5
    go_wp2_with fail
    refine hF.mono ?_
    rintro e w' ⟨rfl, rfl⟩
    go_wp2_with fail
    refine (alive_any _).mono ?_
    rintro e w' ⟨rfl, b⟩
    go_wp2
    go_ret
    exact ⟨rfl, b⟩
  rw [farF, decide_eq_false hf] at hF
  have hG := far_any a1 len1 cap1 w
  by_cases hg : (1000 < len1 ∧ len1 ≤ 2048) ∨ 5000 < len1
  · rw [farF, decide_eq_true hg] at hG
    go_enter Try.func5, Try.ntmps5
    go_wp2_with fail
    refine hF.mono ?_
    rintro e w' ⟨rfl, rfl⟩
    go_wp2_with fail
    refine hG.mono ?_
    rintro e w' ⟨rfl, rfl⟩
    go_wp2_with fail
    refine (alive_any _).mono ?_
    rintro e w' ⟨rfl, b⟩
    go_wp2
    go_ret
    exact ⟨rfl, b⟩
  rw [farF, decide_eq_false hg] at hG
  by_cases hm : 2048 < len0
  · have hL := lay_many a0 len0 cap0 w hm (by omega)
    clear hr hz hr1 hz1
    go_enter Try.func5, Try.ntmps5
    go_wp2_with fail
    refine hF.mono ?_
    rintro e w' ⟨rfl, rfl⟩
    go_wp2_with fail
    refine hG.mono ?_
    rintro e w' ⟨rfl, rfl⟩
    go_wp2_with fail
    refine hL.mono ?_
    rintro e w' ⟨rfl, rfl⟩
    go_wp2_with fail
    refine (alive_any _).mono ?_
    rintro e w3 ⟨rfl, hb3⟩
    go_wp2
    go_ret
    exact ⟨rfl, hb3⟩
  · have hL := lay_ok a0 len0 cap0 zs w hr hz (by omega)
    have hle : (layL zs).length ≤ 2060 := by
      have := encZ_len2 (n := zs.length) (by rw [hr.size]; omega)
      rw [layL_len, hr.size] at *; omega
    have HP := hid (lay_parse (xs := zs) (by rw [hr.size]; omega) ys)
    have HP1 : Hid (parseF (layL zs) = (zs, ((layL zs).length : Int), 0)) := by
      have := lay_parse (xs := zs) (by rw [hr.size]; omega) []
      rwa [List.append_nil] at this
    have HO : Hid (oneF (layL zs) = (zs, 0)) := by
      unfold Hid oneF
      rw [HP1.out, if_neg (by simp), if_neg (by simp)]
    have HB := hid (layL_bytes hz)
    have HY := hid hz1
    have HR := hid hr
    have HR1 := hid hr1
    clear hr hz hr1 hz1 HP1
    generalize layL zs = us at *
    go_enter Try.func5, Try.ntmps5
    go_wp2_with fail
    refine hF.mono ?_
    rintro e w' ⟨rfl, rfl⟩
    go_wp2_with fail
    refine hG.mono ?_
    rintro e w' ⟨rfl, rfl⟩
    go_wp2_with fail
    refine hL.mono ?_
    rintro e w2 ⟨v2, rfl, how2, hb2⟩
    obtain ⟨a2, c2, rfl, hr2⟩ := Reads.own how2
    have hs2 := hb2.size
    clear hL how2 hF hG
    go_wp2_with (at_builtin; first | (refine append_any _ rfl (.const (.slice none 0 0)) (.tmp 42) 22 rfl w2.heap.size 5 i0 (.int .u8 0) 1 Try.underlying22 hi hy0 hy1 hy2 rfl .u8 _ 0 [] rfl (World.ownsRow_nil _ _ _ _) a2 _ c2 us rfl hr2 (by omega) (by omega) (by omega) ?_; intro v3 w3 how3 hb3; rw [List.nil_append, Nat.zero_add] at how3; have hb03 : Below w'.heap.size w' w3 := hb2.trans (hb3.mono hs2); have hr3 := HR1.out.below hb03; have hs3 := hb3.size) | (refine append_any _ rfl (.tmp 43) (.tmp 44) 22 rfl w2.heap.size 5 i0 (.int .u8 0) 1 Try.underlying22 hi hy0 hy1 hy2 rfl .u8 _ _ _ rfl how3 a1 len1 cap1 ys rfl hr3 (by omega) (by omega) (by omega) ?_; intro v4 w4 how4 hb4; have hb24 := hb3.trans hb4))
    obtain ⟨a4, c4, rfl, hr4⟩ := Reads.own how4
    have hP := parse_any a4 _ c4 _ w4 hr4 (HB.out.append HY.out) (by omega)
    unfold Told at hP
    rw [HP.out] at hP
    have hb04 : Below w'.heap.size w' w4 := hb2.trans (hb24.mono hs2)
    have HR2 := hid (hr2.below hb24)
    clear how4 how3 hr4 hr3 hr2
    go_wp2_with fail
    refine hP.mono ?_
    rintro e w5 ⟨a5, l5, c5, rfl, hr5, _, hb5⟩
    have hb05 : Below w'.heap.size w' w5 := hb04.trans (hb5.mono hb04.size)
    have hO := one_any a2 _ c2 us w5 (HR2.out.below hb5) HB.out (by omega)
    unfold Told1 at hO
    rw [HO.out] at hO
    have HR5 := hid hr5
    clear hP hr5
    go_wp2_with fail
    refine hO.mono ?_
    rintro e w6 ⟨a6, l6, c6, rfl, hr6, hb6⟩
    have hb06 : Below w'.heap.size w' w6 := hb05.trans (hb6.mono hb05.size)
    have cv5 := (HR5.out.below hb6).conv (P := Try.prog) 22 9 5 Try.underlying22 Try.underlying5 Try.underlying9
    have cv6 := hr6.conv (P := Try.prog) 22 9 5 Try.underlying22 Try.underlying5 Try.underlying9
    have cv0 := (HR.out.below hb06).conv (P := Try.prog) 22 9 5 Try.underlying22 Try.underlying5 Try.underlying9
    clear hO hr6
    go_wp2_with fail
    refine (alive_any _).mono ?_
    rintro e w7 ⟨rfl, hb7⟩
    go_wp2
    go_ret
    exact ⟨rfl, hb06.trans (hb7.mono hb06.size)⟩

/-! ### THE ROW's STEP: WRITTEN OUT: LEAVE IT -/
set_option maxRecDepth 100000 in
theorem lifted (os : Os) (started : os.Started) (H : Type) (enc : TypeId × Value → H) :
    ReturnsInHanded {} Try.checked os 5 .any (Rows.frameBackSpec.pre6 enc Try.prog Try.f5 Rows.frameBackRow.domain false) (Rows.frameBackSpec.post enc Try.prog Try.f5 false true false false) := by
  refine returnsInHanded_of_change (C := Try.checked) own started (by kernel_rfl) Try.func5
    (ChangeSpec.witness6 (enc := enc) (C := Try.checked) false ⟨#[], #[.slice none 0 0, .slice none 0 0], []⟩ 8 (by kernel_rfl) (by kernel_rfl) (by kernel_rfl) (by kernel_rfl)) ?_
  intro W base args ds gs before hval0 hW hcnd _
  have hval : ∀ (j : Nat) t v, Try.f5.params[j]? = some t → args[j]? = some v → Value.okWide Try.prog W .any base t v := hval0
  have hW' := hW
  obtain ⟨p, q, hA0, hV, rfl, hfz, hnd⟩ := hW
  have hA : DataW.TrodAll enc Try.prog W 0 (fun _ => true) true Try.f5.params.toList args.toList ds p := hA0
  rw [Try.params5] at hA hval
  obtain ⟨v0, vs0, d0, ds0, p0, q0, hargs, rfl, rfl, h0, r0⟩ := trodAll_cons hA
  obtain ⟨v1, vs1, d1, ds1, p1, q1, rfl, rfl, rfl, h1, r1⟩ := trodAll_cons r0
  obtain ⟨rfl, rfl, rfl⟩ := trodAll_nil r1
  obtain rfl : args = #[v0, v1] := by cases args; simp_all
  obtain ⟨rfl, rfl⟩ := trodVars_none hV
  obtain ⟨a0, len0, cap0, rfl⟩ := okWide_slice Try.underlying22 (hval 0 22 v0 rfl rfl)
  have k0 := h0
  have lt0 : ∀ x ∈ p0, x.block < W.heap.size := by obtain ⟨m, hm⟩ := k0; exact DataW.trod_lt m _ _ _ hm
  obtain ⟨z0, w0⟩ : ∃ zs, IsRow .u8 W a0 len0 cap0 zs := by
    obtain ⟨fuel, hf⟩ := h0
    rcases open_ints Try.underlying22 Try.underlying5 (by kernel_rfl) hf with ⟨hcs, _⟩ | ⟨x, l, c, zs, hcs, _, hl, hm, hz, _, hcell, hwz⟩
    · simp [Value.cells] at hcs
      obtain ⟨rfl, rfl, rfl⟩ := hcs
      exact ⟨[], .inl ⟨rfl, rfl, rfl, rfl⟩⟩
    · simp [Value.cells] at hcs
      obtain ⟨rfl, rfl, rfl⟩ := hcs
      exact ⟨zs, .inr ⟨_, rfl, hl, hm, by simpa using hz, hcell, hwz⟩⟩
  obtain ⟨a1, len1, cap1, rfl⟩ := okWide_slice Try.underlying22 (hval 1 22 v1 rfl rfl)
  have k1 := h1
  have lt1 : ∀ x ∈ p1, x.block < W.heap.size := by obtain ⟨m, hm⟩ := k1; exact DataW.trod_lt m _ _ _ hm
  obtain ⟨z1, w1⟩ : ∃ zs, IsRow .u8 W a1 len1 cap1 zs := by
    obtain ⟨fuel, hf⟩ := h1
    rcases open_ints Try.underlying22 Try.underlying5 (by kernel_rfl) hf with ⟨hcs, _⟩ | ⟨x, l, c, zs, hcs, _, hl, hm, hz, _, hcell, hwz⟩
    · simp [Value.cells] at hcs
      obtain ⟨rfl, rfl, rfl⟩ := hcs
      exact ⟨[], .inl ⟨rfl, rfl, rfl, rfl⟩⟩
    · simp [Value.cells] at hcs
      obtain ⟨rfl, rfl, rfl⟩ := hcs
      exact ⟨zs, .inr ⟨_, rfl, hl, hm, by simpa using hz, hcell, hwz⟩⟩
  clear hA0 hval0
  refine (walk a0 len0 cap0 z0 a1 len1 cap1 z1 W w0 w1).mono fun e W' ⟨he, bel⟩ => ?_
  subst he
  exact ⟨_, rfl, _, _, _, [], _, [], hW', trodAll_mk1 (shut_bool Try.underlying4 _), (trodAll_cons_mk (Below.trod laidOut (by kernel_rfl) (of_decide_eq_true (by kernel_rfl)) k0 bel lt0) (trodAll_cons_mk (Below.trod laidOut (by kernel_rfl) (of_decide_eq_true (by kernel_rfl)) k1 bel lt1) trodAll_mk0)), rfl, bel.frame _, fun h => by cases h⟩

theorem over : Rows.frameBackRow.holds Try.pinned (OpenSpec.ofChange Rows.frameBackSpec) :=
  OpenClaim.holds_of_wide 5 Try.f5 rfl rfl rfl rfl rfl rfl rfl ⟨rfl, rfl, rfl, rfl, rfl⟩ rfl rfl rfl rfl rfl (by kernel_rfl) Try.func5 (by kernel_rfl)
    (of_decide_eq_true (by kernel_rfl)) (by unfold Func.isWrapper; first | (rw [if_pos (by decide +kernel)]; kernel_rfl) | (rw [if_neg (by decide +kernel)]; exact ⟨rfl, rfl⟩))
    (fun os started H enc _ => lifted os started H enc)

/-- ████ THE STATEMENT ████ -/
theorem proved : Rows.FrameBackSaid := over
#print axioms proved
end Go.Proofs.Ytlfppdblionfdaa.frameBack
