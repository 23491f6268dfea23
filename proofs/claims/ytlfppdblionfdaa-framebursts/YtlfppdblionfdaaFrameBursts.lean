/-
  Proved: for any load, place and mask, a frame of which crc.Burst turned some bit, but none of its first seven bytes, is refused by frame.Parse with ErrSum, with no load and no bytes; the law FrameBursts returns true, and its arguments read as before. No condition.
-/
import Derived.Test.YtlfppdblionfdaaRows
import Derived.Test.YtlfppdblionfdaaOnes
import Derived.Test.YtlfppdblionfdaaBursts
import Derived.Deep.RegionHeld
import Derived.Deep.DeepCutAuto
import Derived.WalkKit
import Derived.ProofKit
import Derived.OpenShut
import Derived.ShutString
import Derived.ChangeOld
import Derived.Below
namespace Go.Proofs.Ytlfppdblionfdaa.frameBursts
open Go.ChangeShapes Go.WideShapes Go.ChangeAt Go.RowKit
open Go.ChangeMaps (open_string shut_string)
set_option linter.unusedVariables false

theorem own : ownKnob Try.prog.godebug = none := by kernel_rfl
theorem laidOut : laidOutB Try.prog = true := by kernel_rfl

/-- WHAT THE WALK IS TOLD OF A SLICE OF INTEGERS THAT CAME IN: it is nil; or it leads to a row of 'cap' cells, the numbers 'zs' (the first 'len' are its elements, the rest its spare room), each fitting its kind. -/
def IsRow (k : IntKind) (w : World) (a : Option Addr) (len cap : Nat) (zs : List Int) : Prop :=
  (a = none ∧ len = 0 ∧ cap = 0 ∧ zs = []) ∨
  ∃ x, a = some x ∧ len ≤ cap ∧ cap ≤ maxLen ∧ zs.length = cap ∧ (∀ i, i < zs.length → w.cell? (x.add i) = some (.int k (zs.getD i 0))) ∧ ∀ n ∈ zs, (Lit.int k n).wf = true

/-! ### The walk -/
open M in
set_option maxHeartbeats 2000000 in
theorem walk (a0 : Option Addr) (len0 cap0 : Nat) (z0 : List Int) (a1 : Int) (a2 : Int) (w : World) (w0 : IsRow .u8 w a0 len0 cap0 z0) (w1 : (Lit.int .i64 a1).wf = true) (w2 : (Lit.int .u32 a2).wf = true) :
    Calls Try.prog 7 #[.slice a0 len0 cap0, .int .i64 a1, .int .u32 a2] w fun e w' => e = .returned (.bool true) ∧ Below w.heap.size w w' := by
  obtain ⟨hr, hwf⟩ := Reads.row (show IsRow' .u8 w a0 len0 cap0 z0 from w0)
  have hz := bytes_of_wf hwf
  have hlm : len0 ≤ 9223372036854775807 := Nat.le_trans hr.room hr.most
  obtain ⟨p0, p1⟩ := bounds_i64 w1
  obtain ⟨m0, m1⟩ := bounds_u32 w2
  clear w0 w1 w2 hwf
  generalize z0.take len0 = zs at *
  have hF := far_any a0 len0 cap0 w
  by_cases hf : (1000 < len0 ∧ len0 ≤ 2048) ∨ 5000 < len0
  · rw [farF, decide_eq_true hf] at hF
    go_enter Try.func7, Try.ntmps7
    go_wp2_with fail
    refine hF.mono ?_
    rintro e w' ⟨rfl, rfl⟩
    go_wp2_with fail
    refine (alive_any _).mono ?_
    rintro e w' ⟨rfl, b⟩
    go_wp2
    go_ret
    exact ⟨rfl, b⟩
  rw [farF, decide_eq_false hf] at hF
  by_cases hm : 2048 < len0
  · have hL := lay_many a0 len0 cap0 w hm (by omega)
    clear hr hz
    go_enter Try.func7, Try.ntmps7
    go_wp2_with fail
    refine hF.mono ?_
    rintro e w' ⟨rfl, rfl⟩
    go_wp2_with fail
    refine hL.mono ?_
    rintro e w' ⟨rfl, rfl⟩
    go_wp2_with fail
    refine (alive_any _).mono ?_
    rintro e w3 ⟨rfl, hb3⟩
    go_wp2
    go_ret
    exact ⟨rfl, hb3⟩
  have hL := lay_ok a0 len0 cap0 zs w hr hz (by omega)
  obtain ⟨L, hL8, hLm, hLL⟩ : ∃ L, 8 ≤ L ∧ L ≤ 2060 ∧ (layL zs).length = L := by
    have := encZ_len2 (n := zs.length) (by rw [hr.size]; omega)
    refine ⟨_, ?_, ?_, rfl⟩ <;> (rw [layL_len, hr.size] at *; omega)
  rw [hLL] at hL
  have HB := hid (layL_bytes hz)
  have HS := hid (layL_sealed zs)
  have HL : Hid ((layL zs).length = L) := hLL
  have HT : Hid (∀ us : List Int, us.length = (layL zs).length → us.take 7 = (layL zs).take 7 → ¬ Sealed us → parseF us = ([], 0, 8)) := fun us h1 h2 h3 => lay_turned (by rw [hr.size]; omega) h1 h2 h3
  clear hr hz hLL
  generalize layL zs = us at *
  go_enter Try.func7, Try.ntmps7
  go_wp2_with fail
  refine hF.mono ?_
  rintro e w' ⟨rfl, rfl⟩
  go_wp2_with fail
  refine hL.mono ?_
  rintro e w2 ⟨v2, rfl, how2, hb2⟩
  obtain ⟨a2, c2, rfl, hr2⟩ := Reads.own how2
  obtain ⟨b2, o2, rfl, _⟩ := hr2.cell 0 (by omega)
  have hBu := burst_any _ L c2 us a1 a2 w2 hr2 HB.out (by omega) p0 p1 m0 m1
  have HR2 := hid hr2
  have hrm2 := hr2.room
  have hmo2 := hr2.most
  clear hL how2 hr2 hF
  go_wp2_with fail
  refine hBu.mono ?_
  rintro e w3 ⟨v3, rfl, how3, hb3⟩
  obtain ⟨a3, c3, rfl, hr3⟩ := Reads.own how3
  obtain ⟨b3, o3, rfl, _⟩ := hr3.cell 0 (by omega)
  have hrm3 := hr3.room
  have hmo3 := hr3.most
  have HZT := hid (burstL_bytes HB.out a1 a2 32)
  have HLT : Hid ((burstL us a1 a2 32).length = us.length) := burstL_len _ _ _ _
  have HNS : Hid (burstL us a1 a2 32 ≠ us → ¬ Sealed (burstL us a1 a2 32)) := fun h => burst_open HB.out HS.out a1 a2 h
  have hb03 : Below w'.heap.size w' w3 := hb2.trans (hb3.mono hb2.size)
  have HR3 := hid hr3
  have HR2' := hid (HR2.out.below hb3)
  clear hBu how3 hr3
  generalize burstL us a1 a2 32 = ts at *
  have hbd : Below w3.heap.size w3 w3.drew := (Below.refl _ _).drew
  have cu := (HR2'.out).conv (P := Try.prog) 22 9 5 Try.underlying22 Try.underlying5 Try.underlying9
  have cud := (HR2'.out.below hbd).conv (P := Try.prog) 22 9 5 Try.underlying22 Try.underlying5 Try.underlying9
  have ct := (HR3.out).conv (P := Try.prog) 22 9 5 Try.underlying22 Try.underlying5 Try.underlying9
  have ctd := (HR3.out.below hbd).conv (P := Try.prog) 22 9 5 Try.underlying22 Try.underlying5 Try.underlying9
  have cu7 := (HR2'.out.head (p := 7) (by omega) (by simp)).conv (P := Try.prog) 22 9 5 Try.underlying22 Try.underlying5 Try.underlying9
  have cu7d := ((HR2'.out.below hbd).head (p := 7) (by omega) (by simp)).conv (P := Try.prog) 22 9 5 Try.underlying22 Try.underlying5 Try.underlying9
  have ct7 := (HR3.out.head (p := 7) (by omega) (by simp)).conv (P := Try.prog) 22 9 5 Try.underlying22 Try.underlying5 Try.underlying9
  have ct7d := ((HR3.out.below hbd).head (p := 7) (by omega) (by simp)).conv (P := Try.prog) 22 9 5 Try.underlying22 Try.underlying5 Try.underlying9
  have hd8 : decide ((L : Int) < 8) = false := decide_eq_false (by omega)
  have e7 := str_eq (HZT.out.take 7) (HB.out.take 7)
  have ea := str_eq HZT.out HB.out
  by_cases h7 : ts.take 7 = us.take 7
  · rw [h7] at ct7 ct7d
    rw [h7] at e7
    rw [decide_eq_true rfl] at e7
    have n7 : ((strOfNums (us.take 7)).toList != (strOfNums (us.take 7)).toList) = false := by rw [bne, e7]; rfl
    by_cases hts : ts = us
    · rw [hts] at ct ctd ea
      rw [decide_eq_true rfl] at ea
      go_wp2_with fail
      go_region
      have hb0c : Below w'.heap.size w' w3.drew := hb03.trans (hbd.mono hb03.size)
      clear cu cud ct ctd cu7 cu7d ct7 ct7d e7 ea n7
      go_wp2_with fail
      refine (alive_any _).mono ?_
      rintro e w6 ⟨rfl, hb6⟩
      go_wp2
      go_ret
      exact ⟨rfl, hb0c.trans (hb6.mono hb0c.size)⟩
    · rw [decide_eq_false hts] at ea
      go_wp2_with fail
      go_region
      have hb0c : Below w'.heap.size w' w3.drew := hb03.trans (hbd.mono hb03.size)
      have hP := parse_any _ L c3 ts w3.drew (HR3.out.below hbd) HZT.out (by omega)
      unfold Told at hP
      rw [HT.out ts HLT.out h7 (HNS.out hts)] at hP
      clear cu cud ct ctd cu7 cu7d ct7 ct7d e7 ea n7
      go_wp2_with fail
      refine hP.mono ?_
      rintro e w5 ⟨a5, l5, c5, rfl, hr5, _, hb5⟩
      obtain rfl : l5 = 0 := by have := hr5.size; simpa using this.symm
      have hb05 : Below w'.heap.size w' w5 := hb0c.trans (hb5.mono hb0c.size)
      clear hP hr5
      go_wp2_with fail
      refine (alive_any _).mono ?_
      rintro e w6 ⟨rfl, hb6⟩
      go_wp2
      go_ret
      exact ⟨rfl, hb05.trans (hb6.mono hb05.size)⟩
  · rw [decide_eq_false h7] at e7
    have n7 : ((strOfNums (ts.take 7)).toList != (strOfNums (us.take 7)).toList) = true := by rw [bne, e7]; rfl
    clear ea
    go_wp2_with fail
    go_region
    have hb0c : Below w'.heap.size w' w3.drew := hb03.trans (hbd.mono hb03.size)
    clear cu cud ct ctd cu7 cu7d ct7 ct7d e7 n7
    go_wp2_with fail
    refine (alive_any _).mono ?_
    rintro e w6 ⟨rfl, hb6⟩
    go_wp2
    go_ret
    exact ⟨rfl, hb0c.trans (hb6.mono hb0c.size)⟩

/-! ### THE ROW's STEP: WRITTEN OUT: LEAVE IT -/
set_option maxRecDepth 100000 in
theorem lifted (os : Os) (started : os.Started) (H : Type) (enc : TypeId × Value → H) :
    ReturnsInHanded {} Try.checked os 7 .any (Rows.frameBurstsSpec.pre6 enc Try.prog Try.f7 Rows.frameBurstsRow.domain false) (Rows.frameBurstsSpec.post enc Try.prog Try.f7 false true false false) := by
  refine returnsInHanded_of_change (C := Try.checked) own started (by kernel_rfl) Try.func7
    (ChangeSpec.witness6 (enc := enc) (C := Try.checked) false ⟨#[], #[.slice none 0 0, .int .i64 0, .int .u32 0], []⟩ 8 (by kernel_rfl) (by kernel_rfl) (by kernel_rfl) (by kernel_rfl)) ?_
  intro W base args ds gs before hval0 hW hcnd _
  have hval : ∀ (j : Nat) t v, Try.f7.params[j]? = some t → args[j]? = some v → Value.okWide Try.prog W .any base t v := hval0
  have hW' := hW
  obtain ⟨p, q, hA0, hV, rfl, hfz, hnd⟩ := hW
  have hA : DataW.TrodAll enc Try.prog W 0 (fun _ => true) true Try.f7.params.toList args.toList ds p := hA0
  rw [Try.params7] at hA hval
  obtain ⟨v0, vs0, d0, ds0, p0, q0, hargs, rfl, rfl, h0, r0⟩ := trodAll_cons hA
  obtain ⟨v1, vs1, d1, ds1, p1, q1, rfl, rfl, rfl, h1, r1⟩ := trodAll_cons r0
  obtain ⟨v2, vs2, d2, ds2, p2, q2, rfl, rfl, rfl, h2, r2⟩ := trodAll_cons r1
  obtain ⟨rfl, rfl, rfl⟩ := trodAll_nil r2
  obtain rfl : args = #[v0, v1, v2] := by cases args; simp_all
  obtain ⟨rfl, rfl⟩ := trodVars_none hV
  obtain ⟨a0, len0, cap0, rfl⟩ := okWide_slice Try.underlying22 (hval 0 22 v0 rfl rfl)
  have k0 := h0
  have lt0 : ∀ x ∈ p0, x.block < W.heap.size := by obtain ⟨m, hm⟩ := k0; exact DataW.trod_lt m _ _ _ hm
  obtain ⟨z0, w0⟩ : ∃ zs, IsRow .u8 W a0 len0 cap0 zs := by
    obtain ⟨fuel, hf⟩ := h0
    rcases open_ints Try.underlying22 Try.underlying5 (by kernel_rfl) hf with ⟨hcs, _⟩ | ⟨x, l, c, zs, hcs, _, hl, hm, hz, _, hcell, hwz⟩
    · simp [Value.cells] at hcs
      obtain ⟨rfl, rfl, rfl⟩ := hcs
      exact ⟨[], .inl ⟨rfl, rfl, rfl, rfl⟩⟩
    · simp [Value.cells] at hcs
      obtain ⟨rfl, rfl, rfl⟩ := hcs
      exact ⟨zs, .inr ⟨_, rfl, hl, hm, by simpa using hz, hcell, hwz⟩⟩
  obtain ⟨a1, rfl, rfl, rfl, w1⟩ := open_int Try.underlying3 (hval 1 3 v1 rfl rfl) h1
  obtain ⟨a2, rfl, rfl, rfl, w2⟩ := open_int Try.underlying42 (hval 2 42 v2 rfl rfl) h2
  clear hA0 hval0
  refine (walk a0 len0 cap0 z0 a1 a2 W w0 w1 w2).mono fun e W' ⟨he, bel⟩ => ?_
  subst he
  exact ⟨_, rfl, _, _, _, [], _, [], hW', trodAll_mk1 (shut_bool Try.underlying4 _), (trodAll_cons_mk (Below.trod laidOut (by kernel_rfl) (of_decide_eq_true (by kernel_rfl)) k0 bel lt0) (trodAll_cons_mk (shut_int Try.underlying3 w1) (trodAll_cons_mk (shut_int Try.underlying42 w2) trodAll_mk0))), rfl, bel.frame _, fun h => by cases h⟩

theorem over : Rows.frameBurstsRow.holds Try.pinned (OpenSpec.ofChange Rows.frameBurstsSpec) :=
  OpenClaim.holds_of_wide 7 Try.f7 rfl rfl rfl rfl rfl rfl rfl ⟨rfl, rfl, rfl, rfl, rfl⟩ rfl rfl rfl rfl rfl (by kernel_rfl) Try.func7 (by kernel_rfl)
    (of_decide_eq_true (by kernel_rfl)) (by unfold Func.isWrapper; first | (rw [if_pos (by decide +kernel)]; kernel_rfl) | (rw [if_neg (by decide +kernel)]; exact ⟨rfl, rfl⟩))
    (fun os started H enc _ => lifted os started H enc)

/-- ████ THE STATEMENT ████ -/
theorem proved : Rows.FrameBurstsSaid := over
#print axioms proved
end Go.Proofs.Ytlfppdblionfdaa.frameBursts
