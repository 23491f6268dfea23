/-
  Proved: for any number, bytes p and bytes behind, what varint.Put and PutBytes put is got by Get and GetBytes whatever stands behind, Size is how many bytes that are, and folding is undone by unfolding, each way; the law VarintBack returns true, and its arguments read as before. No condition.
-/
import Derived.Test.YtmpfminflcdheaaRows
import Derived.Test.YtmpfminflcdheaaLists
import Derived.WalkKit
import Derived.ProofKit
import Derived.OpenShut
import Derived.ShutString
import Derived.ChangeOld
import Derived.Below
namespace Go.Proofs.Ytmpfminflcdheaa.varintBack
open Go.ChangeShapes Go.WideShapes Go.ChangeAt Go.RowKit
open Go.ChangeMaps (open_string shut_string)
set_option linter.unusedVariables false

theorem own : ownKnob Try.prog.godebug = none := by kernel_rfl
theorem laidOut : laidOutB Try.prog = true := by kernel_rfl

/-- WHAT THE WALK IS TOLD OF A SLICE OF INTEGERS THAT CAME IN: it is nil; or it leads to a row of 'cap' cells, the numbers 'zs' (the first 'len' are its elements, the rest its spare room), each fitting its kind. -/
def IsRow (k : IntKind) (w : World) (a : Option Addr) (len cap : Nat) (zs : List Int) : Prop :=
  (a = none ∧ len = 0 ∧ cap = 0 ∧ zs = []) ∨
  ∃ x, a = some x ∧ len ≤ cap ∧ cap ≤ maxLen ∧ zs.length = cap ∧ (∀ i, i < zs.length → w.cell? (x.add i) = some (.int k (zs.getD i 0))) ∧ ∀ n ∈ zs, (Lit.int k n).wf = true

/-! ### The walk -/
open M in
set_option maxHeartbeats 2000000 in
theorem walk (a0 : Int) (a1 : Option Addr) (len1 cap1 : Nat) (z1 : List Int) (a2 : Option Addr) (len2 cap2 : Nat) (z2 : List Int) (w : World) (w0 : (Lit.int .u64 a0).wf = true) (w1 : IsRow .u8 w a1 len1 cap1 z1) (w2 : IsRow .u8 w a2 len2 cap2 z2) :
    Calls Try.prog 5 #[.int .u64 a0, .slice a1 len1 cap1, .slice a2 len2 cap2] w fun e w' => e = .returned (.bool true) ∧ Below w.heap.size w w' := by
  obtain ⟨p1, p2⟩ := bounds_u64 w0
  obtain ⟨hr1, hwf1⟩ := Reads.row (show IsRow' .u8 w a1 len1 cap1 z1 from w1)
  obtain ⟨hr2, hwf2⟩ := Reads.row (show IsRow' .u8 w a2 len2 cap2 z2 from w2)
  have hz1' := bytes_of_wf hwf1
  have hz2' := bytes_of_wf hwf2
  have hlm1 : len1 ≤ 9223372036854775807 := Nat.le_trans hr1.room hr1.most
  have hlm2 : len2 ≤ 9223372036854775807 := Nat.le_trans hr2.room hr2.most
  clear w0 w1 w2 hwf1 hwf2
  generalize z1.take len1 = ps at *
  generalize z2.take len2 = bs at *
  have hLn1 := long_any a1 len1 cap1 w
  have hLn2 := long_any a2 len2 cap2 w
  by_cases hl1 : 3000 < len1
  · rw [decide_eq_true hl1] at hLn1
    go_enter Try.func5, Try.ntmps5
    go_wp2_with fail
    refine hLn1.mono ?_
    rintro e w' ⟨rfl, rfl⟩
    go_wp2_with fail
    refine (alive_any _).mono ?_
    rintro e w' ⟨rfl, b⟩
    go_wp2
    go_ret
    exact ⟨rfl, b⟩
  rw [decide_eq_false hl1] at hLn1
  by_cases hl2 : 3000 < len2
  · rw [decide_eq_true hl2] at hLn2
    go_enter Try.func5, Try.ntmps5
    go_wp2_with fail
    refine hLn1.mono ?_
    rintro e w' ⟨rfl, rfl⟩
    go_wp2_with fail
    refine hLn2.mono ?_
    rintro e w' ⟨rfl, rfl⟩
    go_wp2_with fail
    refine (alive_any _).mono ?_
    rintro e w' ⟨rfl, b⟩
    go_wp2
    go_ret
    exact ⟨rfl, b⟩
  rw [decide_eq_false hl2] at hLn2
  obtain ⟨i0, hi, hz0, hz1, hz2⟩ := info_parts Try.info5
  have hP := put_any none 0 0 [] (some ⟨w.heap.size, 0, none⟩) 1 1 [a0] (w.alloc (.cells #[.int .u64 a0] 26)) (Reads.nil _ _) (Reads.one _ _ _) (by intro x hx; simp at hx; omega) (by omega) (by omega)
  have hb0 : Below w.heap.size w (w.alloc (.cells #[.int .u64 a0] 26)) := (Below.refl _ _).alloc (Nat.le_refl _) _
  rw [encsZ_one] at hP
  obtain ⟨q1, q2⟩ := encZ_len p2
  obtain ⟨q3, q4⟩ := encZ_len (n := (len1 : Int)) (by omega)
  have HG1 : Hid (getF (encZ a0 ++ bs) 0 0 = (a0, ((encZ a0).length : Int), 0)) := got_back bs p1 p2
  have HG2 : Hid (getF (encZ len1 ++ ps ++ bs) 0 0 = ((len1 : Int), ((encZ len1).length : Int), 0)) := by
    unfold Hid
    rw [List.append_assoc]
    exact got_back _ (by omega) (by omega)
  have HD : Hid (((encZ len1 ++ ps ++ bs).drop (encZ len1).length).take len1 = ps) := by
    unfold Hid
    rw [List.append_assoc, List.drop_left, ← hr1.size, List.take_left]
  have hS := size_any a0 w p1 p2
  obtain ⟨I, hI, i1, i2⟩ : ∃ I, wrap64 a0 = I ∧ -9223372036854775808 ≤ I ∧ I ≤ 9223372036854775807 := ⟨_, rfl, by unfold wrap64; omega, by unfold wrap64; omega⟩
  have HS := hid fun W => size_any a0 W p1 p2
  have HU := hid fun W => unfold_any a0 W p1 p2
  have HF := hid fun W => fold_any (unfoldZ a0) W (unfoldZ_bd p1 p2).1 (unfoldZ_bd p1 p2).2
  rw [fold_unfold p1] at HF
  have HF2 := hid fun W => fold_any I W i1 i2
  have HU2 := hid fun W => unfold_any (foldZ I) W (foldZ_bd i1 i2).1 (foldZ_bd i1 i2).2
  rw [unfold_fold] at HU2
  have HP := hid hP
  have HL1 := hid hLn1
  have HL2 := hid hLn2
  clear hP hLn1 hLn2 hS
  go_enter Try.func5, Try.ntmps5
  go_wp2_with fail
  refine HL1.out.mono ?_
  rintro e w' ⟨rfl, rfl⟩
  go_wp2_with fail
  refine HL2.out.mono ?_
  rintro e W0 ⟨rfl, rfl⟩
  clear HL1 HL2
  go_wp2_with fail
  refine HP.out.mono ?_
  rintro e w1 ⟨v1, rfl, how1, hb1⟩
  have how : w1.ownsRow W0.heap.size 5 1 v1 (encZ a0).length ((encZ a0).map (Value.int .u8)) := by simpa using own_base how1 (B := W0.heap.size) (by simp)
  have hbw1 : Below W0.heap.size W0 w1 := hb0.trans (hb1.mono (by simp))
  have hs1 := hbw1.size
  have hr2' := hr2.below hbw1
  clear how1 hb1 hb0 HP
  go_wp2_with (at_builtin; refine append_any _ rfl (.tmp 24) (.tmp 25) 22 rfl W0.heap.size 5 i0 (.int .u8 0) 1 Try.underlying22 hi hz0 hz1 hz2 rfl .u8 _ _ _ rfl how a2 len2 cap2 bs rfl hr2' (by omega) (by omega) (by omega) ?_; intro v2 w2 how2 hb2)
  have hbw2 := hbw1.trans hb2
  have hs2 := hbw2.size
  obtain ⟨a3, c3, rfl, hr3⟩ := Reads.own how2
  have hG := get_any a3 _ c3 _ w2 hr3 ((encZ_bytes a0).append hz2') (by omega)
  rw [gotV_of HG1.out] at hG
  refine hG.mono ?_
  clear how hb2 hbw1 hr2' how2 hr3 HG1 hG
  rintro e w3 ⟨rfl, rfl⟩
  have hB := putbytes_any none 0 0 [] a1 len1 cap1 ps w3 (Reads.nil _ _) (hr1.below hbw2) (by omega) (by omega)
  rw [encsZ_one] at hB
  have HB := hid hB
  clear hB
  go_wp2_with fail
  refine HB.out.mono ?_
  rintro e w4 ⟨v4, rfl, how4, hb4⟩
  have how5 : w4.ownsRow W0.heap.size 5 1 v4 ((encZ len1).length + len1) ((encZ len1 ++ ps).map (Value.int .u8)) := by simpa using own_base how4 (B := W0.heap.size) hs2
  have hbw4 := hbw2.trans (hb4.mono hs2)
  have hs4 := hbw4.size
  have hr2' := hr2.below hbw4
  obtain ⟨a5, c5, rfl, _⟩ := Reads.own how5
  clear how4 hb4 HB hbw2
  go_wp2_with (at_builtin; refine append_any _ rfl (.tmp 34) (.tmp 35) 22 rfl W0.heap.size 5 i0 (.int .u8 0) 1 Try.underlying22 hi hz0 hz1 hz2 rfl .u8 _ _ _ rfl how5 a2 len2 cap2 bs rfl hr2' (by omega) (by omega) (by omega) ?_; intro v6 w6 how6 hb6)
  have hbw6 := hbw4.trans hb6
  have hs6 := hbw6.size
  obtain ⟨a7, c7, rfl, hr7⟩ := Reads.own how6
  have hK := getbytes_ok a7 _ c7 _ len1 (encZ len1).length len1 w6 hr7 (((encZ_bytes len1).append hz1').append hz2') (by omega) HG2.out (Nat.le_refl _) (by omega) (by omega) (by omega)
  rw [HD.out] at hK
  refine hK.mono ?_
  clear how5 hb6 hr2' hr7 how6 HG2 HD hK hbw4
  rintro e w8 ⟨v8, rfl, how8, hb8⟩
  obtain ⟨a9, c9, rfl, hr9⟩ := Reads.own how8
  have hbw8 := hbw6.trans (hb8.mono hs6)
  have hs8 := hbw8.size
  have cv1 := hr9.conv 22 9 5 Try.underlying22 Try.underlying5 Try.underlying9
  have cv2 := (hr1.below hbw8).conv 22 9 5 Try.underlying22 Try.underlying5 Try.underlying9
  clear how8 hr9 hb8 hbw6 hr1 hr2
  go_wp2_with fail
  refine (HS.out _).mono ?_
  rintro e w9 ⟨rfl, rfl⟩
  go_wp2_with fail
  refine (HU.out _).mono ?_
  rintro e w10 ⟨rfl, rfl⟩
  go_wp2_with fail
  refine (HF.out _).mono ?_
  rintro e w11 ⟨rfl, rfl⟩
  go_wp2_with fail
  refine (HF2.out _).mono ?_
  rintro e w12 ⟨rfl, rfl⟩
  go_wp2_with fail
  refine (HU2.out _).mono ?_
  rintro e w13 ⟨rfl, rfl⟩
  go_wp2_with fail
  refine (alive_any _).mono ?_
  rintro e w14 ⟨rfl, hbl⟩
  go_wp2
  go_ret
  exact ⟨rfl, hbw8.trans (hbl.mono hs8)⟩

/-! ### THE ROW's STEP: WRITTEN OUT: LEAVE IT -/
set_option maxRecDepth 100000 in
theorem lifted (os : Os) (started : os.Started) (H : Type) (enc : TypeId × Value → H) :
    ReturnsInHanded {} Try.checked os 5 .any (Rows.varintBackSpec.pre6 enc Try.prog Try.f5 Rows.varintBackRow.domain false) (Rows.varintBackSpec.post enc Try.prog Try.f5 false true false false) := by
  refine returnsInHanded_of_change (C := Try.checked) own started (by kernel_rfl) Try.func5
    (ChangeSpec.witness6 (enc := enc) (C := Try.checked) false ⟨#[], #[.int .u64 0, .slice none 0 0, .slice none 0 0], []⟩ 8 (by kernel_rfl) (by kernel_rfl) (by kernel_rfl) (by kernel_rfl)) ?_
  intro W base args ds gs before hval0 hW hcnd _
  have hval : ∀ (j : Nat) t v, Try.f5.params[j]? = some t → args[j]? = some v → Value.okWide Try.prog W .any base t v := hval0
  have hW' := hW
  obtain ⟨p, q, hA0, hV, rfl, hfz, hnd⟩ := hW
  have hA : DataW.TrodAll enc Try.prog W 0 (fun _ => true) true Try.f5.params.toList args.toList ds p := hA0
  rw [Try.params5] at hA hval
  obtain ⟨v0, vs0, d0, ds0, p0, q0, hargs, rfl, rfl, h0, r0⟩ := trodAll_cons hA
  obtain ⟨v1, vs1, d1, ds1, p1, q1, rfl, rfl, rfl, h1, r1⟩ := trodAll_cons r0
  obtain ⟨v2, vs2, d2, ds2, p2, q2, rfl, rfl, rfl, h2, r2⟩ := trodAll_cons r1
  obtain ⟨rfl, rfl, rfl⟩ := trodAll_nil r2
  obtain rfl : args = #[v0, v1, v2] := by cases args; simp_all
  obtain ⟨rfl, rfl⟩ := trodVars_none hV
  obtain ⟨a0, rfl, rfl, rfl, w0⟩ := open_int Try.underlying26 (hval 0 26 v0 rfl rfl) h0
  obtain ⟨a1, len1, cap1, rfl⟩ := okWide_slice Try.underlying22 (hval 1 22 v1 rfl rfl)
  have k1 := h1
  have lt1 : ∀ x ∈ p1, x.block < W.heap.size := by obtain ⟨m, hm⟩ := k1; exact DataW.trod_lt m _ _ _ hm
  obtain ⟨z1, w1⟩ : ∃ zs, IsRow .u8 W a1 len1 cap1 zs := by
    obtain ⟨fuel, hf⟩ := h1
    rcases open_ints Try.underlying22 Try.underlying5 (by kernel_rfl) hf with ⟨hcs, _⟩ | ⟨x, l, c, zs, hcs, _, hl, hm, hz, _, hcell, hwz⟩
    · simp [Value.cells] at hcs
      obtain ⟨rfl, rfl, rfl⟩ := hcs
      exact ⟨[], .inl ⟨rfl, rfl, rfl, rfl⟩⟩
    · simp [Value.cells] at hcs
      obtain ⟨rfl, rfl, rfl⟩ := hcs
      exact ⟨zs, .inr ⟨_, rfl, hl, hm, by simpa using hz, hcell, hwz⟩⟩
  obtain ⟨a2, len2, cap2, rfl⟩ := okWide_slice Try.underlying22 (hval 2 22 v2 rfl rfl)
  have k2 := h2
  have lt2 : ∀ x ∈ p2, x.block < W.heap.size := by obtain ⟨m, hm⟩ := k2; exact DataW.trod_lt m _ _ _ hm
  obtain ⟨z2, w2⟩ : ∃ zs, IsRow .u8 W a2 len2 cap2 zs := by
    obtain ⟨fuel, hf⟩ := h2
    rcases open_ints Try.underlying22 Try.underlying5 (by kernel_rfl) hf with ⟨hcs, _⟩ | ⟨x, l, c, zs, hcs, _, hl, hm, hz, _, hcell, hwz⟩
    · simp [Value.cells] at hcs
      obtain ⟨rfl, rfl, rfl⟩ := hcs
      exact ⟨[], .inl ⟨rfl, rfl, rfl, rfl⟩⟩
    · simp [Value.cells] at hcs
      obtain ⟨rfl, rfl, rfl⟩ := hcs
      exact ⟨zs, .inr ⟨_, rfl, hl, hm, by simpa using hz, hcell, hwz⟩⟩
  clear hA0 hval0
  refine (walk a0 a1 len1 cap1 z1 a2 len2 cap2 z2 W w0 w1 w2).mono fun e W' ⟨he, bel⟩ => ?_
  subst he
  exact ⟨_, rfl, _, _, _, [], _, [], hW', trodAll_mk1 (shut_bool Try.underlying4 _), (trodAll_cons_mk (shut_int Try.underlying26 w0) (trodAll_cons_mk (Below.trod laidOut (by kernel_rfl) (of_decide_eq_true (by kernel_rfl)) k1 bel lt1) (trodAll_cons_mk (Below.trod laidOut (by kernel_rfl) (of_decide_eq_true (by kernel_rfl)) k2 bel lt2) trodAll_mk0))), rfl, bel.frame _, fun h => by cases h⟩

theorem over : Rows.varintBackRow.holds Try.pinned (OpenSpec.ofChange Rows.varintBackSpec) :=
  OpenClaim.holds_of_wide 5 Try.f5 rfl rfl rfl rfl rfl rfl rfl ⟨rfl, rfl, rfl, rfl, rfl⟩ rfl rfl rfl rfl rfl (by kernel_rfl) Try.func5 (by kernel_rfl)
    (of_decide_eq_true (by kernel_rfl)) (by unfold Func.isWrapper; first | (rw [if_pos (by decide +kernel)]; kernel_rfl) | (rw [if_neg (by decide +kernel)]; exact ⟨rfl, rfl⟩))
    (fun os started H enc _ => lifted os started H enc)

/-- ████ THE STATEMENT ████ -/
theorem proved : Rows.VarintBackSaid := over
#print axioms proved
end Go.Proofs.Ytmpfminflcdheaa.varintBack
