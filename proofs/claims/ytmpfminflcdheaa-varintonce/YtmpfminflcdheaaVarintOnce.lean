/-
  Proved: for any bytes, the number that varint.Get gets is put by Put as the very bytes it was got from, and the numbers that All tells as all of them; with an error all else is 0; the law VarintOnce returns true, and its argument reads as before. No condition.
-/
import Derived.Test.YtmpfminflcdheaaRows
import Derived.Test.YtmpfminflcdheaaLists
import Derived.Deep.RegionHeld
import Derived.Deep.DeepCutAuto
import Derived.WalkKit
import Derived.ProofKit
import Derived.OpenShut
import Derived.ShutString
import Derived.ChangeOld
import Derived.Below
namespace Go.Proofs.Ytmpfminflcdheaa.varintOnce
open Go.ChangeShapes Go.WideShapes Go.ChangeAt Go.RowKit
open Go.ChangeMaps (open_string shut_string)
set_option linter.unusedVariables false

theorem own : ownKnob Try.prog.godebug = none := by kernel_rfl
theorem laidOut : laidOutB Try.prog = true := by kernel_rfl

/-- WHAT THE WALK IS TOLD OF A SLICE OF INTEGERS THAT CAME IN: it is nil; or it leads to a row of 'cap' cells, the numbers 'zs' (the first 'len' are its elements, the rest its spare room), each fitting its kind. -/
def IsRow (k : IntKind) (w : World) (a : Option Addr) (len cap : Nat) (zs : List Int) : Prop :=
  (a = none ∧ len = 0 ∧ cap = 0 ∧ zs = []) ∨
  ∃ x, a = some x ∧ len ≤ cap ∧ cap ≤ maxLen ∧ zs.length = cap ∧ (∀ i, i < zs.length → w.cell? (x.add i) = some (.int k (zs.getD i 0))) ∧ ∀ n ∈ zs, (Lit.int k n).wf = true

/-! ### The walk -/
open M in
set_option maxHeartbeats 4000000 in
theorem walk (a0 : Option Addr) (len0 cap0 : Nat) (z0 : List Int) (w : World) (w0 : IsRow .u8 w a0 len0 cap0 z0) :
    Calls Try.prog 6 #[.slice a0 len0 cap0] w fun e w' => e = .returned (.bool true) ∧ Below w.heap.size w w' := by
  obtain ⟨hr, hwf⟩ := Reads.row (show IsRow' .u8 w a0 len0 cap0 z0 from w0)
  have hz := bytes_of_wf hwf
  have hlm : len0 ≤ 9223372036854775807 := Nat.le_trans hr.room hr.most
  clear w0 hwf
  generalize z0.take len0 = zs at *
  have hLn := long_any a0 len0 cap0 w
  by_cases hl : 3000 < len0
  · rw [decide_eq_true hl] at hLn
    go_enter Try.func6, Try.ntmps6
    go_wp2_with fail
    refine hLn.mono ?_
    rintro e w' ⟨rfl, rfl⟩
    go_wp2_with fail
    refine (alive_any _).mono ?_
    rintro e w' ⟨rfl, b⟩
    go_wp2
    go_ret
    exact ⟨rfl, b⟩
  rw [decide_eq_false hl] at hLn
  have hG := get_any a0 len0 cap0 zs w hr hz (by omega)
  have HER := hid (getF_err zs 0 0)
  have HO := hid (getF_once zs 0 0 (by omega) hz)
  have hbd := getF_bd zs 0 0 (by omega) (by omega) (by simp) hz
  unfold gotV at hG
  generalize getF zs 0 0 = G at *
  obtain ⟨m, k, f⟩ := G
  simp only at hG hbd HO HER
  by_cases hf : f = 0
  · subst hf
    obtain ⟨q, h1, h2, h3, _⟩ := HO.out rfl
    obtain ⟨m0, m1⟩ := hbd
    have hmq : m = q := by simpa using h1
    have hqe : encZ m = enc q := by unfold encZ; rw [hmq]; simp
    rw [← hqe] at h2 h3
    obtain ⟨l1, l2⟩ := encZ_len m1
    have hle : (encZ m).length ≤ len0 := by
      have := congrArg List.length h3
      simp [hr.size] at this
      omega
    have hkk : k = ((encZ m).length : Nat) := by omega
    subst hkk
    have hne : a0 ≠ none := fun e => by have := (hr.bare e).1; omega
    have hrk := hr.head hle hne
    rw [h3] at hrk
    obtain ⟨b, off, rfl, _⟩ := hr.cell 0 (by omega)
    have hbd : Below w.heap.size w w.drew := (Below.refl _ _).drew
    have hbda : Below w.heap.size w (w.drew.alloc (.cells #[.int .u64 m] 26)) := hbd.alloc (Nat.le_refl _) _
    have HP := hid (put_any none 0 0 [] (some ⟨w.heap.size, 0, none⟩) 1 1 [m] (w.drew.alloc (.cells #[.int .u64 m] 26)) (Reads.nil _ _) (Reads.one _ _ _) (by intro x hx; simp at hx; omega) (by omega) (by omega))
    rw [encsZ_one, Nat.zero_add, List.nil_append] at HP
    have hcap : (encZ m).length ≤ cap0 := Nat.le_trans hle hr.room
    have c0 := (hrk.below hbd).conv (P := Try.prog) 22 9 5 Try.underlying22 Try.underlying5 Try.underlying9
    have c1 := (hrk.below hbda).conv (P := Try.prog) 22 9 5 Try.underlying22 Try.underlying5 Try.underlying9
    have HRK := hid hrk
    have HLn := hid hLn
    have HG := hid hG
    have HR := hid hr
    have HZ := hid hz
    clear hLn hG h1 h2 h3 hmq hqe HO HER hrk hr hz
    generalize hj : (encZ m).length = j at *
    clear hj
    have d1 : decide ((j : Int) < 1) = false := decide_eq_false (by omega)
    have d3 : decide (len0 < j) = false := decide_eq_false (by omega)
    have d4 : decide (j < 1) = false := decide_eq_false (by omega)
    have i0 : (0 : Int) ≤ (j : Int) := by omega
    have i1 : (j : Int) ≤ (cap0 : Int) := by omega
    have d2 : decide ((len0 : Int) < (j : Int)) = false := decide_eq_false (by omega)
    go_enter Try.func6, Try.ntmps6
    go_wp2_with fail
    refine HLn.out.mono ?_
    rintro e w' ⟨rfl, rfl⟩
    go_wp2_with fail
    refine HG.out.mono ?_
    rintro e W0 ⟨rfl, rfl⟩
    go_wp2_with fail
    go_cut [46] (fun v wx => v = .bool false ∧ Below W0.heap.size W0 wx)
    case first =>
      go_region_held (fun W : World => (convert 22 9 (.slice (some ⟨b, off, none⟩) j cap0)).run Try.prog W = .ok (.string (strOfNums (encZ m))) W) (first | exact c0 | exact c1 | assumption) (first | (go_at_call 11; refine HP.out.mono ?_; rintro e wp ⟨vp, rfl, howp, hbp0⟩; have hbp : Below W0.heap.size W0 wp := hbda.trans (hbp0.mono (by simp)); obtain ⟨ap, cp, rfl, hrp⟩ := Reads.own howp; have cvp := hrp.conv 22 9 5 Try.underlying22 Try.underlying5 Try.underlying9; have cvb := (HRK.out.below hbp).conv (P := Try.prog) 22 9 5 Try.underlying22 Try.underlying5 Try.underlying9))
      all_goals
        go_wp2_with fail
        go_meet
        case rel => exact ⟨rfl, hbp⟩
    case rest =>
      obtain ⟨rfl, hbc⟩ := hcut
      have hsc := hbc.size
      have HA := hid (all_ok (some ⟨b, off, none⟩) len0 cap0 zs wc (HR.out.below hbc) HZ.out (by omega))
      clear c0 c1 HP hbd hbda HRK HLn HG
      go_wp2_with fail
      refine HA.out.mono ?_
      rintro e w2 ⟨v2, f, rfl, hb2, hcase⟩
      have hbw2 : Below W0.heap.size W0 w2 := hbc.trans (hb2.mono hsc)
      have hs2 := hbw2.size
      rcases hcase with hf | ⟨ns, rfl, hns, hnl, hown, hen⟩
      · have d5 : (f != 0) = true := by simp [hf]
        have d6 : (f == 0) = false := by simp [hf]
        have d8 : decide (f = 0) = false := by simp [hf]
        clear HA
        go_wp2_with fail
        first
          | go_region_held (fun _ => True) (trivial) (first | (go_at_call 8; refine (alive_any _).mono ?_; rintro e w3 ⟨rfl, hb3⟩))
          | fail
        all_goals
          go_wp2
          go_ret
          exact ⟨rfl, hbw2.drew.trans (hb3.mono hs2)⟩
      · obtain ⟨a2, c2, rfl, hr2⟩ := Reads.own hown
        have hbd : Below w2.heap.size w2 w2.drew := (Below.refl _ _).drew
        have HP := hid (put_any none 0 0 [] a2 ns.length c2 ns w2.drew (Reads.nil _ _) (hr2.below hbd) hns (by omega) (by omega))
        rw [hen, Nat.zero_add, List.nil_append, HR.out.size] at HP
        have c0 := ((HR.out.below hbw2).below hbd).conv (P := Try.prog) 22 9 5 Try.underlying22 Try.underlying5 Try.underlying9
        clear HA hown hr2 hns hen
        go_wp2_with fail
        go_region_held (fun W : World => (convert 22 9 (.slice (some ⟨b, off, none⟩) len0 cap0)).run Try.prog W = .ok (.string (strOfNums zs)) W) (first | exact c0 | assumption) (first | (go_at_call 11; refine HP.out.mono ?_; rintro e wp ⟨vp, rfl, howp, hbp0⟩; have hbp : Below W0.heap.size W0 wp := hbw2.drew.trans (hbp0.mono hs2); obtain ⟨ap, cp, rfl, hrp⟩ := Reads.own howp; have cvp := hrp.conv 22 9 5 Try.underlying22 Try.underlying5 Try.underlying9; have cvb := (HR.out.below hbp).conv (P := Try.prog) 22 9 5 Try.underlying22 Try.underlying5 Try.underlying9) | (go_at_call 8; refine (alive_any _).mono ?_; rintro e w3 ⟨rfl, hb3⟩; have cva := (HR.out.below (hbp.trans (hb3.mono hbp.size))).conv (P := Try.prog) 22 9 5 Try.underlying22 Try.underlying5 Try.underlying9))
        all_goals
          go_wp2
          go_ret
          exact ⟨rfl, hbp.trans (hb3.mono hbp.size)⟩
  · obtain ⟨rfl, rfl⟩ := HER.out hf
    go_enter Try.func6, Try.ntmps6
    go_wp2_with fail
    refine hLn.mono ?_
    rintro e w' ⟨rfl, rfl⟩
    go_wp2_with fail
    refine hG.mono ?_
    rintro e w' ⟨rfl, rfl⟩
    go_wp2_with fail
    refine (alive_any _).mono ?_
    rintro e w' ⟨rfl, b⟩
    go_wp2
    go_ret
    exact ⟨rfl, b⟩

/-! ### THE ROW's STEP: WRITTEN OUT: LEAVE IT -/
set_option maxRecDepth 100000 in
theorem lifted (os : Os) (started : os.Started) (H : Type) (enc : TypeId × Value → H) :
    ReturnsInHanded {} Try.checked os 6 .any (Rows.varintOnceSpec.pre6 enc Try.prog Try.f6 Rows.varintOnceRow.domain false) (Rows.varintOnceSpec.post enc Try.prog Try.f6 false true false false) := by
  refine returnsInHanded_of_change (C := Try.checked) own started (by kernel_rfl) Try.func6
    (ChangeSpec.witness6 (enc := enc) (C := Try.checked) false ⟨#[], #[.slice none 0 0], []⟩ 8 (by kernel_rfl) (by kernel_rfl) (by kernel_rfl) (by kernel_rfl)) ?_
  intro W base args ds gs before hval0 hW hcnd _
  have hval : ∀ (j : Nat) t v, Try.f6.params[j]? = some t → args[j]? = some v → Value.okWide Try.prog W .any base t v := hval0
  have hW' := hW
  obtain ⟨p, q, hA0, hV, rfl, hfz, hnd⟩ := hW
  have hA : DataW.TrodAll enc Try.prog W 0 (fun _ => true) true Try.f6.params.toList args.toList ds p := hA0
  rw [Try.params6] at hA hval
  obtain ⟨v0, vs0, d0, ds0, p0, q0, hargs, rfl, rfl, h0, r0⟩ := trodAll_cons hA
  obtain ⟨rfl, rfl, rfl⟩ := trodAll_nil r0
  obtain rfl : args = #[v0] := by cases args; simp_all
  obtain ⟨rfl, rfl⟩ := trodVars_none hV
  obtain ⟨a0, len0, cap0, rfl⟩ := okWide_slice Try.underlying22 (hval 0 22 v0 rfl rfl)
  have k0 := h0
  have lt0 : ∀ x ∈ p0, x.block < W.heap.size := by obtain ⟨m, hm⟩ := k0; exact DataW.trod_lt m _ _ _ hm
  obtain ⟨z0, w0⟩ : ∃ zs, IsRow .u8 W a0 len0 cap0 zs := by
    obtain ⟨fuel, hf⟩ := h0
    rcases open_ints Try.underlying22 Try.underlying5 (by kernel_rfl) hf with ⟨hcs, _⟩ | ⟨x, l, c, zs, hcs, _, hl, hm, hz, _, hcell, hwz⟩
    · simp [Value.cells] at hcs
      obtain ⟨rfl, rfl, rfl⟩ := hcs
      exact ⟨[], .inl ⟨rfl, rfl, rfl, rfl⟩⟩
    · simp [Value.cells] at hcs
      obtain ⟨rfl, rfl, rfl⟩ := hcs
      exact ⟨zs, .inr ⟨_, rfl, hl, hm, by simpa using hz, hcell, hwz⟩⟩
  clear hA0 hval0
  refine (walk a0 len0 cap0 z0 W w0).mono fun e W' ⟨he, bel⟩ => ?_
  subst he
  exact ⟨_, rfl, _, _, _, [], _, [], hW', trodAll_mk1 (shut_bool Try.underlying4 _), (trodAll_cons_mk (Below.trod laidOut (by kernel_rfl) (of_decide_eq_true (by kernel_rfl)) k0 bel lt0) trodAll_mk0), rfl, bel.frame _, fun h => by cases h⟩

theorem over : Rows.varintOnceRow.holds Try.pinned (OpenSpec.ofChange Rows.varintOnceSpec) :=
  OpenClaim.holds_of_wide 6 Try.f6 rfl rfl rfl rfl rfl rfl rfl ⟨rfl, rfl, rfl, rfl, rfl⟩ rfl rfl rfl rfl rfl (by kernel_rfl) Try.func6 (by kernel_rfl)
    (of_decide_eq_true (by kernel_rfl)) (by unfold Func.isWrapper; first | (rw [if_pos (by decide +kernel)]; kernel_rfl) | (rw [if_neg (by decide +kernel)]; exact ⟨rfl, rfl⟩))
    (fun os started H enc _ => lifted os started H enc)

/-- ████ THE STATEMENT ████ -/
theorem proved : Rows.VarintOnceSaid := over
#print axioms proved
end Go.Proofs.Ytmpfminflcdheaa.varintOnce
