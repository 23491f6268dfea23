/-
  Proved: for any vector of at most 300 numbers and any number of places, what Top hands back, by its heap, is what the document says; the law VecTops returns true at every input, and its arguments read as before. No condition.
-/
import Derived.Test.YthfblcdlibkchaaRows
import Derived.Test.YthfblcdlibkchaaHelps
import Derived.Test.YthfblcdlibkchaaRTops
import Derived.WalkKit
import Derived.ProofKit
import Derived.OpenShut
import Derived.ShutString
import Derived.ChangeOld
import Derived.Below
namespace Go.Proofs.Ythfblcdlibkchaa.vecTops
open Go.ChangeShapes Go.WideShapes Go.ChangeAt Go.RowKit
open Go.ChangeMaps (open_string shut_string)
set_option linter.unusedVariables false

theorem own : ownKnob Try.prog.godebug = none := by kernel_rfl
theorem laidOut : laidOutB Try.prog = true := by kernel_rfl

/-- WHAT THE WALK IS TOLD OF A SLICE OF INTEGERS THAT CAME IN: it is nil; or it leads to a row of 'cap' cells, the numbers 'zs' (the first 'len' are its elements, the rest its spare room), each fitting its kind. -/
def IsRow (k : IntKind) (w : World) (a : Option Addr) (len cap : Nat) (zs : List Int) : Prop :=
  (a = none ∧ len = 0 ∧ cap = 0 ∧ zs = []) ∨
  ∃ x, a = some x ∧ len ≤ cap ∧ cap ≤ maxLen ∧ zs.length = cap ∧ (∀ i, i < zs.length → w.cell? (x.add i) = some (.int k (zs.getD i 0))) ∧ ∀ n ∈ zs, (Lit.int k n).wf = true

/-! ### The walk -/
set_option maxRecDepth 1000000 in
set_option maxHeartbeats 2000000 in
theorem walk (a0 : Option Addr) (len0 cap0 : Nat) (z0 : List Int) (a1 : Int) (w : World) (w0 : IsRow .i64 w a0 len0 cap0 z0) (w1 : (Lit.int .i64 a1).wf = true) :
    Calls Try.prog 6 #[.slice a0 len0 cap0, .int .i64 a1] w fun e w' => e = .returned (.bool true) ∧ Below w.heap.size w w' := by
  obtain ⟨h0, wf0⟩ := Reads.row w0
  clear w0 w1
  generalize z0.take len0 = x0 at *
  have hbl : Below w.heap.size w (w.alloc (.cells #[.slice a0 len0 cap0] 22)) := (Below.refl _ _).alloc (Nat.le_refl _) _
  have HB := hid hbl
  have R0 := hid (h0.below hbl)
  have hR := rd2_one w a0 len0 cap0
  clear hbl h0
  by_cases hf : 300 < len0
  · have hF := far_yes _ _ _ _ _ hR (far_one.2 hf)
    clear hR hf R0 wf0
    go_enter Try.func6, Try.ntmps6
    go_wp2_with fail
    refine hF.mono ?_
    rintro e w' ⟨rfl, rfl⟩
    go_wp2_with fail
    refine (alive_any _).mono ?_
    rintro e w2 ⟨rfl, hb2⟩
    replace HB := hid (HB.out.trans (hb2.mono HB.out.size))
    clear hb2 hF
    go_wp2
    go_ret
    exact ⟨rfl, HB.out⟩
  · have hF := far_no _ _ _ _ _ hR (fun h => hf (far_one.1 h))
    have l0 : len0 ≤ 300 := by omega
    clear hR hf
    go_enter Try.func6, Try.ntmps6
    go_wp2_with fail
    refine hF.mono ?_
    rintro e w' ⟨rfl, rfl⟩
    clear hF
    generalize w.alloc (.cells #[.slice a0 len0 cap0] 22) = W0 at *
    obtain ⟨K, hK, hKl⟩ := kof_any a1 len0
    have hC := top_any a0 len0 cap0 K a1 x0 W0 R0.out (by omega) hK hKl
    have HC2 := hid fun W (h : Reads .i64 W a0 len0 cap0 x0) => rvtop_any a0 len0 cap0 K a1 x0 W h (by omega) hK hKl
    clear hK
    go_wp2_with fail
    refine hC.mono ?_
    rintro e W1 ⟨g, ps, rfl, hO, hT, hb⟩
    replace HB := hid (HB.out.trans (hb.mono HB.out.size))
    replace R0 := hid (R0.out.below hb)
    have Rp := hid hO.reads
    have HT := hid hT
    clear hb hC hO hT
    have hC := HC2.out W1 R0.out
    clear HC2
    go_wp2_with fail
    refine hC.mono ?_
    rintro e W2 ⟨ad, c, qs, rfl, hr, hT, hb⟩
    obtain rfl := HT.out.one hT
    replace HB := hid (HB.out.trans (hb.mono HB.out.size))
    replace Rp := hid (Rp.out.below hb)
    have Rq := hid hr
    clear hb hC hr hT R0 HT wf0
    go_wp2_with fail
    go_loopw [25] (fun i W => ∃ n : Nat, n ≤ K ∧ i = .int .i64 n ∧ Hid (Below W2.heap.size W2 W)) (fun i _ => K - (intOf i).toNat)
    case atStart => exact ⟨0, Nat.zero_le _, rfl, Below.refl _ _⟩
    case round =>
      obtain ⟨n, hn, rfl, HW⟩ := hrel
      rename World => wr
      by_cases hlt : n < K
      · obtain ⟨b1, o1, e1, c1⟩ := (Rp.out.below HW.out).cell n hlt
        cases e1
        obtain ⟨b2, o2, rfl, c2⟩ := (Rq.out.below HW.out).cell n hlt
        rw [Nat.zero_add] at c1
        have r2 := Rq.out.room
        have m2 := Rq.out.most
        clear Rp Rq
        generalize ps[n]?.getD 0 = x at *
        go_wp2_with fail
        go_region
        go_wp2_with fail
        go_round
        case rel => exact ⟨n + 1, by omega, by go_num, HW.out.drew⟩
        case measure => simp [intOf]; omega
      · replace HB := hid (HB.out.trans (HW.out.mono HB.out.size))
        clear Rp Rq
        go_wp2_with fail
        refine (alive_any _).mono ?_
        rintro e w2 ⟨rfl, hb2⟩
        replace HB := hid (HB.out.trans (hb2.mono HB.out.size))
        clear hb2 HW
        go_wp2
        go_ret
        exact ⟨rfl, HB.out⟩

/-! ### THE ROW's STEP: WRITTEN OUT: LEAVE IT -/
set_option maxRecDepth 100000 in
theorem lifted (os : Os) (started : os.Started) (H : Type) (enc : TypeId × Value → H) :
    ReturnsInHanded {} Try.checked os 6 .any (Rows.vecTopsSpec.pre6 enc Try.prog Try.f6 Rows.vecTopsRow.domain false) (Rows.vecTopsSpec.post enc Try.prog Try.f6 false true false false) := by
  refine returnsInHanded_of_change (C := Try.checked) own started (by kernel_rfl) Try.func6
    (ChangeSpec.witness6 (enc := enc) (C := Try.checked) false ⟨#[], #[.slice none 0 0, .int .i64 0], []⟩ 8 (by kernel_rfl) (by kernel_rfl) (by kernel_rfl) (by kernel_rfl)) ?_
  intro W base args ds gs before hval0 hW hcnd _
  have hval : ∀ (j : Nat) t v, Try.f6.params[j]? = some t → args[j]? = some v → Value.okWide Try.prog W .any base t v := hval0
  have hW' := hW
  obtain ⟨p, q, hA0, hV, rfl, hfz, hnd⟩ := hW
  have hA : DataW.TrodAll enc Try.prog W 0 (fun _ => true) true Try.f6.params.toList args.toList ds p := hA0
  rw [Try.params6] at hA hval
  obtain ⟨v0, vs0, d0, ds0, p0, q0, hargs, rfl, rfl, h0, r0⟩ := trodAll_cons hA
  obtain ⟨v1, vs1, d1, ds1, p1, q1, rfl, rfl, rfl, h1, r1⟩ := trodAll_cons r0
  obtain ⟨rfl, rfl, rfl⟩ := trodAll_nil r1
  obtain rfl : args = #[v0, v1] := by cases args; simp_all
  obtain ⟨rfl, rfl⟩ := trodVars_none hV
  obtain ⟨a0, len0, cap0, rfl⟩ := okWide_slice Try.underlying22 (hval 0 22 v0 rfl rfl)
  have k0 := h0
  have lt0 : ∀ x ∈ p0, x.block < W.heap.size := by obtain ⟨m, hm⟩ := k0; exact DataW.trod_lt m _ _ _ hm
  obtain ⟨z0, w0⟩ : ∃ zs, IsRow .i64 W a0 len0 cap0 zs := by
    obtain ⟨fuel, hf⟩ := h0
    rcases open_ints Try.underlying22 Try.underlying2 (by kernel_rfl) hf with ⟨hcs, _⟩ | ⟨x, l, c, zs, hcs, _, hl, hm, hz, _, hcell, hwz⟩
    · simp [Value.cells] at hcs
      obtain ⟨rfl, rfl, rfl⟩ := hcs
      exact ⟨[], .inl ⟨rfl, rfl, rfl, rfl⟩⟩
    · simp [Value.cells] at hcs
      obtain ⟨rfl, rfl, rfl⟩ := hcs
      exact ⟨zs, .inr ⟨_, rfl, hl, hm, by simpa using hz, hcell, hwz⟩⟩
  obtain ⟨a1, rfl, rfl, rfl, w1⟩ := open_int Try.underlying3 (hval 1 3 v1 rfl rfl) h1
  clear hA0 hval0
  refine (walk a0 len0 cap0 z0 a1 W w0 w1).mono fun e W' ⟨he, bel⟩ => ?_
  subst he
  exact ⟨_, rfl, _, _, _, [], _, [], hW', trodAll_mk1 (shut_bool Try.underlying4 _), (trodAll_cons_mk (Below.trod laidOut (by kernel_rfl) (of_decide_eq_true (by kernel_rfl)) k0 bel lt0) (trodAll_cons_mk (shut_int Try.underlying3 w1) trodAll_mk0)), rfl, bel.frame _, fun h => by cases h⟩

theorem over : Rows.vecTopsRow.holds Try.pinned (OpenSpec.ofChange Rows.vecTopsSpec) :=
  OpenClaim.holds_of_wide 6 Try.f6 rfl rfl rfl rfl rfl rfl rfl ⟨rfl, rfl, rfl, rfl, rfl⟩ rfl rfl rfl rfl rfl (by kernel_rfl) Try.func6 (by kernel_rfl)
    (of_decide_eq_true (by kernel_rfl)) (by unfold Func.isWrapper; first | (rw [if_pos (by decide +kernel)]; kernel_rfl) | (rw [if_neg (by decide +kernel)]; exact ⟨rfl, rfl⟩))
    (fun os started H enc _ => lifted os started H enc)

/-- ████ THE STATEMENT ████ -/
theorem proved : Rows.VecTopsSaid := over
#print axioms proved
end Go.Proofs.Ythfblcdlibkchaa.vecTops
