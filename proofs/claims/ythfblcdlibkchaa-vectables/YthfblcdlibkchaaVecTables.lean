/-
  Proved: for any table of at most 100 rows, and any vector, each of at most 300 numbers, what Mul and Mix hand back is what the document says; the law VecTables returns true at every input, and its arguments read as before. No condition.
-/
import Derived.Test.YthfblcdlibkchaaRows
import Derived.Test.YthfblcdlibkchaaRTables
import Derived.WalkKit
import Derived.ProofKit
import Derived.OpenShut
import Derived.ShutString
import Derived.ChangeOld
import Derived.Below
import Derived.Deep.Matrix
namespace Go.Proofs.Ythfblcdlibkchaa.vecTables
open Go.ChangeShapes Go.WideShapes Go.ChangeAt Go.RowKit
open Go.ChangeMaps (open_string shut_string)
set_option linter.unusedVariables false

theorem own : ownKnob Try.prog.godebug = none := by kernel_rfl
theorem laidOut : laidOutB Try.prog = true := by kernel_rfl

/-- WHAT THE WALK IS TOLD OF A SLICE OF INTEGERS THAT CAME IN: it is nil; or it leads to a row of 'cap' cells, the numbers 'zs' (the first 'len' are its elements, the rest its spare room), each fitting its kind. -/
def IsRow (k : IntKind) (w : World) (a : Option Addr) (len cap : Nat) (zs : List Int) : Prop :=
  (a = none ∧ len = 0 ∧ cap = 0 ∧ zs = []) ∨
  ∃ x, a = some x ∧ len ≤ cap ∧ cap ≤ maxLen ∧ zs.length = cap ∧ (∀ i, i < zs.length → w.cell? (x.add i) = some (.int k (zs.getD i 0))) ∧ ∀ n ∈ zs, (Lit.int k n).wf = true


/-- A table that came in. -/
def TblIn (w : World) (a : Option Addr) (len cap : Nat) (hs : List Hd) (xss : List (List Int)) : Prop :=
  Rd2 w a len cap hs ∧ ∀ i, i < len → Reads .i64 w (hs[i]?.getD (none, 0, 0)).1 (hs[i]?.getD (none, 0, 0)).2.1 (hs[i]?.getD (none, 0, 0)).2.2 (xss[i]?.getD [])
theorem tbl_in {H : Type} {enc : TypeId × Value → H} {w : World} {held : Bool} {fuel : Nat} {a : Option Addr} {len cap : Nat} {x : DataW H × List MemPlace}
    (h : DataW.trod enc Try.prog w 0 (fun _ => true) held fuel 31 [.slice a len cap] = some x) : ∃ hs xss, TblIn w a len cap hs xss := by
  rcases Go.Deep.open_int_rows Try.underlying31 Try.underlying22 Try.underlying2 (by kernel_rfl) (by kernel_rfl) h with ⟨hcs, _⟩ | ⟨ad, l, c, A, L, C, Z, hcs, _, hl, hm, _, hx⟩
  · simp at hcs
    obtain ⟨rfl, rfl, rfl⟩ := hcs
    exact ⟨[], [], ⟨rfl, Nat.le_refl _, by omega, fun _ => ⟨rfl, rfl⟩, fun i hi => by omega⟩, fun i hi => by omega⟩
  · simp at hcs
    obtain ⟨rfl, rfl, rfl⟩ := hcs
    have hrow : ∀ i, i < len → IsRow' .i64 w (A i) (L i) (C i) (Z i) := by
      intro i hi
      obtain ⟨hc, h1, h2, h3, h4, h5, h6⟩ := hx i (by omega)
      cases hA : A i with
      | none =>
        have hC := h5 hA
        exact .inl ⟨rfl, by omega, hC, List.eq_nil_of_length_eq_zero (by omega)⟩
      | some a' => exact .inr ⟨a', rfl, h1, h2, h3, fun c hc' => (h6 a' hA).2 c (by omega), h4⟩
    refine ⟨(List.range len).map fun r => (A r, L r, C r), (List.range len).map fun r => (Z r).take (L r), ⟨by simp, hl, by unfold maxLen at hm; omega, (fun e => by cases e), fun i hi => ?_⟩, fun i hi => ?_⟩
    · obtain ⟨hc, _⟩ := hx i (by omega)
      obtain ⟨b, off, spot⟩ := ad
      have hspot : spot = none := by simpa [Addr.add] using World.cell?_spot (hx 0 (by omega)).1
      subst hspot
      rw [Go.WideShapes.add_plain] at hc
      refine ⟨b, off, rfl, ?_⟩
      rw [hc]
      simp [hi]
    · have := (Reads.row (hrow i hi)).1
      simpa [hi] using this

/-! ### The walk -/
set_option maxRecDepth 1000000 in
set_option maxHeartbeats 2000000 in
theorem walk (a0 : Option Addr) (len0 cap0 : Nat) (hs : List Hd) (xss : List (List Int)) (a1 : Option Addr) (len1 cap1 : Nat) (z1 : List Int) (w : World) (w0 : TblIn w a0 len0 cap0 hs xss) (w1 : IsRow .i64 w a1 len1 cap1 z1) :
    Calls Try.prog 4 #[.slice a0 len0 cap0, .slice a1 len1 cap1] w fun e w' => e = .returned (.bool true) ∧ Below w.heap.size w w' := by
  obtain ⟨hrd, hrows⟩ := w0
  obtain ⟨h1, wf1⟩ := Reads.row w1
  clear w1 wf1
  generalize z1.take len1 = x1 at *
  by_cases hf : FarL hs
  · have hF := far_yes _ _ _ _ _ hrd hf
    clear hf hrows h1 hrd
    go_enter Try.func4, Try.ntmps4
    go_wp2_with fail
    refine hF.mono ?_
    rintro e w' ⟨rfl, rfl⟩
    clear hF
    go_wp2_with fail
    refine (alive_any _).mono ?_
    rintro e w2 ⟨rfl, hb2⟩
    have HB := hid hb2
    clear hb2
    go_wp2
    go_ret
    exact ⟨rfl, HB.out⟩
  · have hF := far_no _ _ _ _ _ hrd hf
    have hbl : Below w.heap.size w (w.alloc (.cells #[.slice a1 len1 cap1] 22)) := (Below.refl _ _).alloc (Nat.le_refl _) _
    have HB := hid hbl
    have hR := rd2_one w a1 len1 cap1
    have l0 : len0 ≤ 100 := by have := hrd.size; unfold FarL at hf; omega
    have HT : Hid (Tbl (w.alloc (.cells #[.slice a1 len1 cap1] 22)) a0 len0 cap0 hs xss) := by
      refine Tbl.below ⟨hrd, hrows, fun i hi => ?_⟩ hbl
      refine Nat.le_of_not_lt fun h => hf (.inl ⟨i, by rw [hrd.size]; exact hi, by omega⟩)
    have R1 := hid (h1.below hbl)
    clear hbl h1 hrows hrd hf
    by_cases hg : 300 < len1
    · have hG := far_yes _ _ _ _ _ hR (far_one.2 hg)
      clear hR hg R1 HT
      go_enter Try.func4, Try.ntmps4
      go_wp2_with fail
      refine hF.mono ?_
      rintro e w' ⟨rfl, rfl⟩
      clear hF
      rename World => w
      go_wp2_with fail
      refine hG.mono ?_
      rintro e w' ⟨rfl, rfl⟩
      clear hG
      go_wp2_with fail
      refine (alive_any _).mono ?_
      rintro e w2 ⟨rfl, hb2⟩
      replace HB := hid (HB.out.trans (hb2.mono HB.out.size))
      clear hb2
      go_wp2
      go_ret
      exact ⟨rfl, HB.out⟩
    · have hG := far_no _ _ _ _ _ hR (fun h => hg (far_one.1 h))
      have l1 : len1 ≤ 300 := by omega
      clear hR hg
      go_enter Try.func4, Try.ntmps4
      go_wp2_with fail
      refine hF.mono ?_
      rintro e w' ⟨rfl, rfl⟩
      clear hF
      rename World => w
      go_wp2_with fail
      refine hG.mono ?_
      rintro e w' ⟨rfl, rfl⟩
      clear hG
      generalize w.alloc (.cells #[.slice a1 len1 cap1] 22) = W0 at *
      have hC := (vmul_any a0 a1 len0 cap0 len1 cap1 hs xss x1 W0 HT.out R1.out (by omega) (by omega)).mono fun e w' h => h.gives
      go_wp2_with fail
      refine hC.mono ?_
      rintro e W1 ⟨pa, pc, rfl, hr, hb⟩
      replace HB := hid (HB.out.trans (hb.mono HB.out.size))
      replace R1 := hid (R1.out.below hb)
      replace HT := hid (HT.out.below hb)
      have Rp := hid hr
      clear hb hC hr
      have hC := rvmul_any a0 a1 len0 cap0 len1 cap1 hs xss x1 W1 HT.out R1.out (by omega) (by omega)
      go_wp2_with fail
      refine hC.mono ?_
      rintro e W2 ⟨qa, qc, rfl, hr, hb⟩
      replace HB := hid (HB.out.trans (hb.mono HB.out.size))
      replace R1 := hid (R1.out.below hb)
      replace HT := hid (HT.out.below hb)
      replace Rp := hid (Rp.out.below hb)
      have Rq := hid hr
      clear hb hC hr
      have hC := same_yes pa qa len0 pc qc _ W2 Rp.out Rq.out (by omega)
      go_wp2_with fail
      refine hC.mono ?_
      rintro e W3 ⟨rfl, hb⟩
      replace HB := hid (HB.out.trans (hb.mono HB.out.size))
      replace R1 := hid (R1.out.below hb)
      replace HT := hid (HT.out.below hb)
      replace Rp := hid (Rp.out.below hb)
      replace Rq := hid (Rq.out.below hb)
      clear hb hC
      clear Rp Rq
      by_cases h0 : 0 < len0
      · have HL : Hid ((mixK x1 xss (min len1 len0)).length ≤ 1000) := mixK_len (by rw [(HT.out.rows 0 h0).size]; exact HT.out.short 0 h0) _
        have hC := vmix_any a0 a1 len0 cap0 len1 cap1 hs xss x1 W3 HT.out R1.out (by omega) (by omega) h0
        go_wp2_with fail
        refine hC.mono ?_
        rintro e W4 ⟨sa, sc, rfl, hr, hb⟩
        replace HB := hid (HB.out.trans (hb.mono HB.out.size))
        replace R1 := hid (R1.out.below hb)
        replace HT := hid (HT.out.below hb)
        have Rs := hid hr
        clear hb hC hr
        have hC := rvmix_any a0 a1 len0 cap0 len1 cap1 hs xss x1 W4 HT.out R1.out (by omega) (by omega) h0
        go_wp2_with fail
        refine hC.mono ?_
        rintro e W5 ⟨ua, uc, rfl, hr, hb⟩
        replace HB := hid (HB.out.trans (hb.mono HB.out.size))
        replace R1 := hid (R1.out.below hb)
        replace HT := hid (HT.out.below hb)
        replace Rs := hid (Rs.out.below hb)
        have Ru := hid hr
        clear hb hC hr
        have hl := HL.out
        generalize mixK x1 xss (min len1 len0) = us at *
        have hC := same_yes sa ua us.length sc uc _ W5 Rs.out Ru.out hl
        go_wp2_with fail
        refine hC.mono ?_
        rintro e W6 ⟨rfl, hb⟩
        replace HB := hid (HB.out.trans (hb.mono HB.out.size))
        replace R1 := hid (R1.out.below hb)
        replace HT := hid (HT.out.below hb)
        replace Rs := hid (Rs.out.below hb)
        replace Ru := hid (Ru.out.below hb)
        clear hb hC
        clear Rs Ru R1 HT
        have hC := alive_any W6
        go_wp2_with fail
        refine hC.mono ?_
        rintro e W7 ⟨rfl, hb⟩
        replace HB := hid (HB.out.trans (hb.mono HB.out.size))
        clear hb hC
        go_wp2
        go_ret
        exact ⟨rfl, HB.out⟩
      · obtain rfl : len0 = 0 := by omega
        have hC := vmix_none a0 a1 cap0 len1 cap1 W3
        go_wp2_with fail
        refine hC.mono ?_
        rintro e W4 ⟨sa, sc, rfl, hr, hb⟩
        replace HB := hid (HB.out.trans (hb.mono HB.out.size))
        replace R1 := hid (R1.out.below hb)
        replace HT := hid (HT.out.below hb)
        have Rs := hid hr
        clear hb hC hr
        have hC := rvmix_none a0 a1 cap0 len1 cap1 W4
        go_wp2_with fail
        refine hC.mono ?_
        rintro e W5 ⟨ua, uc, rfl, hr, hb⟩
        replace HB := hid (HB.out.trans (hb.mono HB.out.size))
        replace R1 := hid (R1.out.below hb)
        replace HT := hid (HT.out.below hb)
        replace Rs := hid (Rs.out.below hb)
        have Ru := hid hr
        clear hb hC hr
        have hC := same_yes sa ua 0 sc uc _ W5 Rs.out Ru.out (by omega)
        go_wp2_with fail
        refine hC.mono ?_
        rintro e W6 ⟨rfl, hb⟩
        replace HB := hid (HB.out.trans (hb.mono HB.out.size))
        replace R1 := hid (R1.out.below hb)
        replace HT := hid (HT.out.below hb)
        replace Rs := hid (Rs.out.below hb)
        replace Ru := hid (Ru.out.below hb)
        clear hb hC
        clear Rs Ru R1 HT
        have hC := alive_any W6
        go_wp2_with fail
        refine hC.mono ?_
        rintro e W7 ⟨rfl, hb⟩
        replace HB := hid (HB.out.trans (hb.mono HB.out.size))
        clear hb hC
        go_wp2
        go_ret
        exact ⟨rfl, HB.out⟩

/-! ### THE ROW's STEP: WRITTEN OUT: LEAVE IT -/
set_option maxRecDepth 100000 in
theorem lifted (os : Os) (started : os.Started) (H : Type) (enc : TypeId × Value → H) :
    ReturnsInHanded {} Try.checked os 4 .any (Rows.vecTablesSpec.pre6 enc Try.prog Try.f4 Rows.vecTablesRow.domain false) (Rows.vecTablesSpec.post enc Try.prog Try.f4 false true false false) := by
  refine returnsInHanded_of_change (C := Try.checked) own started (by kernel_rfl) Try.func4
    (ChangeSpec.witness6 (enc := enc) (C := Try.checked) false ⟨#[], #[.slice none 0 0, .slice none 0 0], []⟩ 8 (by kernel_rfl) (by kernel_rfl) (by kernel_rfl) (by kernel_rfl)) ?_
  intro W base args ds gs before hval0 hW hcnd _
  have hval : ∀ (j : Nat) t v, Try.f4.params[j]? = some t → args[j]? = some v → Value.okWide Try.prog W .any base t v := hval0
  have hW' := hW
  obtain ⟨p, q, hA0, hV, rfl, hfz, hnd⟩ := hW
  have hA : DataW.TrodAll enc Try.prog W 0 (fun _ => true) true Try.f4.params.toList args.toList ds p := hA0
  rw [Try.params4] at hA hval
  obtain ⟨v0, vs0, d0, ds0, p0, q0, hargs, rfl, rfl, h0, r0⟩ := trodAll_cons hA
  obtain ⟨v1, vs1, d1, ds1, p1, q1, rfl, rfl, rfl, h1, r1⟩ := trodAll_cons r0
  obtain ⟨rfl, rfl, rfl⟩ := trodAll_nil r1
  obtain rfl : args = #[v0, v1] := by cases args; simp_all
  obtain ⟨rfl, rfl⟩ := trodVars_none hV
  obtain ⟨a0, len0, cap0, rfl⟩ := okWide_slice Try.underlying31 (hval 0 31 v0 rfl rfl)
  have k0 := h0
  have lt0 : ∀ x ∈ p0, x.block < W.heap.size := by obtain ⟨m, hm⟩ := k0; exact DataW.trod_lt m _ _ _ hm
  obtain ⟨hs, xss, w0⟩ : ∃ hs xss, TblIn W a0 len0 cap0 hs xss := by
    obtain ⟨fuel, hf⟩ := h0
    exact tbl_in hf
  obtain ⟨a1, len1, cap1, rfl⟩ := okWide_slice Try.underlying22 (hval 1 22 v1 rfl rfl)
  have k1 := h1
  have lt1 : ∀ x ∈ p1, x.block < W.heap.size := by obtain ⟨m, hm⟩ := k1; exact DataW.trod_lt m _ _ _ hm
  obtain ⟨z1, w1⟩ : ∃ zs, IsRow .i64 W a1 len1 cap1 zs := by
    obtain ⟨fuel, hf⟩ := h1
    rcases open_ints Try.underlying22 Try.underlying2 (by kernel_rfl) hf with ⟨hcs, _⟩ | ⟨x, l, c, zs, hcs, _, hl, hm, hz, _, hcell, hwz⟩
    · simp [Value.cells] at hcs
      obtain ⟨rfl, rfl, rfl⟩ := hcs
      exact ⟨[], .inl ⟨rfl, rfl, rfl, rfl⟩⟩
    · simp [Value.cells] at hcs
      obtain ⟨rfl, rfl, rfl⟩ := hcs
      exact ⟨zs, .inr ⟨_, rfl, hl, hm, by simpa using hz, hcell, hwz⟩⟩
  clear hA0 hval0
  refine (walk a0 len0 cap0 hs xss a1 len1 cap1 z1 W w0 w1).mono fun e W' ⟨he, bel⟩ => ?_
  subst he
  exact ⟨_, rfl, _, _, _, [], _, [], hW', trodAll_mk1 (shut_bool Try.underlying4 _), (trodAll_cons_mk (Below.trod laidOut (by kernel_rfl) (of_decide_eq_true (by kernel_rfl)) k0 bel lt0) (trodAll_cons_mk (Below.trod laidOut (by kernel_rfl) (of_decide_eq_true (by kernel_rfl)) k1 bel lt1) trodAll_mk0)), rfl, bel.frame _, fun h => by cases h⟩

theorem over : Rows.vecTablesRow.holds Try.pinned (OpenSpec.ofChange Rows.vecTablesSpec) :=
  OpenClaim.holds_of_wide 4 Try.f4 rfl rfl rfl rfl rfl rfl rfl ⟨rfl, rfl, rfl, rfl, rfl⟩ rfl rfl rfl rfl rfl (by kernel_rfl) Try.func4 (by kernel_rfl)
    (of_decide_eq_true (by kernel_rfl)) (by unfold Func.isWrapper; first | (rw [if_pos (by decide +kernel)]; kernel_rfl) | (rw [if_neg (by decide +kernel)]; exact ⟨rfl, rfl⟩))
    (fun os started H enc _ => lifted os started H enc)

/-- ████ THE STATEMENT ████ -/
theorem proved : Rows.VecTablesSaid := over
#print axioms proved
end Go.Proofs.Ythfblcdlibkchaa.vecTables
