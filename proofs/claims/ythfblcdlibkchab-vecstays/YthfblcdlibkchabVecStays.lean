/-
  Proved: for any two vectors of at most 300 numbers and any number, none of Add, Scale, Norm, Soft, Relu, Mix, Mul and Top turns a list that is handed in, nor does who writes into the vectors that they hand back; the law VecStays returns true at every input, and its arguments read as before. No condition.
-/
import Derived.Test.YthfblcdlibkchabRows
import Derived.Test.YthfblcdlibkchabStays
import Derived.WalkKit
import Derived.ProofKit
import Derived.OpenShut
import Derived.ShutString
import Derived.ChangeOld
import Derived.Below
namespace Go.Proofs.Ythfblcdlibkchab.vecStays
open Go.ChangeShapes Go.WideShapes Go.ChangeAt Go.RowKit
open Go.ChangeMaps (open_string shut_string)
set_option linter.unusedVariables false

theorem own : ownKnob Try.prog.godebug = none := by kernel_rfl
theorem laidOut : laidOutB Try.prog = true := by kernel_rfl

/-- WHAT THE WALK IS TOLD OF A SLICE OF INTEGERS THAT CAME IN: it is nil; or it leads to a row of 'cap' cells, the numbers 'zs' (the first 'len' are its elements, the rest its spare room), each fitting its kind. -/
def IsRow (k : IntKind) (w : World) (a : Option Addr) (len cap : Nat) (zs : List Int) : Prop :=
  (a = none ∧ len = 0 ∧ cap = 0 ∧ zs = []) ∨
  ∃ x, a = some x ∧ len ≤ cap ∧ cap ≤ maxLen ∧ zs.length = cap ∧ (∀ i, i < zs.length → w.cell? (x.add i) = some (.int k (zs.getD i 0))) ∧ ∀ n ∈ zs, (Lit.int k n).wf = true

/-! ### The walk -/
set_option maxRecDepth 1000000 in
set_option maxHeartbeats 2000000 in
theorem walk (a0 : Option Addr) (len0 cap0 : Nat) (z0 : List Int) (a1 : Option Addr) (len1 cap1 : Nat) (z1 : List Int) (a2 : Int) (w : World) (w0 : IsRow .i64 w a0 len0 cap0 z0) (w1 : IsRow .i64 w a1 len1 cap1 z1) (w2 : (Lit.int .i64 a2).wf = true) :
    Calls Try.prog 4 #[.slice a0 len0 cap0, .slice a1 len1 cap1, .int .i64 a2] w fun e w' => e = .returned (.bool true) ∧ Below w.heap.size w w' := by
  obtain ⟨h0, wf0⟩ := Reads.row w0
  obtain ⟨h1, wf1⟩ := Reads.row w1
  clear w0 w1 w2
  generalize z0.take len0 = x0 at *
  generalize z1.take len1 = x1 at *
  have hbl : Below w.heap.size w (w.alloc (.cells #[.slice a0 len0 cap0, .slice a1 len1 cap1] 22)) := (Below.refl _ _).alloc (Nat.le_refl _) _
  have HB := hid hbl
  have R0 := hid (h0.below hbl)
  have R1 := hid (h1.below hbl)
  have hR := rd2_two w a0 a1 len0 cap0 len1 cap1
  clear hbl h0 h1
  by_cases hf : 300 < len0 ∨ 300 < len1
  · have hF := far_yes _ _ _ _ _ hR (far_two.2 hf)
    clear hR hf R0 wf0 R1 wf1
    go_enter Try.func4, Try.ntmps4
    go_wp2_with fail
    refine hF.mono ?_
    rintro e w' ⟨rfl, rfl⟩
    go_wp2_with fail
    refine (alive_any _).mono ?_
    rintro e w2 ⟨rfl, hb2⟩
    replace HB := hid (HB.out.trans (hb2.mono HB.out.size))
    clear hb2 hF
    go_wp2
    go_ret
    exact ⟨rfl, HB.out⟩
  · have hF := far_no _ _ _ _ _ hR (fun h => hf (far_two.1 h))
    have l0 : len0 ≤ 300 := by omega
    have l1 : len1 ≤ 300 := by omega
    clear hR hf
    go_enter Try.func4, Try.ntmps4
    go_wp2_with fail
    refine hF.mono ?_
    rintro e w' ⟨rfl, rfl⟩
    clear hF
    generalize w.alloc (.cells #[.slice a0 len0 cap0, .slice a1 len1 cap1] 22) = W0 at *
    obtain ⟨i0, hi, hz0, hz1, hz2⟩ := info_parts Try.info2
    clear wf0 wf1
    go_wp2_with (first | (at_builtin; refine append_any _ rfl (.const (.slice none 0 0)) (.tmp 17) 22 rfl W0.heap.size 2 i0 (.int .i64 0) 8 Try.underlying22 hi hz0 hz1 hz2 rfl .i64 _ 0 [] rfl (World.ownsRow_nil _ _ _ _) a0 len0 cap0 x0 rfl R0.out (by omega) (by omega) (Nat.le_refl _) ?_; intro vc V1 hOc hb1) | (at_builtin; refine append_any _ rfl (.const (.slice none 0 0)) (.tmp 19) 22 rfl V1.heap.size 2 i0 (.int .i64 0) 8 Try.underlying22 hi hz0 hz1 hz2 rfl .i64 _ 0 [] rfl (World.ownsRow_nil _ _ _ _) a1 len1 cap1 x1 rfl (R1.out.below hb1) (by omega) (by omega) (Nat.le_refl _) ?_; intro vd V hOd hb2))
    have hb12 : Below W0.heap.size W0 V := hb1.trans (hb2.mono hb1.size)
    replace HB := hid (HB.out.trans (hb12.mono HB.out.size))
    rw [Nat.zero_add, List.nil_append] at hOc hOd
    obtain ⟨ac, cc, rfl, hrc⟩ := Reads.own (k := .i64) hOc
    obtain ⟨ad, cd, rfl, hrd⟩ := Reads.own (k := .i64) hOd
    have A0 := hid (R0.out.below hb12)
    have A1 := hid (R1.out.below hb12)
    have Rc := hid (hrc.below hb2)
    have Rd := hid hrd
    have HV : Hid (Below V.heap.size V V) := Below.refl _ _
    clear hb1 hb2 hb12 hOc hOd hrc hrd R0 R1 hi hz0 hz1 hz2
    have hC := (vadd_any a0 a1 len0 cap0 len1 cap1 x0 x1 V (A0.out.below HV.out) (A1.out.below HV.out) (by omega) (by omega)).mono fun e w' h => h.res (V := V) HV.out.size
    go_wp2_with fail
    refine hC.mono ?_
    rintro e X1 ⟨pg, pc, rfl, hr, hb⟩
    replace HV := hid (HV.out.trans (hb.mono HV.out.size))
    have Sp := hid hr
    clear hb hC hr
    have hC := (scale_any a0 len0 cap0 x0 a2 X1 (A0.out.below HV.out) (by omega)).mono fun e w' h => h.res (V := V) HV.out.size
    go_wp2_with fail
    refine hC.mono ?_
    rintro e X2 ⟨qg, qc, rfl, hr, hb⟩
    replace HV := hid (HV.out.trans (hb.mono HV.out.size))
    replace Sp := hid (Sp.out.below hb)
    have Sq := hid hr
    clear hb hC hr
    have hC := (norm_any a0 len0 cap0 x0 X2 (A0.out.below HV.out) (by omega)).mono fun e w' h => h.res (V := V) HV.out.size
    go_wp2_with fail
    refine hC.mono ?_
    rintro e X3 ⟨rg, rc, rfl, hr, hb⟩
    replace HV := hid (HV.out.trans (hb.mono HV.out.size))
    replace Sp := hid (Sp.out.below hb)
    replace Sq := hid (Sq.out.below hb)
    have Sr := hid hr
    clear hb hC hr
    have hC := (soft_any a0 len0 cap0 x0 X3 (A0.out.below HV.out) (by omega)).mono fun e w' h => h.res (V := V) HV.out.size
    go_wp2_with fail
    refine hC.mono ?_
    rintro e X4 ⟨sg, sc, rfl, hr, hb⟩
    replace HV := hid (HV.out.trans (hb.mono HV.out.size))
    replace Sp := hid (Sp.out.below hb)
    replace Sq := hid (Sq.out.below hb)
    replace Sr := hid (Sr.out.below hb)
    have Ss := hid hr
    clear hb hC hr
    have hC := (relu_any a0 len0 cap0 x0 X4 (A0.out.below HV.out) (by omega)).mono fun e w' h => h.res (V := V) HV.out.size
    go_wp2_with fail
    refine hC.mono ?_
    rintro e X5 ⟨tg, tc, rfl, hr, hb⟩
    replace HV := hid (HV.out.trans (hb.mono HV.out.size))
    replace Sp := hid (Sp.out.below hb)
    replace Sq := hid (Sq.out.below hb)
    replace Sr := hid (Sr.out.below hb)
    replace Ss := hid (Ss.out.below hb)
    have St := hid hr
    clear hb hC hr
    have hT := tbl_two X5 a1 a0 len1 cap1 len0 cap0 x1 x0 (A1.out.below HV.out) (A0.out.below HV.out) (by omega) (by omega)
    have hbB : Below X5.heap.size X5 (X5.alloc (.cells #[.slice a1 len1 cap1, .slice a0 len0 cap0] 22)) := (Below.refl _ _).alloc (Nat.le_refl _) _
    replace HV := hid (HV.out.trans (hbB.mono HV.out.size))
    replace Sp := hid (Sp.out.below hbB)
    replace Sq := hid (Sq.out.below hbB)
    replace Sr := hid (Sr.out.below hbB)
    replace Ss := hid (Ss.out.below hbB)
    replace St := hid (St.out.below hbB)
    clear hbB
    have hC := (vmix_made (some ⟨X5.heap.size, 0, none⟩) a0 2 2 len0 cap0 _ [x1, x0] x0 (X5.alloc (.cells #[.slice a1 len1 cap1, .slice a0 len0 cap0] 22)) hT (A0.out.below HV.out) (by omega) (by omega) (by omega)).mono fun e w' h => h.res (V := V) HV.out.size
    have hML : (mixK x0 [x1, x0] (min len0 2)).length ≤ 1000 := mixK_len (by show x1.length ≤ 1000; rw [A1.out.size]; omega) _
    generalize (mixK x0 [x1, x0] (min len0 2)).length = M at hC hML
    clear hT
    go_wp2_with fail
    refine hC.mono ?_
    rintro e X6 ⟨ug, uc, rfl, hr, hb⟩
    replace HV := hid (HV.out.trans (hb.mono HV.out.size))
    replace Sp := hid (Sp.out.below hb)
    replace Sq := hid (Sq.out.below hb)
    replace Sr := hid (Sr.out.below hb)
    replace Ss := hid (Ss.out.below hb)
    replace St := hid (St.out.below hb)
    have Su := hid hr
    clear hb hC hr
    have hT := tbl_two X6 a0 a1 len0 cap0 len1 cap1 x0 x1 (A0.out.below HV.out) (A1.out.below HV.out) (by omega) (by omega)
    have hbB : Below X6.heap.size X6 (X6.alloc (.cells #[.slice a0 len0 cap0, .slice a1 len1 cap1] 22)) := (Below.refl _ _).alloc (Nat.le_refl _) _
    replace HV := hid (HV.out.trans (hbB.mono HV.out.size))
    replace Sp := hid (Sp.out.below hbB)
    replace Sq := hid (Sq.out.below hbB)
    replace Sr := hid (Sr.out.below hbB)
    replace Ss := hid (Ss.out.below hbB)
    replace St := hid (St.out.below hbB)
    replace Su := hid (Su.out.below hbB)
    clear hbB
    have hC := (vmul_any (some ⟨X6.heap.size, 0, none⟩) a1 2 2 len1 cap1 _ [x0, x1] x1 (X6.alloc (.cells #[.slice a0 len0 cap0, .slice a1 len1 cap1] 22)) hT (A1.out.below HV.out) (by omega) (by omega)).mono fun e w' h => h.res (V := V) HV.out.size
    clear hT
    go_wp2_with fail
    refine hC.mono ?_
    rintro e X7 ⟨vg, vc, rfl, hr, hb⟩
    replace HV := hid (HV.out.trans (hb.mono HV.out.size))
    replace Sp := hid (Sp.out.below hb)
    replace Sq := hid (Sq.out.below hb)
    replace Sr := hid (Sr.out.below hb)
    replace Ss := hid (Ss.out.below hb)
    replace St := hid (St.out.below hb)
    replace Su := hid (Su.out.below hb)
    have Sv := hid hr
    clear hb hC hr
    have HWt : Hid (WriteAt V X7 [(some ⟨pg, 0, none⟩, (min len0 len1), pc), (some ⟨qg, 0, none⟩, len0, qc), (some ⟨rg, 0, none⟩, len0, rc), (some ⟨sg, 0, none⟩, len0, sc), (some ⟨tg, 0, none⟩, len0, tc), (some ⟨ug, 0, none⟩, M, uc), (some ⟨vg, 0, none⟩, 2, vc)] (X7.alloc (.cells #[.slice (some ⟨pg, 0, none⟩) (min len0 len1) pc, .slice (some ⟨qg, 0, none⟩) len0 qc, .slice (some ⟨rg, 0, none⟩) len0 rc, .slice (some ⟨sg, 0, none⟩) len0 sc, .slice (some ⟨tg, 0, none⟩) len0 tc, .slice (some ⟨ug, 0, none⟩) M uc, .slice (some ⟨vg, 0, none⟩) 2 vc] 22))) := WriteAt.new HV.out Sp.out Sq.out Sr.out Ss.out St.out Su.out Sv.out (by omega) (by omega) (by omega) (by omega) (by omega) hML (by omega)
    obtain ⟨hs, hhs⟩ : ∃ hs : List Hd, ([(some ⟨pg, 0, none⟩, (min len0 len1), pc), (some ⟨qg, 0, none⟩, len0, qc), (some ⟨rg, 0, none⟩, len0, rc), (some ⟨sg, 0, none⟩, len0, sc), (some ⟨tg, 0, none⟩, len0, tc), (some ⟨ug, 0, none⟩, M, uc), (some ⟨vg, 0, none⟩, 2, vc)] : List Hd) = hs := ⟨_, rfl⟩
    rw [hhs] at HWt
    clear hhs hML Sp Sq Sr Ss St Su Sv HV
    go_wp2_with fail
    go_loopw [45] (fun i W => ∃ j : Nat, j ≤ 7 ∧ i = .int .i64 j ∧ Hid (WriteAt V X7 hs W)) (fun i _ => 7 - (intOf i).toNat)
    case atStart => exact ⟨0, Nat.zero_le _, rfl, HWt⟩
    case round =>
      obtain ⟨j, hj, rfl, HA⟩ := hrel
      clear HWt
      rename World => wr
      by_cases hlt : j < 7
      · obtain ⟨g, nn, gc, he, g1, g2, g3, hw⟩ := HA.out.rows j hlt
        obtain ⟨b, off, eb, cj⟩ := HA.out.tab.cell j hlt
        cases eb
        rw [he, Nat.zero_add] at cj
        simp only at cj
        have HWr := hid hw
        have HG := hid g1
        have HG2 := hid g2
        have q1 : (j : Int) < 7 := by omega
        clear he hw g1 g2
        go_wp2_with fail
        go_loopw [51] (fun i W => ∃ m : Nat, m ≤ nn ∧ i = .int .i64 m ∧ Hid (WriteAt V X7 hs W) ∧ Hid (Wr W g nn)) (fun i _ => nn - (intOf i).toNat)
        case atStart => exact ⟨0, Nat.zero_le _, rfl, HA, HWr⟩
        case round =>
          obtain ⟨m, hm, rfl, HAm, HWm⟩ := hrel
          clear HA HWr cj
          rename World => wm
          by_cases hml : m < nn
          · obtain ⟨⟨v, hv⟩, hf⟩ := HWm.out m hml
            have HAn := hid (HAm.out.set HG.out HG2.out hv (.int .i64 7))
            have HWn := hid (HWm.out.set hv (.int .i64 7))
            clear HAm HWm
            go_wp2_with fail
            go_round
            case rel => exact ⟨m + 1, by omega, by go_num, HAn, HWn⟩
            case measure => simp [intOf]; omega
          · clear HWm
            go_wp2_with fail
            go_round
            case rel => exact ⟨j + 1, by omega, by go_num, HAm⟩
            case measure => simp [intOf]; omega
      · obtain rfl : j = 7 := by omega
        have HVW := hid HA.out.old
        clear HA
        obtain ⟨K, hK, hKl⟩ := kof_any 3 len0
        have hC := top_any a0 len0 cap0 K 3 x0 wr (A0.out.below HVW.out) (by omega) hK hKl
        clear hK hKl
        go_wp2_with fail
        refine hC.mono ?_
        rintro e Y1 ⟨tg, ps, rfl, hO, hTp, hb⟩
        replace HVW := hid (HVW.out.trans (hb.mono HVW.out.size))
        clear hO hTp hb hC
        have hC := same_yes a0 ac len0 cap0 cc x0 Y1 (A0.out.below HVW.out) (Rc.out.below HVW.out) (by omega)
        go_wp2_with fail
        refine hC.mono ?_
        rintro e Y2 ⟨rfl, hb⟩
        replace HVW := hid (HVW.out.trans (hb.mono HVW.out.size))
        clear hb hC
        have hC := same_yes a1 ad len1 cap1 cd x1 Y2 (A1.out.below HVW.out) (Rd.out.below HVW.out) (by omega)
        go_wp2_with fail
        refine hC.mono ?_
        rintro e Y3 ⟨rfl, hb⟩
        replace HVW := hid (HVW.out.trans (hb.mono HVW.out.size))
        clear hb hC A0 A1 Rc Rd
        go_wp2_with fail
        refine (alive_any _).mono ?_
        rintro e Y4 ⟨rfl, hb⟩
        replace HB := hid (HB.out.trans ((HVW.out.trans (hb.mono HVW.out.size)).mono HB.out.size))
        clear hb HVW
        go_wp2
        go_ret
        exact ⟨rfl, HB.out⟩

/-! ### THE ROW's STEP: WRITTEN OUT: LEAVE IT -/
set_option maxRecDepth 100000 in
theorem lifted (os : Os) (started : os.Started) (H : Type) (enc : TypeId × Value → H) :
    ReturnsInHanded {} Try.checked os 4 .any (Rows.vecStaysSpec.pre6 enc Try.prog Try.f4 Rows.vecStaysRow.domain false) (Rows.vecStaysSpec.post enc Try.prog Try.f4 false true false false) := by
  refine returnsInHanded_of_change (C := Try.checked) own started (by kernel_rfl) Try.func4
    (ChangeSpec.witness6 (enc := enc) (C := Try.checked) false ⟨#[], #[.slice none 0 0, .slice none 0 0, .int .i64 0], []⟩ 8 (by kernel_rfl) (by kernel_rfl) (by kernel_rfl) (by kernel_rfl)) ?_
  intro W base args ds gs before hval0 hW hcnd _
  have hval : ∀ (j : Nat) t v, Try.f4.params[j]? = some t → args[j]? = some v → Value.okWide Try.prog W .any base t v := hval0
  have hW' := hW
  obtain ⟨p, q, hA0, hV, rfl, hfz, hnd⟩ := hW
  have hA : DataW.TrodAll enc Try.prog W 0 (fun _ => true) true Try.f4.params.toList args.toList ds p := hA0
  rw [Try.params4] at hA hval
  obtain ⟨v0, vs0, d0, ds0, p0, q0, hargs, rfl, rfl, h0, r0⟩ := trodAll_cons hA
  obtain ⟨v1, vs1, d1, ds1, p1, q1, rfl, rfl, rfl, h1, r1⟩ := trodAll_cons r0
  obtain ⟨v2, vs2, d2, ds2, p2, q2, rfl, rfl, rfl, h2, r2⟩ := trodAll_cons r1
  obtain ⟨rfl, rfl, rfl⟩ := trodAll_nil r2
  obtain rfl : args = #[v0, v1, v2] := by cases args; simp_all
  obtain ⟨rfl, rfl⟩ := trodVars_none hV
  obtain ⟨a0, len0, cap0, rfl⟩ := okWide_slice Try.underlying22 (hval 0 22 v0 rfl rfl)
  have k0 := h0
  have lt0 : ∀ x ∈ p0, x.block < W.heap.size := by obtain ⟨m, hm⟩ := k0; exact DataW.trod_lt m _ _ _ hm
  obtain ⟨z0, w0⟩ : ∃ zs, IsRow .i64 W a0 len0 cap0 zs := by
    obtain ⟨fuel, hf⟩ := h0
    rcases open_ints Try.underlying22 Try.underlying2 (by kernel_rfl) hf with ⟨hcs, _⟩ | ⟨x, l, c, zs, hcs, _, hl, hm, hz, _, hcell, hwz⟩
    · simp [Value.cells] at hcs
      obtain ⟨rfl, rfl, rfl⟩ := hcs
      exact ⟨[], .inl ⟨rfl, rfl, rfl, rfl⟩⟩
    · simp [Value.cells] at hcs
      obtain ⟨rfl, rfl, rfl⟩ := hcs
      exact ⟨zs, .inr ⟨_, rfl, hl, hm, by simpa using hz, hcell, hwz⟩⟩
  obtain ⟨a1, len1, cap1, rfl⟩ := okWide_slice Try.underlying22 (hval 1 22 v1 rfl rfl)
  have k1 := h1
  have lt1 : ∀ x ∈ p1, x.block < W.heap.size := by obtain ⟨m, hm⟩ := k1; exact DataW.trod_lt m _ _ _ hm
  obtain ⟨z1, w1⟩ : ∃ zs, IsRow .i64 W a1 len1 cap1 zs := by
    obtain ⟨fuel, hf⟩ := h1
    rcases open_ints Try.underlying22 Try.underlying2 (by kernel_rfl) hf with ⟨hcs, _⟩ | ⟨x, l, c, zs, hcs, _, hl, hm, hz, _, hcell, hwz⟩
    · simp [Value.cells] at hcs
      obtain ⟨rfl, rfl, rfl⟩ := hcs
      exact ⟨[], .inl ⟨rfl, rfl, rfl, rfl⟩⟩
    · simp [Value.cells] at hcs
      obtain ⟨rfl, rfl, rfl⟩ := hcs
      exact ⟨zs, .inr ⟨_, rfl, hl, hm, by simpa using hz, hcell, hwz⟩⟩
  obtain ⟨a2, rfl, rfl, rfl, w2⟩ := open_int Try.underlying2 (hval 2 2 v2 rfl rfl) h2
  clear hA0 hval0
  refine (walk a0 len0 cap0 z0 a1 len1 cap1 z1 a2 W w0 w1 w2).mono fun e W' ⟨he, bel⟩ => ?_
  subst he
  exact ⟨_, rfl, _, _, _, [], _, [], hW', trodAll_mk1 (shut_bool Try.underlying4 _), (trodAll_cons_mk (Below.trod laidOut (by kernel_rfl) (of_decide_eq_true (by kernel_rfl)) k0 bel lt0) (trodAll_cons_mk (Below.trod laidOut (by kernel_rfl) (of_decide_eq_true (by kernel_rfl)) k1 bel lt1) (trodAll_cons_mk (shut_int Try.underlying2 w2) trodAll_mk0))), rfl, bel.frame _, fun h => by cases h⟩

theorem over : Rows.vecStaysRow.holds Try.pinned (OpenSpec.ofChange Rows.vecStaysSpec) :=
  OpenClaim.holds_of_wide 4 Try.f4 rfl rfl rfl rfl rfl rfl rfl ⟨rfl, rfl, rfl, rfl, rfl⟩ rfl rfl rfl rfl rfl (by kernel_rfl) Try.func4 (by kernel_rfl)
    (of_decide_eq_true (by kernel_rfl)) (by unfold Func.isWrapper; first | (rw [if_pos (by decide +kernel)]; kernel_rfl) | (rw [if_neg (by decide +kernel)]; exact ⟨rfl, rfl⟩))
    (fun os started H enc _ => lifted os started H enc)

/-- ████ THE STATEMENT ████ -/
theorem proved : Rows.VecStaysSaid := over
#print axioms proved
end Go.Proofs.Ythfblcdlibkchab.vecStays
