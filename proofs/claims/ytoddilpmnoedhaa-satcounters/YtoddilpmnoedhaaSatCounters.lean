/-
  Proved: for any most, ups and downs, a counter of sat is, behind each step, what a number of 64 bits held from 0 to the most would be, and the zero counter stays 0: the law SatCounters returns true, and its arguments read as before. No condition.
-/
import Derived.Test.YtoddilpmnoedhaaRows
import Derived.Test.YtoddilpmnoedhaaAlive
import Derived.WalkKit
import Derived.ProofKit
import Derived.OpenShut
import Derived.ShutString
import Derived.ChangeOld
import Derived.Below
import Derived.Deep.DeepCutAuto
import Derived.Deep.RegionWith
namespace Go.Proofs.Ytoddilpmnoedhaa.satCounters
open Go.ChangeShapes Go.WideShapes Go.ChangeAt Go.RowKit
open Go.ChangeMaps (open_string shut_string)
set_option linter.unusedVariables false

theorem own : ownKnob Try.prog.godebug = none := by kernel_rfl
theorem laidOut : laidOutB Try.prog = true := by kernel_rfl

/-- WHAT THE WALK IS TOLD OF A SLICE OF INTEGERS THAT CAME IN: it is nil; or it leads to a row of 'cap' cells, the numbers 'zs' (the first 'len' are its elements, the rest its spare room), each fitting its kind. -/
def IsRow (k : IntKind) (w : World) (a : Option Addr) (len cap : Nat) (zs : List Int) : Prop :=
  (a = none ∧ len = 0 ∧ cap = 0 ∧ zs = []) ∨
  ∃ x, a = some x ∧ len ≤ cap ∧ cap ≤ maxLen ∧ zs.length = cap ∧ (∀ i, i < zs.length → w.cell? (x.add i) = some (.int k (zs.getD i 0))) ∧ ∀ n ∈ zs, (Lit.int k n).wf = true

/-- A cell of a row that came in, and what it holds. -/
theorem row_at {k : IntKind} {w : World} {a : Option Addr} {len cap : Nat} {zs : List Int} (h : IsRow k w a len cap zs) :
    ∀ i, i < len → ∃ b off, a = some ⟨b, off, none⟩ ∧ w.cell? ⟨b, off + i, none⟩ = some (.int k (zs[i]?.getD 0)) ∧ (Lit.int k (zs[i]?.getD 0)).wf = true := by
  rcases h with ⟨_, rfl, _, _⟩ | ⟨x, rfl, hl, _, hz, hc, hw⟩
  · intro i hi; omega
  · intro i hi
    obtain ⟨b, off, rfl, hc'⟩ := ints_at hc (by omega)
    have hi' : i < zs.length := by omega
    refine ⟨b, off, rfl, ?_, ?_⟩
    · rw [hc' i hi', List.getD_eq_getElem?_getD]
    · rw [List.getElem?_eq_getElem hi']; exact hw _ (List.getElem_mem hi')
theorem row_len {k : IntKind} {w : World} {a : Option Addr} {len cap : Nat} {zs : List Int} (h : IsRow k w a len cap zs) : len ≤ 9223372036854775807 := by
  rcases h with ⟨_, rfl, _, _⟩ | ⟨x, rfl, hl, hm, _⟩
  · omega
  · unfold maxLen at hm; omega

/-- What holds of the counter's two cells at block B, and of what was there when the call began. -/
def Inv (w : World) (B : Nat) (most x : Int) (wr : World) : Prop :=
  wr.cell? ⟨B, 0, none⟩ = some (.int .u32 x) ∧ wr.cell? ⟨B, 1, none⟩ = some (.int .u32 most) ∧ wr.frozen? ⟨B, 0, none⟩ = false ∧ wr.frozen? ⟨B, 1, none⟩ = false ∧ Below w.heap.size w wr ∧ B < wr.heap.size
theorem Inv.below {w wr w' : World} {B : Nat} {most x : Int} (h : Inv w B most x wr) (hb : Below wr.heap.size wr w') : Inv w B most x w' := by
  obtain ⟨h0, h1, f0, f1, hbel, hB⟩ := h
  exact ⟨(hb.cell (p := ⟨B, 0, none⟩) hB).trans h0, (hb.cell (p := ⟨B, 1, none⟩) hB).trans h1, (hb.frozen (p := ⟨B, 0, none⟩) hB).trans f0, (hb.frozen (p := ⟨B, 1, none⟩) hB).trans f1, hbel.trans (hb.mono hbel.size), Nat.lt_of_lt_of_le hB hb.size⟩
theorem Inv.drew {w wr : World} {B : Nat} {most x : Int} (h : Inv w B most x wr) : Inv w B most x wr.drew := ⟨h.1, h.2.1, h.2.2.1, h.2.2.2.1, h.2.2.2.2.1.drew, h.2.2.2.2.2⟩
theorem Inv.store {w wr : World} {B : Nat} {most x : Int} (h : Inv w B most x wr) (hw : w.heap.size ≤ B) (y : Int) :
    Inv w B most y ((wr.setCell ⟨B, 0, none⟩ (.int .u32 y)).setCell ⟨B, 1, none⟩ (.int .u32 most)) := by
  obtain ⟨h0, h1, f0, f1, hbel, hB⟩ := h
  exact ⟨by simp [go_sem, h0], by simp [go_sem, h1], by simp [go_sem, f0], by simp [go_sem, f1], (hbel.setCell hw _).setCell hw _, by simpa [World.setCell] using hB⟩
theorem Inv.old {w wr : World} {B : Nat} {most x : Int} (h : Inv w B most x wr) {p : Addr} {v : Value} (hp : w.cell? p = some v) : wr.cell? p = some v :=
  (h.2.2.2.2.1.cell (World.block_lt_of_cell? _ _ hp)).trans hp

/-! ### The walk -/
open M in
set_option maxHeartbeats 2000000 in
theorem walk (a0 : Int) (a1 : Option Addr) (len1 cap1 : Nat) (z1 : List Int) (a2 : Option Addr) (len2 cap2 : Nat) (z2 : List Int) (w : World) (w0 : (Lit.int .u32 a0).wf = true) (w1 : IsRow .u32 w a1 len1 cap1 z1) (w2 : IsRow .u32 w a2 len2 cap2 z2) :
    Calls Try.prog 7 #[.int .u32 a0, .slice a1 len1 cap1, .slice a2 len2 cap2] w fun e w' => e = .returned (.bool true) ∧ Below w.heap.size w w' := by
  obtain ⟨p1, p2⟩ := bounds_u32 w0
  have hu := row_at w1
  have hd := row_at w2
  have l1 := row_len w1
  have l2 := row_len w2
  clear w0 w1 w2
  by_cases hbig : 1000 < len1
  · go_enter Try.func7, Try.ntmps7
    go_wp2_with fail
    refine (alive_any _).mono ?_
    rintro e w' ⟨rfl, b⟩
    go_wp2
    go_ret
    exact ⟨rfl, b⟩
  go_enter Try.func7, Try.ntmps7
  go_wp2_with fail
  refine (new_any _ _).mono ?_
  rintro e wn ⟨rfl, hbn⟩
  have hsz := hbn.size
  go_wp2_with fail
  go_loopw [8, 19] (fun n i wr => ∃ (k : Nat) (c : Int), k ≤ len1 ∧ i = .int .i64 k ∧ n = .int .u64 c ∧ 0 ≤ c ∧ c ≤ a0 ∧ Inv w wn.heap.size a0 c wr)
    (fun _ i _ => len1 - (intOf i).toNat)
  case atStart => exact ⟨0, 0, Nat.zero_le _, rfl, rfl, by omega, by omega, by simp [go_sem], by simp [go_sem], by simp [go_sem], by simp [go_sem], hbn.alloc hsz _, by simp⟩
  case round =>
    obtain ⟨k, c, hk, rfl, rfl, c1, c2, hI⟩ := hrel
    by_cases hlt : k < len1
    · obtain ⟨b1, o1, rfl, hcell, hwf⟩ := hu k hlt
      obtain ⟨u1, u2⟩ := bounds_u32 hwf
      have hcw := hI.old hcell
      clear hcell hwf hu
      generalize z1[k]?.getD 0 = u at *
      have hU : ∀ W, ∃ c' : Int, 0 ≤ c' ∧ c' ≤ a0 ∧ ((a0 < c + u ∧ a0 = c') ∨ (c + u ≤ a0 ∧ c + u = c')) ∧ Calls Try.prog 20 #[.agg #[.int .u32 c, .int .u32 a0], .int .u32 u] W fun e w' => e = .returned (.agg #[.int .u32 c', .int .u32 a0]) ∧ Below W.heap.size W w' :=
        fun W => ⟨upV c a0 u, (upV_bd c1 c2 u1).1, (upV_bd c1 c2 u1).2, by unfold upV; split <;> omega, up_any c a0 u W c1 c2 p2 u1 u2⟩
      obtain ⟨c', v1, v2, hcase, hcall⟩ := hU wr
      clear hU
      rcases hcase with ⟨hlo, rfl⟩ | ⟨hlo, rfl⟩
      · obtain ⟨q0, q1, r0, r1, qb, qs⟩ := id hI
        go_wp2_with fail
        refine hcall.mono ?_
        rintro e wu ⟨rfl, hbu⟩
        have hJ := hI.below hbu
        clear q0 q1 r0 r1 qb qs hI hcw hbu hcall
        have hL := hJ.store hsz a0
        obtain ⟨q0, q1, r0, r1, qb, qs⟩ := hJ
        go_upto_if 37 with (fail)
        clear q0 q1 r0 r1 qb qs
        generalize (wu.setCell ⟨wn.heap.size, 0, none⟩ (.int .u32 a0)).setCell ⟨wn.heap.size, 1, none⟩ (.int .u32 a0) = W at *
        go_cut [8] (fun n wc => ∃ x : Int, n = .int .u64 x ∧ 0 ≤ x ∧ x ≤ a0 ∧ Inv w wn.heap.size a0 x wc)
        case first =>
          by_cases hdl : k < len2
          · obtain ⟨b2, o2, rfl, dcell, dwf⟩ := hd k hdl
            obtain ⟨d1, d2⟩ := bounds_u32 dwf
            have hb2 : b2 < w.heap.size := World.block_lt_of_cell? _ _ dcell
            clear dwf hd
            generalize z2[k]?.getD 0 = d at *
            have hD : ∃ y' : Int, 0 ≤ y' ∧ y' ≤ a0 ∧ ((a0 ≤ d ∧ 0 = y') ∨ (d < a0 ∧ a0 - d = y')) ∧ ∀ W, Calls Try.prog 21 #[.agg #[.int .u32 a0, .int .u32 a0], .int .u32 d] W fun e w' => e = .returned (.agg #[.int .u32 y', .int .u32 a0]) ∧ Below W.heap.size W w' :=
              ⟨downV a0 d, (downV_bd v1 v2 d1).1, (downV_bd v1 v2 d1).2, by unfold downV; split <;> omega, fun W => down_any a0 a0 d W v1 (by omega) d1 d2⟩
            obtain ⟨y', x1, x2, hcase, hcall⟩ := hD
            rcases hcase with ⟨hlo2, rfl⟩ | ⟨hlo2, rfl⟩
            all_goals
              obtain ⟨q0, q1, r0, r1, qb, qs⟩ := id hL
              have hdw := hL.old dcell
              go_wp2_with fail
              go_region_with (go_at_call 21; refine (hcall _).mono ?_; rintro e wd ⟨rfl, hbd⟩; have hM := hL.drew.below hbd; obtain ⟨t0, t1, s0, s1, tb, ts⟩ := id hM; have hdw2 := hM.old dcell)
              all_goals
                go_wp2_with fail
                go_meet
                case rel => exact ⟨_, rfl, x1, x2, hM.store hsz _⟩
          · go_wp2_with fail
            go_meet
            case rel => exact ⟨_, rfl, v1, v2, hL⟩
        case rest =>
          clear hL
          obtain ⟨x, rfl, x1, x2, hI⟩ := hcut
          obtain ⟨q0, q1, r0, r1, qb, qs⟩ := id hI
          go_wp2_with fail
          refine (n_any _ _ _).mono ?_
          rintro e wa ⟨rfl, hba⟩
          have hJ := hI.below hba
          clear q0 q1 r0 r1 qb qs
          obtain ⟨q0, q1, r0, r1, qb, qs⟩ := id hJ
          go_wp2_with fail
          refine (full_any _ _ _).mono ?_
          rintro e wb ⟨rfl, hbb⟩
          have hM := hJ.below hbb
          clear q0 q1 r0 r1 qb qs
          go_wp2_with fail
          go_roundw
          case rel => exact ⟨k + 1, x, by omega, by go_num, rfl, x1, x2, hM⟩
          case measure => simp [intOf]; omega
      · obtain ⟨q0, q1, r0, r1, qb, qs⟩ := id hI
        go_wp2_with fail
        refine hcall.mono ?_
        rintro e wu ⟨rfl, hbu⟩
        have hJ := hI.below hbu
        clear q0 q1 r0 r1 qb qs hI hcw hbu hcall
        have hL := hJ.store hsz (c + u)
        obtain ⟨q0, q1, r0, r1, qb, qs⟩ := hJ
        go_upto_if 37 with (fail)
        clear q0 q1 r0 r1 qb qs
        generalize (wu.setCell ⟨wn.heap.size, 0, none⟩ (.int .u32 (c + u))).setCell ⟨wn.heap.size, 1, none⟩ (.int .u32 a0) = W at *
        go_cut [8] (fun n wc => ∃ x : Int, n = .int .u64 x ∧ 0 ≤ x ∧ x ≤ a0 ∧ Inv w wn.heap.size a0 x wc)
        case first =>
          by_cases hdl : k < len2
          · obtain ⟨b2, o2, rfl, dcell, dwf⟩ := hd k hdl
            obtain ⟨d1, d2⟩ := bounds_u32 dwf
            have hb2 : b2 < w.heap.size := World.block_lt_of_cell? _ _ dcell
            clear dwf hd
            generalize z2[k]?.getD 0 = d at *
            have hD : ∃ y' : Int, 0 ≤ y' ∧ y' ≤ a0 ∧ (((c + u) ≤ d ∧ 0 = y') ∨ (d < (c + u) ∧ (c + u) - d = y')) ∧ ∀ W, Calls Try.prog 21 #[.agg #[.int .u32 (c + u), .int .u32 a0], .int .u32 d] W fun e w' => e = .returned (.agg #[.int .u32 y', .int .u32 a0]) ∧ Below W.heap.size W w' :=
              ⟨downV (c + u) d, (downV_bd v1 v2 d1).1, (downV_bd v1 v2 d1).2, by unfold downV; split <;> omega, fun W => down_any (c + u) a0 d W v1 (by omega) d1 d2⟩
            obtain ⟨y', x1, x2, hcase, hcall⟩ := hD
            rcases hcase with ⟨hlo2, rfl⟩ | ⟨hlo2, rfl⟩
            all_goals
              obtain ⟨q0, q1, r0, r1, qb, qs⟩ := id hL
              have hdw := hL.old dcell
              go_wp2_with fail
              go_region_with (go_at_call 21; refine (hcall _).mono ?_; rintro e wd ⟨rfl, hbd⟩; have hM := hL.drew.below hbd; obtain ⟨t0, t1, s0, s1, tb, ts⟩ := id hM; have hdw2 := hM.old dcell)
              all_goals
                go_wp2_with fail
                go_meet
                case rel => exact ⟨_, rfl, x1, x2, hM.store hsz _⟩
          · go_wp2_with fail
            go_meet
            case rel => exact ⟨_, rfl, v1, v2, hL⟩
        case rest =>
          clear hL
          obtain ⟨x, rfl, x1, x2, hI⟩ := hcut
          obtain ⟨q0, q1, r0, r1, qb, qs⟩ := id hI
          go_wp2_with fail
          refine (n_any _ _ _).mono ?_
          rintro e wa ⟨rfl, hba⟩
          have hJ := hI.below hba
          clear q0 q1 r0 r1 qb qs
          obtain ⟨q0, q1, r0, r1, qb, qs⟩ := id hJ
          go_wp2_with fail
          refine (full_any _ _ _).mono ?_
          rintro e wb ⟨rfl, hbb⟩
          have hM := hJ.below hbb
          clear q0 q1 r0 r1 qb qs
          go_wp2_with fail
          go_roundw
          case rel => exact ⟨k + 1, x, by omega, by go_num, rfl, x1, x2, hM⟩
          case measure => simp [intOf]; omega
    · obtain ⟨q0, q1, r0, r1, qb, qs⟩ := id hI
      clear q0 q1 r0 r1 qs hI
      go_wp2_with fail
      refine (up_any 0 0 5 _ (by omega) (by omega) (by omega) (by omega) (by omega)).mono ?_
      rw [show upV 0 0 5 = 0 from by decide]
      rintro e wa ⟨rfl, hba⟩
      go_wp2_with fail
      refine (n_any _ _ _).mono ?_
      rintro e wb ⟨rfl, hbb⟩
      go_wp2_with fail
      refine (alive_any _).mono ?_
      rintro e wc ⟨rfl, hbc⟩
      go_wp2
      go_ret
      exact ⟨rfl, ((qb.trans (hba.mono qb.size)).trans (hbb.mono (Nat.le_trans qb.size hba.size))).trans (hbc.mono (Nat.le_trans qb.size (Nat.le_trans hba.size hbb.size)))⟩

/-! ### THE ROW's STEP: WRITTEN OUT: LEAVE IT -/
set_option maxRecDepth 100000 in
theorem lifted (os : Os) (started : os.Started) (H : Type) (enc : TypeId × Value → H) :
    ReturnsInHanded {} Try.checked os 7 .any (Rows.satCountersSpec.pre6 enc Try.prog Try.f7 Rows.satCountersRow.domain false) (Rows.satCountersSpec.post enc Try.prog Try.f7 false true false false) := by
  refine returnsInHanded_of_change (C := Try.checked) own started (by kernel_rfl) Try.func7
    (ChangeSpec.witness6 (enc := enc) (C := Try.checked) false ⟨#[], #[.int .u32 0, .slice none 0 0, .slice none 0 0], []⟩ 8 (by kernel_rfl) (by kernel_rfl) (by kernel_rfl) (by kernel_rfl)) ?_
  intro W base args ds gs before hval0 hW hcnd _
  have hval : ∀ (j : Nat) t v, Try.f7.params[j]? = some t → args[j]? = some v → Value.okWide Try.prog W .any base t v := hval0
  have hW' := hW
  obtain ⟨p, q, hA0, hV, rfl, hfz, hnd⟩ := hW
  have hA : DataW.TrodAll enc Try.prog W 0 (fun _ => true) true Try.f7.params.toList args.toList ds p := hA0
  rw [Try.params7] at hA hval
  obtain ⟨v0, vs0, d0, ds0, p0, q0, hargs, rfl, rfl, h0, r0⟩ := trodAll_cons hA
  obtain ⟨v1, vs1, d1, ds1, p1, q1, rfl, rfl, rfl, h1, r1⟩ := trodAll_cons r0
  obtain ⟨v2, vs2, d2, ds2, p2, q2, rfl, rfl, rfl, h2, r2⟩ := trodAll_cons r1
  obtain ⟨rfl, rfl, rfl⟩ := trodAll_nil r2
  obtain rfl : args = #[v0, v1, v2] := by cases args; simp_all
  obtain ⟨rfl, rfl⟩ := trodVars_none hV
  obtain ⟨a0, rfl, rfl, rfl, w0⟩ := open_int Try.underlying30 (hval 0 30 v0 rfl rfl) h0
  obtain ⟨a1, len1, cap1, rfl⟩ := okWide_slice Try.underlying31 (hval 1 31 v1 rfl rfl)
  have k1 := h1
  have lt1 : ∀ x ∈ p1, x.block < W.heap.size := by obtain ⟨m, hm⟩ := k1; exact DataW.trod_lt m _ _ _ hm
  obtain ⟨z1, w1⟩ : ∃ zs, IsRow .u32 W a1 len1 cap1 zs := by
    obtain ⟨fuel, hf⟩ := h1
    rcases open_ints Try.underlying31 Try.underlying30 (by kernel_rfl) hf with ⟨hcs, _⟩ | ⟨x, l, c, zs, hcs, _, hl, hm, hz, _, hcell, hwz⟩
    · simp [Value.cells] at hcs
      obtain ⟨rfl, rfl, rfl⟩ := hcs
      exact ⟨[], .inl ⟨rfl, rfl, rfl, rfl⟩⟩
    · simp [Value.cells] at hcs
      obtain ⟨rfl, rfl, rfl⟩ := hcs
      exact ⟨zs, .inr ⟨_, rfl, hl, hm, by simpa using hz, hcell, hwz⟩⟩
  obtain ⟨a2, len2, cap2, rfl⟩ := okWide_slice Try.underlying31 (hval 2 31 v2 rfl rfl)
  have k2 := h2
  have lt2 : ∀ x ∈ p2, x.block < W.heap.size := by obtain ⟨m, hm⟩ := k2; exact DataW.trod_lt m _ _ _ hm
  obtain ⟨z2, w2⟩ : ∃ zs, IsRow .u32 W a2 len2 cap2 zs := by
    obtain ⟨fuel, hf⟩ := h2
    rcases open_ints Try.underlying31 Try.underlying30 (by kernel_rfl) hf with ⟨hcs, _⟩ | ⟨x, l, c, zs, hcs, _, hl, hm, hz, _, hcell, hwz⟩
    · simp [Value.cells] at hcs
      obtain ⟨rfl, rfl, rfl⟩ := hcs
      exact ⟨[], .inl ⟨rfl, rfl, rfl, rfl⟩⟩
    · simp [Value.cells] at hcs
      obtain ⟨rfl, rfl, rfl⟩ := hcs
      exact ⟨zs, .inr ⟨_, rfl, hl, hm, by simpa using hz, hcell, hwz⟩⟩
  clear hA0 hval0
  refine (walk a0 a1 len1 cap1 z1 a2 len2 cap2 z2 W w0 w1 w2).mono fun e W' ⟨he, bel⟩ => ?_
  subst he
  exact ⟨_, rfl, _, _, _, [], _, [], hW', trodAll_mk1 (shut_bool Try.underlying4 _), (trodAll_cons_mk (shut_int Try.underlying30 w0) (trodAll_cons_mk (Below.trod laidOut (by kernel_rfl) (of_decide_eq_true (by kernel_rfl)) k1 bel lt1) (trodAll_cons_mk (Below.trod laidOut (by kernel_rfl) (of_decide_eq_true (by kernel_rfl)) k2 bel lt2) trodAll_mk0))), rfl, bel.frame _, fun h => by cases h⟩

theorem over : Rows.satCountersRow.holds Try.pinned (OpenSpec.ofChange Rows.satCountersSpec) :=
  OpenClaim.holds_of_wide 7 Try.f7 rfl rfl rfl rfl rfl rfl rfl ⟨rfl, rfl, rfl, rfl, rfl⟩ rfl rfl rfl rfl rfl (by kernel_rfl) Try.func7 (by kernel_rfl)
    (of_decide_eq_true (by kernel_rfl)) (by unfold Func.isWrapper; first | (rw [if_pos (by decide +kernel)]; kernel_rfl) | (rw [if_neg (by decide +kernel)]; exact ⟨rfl, rfl⟩))
    (fun os started H enc _ => lifted os started H enc)

/-- ████ THE STATEMENT ████ -/
theorem proved : Rows.SatCountersSaid := over
#print axioms proved
end Go.Proofs.Ytoddilpmnoedhaa.satCounters
