/-
  Proved: for any parts, what crc.Sum and a State that they are added to hand back is the document's sum of all their bytes, and the zero State's is that of none; the law CrcSums returns true, and its argument reads as before. No condition.
-/
import Derived.Test.YtknhpeienllebaaRows
import Derived.Test.YtknhpeienllebaaAlive
import Derived.Deep.Matrix
import Derived.WalkKit
import Derived.ProofKit
import Derived.OpenShut
import Derived.ShutString
import Derived.ChangeOld
import Derived.Below
namespace Go.Proofs.Ytknhpeienllebaa.crcSums
open Go.ChangeShapes Go.WideShapes Go.ChangeAt Go.RowKit
open Go.ChangeMaps (open_string shut_string)
set_option linter.unusedVariables false

theorem own : ownKnob Try.prog.godebug = none := by kernel_rfl
theorem laidOut : laidOutB Try.prog = true := by kernel_rfl

/-- The parts that came in. -/
theorem parts_in {H : Type} {enc : TypeId × Value → H} {w : World} {held : Bool} {fuel : Nat} {a : Option Addr} {len cap : Nat} {x : DataW H × List MemPlace}
    (h : DataW.trod enc Try.prog w 0 (fun _ => true) held fuel 22 [.slice a len cap] = some x) : ∃ zss, Parts w a len cap zss := by
  rcases Go.Deep.open_int_rows Try.underlying22 Try.underlying24 Try.underlying5 (by kernel_rfl) (by kernel_rfl) h with ⟨hcs, _⟩ | ⟨ad, l, c, A, L, C, Z, hcs, _, hl, hm, _, hx⟩
  · simp at hcs
    obtain ⟨rfl, rfl, rfl⟩ := hcs
    exact ⟨[], rfl, Nat.le_refl _, by omega, by simp, fun i hi => by omega⟩
  · simp at hcs
    obtain ⟨rfl, rfl, rfl⟩ := hcs
    refine ⟨(List.range len).map fun r => (Z r).take (L r), by simp, hl, by unfold maxLen at hm; omega, ?_, fun i hi => ?_⟩
    · intro zs hz
      obtain ⟨r, hr, rfl⟩ := List.mem_map.1 hz
      have hr' : r < len := List.mem_range.1 hr
      obtain ⟨_, _, _, _, hw, _⟩ := hx r (by omega)
      exact bytes_of_wf fun n hn => hw n (List.mem_of_mem_take hn)
    · obtain ⟨hc, h1, h2, h3, h4, h5, h6⟩ := hx i (by omega)
      obtain ⟨b, off, spot⟩ := ad
      have hspot : spot = none := by simpa [Addr.add] using World.cell?_spot (hx 0 (by omega)).1
      subst hspot
      rw [Go.WideShapes.add_plain] at hc
      refine ⟨b, off, A i, L i, C i, rfl, hc, ?_⟩
      have hrow : IsRow' .u8 w (A i) (L i) (C i) (Z i) := by
        cases hA : A i with
        | none =>
          have hC := h5 hA
          exact .inl ⟨rfl, by omega, hC, List.eq_nil_of_length_eq_zero (by omega)⟩
        | some a' => exact .inr ⟨a', rfl, h1, h2, h3, fun c hc' => (h6 a' hA).2 c (by omega), h4⟩
      simpa [hi] using (Reads.row hrow).1

theorem rsum_nil (w : World) : Calls Try.prog 12 #[.slice none 0 0] w fun e w' => e = .returned (.int .u32 0) ∧ w' = w := by
  have h := rsum_any none 0 0 [] w (Reads.nil _ _) (by intro x hx; simp at hx) (by omega)
  rw [crc_nil] at h
  exact h

theorem inv_below1 {w wr w' : World} {B : Nat} {x : Int} (h : Inv w B x wr) (hb : Below (B + 1) wr w') (hw : w.heap.size ≤ B) : Inv w B x w' := by
  obtain ⟨h0, f0, hbel, hB⟩ := h
  exact ⟨(hb.cell (p := ⟨B, 0, none⟩) (Nat.lt_succ_self _)).trans h0, (hb.frozen (p := ⟨B, 0, none⟩) (Nat.lt_succ_self _)).trans f0, hbel.trans (hb.mono (by omega)), Nat.lt_of_lt_of_le hB hb.size⟩

/-! ### The walk -/
open M in
set_option maxHeartbeats 2000000 in
theorem walk (a0 : Option Addr) (len0 cap0 : Nat) (zss : List (List Int)) (w : World) (hp : Parts w a0 len0 cap0 zss) :
    Calls Try.prog 3 #[.slice a0 len0 cap0] w fun e w' => e = .returned (.bool true) ∧ Below w.heap.size w w' := by
  obtain ⟨i0, hi, hz0, hz1, hz2⟩ := info_parts Try.info5
  have hlm : len0 ≤ 9223372036854775807 := Nat.le_trans hp.room hp.most
  by_cases hl : 20 < len0
  · clear hp
    go_enter Try.func3, Try.ntmps3
    go_wp2_with fail
    refine (alive_any _).mono ?_
    rintro e w' ⟨rfl, b⟩
    go_wp2
    go_ret
    exact ⟨rfl, b⟩
  have HL : Hid (zss.length = len0) := hp.size
  have HP := hid hp
  clear hp
  go_enter Try.func3, Try.ntmps3
  go_wp2_with fail
  refine (new_any _).mono ?_
  rintro e wn ⟨rfl, hbn⟩
  have hsz := hbn.size
  go_wp2_with fail
  go_loopw [3, 14] (fun u i wr => ∃ (k n : Nat) (s : Int), k ≤ len0 ∧ i = .int .i64 k ∧ Inv w wn.heap.size s wr ∧ Hid (s = (crc (zss.take k).flatten : Nat)) ∧ n ≤ 200 * k ∧
    Hid (wr.ownsRow (wn.heap.size + 1) 5 1 u n ((zss.take k).flatten.map (Value.int .u8))) ∧ Hid (∀ j : Nat, j < k → (zss[j]?.getD []).length ≤ 200)) (fun _ i _ => len0 - (intOf i).toNat)
  case atStart => exact ⟨0, 0, 0, by omega, rfl, ⟨by simp [go_sem], by simp [go_sem], hbn.alloc hsz _, by simp⟩, by unfold Hid; simp [crc_nil], by omega, World.ownsRow_nil _ _ _ _, fun j hj => by omega⟩
  case round =>
    obtain ⟨k, n, s, hk, rfl, hI, HS, hn, HW, HB⟩ := hrel
    obtain ⟨q0, f0, qb, qs⟩ := id hI
    by_cases hlt : k < len0
    · obtain ⟨b, off, a', l, c, rfl, hc0, hr0⟩ := HP.out.cell k hlt
      have hc := (qb.cell (World.block_lt_of_cell? _ _ hc0)).trans hc0
      have hr1 := hr0.below qb
      have hlm2 : l ≤ 9223372036854775807 := Nat.le_trans hr0.room hr0.most
      by_cases hbig : 200 < l
      · clear hc0 hr0 hr1
        go_wp2_with fail
        refine (alive_any _).mono ?_
        rintro e w2 ⟨rfl, hb2⟩
        go_wp2
        go_ret
        exact ⟨rfl, qb.trans (hb2.mono qb.size)⟩
      · have HB2 : Hid (∀ j : Nat, j < k + 1 → (zss[j]?.getD []).length ≤ 200) := by
          intro j hj
          rcases Nat.lt_or_ge j k with h | h
          · exact HB.out j h
          · obtain rfl : j = k := by omega
            rw [hr0.size]; omega
        have HZ := hid (HP.out.at k)
        have HF := hid (flat_snoc (zss := zss) (k := k) (by have := HL.out; omega))
        have HX := hid (flat_bytes HP.out.bytes k)
        have HI := hid hI
        generalize zss[k]?.getD [] = zs at *
        have HR0 := hid hr0
        clear hc0 hr0 HB hI
        have hsw : wn.heap.size + 1 ≤ wr.heap.size := qs
        go_wp2_with (at_builtin; refine append_any _ rfl (.tmp 22) (.tmp 23) 24 rfl (wn.heap.size + 1) 5 i0 (.int .u8 0) 1 Try.underlying24 hi hz0 hz1 hz2 rfl .u8 _ n _ rfl HW.out a' l c zs rfl hr1 (by omega) (by omega) (by omega) ?_; intro v2 w2 how2 hb2; have hI2 := inv_below1 HI.out hb2 hsz; obtain ⟨q1, f1, qb1, qs1⟩ := id hI2)
        have HI2 := hid hI2
        have hA := add_any (zss.take k).flatten s a' l c zs w2 HS.out HX.out (HR0.out.below hI2.2.2.1) HZ.out (by omega)
        rw [← HF.out] at hA
        obtain ⟨s2, HS2⟩ : ∃ s2 : Int, Hid (s2 = (crc (zss.take (k + 1)).flatten : Nat)) := ⟨_, rfl⟩
        rw [← HS2.out] at hA
        have HW2 : Hid (w2.ownsRow (wn.heap.size + 1) 5 1 v2 (n + l) ((zss.take (k + 1)).flatten.map (Value.int .u8))) := by
          unfold Hid; rw [HF.out]; exact how2
        clear q0 f0 qb qs how2 hb2 hr1 HW HI hc
        go_wp2_with fail
        refine hA.mono ?_
        rintro e w3 ⟨rfl, hb3⟩
        have hJ := HI2.out.below hb3
        have HK := hid (hJ.store hsz s2)
        have HW3 : Hid ((w3.setCell ⟨wn.heap.size, 0, none⟩ (.int .u32 s2)).ownsRow (wn.heap.size + 1) 5 1 v2 (n + l) ((zss.take (k + 1)).flatten.map (Value.int .u8))) :=
          ownsRow_setCell_below (own_stays HW2.out hb3) (Nat.lt_succ_self _) _
        clear q1 f1 qb1 qs1 hA hb3 hI2
        obtain ⟨r0, g0, rb, rs⟩ := hJ
        go_wp2_with fail
        go_roundw
        case rel => exact ⟨k + 1, n + l, s2, by omega, by go_num, HK.out, HS2, by omega, HW3, HB2⟩
        case measure => simp [intOf]; omega
    · have HT : Hid (zss.take k = zss) := List.take_of_length_le (by have := HL.out; omega)
      have HE : Hid (s = (crc zss.flatten : Nat)) := by
        have := HS.out
        rwa [HT.out] at this
      have HM : Hid (∀ j : Nat, (zss[j]?.getD []).length ≤ 1000000) := by
        intro j
        rcases Nat.lt_or_ge j k with h | h
        · have := HB.out j h; omega
        · rw [List.getElem?_eq_none (by have := HL.out; omega)]; simp
      have HW2 : Hid (wr.ownsRow (wn.heap.size + 1) 5 1 u3 n (zss.flatten.map (Value.int .u8))) := by
        have := HW.out
        rwa [HT.out] at this
      have HY : Hid (IsBytes zss.flatten) := by
        have := flat_bytes HP.out.bytes k
        rwa [HT.out] at this
      obtain ⟨au, cu, rfl, hru⟩ := Reads.own HW2.out
      have hP := sum_any a0 len0 cap0 zss wr (HP.out.below qb) (by omega) HM.out
      rw [← HE.out] at hP
      have HRU := hid hru
      have HI := hid hI
      clear hru HW HW2 HT HS HB hI
      go_wp2_with fail
      refine hP.mono ?_
      rintro e w2 ⟨rfl, hb2⟩
      have hI2 := HI.out.below hb2
      have hR := rsum_any au n cu zss.flatten w2 (HRU.out.below hb2) HY.out (by omega)
      rw [← HE.out] at hR
      have HRR := hid hR
      have HI2 := hid hI2
      have hN := stsum_any s w2
      clear q0 f0 qb qs hP HI
      obtain ⟨q0, f0, qb, qs⟩ := hI2
      go_wp2_with fail
      refine hR.mono ?_
      rintro e w3 ⟨rfl, rfl⟩
      clear hR
      go_wp2_with fail
      refine hN.mono ?_
      rintro e w4 ⟨rfl, hb4⟩
      have hR := rsum_any au n cu zss.flatten w4 ((HRU.out.below hb2).below hb4) HY.out (by omega)
      rw [← HE.out] at hR
      have qb4 : Below w.heap.size w w4 := qb.trans (hb4.mono qb.size)
      clear q0 f0 qs hN
      go_wp2_with fail
      refine hR.mono ?_
      rintro e w5 ⟨rfl, rfl⟩
      clear hR
      go_wp2_with fail
      refine (stsum_any 0 _).mono ?_
      rintro e w6 ⟨rfl, hb6⟩
      have qb6 : Below w.heap.size w w6 := qb4.trans (hb6.mono qb4.size)
      go_wp2_with fail
      refine (rsum_nil _).mono ?_
      rintro e w7 ⟨rfl, rfl⟩
      go_wp2_with fail
      refine (alive_any _).mono ?_
      rintro e w8 ⟨rfl, hb8⟩
      go_wp2
      go_ret
      exact ⟨rfl, qb6.trans (hb8.mono qb6.size)⟩

/-! ### THE ROW's STEP: WRITTEN OUT: LEAVE IT -/
set_option maxRecDepth 100000 in
theorem lifted (os : Os) (started : os.Started) (H : Type) (enc : TypeId × Value → H) :
    ReturnsInHanded {} Try.checked os 3 .any (Rows.crcSumsSpec.pre6 enc Try.prog Try.f3 Rows.crcSumsRow.domain false) (Rows.crcSumsSpec.post enc Try.prog Try.f3 false true false false) := by
  refine returnsInHanded_of_change (C := Try.checked) own started (by kernel_rfl) Try.func3
    (ChangeSpec.witness6 (enc := enc) (C := Try.checked) false ⟨#[], #[.slice none 0 0], []⟩ 8 (by kernel_rfl) (by kernel_rfl) (by kernel_rfl) (by kernel_rfl)) ?_
  intro W base args ds gs before hval0 hW hcnd _
  have hval : ∀ (j : Nat) t v, Try.f3.params[j]? = some t → args[j]? = some v → Value.okWide Try.prog W .any base t v := hval0
  have hW' := hW
  obtain ⟨p, q, hA0, hV, rfl, hfz, hnd⟩ := hW
  have hA : DataW.TrodAll enc Try.prog W 0 (fun _ => true) true Try.f3.params.toList args.toList ds p := hA0
  rw [Try.params3] at hA hval
  obtain ⟨v0, vs0, d0, ds0, p0, q0, hargs, rfl, rfl, h0, r0⟩ := trodAll_cons hA
  obtain ⟨rfl, rfl, rfl⟩ := trodAll_nil r0
  obtain rfl : args = #[v0] := by cases args; simp_all
  obtain ⟨rfl, rfl⟩ := trodVars_none hV
  obtain ⟨a0, len0, cap0, rfl⟩ := okWide_slice Try.underlying22 (hval 0 22 v0 rfl rfl)
  have k0 := h0
  have lt0 : ∀ x ∈ p0, x.block < W.heap.size := by obtain ⟨m, hm⟩ := k0; exact DataW.trod_lt m _ _ _ hm
  obtain ⟨z0, w0⟩ : ∃ zss, Parts W a0 len0 cap0 zss := by
    obtain ⟨fuel, hf⟩ := h0
    exact parts_in hf
  clear hA0 hval0
  refine (walk a0 len0 cap0 z0 W w0).mono fun e W' ⟨he, bel⟩ => ?_
  subst he
  exact ⟨_, rfl, _, _, _, [], _, [], hW', trodAll_mk1 (shut_bool Try.underlying4 _), (trodAll_cons_mk (Below.trod laidOut (by kernel_rfl) (of_decide_eq_true (by kernel_rfl)) k0 bel lt0) trodAll_mk0), rfl, bel.frame _, fun h => by cases h⟩

theorem over : Rows.crcSumsRow.holds Try.pinned (OpenSpec.ofChange Rows.crcSumsSpec) :=
  OpenClaim.holds_of_wide 3 Try.f3 rfl rfl rfl rfl rfl rfl rfl ⟨rfl, rfl, rfl, rfl, rfl⟩ rfl rfl rfl rfl rfl (by kernel_rfl) Try.func3 (by kernel_rfl)
    (of_decide_eq_true (by kernel_rfl)) (by unfold Func.isWrapper; first | (rw [if_pos (by decide +kernel)]; kernel_rfl) | (rw [if_neg (by decide +kernel)]; exact ⟨rfl, rfl⟩))
    (fun os started H enc _ => lifted os started H enc)

/-- ████ THE STATEMENT ████ -/
theorem proved : Rows.CrcSumsSaid := over
#print axioms proved
end Go.Proofs.Ytknhpeienllebaa.crcSums
