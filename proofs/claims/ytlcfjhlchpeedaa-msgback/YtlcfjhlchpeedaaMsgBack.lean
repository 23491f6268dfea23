/-
  Proved: what is laid is parsed: MsgBack hands back true for whatever message.
-/
import Derived.Test.YtlcfjhlchpeedaaRows
import Derived.Test.YtlcfjhlchpeedaaBytes
import Derived.Test.YtlcfjhlchpeedaaArgs
import Derived.Deep.RegionHeld
import Derived.WalkKit
import Derived.ProofKit
import Derived.OpenShut
import Derived.ShutString
import Derived.ChangeOld
import Derived.Below
namespace Go.Proofs.Ytlcfjhlchpeedaa.msgBack
open Go.ChangeShapes Go.WideShapes Go.ChangeAt Go.RowKit
open Go.ChangeMaps (open_string shut_string)
set_option linter.unusedVariables false

theorem own : ownKnob Try.prog.godebug = none := by kernel_rfl
theorem laidOut : laidOutB Try.prog = true := by kernel_rfl

/-! ### The walk -/
open M in
set_option maxRecDepth 1000000 in
set_option maxHeartbeats 8000000 in
theorem walk (m0 : Mg) (p0 q0 : Sl) (w : World) (hp0 : Reads .i64 w p0.a p0.l p0.c m0.pr) (hq0 : Reads .i64 w q0.a q0.l q0.c m0.li) (hf0 : Fits m0) :
    Calls Try.prog 5 #[.agg (MV m0 p0 q0)] w fun e w' => e = .returned (.bool true) ∧ Below w.heap.size w w' := by
  by_cases hfar : 1000 < q0.l ∨ 1000 < p0.l
  · have hF := far_any m0 p0 q0 (w.alloc (.cells (MV m0 p0 q0) 27))
    rw [decide_eq_true hfar] at hF
    clear hp0 hq0 hf0 hfar
    unfold MV at hF ⊢
    go_enter Try.func5, Try.ntmps5
    go_wp2_with fail
    refine hF.mono ?_
    rintro x w1 ⟨rfl, hb1⟩
    have HB1 : Hid (Below w.heap.size w w1) := (by go_grown : Below w.heap.size w _).trans (hb1.mono (by go_size))
    clear hF hb1
    go_wp2_with fail
    refine (alive_any w1).mono ?_
    rintro x w2 ⟨rfl, hb2⟩
    have HB2 := hid (HB1.out.trans (hb2.mono HB1.out.size))
    clear hb2
    go_wp2
    go_ret
    exact ⟨rfl, HB2.out⟩
  have hF := far_any m0 p0 q0 (w.alloc (.cells (MV m0 p0 q0) 27))
  rw [decide_eq_false hfar] at hF
  have hin : MsgIn w m0 p0 q0 := ⟨hp0, hq0, by omega, by omega⟩
  have HIN : Hid (∀ W, Below w.heap.size w W → MsgIn W m0 p0 q0) := fun W hb => hin.below hb
  have HFT := hid hf0
  clear hp0 hq0 hf0 hfar hin
  unfold MV at hF ⊢
  go_enter Try.func5, Try.ntmps5
  go_wp2_with fail
  refine hF.mono ?_
  rintro x w1 ⟨rfl, hb1⟩
  have HB1 : Hid (Below w.heap.size w w1) := (by go_grown : Below w.heap.size w _).trans (hb1.mono (by go_size))
  have HC1 : Hid (w1.heap[w.heap.size]? = some (.cells (MV m0 p0 q0) 27)) := block_below (heap_alloc_new w _) hb1
  obtain ⟨c0, c1, c2, c3, c4, c5, c6, c7, c8, c9, c10, c11⟩ := MV_cells HC1.out
  have hT := theirs_any m0 p0 q0 w1
  unfold MV at hT
  clear hF hb1
  go_wp2_with fail
  refine hT.mono ?_
  rintro x w2 ⟨rfl, hb2⟩
  have HB2 := hid (HB1.out.trans (hb2.mono HB1.out.size))
  have HC2 := hid (block_below HC1.out hb2)
  have hL := laym_any m0 p0 q0 w2 (HIN.out w2 HB2.out) HFT.out
  unfold MV at hL
  clear hT hb2 HB1 HC1 c0 c1 c2 c3 c4 c5 c6 c7 c8 c9 c10 c11
  go_wp2_with fail
  refine hL.mono ?_
  rintro x w3 (⟨hmay, ⟨v3, rfl, how3⟩, hb3⟩ | ⟨hmay, rfl, hb3⟩)
  · have HB3 := hid (HB2.out.trans (hb3.mono HB2.out.size))
    have HC3 := hid (block_below HC2.out hb3)
    obtain ⟨a3, k3, rfl, hr3⟩ := Reads.own how3
    have hll := load_len hmay HFT.out
    have hl3 : (layL (loadF m0)).length ≤ 100000 := by
      rw [layL_len]
      have := (encZ_len (n := ((loadF m0).length : Int)) (by omega)).2
      omega
    have hP := parsem_any a3 _ k3 _ w3 hr3 (layL_bytes (load_bytes m0)) hl3
    rw [parse_laid hmay HFT.out] at hP
    unfold ReadOut at hP
    simp only at hP
    generalize (layL (loadF m0)).length = l3 at *
    clear hL how3 hr3 hb3 HB2 HC2 hmay hll
    unfold MV at hP
    go_wp2_with fail
    refine hP.mono ?_
    rintro x w5 ⟨p, q, rfl, hin5, hb5, _⟩
    have HB5 : Hid (Below w.heap.size w (w5.alloc (.cells (MV m0 p q) 34))) := (HB3.out.trans (hb5.mono HB3.out.size)).alloc (Nat.le_trans HB3.out.size hb5.size) _
    have hb5a : Below w5.heap.size w5 (w5.alloc (.cells (MV m0 p q) 34)) := (Below.refl _ _).alloc (Nat.le_refl _) _
    have HC5 := hid (block_below (block_below HC3.out hb5) hb5a)
    have HIN5 := hid (hin5.below hb5a)
    obtain ⟨c0, c1, c2, c3, c4, c5, c6, c7, c8, c9, c10, c11⟩ := MV_cells HC5.out
    obtain ⟨d0, d1, d2, d3, d4, d5, d6, d7, d8, d9, d10, d11⟩ := MV_cells (heap_alloc_new w5 (.cells (MV m0 p q) 34))
    have hS0 := And.intro d0 (And.intro d1 (And.intro d2 (And.intro d3 (And.intro d4 (And.intro d5 (And.intro d6 (And.intro d7 (And.intro d8 (And.intro d9 (And.intro d10 (And.intro d11 (And.intro c0 (And.intro c1 (And.intro c2 (And.intro c3 (And.intro c4 (And.intro c5 (And.intro c6 (And.intro c7 (And.intro c8 (And.intro c9 (And.intro c10 c11))))))))))))))))))))))
    have HS0 := hid hS0
    clear c0 c1 c2 c3 c4 c5 c6 c7 c8 c9 c10 c11 d0 d1 d2 d3 d4 d5 d6 d7 d8 d9 d10 d11 hS0 hP hin5 hb5 hb5a HB3 HC3
    unfold MV at HS0 HB5 HIN5
    go_wp2_with fail
    go_region_held (fun W : World => W.cell? ⟨w5.heap.size, 0, none⟩ = some (.int .i64 m0.kind) ∧ W.cell? ⟨w5.heap.size, 1, none⟩ = some (.int .u64 m0.st) ∧ W.cell? ⟨w5.heap.size, 2, none⟩ = some (.int .u64 m0.se) ∧ W.cell? ⟨w5.heap.size, 3, none⟩ = some (.int .u64 m0.ate) ∧ W.cell? ⟨w5.heap.size, 4, none⟩ = some (.int .u64 m0.inc) ∧ W.cell? ⟨w5.heap.size, 5, none⟩ = some (.int .u64 m0.n) ∧ W.cell? ⟨w5.heap.size, 6, none⟩ = some (.int .u64 m0.cnt) ∧ W.cell? ⟨w5.heap.size, 7, none⟩ = some (.int .i64 m0.why) ∧ W.cell? ⟨w5.heap.size, 8, none⟩ = some (.int .u64 m0.seed) ∧ W.cell? ⟨w5.heap.size, 9, none⟩ = some (.slice p.a p.l p.c) ∧ W.cell? ⟨w5.heap.size, 10, none⟩ = some (.int .i64 m0.most) ∧ W.cell? ⟨w5.heap.size, 11, none⟩ = some (.slice q.a q.l q.c) ∧ W.cell? ⟨w.heap.size, 0, none⟩ = some (.int .i64 m0.kind) ∧ W.cell? ⟨w.heap.size, 1, none⟩ = some (.int .u64 m0.st) ∧ W.cell? ⟨w.heap.size, 2, none⟩ = some (.int .u64 m0.se) ∧ W.cell? ⟨w.heap.size, 3, none⟩ = some (.int .u64 m0.ate) ∧ W.cell? ⟨w.heap.size, 4, none⟩ = some (.int .u64 m0.inc) ∧ W.cell? ⟨w.heap.size, 5, none⟩ = some (.int .u64 m0.n) ∧ W.cell? ⟨w.heap.size, 6, none⟩ = some (.int .u64 m0.cnt) ∧ W.cell? ⟨w.heap.size, 7, none⟩ = some (.int .i64 m0.why) ∧ W.cell? ⟨w.heap.size, 8, none⟩ = some (.int .u64 m0.seed) ∧ W.cell? ⟨w.heap.size, 9, none⟩ = some (.slice p0.a p0.l p0.c) ∧ W.cell? ⟨w.heap.size, 10, none⟩ = some (.int .i64 m0.most) ∧ W.cell? ⟨w.heap.size, 11, none⟩ = some (.slice q0.a q0.l q0.c)) (first | exact HS0.out | exact keep24 hb8 (by assumption) | exact keep24 hb7 (by assumption) | exact keep24 hb6 (by assumption)) (first | (go_at_call 11; refine (theirs_any m0 p0 q0 _).mono ?_; rintro x w6 ⟨rfl, hb6⟩; have HB6 := hid (HB5.out.drew.trans (hb6.mono HB5.out.size)); have HIN6 := hid (HIN5.out.below (Below.drew (Below.refl _ _) |>.trans hb6))) | (go_at_call 17; refine (same_any m0 m0 p q p0 q0 w6 HIN6.out (HIN.out w6 HB6.out)).mono ?_; rw [(sameB_iff m0 m0).2 rfl]; rintro x w7 ⟨rfl, hb7⟩; have HB7 := hid (HB6.out.trans (hb7.mono HB6.out.size))) | (go_at_call 9; refine (alive_any w7).mono ?_; rintro x w8 ⟨rfl, hb8⟩; have HB8 := hid (HB7.out.trans (hb8.mono HB7.out.size))))
    all_goals
      go_wp2_with fail
      go_ret
      exact ⟨rfl, HB8.out⟩
  · have HMay := hid hmay
    have HB3 := hid (HB2.out.trans (hb3.mono HB2.out.size))
    have HC3 := hid (block_below HC2.out hb3)
    obtain ⟨c0, c1, c2, c3, c4, c5, c6, c7, c8, c9, c10, c11⟩ := MV_cells HC3.out
    have hT := theirs_any m0 p0 q0 w3
    unfold MV at hT
    clear hL hb3 HB2 HC2 hmay
    go_wp2_with fail
    refine hT.mono ?_
    rintro x w4 ⟨rfl, hb4⟩
    have HB4 := hid (HB3.out.trans (hb4.mono HB3.out.size))
    have hM := may_any m0 p0 q0 w4 (HIN.out w4 HB4.out)
    rw [HMay.out] at hM
    unfold MV at hM
    clear hT hb4 HB3 HC3 c0 c1 c2 c3 c4 c5 c6 c7 c8 c9 c10 c11
    go_wp2_with fail
    refine hM.mono ?_
    rintro x w6 ⟨rfl, hb6⟩
    have HB6 := hid (HB4.out.trans (hb6.mono HB4.out.size))
    clear hM hb6 HB4
    go_wp2_with fail
    refine (alive_any w6).mono ?_
    rintro x w8 ⟨rfl, hb8⟩
    have HB8 := hid (HB6.out.trans (hb8.mono HB6.out.size))
    clear hb8
    go_wp2
    go_ret
    exact ⟨rfl, HB8.out⟩
/-! ### THE ROW's STEP: WRITTEN OUT: LEAVE IT -/
set_option maxRecDepth 1000000 in
theorem lifted (os : Os) (started : os.Started) (H : Type) (enc : TypeId × Value → H) :
    ReturnsInHanded {} Try.checked os 5 .any (Rows.msgBackSpec.pre6 enc Try.prog Try.f5 Rows.msgBackRow.domain false) (Rows.msgBackSpec.post enc Try.prog Try.f5 false true false false) := by
  refine returnsInHanded_of_change (C := Try.checked) own started (by kernel_rfl) Try.func5
    (ChangeSpec.witness6 (enc := enc) (C := Try.checked) false ⟨#[], #[.agg #[.int .i64 0, .int .u64 0, .int .u64 0, .int .u64 0, .int .u64 0, .int .u64 0, .int .u64 0, .int .i64 0, .int .u64 0, .slice none 0 0, .int .i64 0, .slice none 0 0]], []⟩ 8 (by kernel_rfl) (by kernel_rfl) (by kernel_rfl) (by kernel_rfl)) ?_
  intro W base args ds gs before hval0 hW hcnd _
  have hval : ∀ (j : Nat) t v, Try.f5.params[j]? = some t → args[j]? = some v → Value.okWide Try.prog W .any base t v := hval0
  have hW' := hW
  obtain ⟨p, q, hA0, hV, rfl, hfz, hnd⟩ := hW
  have hA : DataW.TrodAll enc Try.prog W 0 (fun _ => true) true Try.f5.params.toList args.toList ds p := hA0
  rw [Try.params5] at hA hval
  obtain ⟨v0, vs0, d0, ds0, p0, q0, hargs, rfl, rfl, h0, r0⟩ := trodAll_cons hA
  obtain ⟨rfl, rfl, rfl⟩ := trodAll_nil r0
  obtain rfl : args = #[v0] := by cases args; simp_all
  obtain ⟨rfl, rfl⟩ := trodVars_none hV
  have k0 := h0
  have lt0 : ∀ x ∈ p0, x.block < W.heap.size := by obtain ⟨m, hm⟩ := k0; exact DataW.trod_lt m _ _ _ hm
  obtain ⟨m0, s0, t0, rfl, hr0, hs0, hf0⟩ := msg_open (hval 0 27 v0 rfl rfl) h0
  clear hA0 hval0
  refine (walk m0 s0 t0 W hr0 hs0 hf0).mono fun e W' ⟨he, bel⟩ => ?_
  subst he
  exact ⟨_, rfl, _, _, _, [], _, [], hW', trodAll_mk1 (shut_bool Try.underlying4 _), (trodAll_cons_mk (Below.trod laidOut (by kernel_rfl) (of_decide_eq_true (by kernel_rfl)) k0 bel lt0) trodAll_mk0), rfl, bel.frame _, fun h => by cases h⟩

theorem over : Rows.msgBackRow.holds Try.pinned (OpenSpec.ofChange Rows.msgBackSpec) :=
  OpenClaim.holds_of_wide 5 Try.f5 rfl rfl rfl rfl rfl rfl rfl ⟨rfl, rfl, rfl, rfl, rfl⟩ rfl rfl rfl rfl rfl (by kernel_rfl) Try.func5 (by kernel_rfl)
    (of_decide_eq_true (by kernel_rfl)) (by unfold Func.isWrapper; first | (rw [if_pos (by decide +kernel)]; kernel_rfl) | (rw [if_neg (by decide +kernel)]; exact ⟨rfl, rfl⟩))
    (fun os started H enc _ => lifted os started H enc)

/-- ████ THE STATEMENT ████ -/
theorem proved : Rows.MsgBackSaid := over
#print axioms proved
end Go.Proofs.Ytlcfjhlchpeedaa.msgBack
