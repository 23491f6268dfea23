/-
  Proved: unlike messages have unlike loads: MsgApart hands back true for whatever two messages.
-/
import Derived.Test.YtlcfjhlchpeedaaRows
import Derived.Test.YtlcfjhlchpeedaaBytes
import Derived.Test.YtlcfjhlchpeedaaArgs
import Derived.Deep.RegionHeld
import Derived.WalkKit
import Derived.ProofKit
import Derived.OpenShut
import Derived.ShutString
import Derived.ChangeOld
import Derived.Below
namespace Go.Proofs.Ytlcfjhlchpeedaa.msgApart
open Go.ChangeShapes Go.WideShapes Go.ChangeAt Go.RowKit
open Go.ChangeMaps (open_string shut_string)
set_option linter.unusedVariables false

theorem own : ownKnob Try.prog.godebug = none := by kernel_rfl
theorem laidOut : laidOutB Try.prog = true := by kernel_rfl

/-! ### The walk -/
open M in
set_option maxRecDepth 1000000 in
set_option maxHeartbeats 8000000 in
theorem walk (m0 : Mg) (p0 q0 : Sl) (m1 : Mg) (p1 q1 : Sl) (w : World) (hp0 : Reads .i64 w p0.a p0.l p0.c m0.pr) (hq0 : Reads .i64 w q0.a q0.l q0.c m0.li) (hf0 : Fits m0) (hp1 : Reads .i64 w p1.a p1.l p1.c m1.pr) (hq1 : Reads .i64 w q1.a q1.l q1.c m1.li) (hf1 : Fits m1) :
    Calls Try.prog 7 #[.agg (MV m0 p0 q0), .agg (MV m1 p1 q1)] w fun e w' => e = .returned (.bool true) ∧ Below w.heap.size w w' := by
  have hbx : Below w.heap.size w ((w.alloc (.cells (MV m0 p0 q0) 27)).alloc (.cells (MV m1 p1 q1) 27)) := by go_grown
  have hx0 : ((w.alloc (.cells (MV m0 p0 q0) 27)).alloc (.cells (MV m1 p1 q1) 27)).heap[w.heap.size]? = some (.cells (MV m0 p0 q0) 27) := (Below.heap_alloc _ _ _ (by simp)).trans (heap_alloc_new w _)
  have hx1 : ((w.alloc (.cells (MV m0 p0 q0) 27)).alloc (.cells (MV m1 p1 q1) 27)).heap[w.heap.size + 1]? = some (.cells (MV m1 p1 q1) 27) := by
    have h1 := heap_alloc_new (w.alloc (.cells (MV m0 p0 q0) 27)) (.cells (MV m1 p1 q1) 27)
    have e : (w.alloc (.cells (MV m0 p0 q0) 27)).heap.size = w.heap.size + 1 := by simp
    rw [e] at h1
    exact h1
  have HBX := hid hbx
  have HX0 := hid hx0
  have HX1 := hid hx1
  clear hbx hx0 hx1
  by_cases hfar : 1000 < q0.l ∨ 1000 < p0.l
  · have hF := far_any m0 p0 q0 ((w.alloc (.cells (MV m0 p0 q0) 27)).alloc (.cells (MV m1 p1 q1) 27))
    rw [decide_eq_true hfar] at hF
    clear hp0 hq0 hf0 hp1 hq1 hf1 hfar
    unfold MV at hF HBX ⊢
    go_enter Try.func7, Try.ntmps7
    go_wp2_with fail
    refine hF.mono ?_
    rintro x w1 ⟨rfl, hb1⟩
    have HBf := hid (HBX.out.trans (hb1.mono (by go_size)))
    clear hF hb1
    go_wp2_with fail
    refine (alive_any _).mono ?_
    rintro x wz ⟨rfl, hbz⟩
    have HBz := hid (HBf.out.trans (hbz.mono HBf.out.size))
    clear hbz
    go_wp2
    go_ret
    exact ⟨rfl, HBz.out⟩
  have hF := far_any m0 p0 q0 ((w.alloc (.cells (MV m0 p0 q0) 27)).alloc (.cells (MV m1 p1 q1) 27))
  rw [decide_eq_false hfar] at hF
  by_cases hfar1 : 1000 < q1.l ∨ 1000 < p1.l
  · have HF1 : Hid (∀ W, Calls Try.prog 8 #[.agg (MV m1 p1 q1)] W fun e w' => e = .returned (.bool true) ∧ Below W.heap.size W w') := fun W => by
      have := far_any m1 p1 q1 W
      rwa [decide_eq_true hfar1] at this
    clear hp0 hq0 hf0 hp1 hq1 hf1 hfar hfar1
    unfold MV at hF HBX HF1 ⊢
    go_enter Try.func7, Try.ntmps7
    go_wp2_with fail
    refine hF.mono ?_
    rintro x w1 ⟨rfl, hb1⟩
    have HB1 := hid (HBX.out.trans (hb1.mono (by go_size)))
    obtain ⟨c0, c1, c2, c3, c4, c5, c6, c7, c8, c9, c10, c11⟩ := MV_cells (block_below HX1.out hb1)
    clear hF hb1
    go_wp2_with fail
    refine (HF1.out _).mono ?_
    rintro x w2 ⟨rfl, hb2⟩
    have HBf := hid (HB1.out.trans (hb2.mono HB1.out.size))
    clear hb2 c0 c1 c2 c3 c4 c5 c6 c7 c8 c9 c10 c11
    go_wp2_with fail
    refine (alive_any _).mono ?_
    rintro x wz ⟨rfl, hbz⟩
    have HBz := hid (HBf.out.trans (hbz.mono HBf.out.size))
    clear hbz
    go_wp2
    go_ret
    exact ⟨rfl, HBz.out⟩
  have HF1 : Hid (∀ W, Calls Try.prog 8 #[.agg (MV m1 p1 q1)] W fun e w' => e = .returned (.bool false) ∧ Below W.heap.size W w') := fun W => by
    have := far_any m1 p1 q1 W
    rwa [decide_eq_false hfar1] at this
  have hin0 : MsgIn w m0 p0 q0 := ⟨hp0, hq0, by omega, by omega⟩
  have hin1 : MsgIn w m1 p1 q1 := ⟨hp1, hq1, by omega, by omega⟩
  have HIN : Hid (∀ W, Below w.heap.size w W → MsgIn W m0 p0 q0 ∧ MsgIn W m1 p1 q1) := fun W hb => ⟨hin0.below hb, hin1.below hb⟩
  have HFT0 := hid hf0
  have HFT1 := hid hf1
  clear hp0 hq0 hf0 hp1 hq1 hf1 hfar hfar1 hin0 hin1
  unfold MV at hF HBX HF1 ⊢
  go_enter Try.func7, Try.ntmps7
  go_wp2_with fail
  refine hF.mono ?_
  rintro x w1 ⟨rfl, hb1⟩
  have HB1 := hid (HBX.out.trans (hb1.mono (by go_size)))
  have HA1 := hid (block_below HX0.out hb1)
  have HD1 := hid (block_below HX1.out hb1)
  obtain ⟨c0, c1, c2, c3, c4, c5, c6, c7, c8, c9, c10, c11⟩ := MV_cells HD1.out
  clear hF hb1 HX0 HX1 HBX
  go_wp2_with fail
  refine (HF1.out _).mono ?_
  rintro x w2 ⟨rfl, hb2⟩
  have HB2 := hid (HB1.out.trans (hb2.mono HB1.out.size))
  have HA2 := hid (block_below HA1.out hb2)
  have HD2 := hid (block_below HD1.out hb2)
  clear hb2 c0 c1 c2 c3 c4 c5 c6 c7 c8 c9 c10 c11 HA1 HD1 HB1 HF1
  obtain ⟨c0, c1, c2, c3, c4, c5, c6, c7, c8, c9, c10, c11⟩ := MV_cells HA2.out
  have hT := theirs_any m0 p0 q0 w2
  unfold MV at hT
  go_wp2_with fail
  refine hT.mono ?_
  rintro x w3 ⟨rfl, hb3⟩
  have HB3 := hid (HB2.out.trans (hb3.mono HB2.out.size))
  have HA3 := hid (block_below HA2.out hb3)
  have HD3 := hid (block_below HD2.out hb3)
  have hL := load_any m0 p0 q0 w3 (HIN.out w3 HB3.out).1 HFT0.out
  unfold MV at hL
  clear hT hb3 c0 c1 c2 c3 c4 c5 c6 c7 c8 c9 c10 c11 HA2 HD2 HB2
  go_wp2_with fail
  refine hL.mono ?_
  intro x w4 hO
  have hO2 : ∃ (a3 : Option Addr) (l3 k3 : Nat) (f : Int), x = .returned (.tuple #[.slice a3 l3 k3, .int .i64 f]) ∧ Below w3.heap.size w3 w4 ∧ (f = 0 → mayA m0 = true ∧ Reads .u8 w4 a3 l3 k3 (loadF m0)) := by
    rcases hO with ⟨h1, ⟨v, rfl, h2⟩, h3⟩ | ⟨h1, rfl, h3⟩
    · obtain ⟨a, c, rfl, hr⟩ := Reads.own h2
      exact ⟨a, _, c, 0, rfl, h3, fun _ => ⟨h1, hr⟩⟩
    · exact ⟨none, 0, 0, 1, rfl, h3, fun h => by cases h⟩
  obtain ⟨a3, l3, k3, f, rfl, hb4, hok3⟩ := hO2
  have HB4 := hid (HB3.out.trans (hb4.mono HB3.out.size))
  have HA4 := hid (block_below HA3.out hb4)
  have HD4 := hid (block_below HD3.out hb4)
  have HOK3 := hid hok3
  clear hO hL hb4 hok3 HB3 HA3 HD3
  obtain ⟨c0, c1, c2, c3, c4, c5, c6, c7, c8, c9, c10, c11⟩ := MV_cells HD4.out
  have hT := theirs_any m1 p1 q1 w4
  unfold MV at hT
  go_wp2_with fail
  refine hT.mono ?_
  rintro x w5 ⟨rfl, hb5⟩
  have HB5 := hid (HB4.out.trans (hb5.mono HB4.out.size))
  have HA5 := hid (block_below HA4.out hb5)
  have HD5 := hid (block_below HD4.out hb5)
  have HOK5 : Hid (f = 0 → mayA m0 = true ∧ Reads .u8 w5 a3 l3 k3 (loadF m0)) := fun h => ⟨(HOK3.out h).1, (HOK3.out h).2.below hb5⟩
  have hL := load_any m1 p1 q1 w5 (HIN.out w5 HB5.out).2 HFT1.out
  unfold MV at hL
  clear hT hb5 c0 c1 c2 c3 c4 c5 c6 c7 c8 c9 c10 c11 HA4 HD4 HB4 HOK3
  go_wp2_with fail
  refine hL.mono ?_
  intro x w6 hO
  have hO2 : ∃ (a4 : Option Addr) (l4 k4 : Nat) (g : Int), x = .returned (.tuple #[.slice a4 l4 k4, .int .i64 g]) ∧ Below w5.heap.size w5 w6 ∧ (g = 0 → mayA m1 = true ∧ Reads .u8 w6 a4 l4 k4 (loadF m1)) := by
    rcases hO with ⟨h1, ⟨v, rfl, h2⟩, h3⟩ | ⟨h1, rfl, h3⟩
    · obtain ⟨a, c, rfl, hr⟩ := Reads.own h2
      exact ⟨a, _, c, 0, rfl, h3, fun _ => ⟨h1, hr⟩⟩
    · exact ⟨none, 0, 0, 1, rfl, h3, fun h => by cases h⟩
  obtain ⟨a4, l4, k4, g, rfl, hb6, hok4⟩ := hO2
  have HB6 := hid (HB5.out.trans (hb6.mono HB5.out.size))
  have HA6 := hid (block_below HA5.out hb6)
  have HD6 := hid (block_below HD5.out hb6)
  have HOK6 : Hid (f = 0 → mayA m0 = true ∧ Reads .u8 w6 a3 l3 k3 (loadF m0)) := fun h => ⟨(HOK5.out h).1, (HOK5.out h).2.below hb6⟩
  have HOK4 := hid hok4
  clear hO hL hb6 hok4 HB5 HA5 HD5 HOK5
  by_cases hff : f = 0
  · by_cases hgg : g = 0
    · subst hff hgg
      obtain ⟨y0, hr0⟩ := HOK6.out rfl
      obtain ⟨y1, hr1⟩ := HOK4.out rfl
      have hsm : decide (loadF m0 = loadF m1) = sameB m0 m1 := by
        by_cases h : m0 = m1
        · rw [(sameB_iff m0 m1).2 h]; exact decide_eq_true (by rw [h])
        · have h2 : sameB m0 m1 = false := by
            rcases hb : sameB m0 m1 with _ | _
            · rfl
            · exact absurd ((sameB_iff _ _).1 hb) h
          rw [h2]
          refine decide_eq_false fun e => h ?_
          have e1 := read_load y0 HFT0.out
          have e2 := read_load y1 HFT1.out
          rw [e] at e1
          rw [e1] at e2
          exact (Prod.mk.inj e2).1
      have hE := str_eq (load_bytes m0) (load_bytes m1)
      rw [hsm] at hE
      have hSD : sameB m0 m1 = true ∨ sameB m0 m1 = false := by cases sameB m0 m1 <;> simp
      have HSS : Hid (∀ W, Below w6.heap.size w6 W → W.cell? ⟨w.heap.size, 0, none⟩ = some (.int .i64 m0.kind) ∧ W.cell? ⟨w.heap.size, 1, none⟩ = some (.int .u64 m0.st) ∧ W.cell? ⟨w.heap.size, 2, none⟩ = some (.int .u64 m0.se) ∧ W.cell? ⟨w.heap.size, 3, none⟩ = some (.int .u64 m0.ate) ∧ W.cell? ⟨w.heap.size, 4, none⟩ = some (.int .u64 m0.inc) ∧ W.cell? ⟨w.heap.size, 5, none⟩ = some (.int .u64 m0.n) ∧ W.cell? ⟨w.heap.size, 6, none⟩ = some (.int .u64 m0.cnt) ∧ W.cell? ⟨w.heap.size, 7, none⟩ = some (.int .i64 m0.why) ∧ W.cell? ⟨w.heap.size, 8, none⟩ = some (.int .u64 m0.seed) ∧ W.cell? ⟨w.heap.size, 9, none⟩ = some (.slice p0.a p0.l p0.c) ∧ W.cell? ⟨w.heap.size, 10, none⟩ = some (.int .i64 m0.most) ∧ W.cell? ⟨w.heap.size, 11, none⟩ = some (.slice q0.a q0.l q0.c) ∧ W.cell? ⟨(w.heap.size + 1), 0, none⟩ = some (.int .i64 m1.kind) ∧ W.cell? ⟨(w.heap.size + 1), 1, none⟩ = some (.int .u64 m1.st) ∧ W.cell? ⟨(w.heap.size + 1), 2, none⟩ = some (.int .u64 m1.se) ∧ W.cell? ⟨(w.heap.size + 1), 3, none⟩ = some (.int .u64 m1.ate) ∧ W.cell? ⟨(w.heap.size + 1), 4, none⟩ = some (.int .u64 m1.inc) ∧ W.cell? ⟨(w.heap.size + 1), 5, none⟩ = some (.int .u64 m1.n) ∧ W.cell? ⟨(w.heap.size + 1), 6, none⟩ = some (.int .u64 m1.cnt) ∧ W.cell? ⟨(w.heap.size + 1), 7, none⟩ = some (.int .i64 m1.why) ∧ W.cell? ⟨(w.heap.size + 1), 8, none⟩ = some (.int .u64 m1.seed) ∧ W.cell? ⟨(w.heap.size + 1), 9, none⟩ = some (.slice p1.a p1.l p1.c) ∧ W.cell? ⟨(w.heap.size + 1), 10, none⟩ = some (.int .i64 m1.most) ∧ W.cell? ⟨(w.heap.size + 1), 11, none⟩ = some (.slice q1.a q1.l q1.c) ∧ (convert 30 9 (.slice a3 l3 k3)).run Try.prog W = .ok (.string (strOfNums (loadF m0))) W ∧ (convert 30 9 (.slice a4 l4 k4)).run Try.prog W = .ok (.string (strOfNums (loadF m1))) W) := fun W hb => by
        obtain ⟨c0, c1, c2, c3, c4, c5, c6, c7, c8, c9, c10, c11⟩ := MV_cells (block_below HA6.out hb)
        obtain ⟨d0, d1, d2, d3, d4, d5, d6, d7, d8, d9, d10, d11⟩ := MV_cells (block_below HD6.out hb)
        exact ⟨c0, c1, c2, c3, c4, c5, c6, c7, c8, c9, c10, c11, d0, d1, d2, d3, d4, d5, d6, d7, d8, d9, d10, d11, (hr0.below hb).conv (P := Try.prog) 30 9 5 Try.underlying30 Try.underlying5 Try.underlying9, (hr1.below hb).conv (P := Try.prog) 30 9 5 Try.underlying30 Try.underlying5 Try.underlying9⟩
      have HSame : Hid (∀ W, Below w6.heap.size w6 W → Calls Try.prog 17 #[.agg (MV m0 p0 q0), .agg (MV m1 p1 q1)] W fun e w' => e = .returned (.bool (sameB m0 m1)) ∧ Below W.heap.size W w') := fun W hb => same_any m0 m1 p0 q0 p1 q1 W (HIN.out W (HB6.out.trans (hb.mono HB6.out.size))).1 (HIN.out W (HB6.out.trans (hb.mono HB6.out.size))).2
      clear hr0 hr1 hsm y0 y1 HOK6 HOK4

      clear hSD
      generalize sameB m0 m1 = bb at *
      · have hcD : Below w6.heap.size w6 w6.drew := Below.drew (Below.refl _ _)
        go_wp2_with fail
        go_region_held (fun W : World => W.cell? ⟨w.heap.size, 0, none⟩ = some (.int .i64 m0.kind) ∧ W.cell? ⟨w.heap.size, 1, none⟩ = some (.int .u64 m0.st) ∧ W.cell? ⟨w.heap.size, 2, none⟩ = some (.int .u64 m0.se) ∧ W.cell? ⟨w.heap.size, 3, none⟩ = some (.int .u64 m0.ate) ∧ W.cell? ⟨w.heap.size, 4, none⟩ = some (.int .u64 m0.inc) ∧ W.cell? ⟨w.heap.size, 5, none⟩ = some (.int .u64 m0.n) ∧ W.cell? ⟨w.heap.size, 6, none⟩ = some (.int .u64 m0.cnt) ∧ W.cell? ⟨w.heap.size, 7, none⟩ = some (.int .i64 m0.why) ∧ W.cell? ⟨w.heap.size, 8, none⟩ = some (.int .u64 m0.seed) ∧ W.cell? ⟨w.heap.size, 9, none⟩ = some (.slice p0.a p0.l p0.c) ∧ W.cell? ⟨w.heap.size, 10, none⟩ = some (.int .i64 m0.most) ∧ W.cell? ⟨w.heap.size, 11, none⟩ = some (.slice q0.a q0.l q0.c) ∧ W.cell? ⟨(w.heap.size + 1), 0, none⟩ = some (.int .i64 m1.kind) ∧ W.cell? ⟨(w.heap.size + 1), 1, none⟩ = some (.int .u64 m1.st) ∧ W.cell? ⟨(w.heap.size + 1), 2, none⟩ = some (.int .u64 m1.se) ∧ W.cell? ⟨(w.heap.size + 1), 3, none⟩ = some (.int .u64 m1.ate) ∧ W.cell? ⟨(w.heap.size + 1), 4, none⟩ = some (.int .u64 m1.inc) ∧ W.cell? ⟨(w.heap.size + 1), 5, none⟩ = some (.int .u64 m1.n) ∧ W.cell? ⟨(w.heap.size + 1), 6, none⟩ = some (.int .u64 m1.cnt) ∧ W.cell? ⟨(w.heap.size + 1), 7, none⟩ = some (.int .i64 m1.why) ∧ W.cell? ⟨(w.heap.size + 1), 8, none⟩ = some (.int .u64 m1.seed) ∧ W.cell? ⟨(w.heap.size + 1), 9, none⟩ = some (.slice p1.a p1.l p1.c) ∧ W.cell? ⟨(w.heap.size + 1), 10, none⟩ = some (.int .i64 m1.most) ∧ W.cell? ⟨(w.heap.size + 1), 11, none⟩ = some (.slice q1.a q1.l q1.c) ∧ (convert 30 9 (.slice a3 l3 k3)).run Try.prog W = .ok (.string (strOfNums (loadF m0))) W ∧ (convert 30 9 (.slice a4 l4 k4)).run Try.prog W = .ok (.string (strOfNums (loadF m1))) W) (first | (with_reducible exact HSS.out _ hcZ) | (with_reducible exact HSS.out _ hcS) | (with_reducible exact HSS.out _ hcA) | (with_reducible exact HSS.out _ hcB) | (with_reducible exact HSS.out _ hcD)) (first | (go_at_call_of 11 (m0.kind); refine (theirs_any m0 p0 q0 _).mono ?_; rintro x wA ⟨rfl, hbA⟩; have hcA : Below w6.heap.size w6 wA := (by first | exact hcB.trans (hbA.mono hcB.size) | exact hcD.trans hbA)) | (go_at_call_of 11 (m1.kind); refine (theirs_any m1 p1 q1 _).mono ?_; rintro x wB ⟨rfl, hbB⟩; have hcB : Below w6.heap.size w6 wB := (by first | exact hcA.trans (hbB.mono hcA.size) | exact hcD.trans hbB)) | (go_at_call 17; with_reducible refine (HSame.out wB hcB).mono ?_; rintro x wS ⟨rfl, hbS⟩; have hcS : Below w6.heap.size w6 wS := hcB.trans (hbS.mono hcB.size)) | (go_at_call 17; with_reducible refine (HSame.out wA hcA).mono ?_; rintro x wS ⟨rfl, hbS⟩; have hcS : Below w6.heap.size w6 wS := hcA.trans (hbS.mono hcA.size)) | (go_at_call 9; refine (alive_any wS).mono ?_; rintro x wZ ⟨rfl, hbZ⟩; have hcZ : Below w6.heap.size w6 wZ := hcS.trans (hbZ.mono hcS.size)))
        all_goals
          go_wp2_with fail
          go_ret
          exact ⟨rfl, HB6.out.trans (hcZ.mono HB6.out.size)⟩
    · subst hff
      clear HOK6 HOK4
      have HBf := HB6
      go_wp2_with fail
      refine (alive_any _).mono ?_
      rintro x wz ⟨rfl, hbz⟩
      have HBz := hid (HBf.out.trans (hbz.mono HBf.out.size))
      clear hbz
      go_wp2
      go_ret
      exact ⟨rfl, HBz.out⟩
  · have HBf := HB6
    clear HOK6 HOK4
    go_wp2_with fail
    refine (alive_any _).mono ?_
    rintro x wz ⟨rfl, hbz⟩
    have HBz := hid (HBf.out.trans (hbz.mono HBf.out.size))
    clear hbz
    go_wp2
    go_ret
    exact ⟨rfl, HBz.out⟩

/-! ### THE ROW's STEP: WRITTEN OUT: LEAVE IT -/
set_option maxRecDepth 1000000 in
theorem lifted (os : Os) (started : os.Started) (H : Type) (enc : TypeId × Value → H) :
    ReturnsInHanded {} Try.checked os 7 .any (Rows.msgApartSpec.pre6 enc Try.prog Try.f7 Rows.msgApartRow.domain false) (Rows.msgApartSpec.post enc Try.prog Try.f7 false true false false) := by
  refine returnsInHanded_of_change (C := Try.checked) own started (by kernel_rfl) Try.func7
    (ChangeSpec.witness6 (enc := enc) (C := Try.checked) false ⟨#[], #[.agg #[.int .i64 0, .int .u64 0, .int .u64 0, .int .u64 0, .int .u64 0, .int .u64 0, .int .u64 0, .int .i64 0, .int .u64 0, .slice none 0 0, .int .i64 0, .slice none 0 0], .agg #[.int .i64 0, .int .u64 0, .int .u64 0, .int .u64 0, .int .u64 0, .int .u64 0, .int .u64 0, .int .i64 0, .int .u64 0, .slice none 0 0, .int .i64 0, .slice none 0 0]], []⟩ 8 (by kernel_rfl) (by kernel_rfl) (by kernel_rfl) (by kernel_rfl)) ?_
  intro W base args ds gs before hval0 hW hcnd _
  have hval : ∀ (j : Nat) t v, Try.f7.params[j]? = some t → args[j]? = some v → Value.okWide Try.prog W .any base t v := hval0
  have hW' := hW
  obtain ⟨p, q, hA0, hV, rfl, hfz, hnd⟩ := hW
  have hA : DataW.TrodAll enc Try.prog W 0 (fun _ => true) true Try.f7.params.toList args.toList ds p := hA0
  rw [Try.params7] at hA hval
  obtain ⟨v0, vs0, d0, ds0, p0, q0, hargs, rfl, rfl, h0, r0⟩ := trodAll_cons hA
  obtain ⟨v1, vs1, d1, ds1, p1, q1, rfl, rfl, rfl, h1, r1⟩ := trodAll_cons r0
  obtain ⟨rfl, rfl, rfl⟩ := trodAll_nil r1
  obtain rfl : args = #[v0, v1] := by cases args; simp_all
  obtain ⟨rfl, rfl⟩ := trodVars_none hV
  have k0 := h0
  have lt0 : ∀ x ∈ p0, x.block < W.heap.size := by obtain ⟨m, hm⟩ := k0; exact DataW.trod_lt m _ _ _ hm
  obtain ⟨m0, s0, t0, rfl, hr0, hs0, hf0⟩ := msg_open (hval 0 27 v0 rfl rfl) h0
  have k1 := h1
  have lt1 : ∀ x ∈ p1, x.block < W.heap.size := by obtain ⟨m, hm⟩ := k1; exact DataW.trod_lt m _ _ _ hm
  obtain ⟨m1, s1, t1, rfl, hr1, hs1, hf1⟩ := msg_open (hval 1 27 v1 rfl rfl) h1
  clear hA0 hval0
  refine (walk m0 s0 t0 m1 s1 t1 W hr0 hs0 hf0 hr1 hs1 hf1).mono fun e W' ⟨he, bel⟩ => ?_
  subst he
  exact ⟨_, rfl, _, _, _, [], _, [], hW', trodAll_mk1 (shut_bool Try.underlying4 _), (trodAll_cons_mk (Below.trod laidOut (by kernel_rfl) (of_decide_eq_true (by kernel_rfl)) k0 bel lt0) (trodAll_cons_mk (Below.trod laidOut (by kernel_rfl) (of_decide_eq_true (by kernel_rfl)) k1 bel lt1) trodAll_mk0)), rfl, bel.frame _, fun h => by cases h⟩

theorem over : Rows.msgApartRow.holds Try.pinned (OpenSpec.ofChange Rows.msgApartSpec) :=
  OpenClaim.holds_of_wide 7 Try.f7 rfl rfl rfl rfl rfl rfl rfl ⟨rfl, rfl, rfl, rfl, rfl⟩ rfl rfl rfl rfl rfl (by kernel_rfl) Try.func7 (by kernel_rfl)
    (of_decide_eq_true (by kernel_rfl)) (by unfold Func.isWrapper; first | (rw [if_pos (by decide +kernel)]; kernel_rfl) | (rw [if_neg (by decide +kernel)]; exact ⟨rfl, rfl⟩))
    (fun os started H enc _ => lifted os started H enc)

/-- ████ THE STATEMENT ████ -/
theorem proved : Rows.MsgApartSaid := over
#print axioms proved
end Go.Proofs.Ytlcfjhlchpeedaa.msgApart
