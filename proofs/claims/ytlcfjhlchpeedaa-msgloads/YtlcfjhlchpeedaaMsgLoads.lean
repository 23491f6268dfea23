/-
  Proved: any message has the load and the bytes that the document says, or is refused, may be where the document says so, and is the same as another where the document says so: MsgLoads hands back true for whatever two messages.
-/
import Derived.Test.YtlcfjhlchpeedaaRows
import Derived.Test.YtlcfjhlchpeedaaOuts
import Derived.Test.YtlcfjhlchpeedaaRSames
import Derived.Test.YtlcfjhlchpeedaaArgs
import Derived.Test.YtlcfjhlchpeedaaAlive
import Derived.Deep.RegionHeld
import Derived.WalkKit
import Derived.ProofKit
import Derived.OpenShut
import Derived.ShutString
import Derived.ChangeOld
import Derived.Below
namespace Go.Proofs.Ytlcfjhlchpeedaa.msgLoads
open Go.ChangeShapes Go.WideShapes Go.ChangeAt Go.RowKit
open Go.ChangeMaps (open_string shut_string)
set_option linter.unusedVariables false

theorem own : ownKnob Try.prog.godebug = none := by kernel_rfl
theorem laidOut : laidOutB Try.prog = true := by kernel_rfl

/-! ### The walk -/
open M in
set_option maxRecDepth 1000000 in
set_option maxHeartbeats 8000000 in
theorem walk (m0 : Mg) (p0 q0 : Sl) (m1 : Mg) (p1 q1 : Sl) (w : World) (hp0 : Reads .i64 w p0.a p0.l p0.c m0.pr) (hq0 : Reads .i64 w q0.a q0.l q0.c m0.li) (hf0 : Fits m0) (hp1 : Reads .i64 w p1.a p1.l p1.c m1.pr) (hq1 : Reads .i64 w q1.a q1.l q1.c m1.li) (hf1 : Fits m1) :
    Calls Try.prog 3 #[.agg (MV m0 p0 q0), .agg (MV m1 p1 q1)] w fun e w' => e = .returned (.bool true) ∧ Below w.heap.size w w' := by
  have hbx : Below w.heap.size w ((w.alloc (.cells (MV m0 p0 q0) 27)).alloc (.cells (MV m1 p1 q1) 27)) := by go_grown
  have hx0 : ((w.alloc (.cells (MV m0 p0 q0) 27)).alloc (.cells (MV m1 p1 q1) 27)).heap[w.heap.size]? = some (.cells (MV m0 p0 q0) 27) := (Below.heap_alloc _ _ _ (by simp)).trans (heap_alloc_new w _)
  have hx1 : ((w.alloc (.cells (MV m0 p0 q0) 27)).alloc (.cells (MV m1 p1 q1) 27)).heap[w.heap.size + 1]? = some (.cells (MV m1 p1 q1) 27) := by
    have h1 := heap_alloc_new (w.alloc (.cells (MV m0 p0 q0) 27)) (.cells (MV m1 p1 q1) 27)
    have e : (w.alloc (.cells (MV m0 p0 q0) 27)).heap.size = w.heap.size + 1 := by simp
    rw [e] at h1
    exact h1
  have HBX := hid hbx
  have HX0 := hid hx0
  have HX1 := hid hx1
  clear hbx hx0 hx1
  by_cases hfar : 1000 < q0.l ∨ 1000 < p0.l
  · have hF := far_any m0 p0 q0 ((w.alloc (.cells (MV m0 p0 q0) 27)).alloc (.cells (MV m1 p1 q1) 27))
    rw [decide_eq_true hfar] at hF
    clear hp0 hq0 hf0 hp1 hq1 hf1 hfar
    unfold MV at hF HBX ⊢
    go_enter Try.func3, Try.ntmps3
    go_wp2_with fail
    refine hF.mono ?_
    rintro x w1 ⟨rfl, hb1⟩
    have HBf := hid (HBX.out.trans (hb1.mono (by go_size)))
    clear hF hb1
    go_wp2_with fail
    refine (alive_any _).mono ?_
    rintro x wz ⟨rfl, hbz⟩
    have HBz := hid (HBf.out.trans (hbz.mono HBf.out.size))
    clear hbz
    go_wp2
    go_ret
    exact ⟨rfl, HBz.out⟩
  have hF := far_any m0 p0 q0 ((w.alloc (.cells (MV m0 p0 q0) 27)).alloc (.cells (MV m1 p1 q1) 27))
  rw [decide_eq_false hfar] at hF
  by_cases hfar1 : 1000 < q1.l ∨ 1000 < p1.l
  · have HF1 : Hid (∀ W, Calls Try.prog 8 #[.agg (MV m1 p1 q1)] W fun e w' => e = .returned (.bool true) ∧ Below W.heap.size W w') := fun W => by
      have := far_any m1 p1 q1 W
      rwa [decide_eq_true hfar1] at this
    clear hp0 hq0 hf0 hp1 hq1 hf1 hfar hfar1
    unfold MV at hF HBX HF1 ⊢
    go_enter Try.func3, Try.ntmps3
    go_wp2_with fail
    refine hF.mono ?_
    rintro x w1 ⟨rfl, hb1⟩
    have HB1 := hid (HBX.out.trans (hb1.mono (by go_size)))
    obtain ⟨c0, c1, c2, c3, c4, c5, c6, c7, c8, c9, c10, c11⟩ := MV_cells (block_below HX1.out hb1)
    clear hF hb1
    go_wp2_with fail
    refine (HF1.out _).mono ?_
    rintro x w2 ⟨rfl, hb2⟩
    have HBf := hid (HB1.out.trans (hb2.mono HB1.out.size))
    clear hb2 c0 c1 c2 c3 c4 c5 c6 c7 c8 c9 c10 c11
    go_wp2_with fail
    refine (alive_any _).mono ?_
    rintro x wz ⟨rfl, hbz⟩
    have HBz := hid (HBf.out.trans (hbz.mono HBf.out.size))
    clear hbz
    go_wp2
    go_ret
    exact ⟨rfl, HBz.out⟩
  have HF1 : Hid (∀ W, Calls Try.prog 8 #[.agg (MV m1 p1 q1)] W fun e w' => e = .returned (.bool false) ∧ Below W.heap.size W w') := fun W => by
    have := far_any m1 p1 q1 W
    rwa [decide_eq_false hfar1] at this
  have hin0 : MsgIn w m0 p0 q0 := ⟨hp0, hq0, by omega, by omega⟩
  have hin1 : MsgIn w m1 p1 q1 := ⟨hp1, hq1, by omega, by omega⟩
  have HIN : Hid (∀ W, Below w.heap.size w W → MsgIn W m0 p0 q0 ∧ MsgIn W m1 p1 q1) := fun W hb => ⟨hin0.below hb, hin1.below hb⟩
  have HFT0 := hid hf0
  have HFT1 := hid hf1
  clear hp0 hq0 hf0 hp1 hq1 hf1 hfar hfar1 hin0 hin1
  unfold MV at hF HBX HF1 ⊢
  go_enter Try.func3, Try.ntmps3
  go_wp2_with fail
  refine hF.mono ?_
  rintro x w1 ⟨rfl, hb1⟩
  have HB1 := hid (HBX.out.trans (hb1.mono (by go_size)))
  have HA1 := hid (block_below HX0.out hb1)
  have HD1 := hid (block_below HX1.out hb1)
  obtain ⟨c0, c1, c2, c3, c4, c5, c6, c7, c8, c9, c10, c11⟩ := MV_cells HD1.out
  clear hF hb1 HX0 HX1 HBX
  go_wp2_with fail
  refine (HF1.out _).mono ?_
  rintro x w2 ⟨rfl, hb2⟩
  have HB2 := hid (HB1.out.trans (hb2.mono HB1.out.size))
  have HA2 := hid (block_below HA1.out hb2)
  have HD2 := hid (block_below HD1.out hb2)
  clear hb2 c0 c1 c2 c3 c4 c5 c6 c7 c8 c9 c10 c11 HA1 HD1 HB1 HF1
  obtain ⟨Z, Y, E, HZ⟩ : ∃ Z Y E, Hid (Outs m0 Z Y E) := ⟨_, _, _, outs_any m0⟩
  have HZB := hid HZ.out.bytes
  obtain ⟨c0, c1, c2, c3, c4, c5, c6, c7, c8, c9, c10, c11⟩ := MV_cells HA2.out
  have hT := theirs_any m0 p0 q0 w2
  unfold MV at hT
  go_wp2_with fail
  refine hT.mono ?_
  rintro x w3 ⟨rfl, hb3⟩
  have HB3 := hid (HB2.out.trans (hb3.mono HB2.out.size))
  have HA3 := hid (block_below HA2.out hb3)
  have HD3 := hid (block_below HD2.out hb3)
  clear hT hb3 c0 c1 c2 c3 c4 c5 c6 c7 c8 c9 c10 c11 HA2 HD2 HB2
  have hL := load_any m0 p0 q0 w3 (HIN.out w3 HB3.out).1 HFT0.out
  unfold MV at hL
  go_wp2_with fail
  refine hL.mono ?_
  intro x w4 hO
  obtain ⟨a4, l4, k4, rfl, hq4, hb4⟩ := load_outs HZ.out hO
  have HB4 := hid (HB3.out.trans (hb4.mono HB3.out.size))
  have HA4 := hid (block_below HA3.out hb4)
  have HD4 := hid (block_below HD3.out hb4)
  have HQ4 := hid hq4
  clear hO hL hq4 hb4 HA3 HD3 HB3
  obtain ⟨c0, c1, c2, c3, c4, c5, c6, c7, c8, c9, c10, c11⟩ := MV_cells HA4.out
  have hL := rload_any m0 p0 q0 w4 (HIN.out w4 HB4.out).1 HFT0.out
  unfold MV at hL
  go_wp2_with fail
  refine hL.mono ?_
  intro x w5 hO
  obtain ⟨a5, l5, k5, rfl, hq5, hb5⟩ := load_outs HZ.out hO
  have HB5 := hid (HB4.out.trans (hb5.mono HB4.out.size))
  have HA5 := hid (block_below HA4.out hb5)
  have HD5 := hid (block_below HD4.out hb5)
  have HQ4n := hid (HQ4.out.below hb5)
  replace HQ4 := HQ4n
  clear HQ4n
  have HQ5 := hid hq5
  clear hO hL hq5 hb5 HA4 HD4 HB4 c0 c1 c2 c3 c4 c5 c6 c7 c8 c9 c10 c11
  obtain ⟨c0, c1, c2, c3, c4, c5, c6, c7, c8, c9, c10, c11⟩ := MV_cells HA5.out
  have hT := theirs_any m0 p0 q0 w5
  unfold MV at hT
  go_wp2_with fail
  refine hT.mono ?_
  rintro x w6 ⟨rfl, hb6⟩
  have HB6 := hid (HB5.out.trans (hb6.mono HB5.out.size))
  have HA6 := hid (block_below HA5.out hb6)
  have HD6 := hid (block_below HD5.out hb6)
  have HQ4n := hid (HQ4.out.below hb6)
  replace HQ4 := HQ4n
  clear HQ4n
  have HQ5n := hid (HQ5.out.below hb6)
  replace HQ5 := HQ5n
  clear HQ5n
  clear hT hb6 c0 c1 c2 c3 c4 c5 c6 c7 c8 c9 c10 c11 HA5 HD5 HB5
  have hL := laym_any m0 p0 q0 w6 (HIN.out w6 HB6.out).1 HFT0.out
  unfold MV at hL
  go_wp2_with fail
  refine hL.mono ?_
  intro x w7 hO
  obtain ⟨a7, l7, k7, rfl, hq7, hb7⟩ := lay_outs HZ.out hO
  have HB7 := hid (HB6.out.trans (hb7.mono HB6.out.size))
  have HA7 := hid (block_below HA6.out hb7)
  have HD7 := hid (block_below HD6.out hb7)
  have HQ4n := hid (HQ4.out.below hb7)
  replace HQ4 := HQ4n
  clear HQ4n
  have HQ5n := hid (HQ5.out.below hb7)
  replace HQ5 := HQ5n
  clear HQ5n
  have HQ7 := hid hq7
  clear hO hL hq7 hb7 HA6 HD6 HB6
  obtain ⟨c0, c1, c2, c3, c4, c5, c6, c7, c8, c9, c10, c11⟩ := MV_cells HA7.out
  have hL := rlaym_any m0 p0 q0 w7 (HIN.out w7 HB7.out).1 HFT0.out
  unfold MV at hL
  go_wp2_with fail
  refine hL.mono ?_
  intro x w8 hO
  obtain ⟨a8, l8, k8, rfl, hq8, hb8⟩ := lay_outs HZ.out hO
  have HB8 := hid (HB7.out.trans (hb8.mono HB7.out.size))
  have HA8 := hid (block_below HA7.out hb8)
  have HD8 := hid (block_below HD7.out hb8)
  have HQ4n := hid (HQ4.out.below hb8)
  replace HQ4 := HQ4n
  clear HQ4n
  have HQ5n := hid (HQ5.out.below hb8)
  replace HQ5 := HQ5n
  clear HQ5n
  have HQ7n := hid (HQ7.out.below hb8)
  replace HQ7 := HQ7n
  clear HQ7n
  have HQ8 := hid hq8
  clear hO hL hq8 hb8 HA7 HD7 HB7 c0 c1 c2 c3 c4 c5 c6 c7 c8 c9 c10 c11
  have hE1 := str_same HZB.out.1
  have hE2 := str_same HZB.out.2
  have HSS : Hid (∀ W, Below w8.heap.size w8 W → W.cell? ⟨w.heap.size, 0, none⟩ = some (.int .i64 m0.kind) ∧ W.cell? ⟨w.heap.size, 1, none⟩ = some (.int .u64 m0.st) ∧ W.cell? ⟨w.heap.size, 2, none⟩ = some (.int .u64 m0.se) ∧ W.cell? ⟨w.heap.size, 3, none⟩ = some (.int .u64 m0.ate) ∧ W.cell? ⟨w.heap.size, 4, none⟩ = some (.int .u64 m0.inc) ∧ W.cell? ⟨w.heap.size, 5, none⟩ = some (.int .u64 m0.n) ∧ W.cell? ⟨w.heap.size, 6, none⟩ = some (.int .u64 m0.cnt) ∧ W.cell? ⟨w.heap.size, 7, none⟩ = some (.int .i64 m0.why) ∧ W.cell? ⟨w.heap.size, 8, none⟩ = some (.int .u64 m0.seed) ∧ W.cell? ⟨w.heap.size, 9, none⟩ = some (.slice p0.a p0.l p0.c) ∧ W.cell? ⟨w.heap.size, 10, none⟩ = some (.int .i64 m0.most) ∧ W.cell? ⟨w.heap.size, 11, none⟩ = some (.slice q0.a q0.l q0.c) ∧ W.cell? ⟨(w.heap.size + 1), 0, none⟩ = some (.int .i64 m1.kind) ∧ W.cell? ⟨(w.heap.size + 1), 1, none⟩ = some (.int .u64 m1.st) ∧ W.cell? ⟨(w.heap.size + 1), 2, none⟩ = some (.int .u64 m1.se) ∧ W.cell? ⟨(w.heap.size + 1), 3, none⟩ = some (.int .u64 m1.ate) ∧ W.cell? ⟨(w.heap.size + 1), 4, none⟩ = some (.int .u64 m1.inc) ∧ W.cell? ⟨(w.heap.size + 1), 5, none⟩ = some (.int .u64 m1.n) ∧ W.cell? ⟨(w.heap.size + 1), 6, none⟩ = some (.int .u64 m1.cnt) ∧ W.cell? ⟨(w.heap.size + 1), 7, none⟩ = some (.int .i64 m1.why) ∧ W.cell? ⟨(w.heap.size + 1), 8, none⟩ = some (.int .u64 m1.seed) ∧ W.cell? ⟨(w.heap.size + 1), 9, none⟩ = some (.slice p1.a p1.l p1.c) ∧ W.cell? ⟨(w.heap.size + 1), 10, none⟩ = some (.int .i64 m1.most) ∧ W.cell? ⟨(w.heap.size + 1), 11, none⟩ = some (.slice q1.a q1.l q1.c) ∧ (convert 30 9 (.slice a4 l4 k4)).run Try.prog W = .ok (.string (strOfNums Z)) W ∧ (convert 30 9 (.slice a5 l5 k5)).run Try.prog W = .ok (.string (strOfNums Z)) W ∧ (convert 30 9 (.slice a7 l7 k7)).run Try.prog W = .ok (.string (strOfNums Y)) W ∧ (convert 30 9 (.slice a8 l8 k8)).run Try.prog W = .ok (.string (strOfNums Y)) W) := fun W hb => by
    obtain ⟨c0, c1, c2, c3, c4, c5, c6, c7, c8, c9, c10, c11⟩ := MV_cells (block_below HA8.out hb)
    obtain ⟨d0, d1, d2, d3, d4, d5, d6, d7, d8, d9, d10, d11⟩ := MV_cells (block_below HD8.out hb)
    exact ⟨c0, c1, c2, c3, c4, c5, c6, c7, c8, c9, c10, c11, d0, d1, d2, d3, d4, d5, d6, d7, d8, d9, d10, d11, (HQ4.out.below hb).conv (P := Try.prog) 30 9 5 Try.underlying30 Try.underlying5 Try.underlying9, (HQ5.out.below hb).conv (P := Try.prog) 30 9 5 Try.underlying30 Try.underlying5 Try.underlying9, (HQ7.out.below hb).conv (P := Try.prog) 30 9 5 Try.underlying30 Try.underlying5 Try.underlying9, (HQ8.out.below hb).conv (P := Try.prog) 30 9 5 Try.underlying30 Try.underlying5 Try.underlying9⟩
  have HI0 : Hid (∀ W, Below w8.heap.size w8 W → MsgIn W m0 p0 q0 ∧ MsgIn W m1 p1 q1) := fun W hb => HIN.out W (HB8.out.trans (hb.mono HB8.out.size))
  obtain ⟨bb, HMy, HRM⟩ : ∃ bb, Hid (∀ W, Below w8.heap.size w8 W → Calls Try.prog 15 #[.agg (MV m0 p0 q0)] W fun x w' => x = .returned (.bool bb) ∧ Below W.heap.size W w') ∧ Hid (∀ W, Below w8.heap.size w8 W → Calls Try.prog 16 #[.agg (MV m0 p0 q0)] W fun x w' => x = .returned (.bool bb) ∧ Below W.heap.size W w') :=
    ⟨mayA m0, fun W hb => may_any m0 p0 q0 W (HI0.out W hb).1, fun W hb => by rw [may_eq]; exact rmay_any m0 p0 q0 W (HI0.out W hb).1⟩
  obtain ⟨cc, HS1, HS2⟩ : ∃ cc, Hid (∀ W, Below w8.heap.size w8 W → Calls Try.prog 17 #[.agg (MV m0 p0 q0), .agg (MV m1 p1 q1)] W fun x w' => x = .returned (.bool cc) ∧ Below W.heap.size W w') ∧ Hid (∀ W, Below w8.heap.size w8 W → Calls Try.prog 18 #[.agg (MV m0 p0 q0), .agg (MV m1 p1 q1)] W fun x w' => x = .returned (.bool cc) ∧ Below W.heap.size W w') :=
    ⟨sameB m0 m1, fun W hb => same_any m0 m1 p0 q0 p1 q1 W (HI0.out W hb).1 (HI0.out W hb).2, fun W hb => rsame_any m0 m1 p0 q0 p1 q1 W (HI0.out W hb).1 (HI0.out W hb).2⟩
  have HS3 : Hid (∀ W, Below w8.heap.size w8 W → Calls Try.prog 17 #[.agg (MV m0 p0 q0), .agg (MV m0 p0 q0)] W fun x w' => x = .returned (.bool true) ∧ Below W.heap.size W w') := fun W hb => by
    have := same_any m0 m0 p0 q0 p0 q0 W (HI0.out W hb).1 (HI0.out W hb).1
    rwa [(sameB_iff m0 m0).2 rfl] at this
  unfold MV at HRM HS2
  have hcD : Below w8.heap.size w8 w8.drew := Below.drew (Below.refl _ _)
  clear HA8 HD8 HQ4 HQ5 HQ7 HQ8 HI0 HIN HZ HZB HFT0 HFT1
  go_wp2_with fail
  go_region_held (fun W : World => W.cell? ⟨w.heap.size, 0, none⟩ = some (.int .i64 m0.kind) ∧ W.cell? ⟨w.heap.size, 1, none⟩ = some (.int .u64 m0.st) ∧ W.cell? ⟨w.heap.size, 2, none⟩ = some (.int .u64 m0.se) ∧ W.cell? ⟨w.heap.size, 3, none⟩ = some (.int .u64 m0.ate) ∧ W.cell? ⟨w.heap.size, 4, none⟩ = some (.int .u64 m0.inc) ∧ W.cell? ⟨w.heap.size, 5, none⟩ = some (.int .u64 m0.n) ∧ W.cell? ⟨w.heap.size, 6, none⟩ = some (.int .u64 m0.cnt) ∧ W.cell? ⟨w.heap.size, 7, none⟩ = some (.int .i64 m0.why) ∧ W.cell? ⟨w.heap.size, 8, none⟩ = some (.int .u64 m0.seed) ∧ W.cell? ⟨w.heap.size, 9, none⟩ = some (.slice p0.a p0.l p0.c) ∧ W.cell? ⟨w.heap.size, 10, none⟩ = some (.int .i64 m0.most) ∧ W.cell? ⟨w.heap.size, 11, none⟩ = some (.slice q0.a q0.l q0.c) ∧ W.cell? ⟨(w.heap.size + 1), 0, none⟩ = some (.int .i64 m1.kind) ∧ W.cell? ⟨(w.heap.size + 1), 1, none⟩ = some (.int .u64 m1.st) ∧ W.cell? ⟨(w.heap.size + 1), 2, none⟩ = some (.int .u64 m1.se) ∧ W.cell? ⟨(w.heap.size + 1), 3, none⟩ = some (.int .u64 m1.ate) ∧ W.cell? ⟨(w.heap.size + 1), 4, none⟩ = some (.int .u64 m1.inc) ∧ W.cell? ⟨(w.heap.size + 1), 5, none⟩ = some (.int .u64 m1.n) ∧ W.cell? ⟨(w.heap.size + 1), 6, none⟩ = some (.int .u64 m1.cnt) ∧ W.cell? ⟨(w.heap.size + 1), 7, none⟩ = some (.int .i64 m1.why) ∧ W.cell? ⟨(w.heap.size + 1), 8, none⟩ = some (.int .u64 m1.seed) ∧ W.cell? ⟨(w.heap.size + 1), 9, none⟩ = some (.slice p1.a p1.l p1.c) ∧ W.cell? ⟨(w.heap.size + 1), 10, none⟩ = some (.int .i64 m1.most) ∧ W.cell? ⟨(w.heap.size + 1), 11, none⟩ = some (.slice q1.a q1.l q1.c) ∧ (convert 30 9 (.slice a4 l4 k4)).run Try.prog W = .ok (.string (strOfNums Z)) W ∧ (convert 30 9 (.slice a5 l5 k5)).run Try.prog W = .ok (.string (strOfNums Z)) W ∧ (convert 30 9 (.slice a7 l7 k7)).run Try.prog W = .ok (.string (strOfNums Y)) W ∧ (convert 30 9 (.slice a8 l8 k8)).run Try.prog W = .ok (.string (strOfNums Y)) W) (first | (with_reducible exact HSS.out _ hcD)) (first | (go_at_call_of 11 (m0.kind); refine (theirs_any m0 p0 q0 _).mono ?_; rintro x wA ⟨rfl, hbA⟩; replace hcD := hcD.trans (hbA.mono hcD.size); clear hbA) | (go_at_call_of 11 (m1.kind); refine (theirs_any m1 p1 q1 _).mono ?_; rintro x wA ⟨rfl, hbA⟩; replace hcD := hcD.trans (hbA.mono hcD.size); clear hbA) | (go_at_call 15; with_reducible refine (HMy.out _ hcD).mono ?_; rintro x wA ⟨rfl, hbA⟩; replace hcD := hcD.trans (hbA.mono hcD.size); clear hbA) | (go_at_call 16; with_reducible refine (HRM.out _ hcD).mono ?_; rintro x wA ⟨rfl, hbA⟩; replace hcD := hcD.trans (hbA.mono hcD.size); clear hbA) | (go_at_call_of 17 (m1); with_reducible refine (HS1.out _ hcD).mono ?_; rintro x wA ⟨rfl, hbA⟩; replace hcD := hcD.trans (hbA.mono hcD.size); clear hbA) | (go_at_call 18; with_reducible refine (HS2.out _ hcD).mono ?_; rintro x wA ⟨rfl, hbA⟩; replace hcD := hcD.trans (hbA.mono hcD.size); clear hbA) | (go_at_call 17; with_reducible refine (HS3.out _ hcD).mono ?_; rintro x wA ⟨rfl, hbA⟩; replace hcD := hcD.trans (hbA.mono hcD.size); clear hbA) | (go_at_call 9; refine (alive_any _).mono ?_; rintro x wA ⟨rfl, hbA⟩; replace hcD := hcD.trans (hbA.mono hcD.size); clear hbA))
  all_goals
    go_wp2_with fail
    go_ret
    exact ⟨rfl, HB8.out.trans (hcD.mono HB8.out.size)⟩

/-! ### THE ROW's STEP: WRITTEN OUT: LEAVE IT -/
set_option maxRecDepth 1000000 in
theorem lifted (os : Os) (started : os.Started) (H : Type) (enc : TypeId × Value → H) :
    ReturnsInHanded {} Try.checked os 3 .any (Rows.msgLoadsSpec.pre6 enc Try.prog Try.f3 Rows.msgLoadsRow.domain false) (Rows.msgLoadsSpec.post enc Try.prog Try.f3 false true false false) := by
  refine returnsInHanded_of_change (C := Try.checked) own started (by kernel_rfl) Try.func3
    (ChangeSpec.witness6 (enc := enc) (C := Try.checked) false ⟨#[], #[.agg #[.int .i64 0, .int .u64 0, .int .u64 0, .int .u64 0, .int .u64 0, .int .u64 0, .int .u64 0, .int .i64 0, .int .u64 0, .slice none 0 0, .int .i64 0, .slice none 0 0], .agg #[.int .i64 0, .int .u64 0, .int .u64 0, .int .u64 0, .int .u64 0, .int .u64 0, .int .u64 0, .int .i64 0, .int .u64 0, .slice none 0 0, .int .i64 0, .slice none 0 0]], []⟩ 8 (by kernel_rfl) (by kernel_rfl) (by kernel_rfl) (by kernel_rfl)) ?_
  intro W base args ds gs before hval0 hW hcnd _
  have hval : ∀ (j : Nat) t v, Try.f3.params[j]? = some t → args[j]? = some v → Value.okWide Try.prog W .any base t v := hval0
  have hW' := hW
  obtain ⟨p, q, hA0, hV, rfl, hfz, hnd⟩ := hW
  have hA : DataW.TrodAll enc Try.prog W 0 (fun _ => true) true Try.f3.params.toList args.toList ds p := hA0
  rw [Try.params3] at hA hval
  obtain ⟨v0, vs0, d0, ds0, p0, q0, hargs, rfl, rfl, h0, r0⟩ := trodAll_cons hA
  obtain ⟨v1, vs1, d1, ds1, p1, q1, rfl, rfl, rfl, h1, r1⟩ := trodAll_cons r0
  obtain ⟨rfl, rfl, rfl⟩ := trodAll_nil r1
  obtain rfl : args = #[v0, v1] := by cases args; simp_all
  obtain ⟨rfl, rfl⟩ := trodVars_none hV
  have k0 := h0
  have lt0 : ∀ x ∈ p0, x.block < W.heap.size := by obtain ⟨m, hm⟩ := k0; exact DataW.trod_lt m _ _ _ hm
  obtain ⟨m0, s0, t0, rfl, hr0, hs0, hf0⟩ := msg_open (hval 0 27 v0 rfl rfl) h0
  have k1 := h1
  have lt1 : ∀ x ∈ p1, x.block < W.heap.size := by obtain ⟨m, hm⟩ := k1; exact DataW.trod_lt m _ _ _ hm
  obtain ⟨m1, s1, t1, rfl, hr1, hs1, hf1⟩ := msg_open (hval 1 27 v1 rfl rfl) h1
  clear hA0 hval0
  refine (walk m0 s0 t0 m1 s1 t1 W hr0 hs0 hf0 hr1 hs1 hf1).mono fun e W' ⟨he, bel⟩ => ?_
  subst he
  exact ⟨_, rfl, _, _, _, [], _, [], hW', trodAll_mk1 (shut_bool Try.underlying4 _), (trodAll_cons_mk (Below.trod laidOut (by kernel_rfl) (of_decide_eq_true (by kernel_rfl)) k0 bel lt0) (trodAll_cons_mk (Below.trod laidOut (by kernel_rfl) (of_decide_eq_true (by kernel_rfl)) k1 bel lt1) trodAll_mk0)), rfl, bel.frame _, fun h => by cases h⟩

theorem over : Rows.msgLoadsRow.holds Try.pinned (OpenSpec.ofChange Rows.msgLoadsSpec) :=
  OpenClaim.holds_of_wide 3 Try.f3 rfl rfl rfl rfl rfl rfl rfl ⟨rfl, rfl, rfl, rfl, rfl⟩ rfl rfl rfl rfl rfl (by kernel_rfl) Try.func3 (by kernel_rfl)
    (of_decide_eq_true (by kernel_rfl)) (by unfold Func.isWrapper; first | (rw [if_pos (by decide +kernel)]; kernel_rfl) | (rw [if_neg (by decide +kernel)]; exact ⟨rfl, rfl⟩))
    (fun os started H enc _ => lifted os started H enc)

/-- ████ THE STATEMENT ████ -/
theorem proved : Rows.MsgLoadsSaid := over
#print axioms proved
end Go.Proofs.Ytlcfjhlchpeedaa.msgLoads
