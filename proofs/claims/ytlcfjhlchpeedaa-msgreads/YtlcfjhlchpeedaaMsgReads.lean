/-
  Proved: the message of any load, and of any bytes, is the document's, or refused: MsgReads hands back true for whatever bytes.
-/
import Derived.Test.YtlcfjhlchpeedaaRows
import Derived.Test.YtlcfjhlchpeedaaRBytes
import Derived.Test.YtlcfjhlchpeedaaRSames
import Derived.Deep.RegionHeld
import Derived.Deep.RegionWith
import Derived.WalkKit
import Derived.ProofKit
import Derived.OpenShut
import Derived.ShutString
import Derived.ChangeOld
import Derived.Below
namespace Go.Proofs.Ytlcfjhlchpeedaa.msgReads
open Go.ChangeShapes Go.WideShapes Go.ChangeAt Go.RowKit
open Go.ChangeMaps (open_string shut_string)
set_option linter.unusedVariables false

theorem own : ownKnob Try.prog.godebug = none := by kernel_rfl
theorem laidOut : laidOutB Try.prog = true := by kernel_rfl

/-- WHAT THE WALK IS TOLD OF A SLICE OF INTEGERS THAT CAME IN: it is nil; or it leads to a row of 'cap' cells, the numbers 'zs' (the first 'len' are its elements, the rest its spare room), each fitting its kind. -/
def IsRow (k : IntKind) (w : World) (a : Option Addr) (len cap : Nat) (zs : List Int) : Prop :=
  (a = none ∧ len = 0 ∧ cap = 0 ∧ zs = []) ∨
  ∃ x, a = some x ∧ len ≤ cap ∧ cap ≤ maxLen ∧ zs.length = cap ∧ (∀ i, i < zs.length → w.cell? (x.add i) = some (.int k (zs.getD i 0))) ∧ ∀ n ∈ zs, (Lit.int k n).wf = true

/-! ### The walk -/
open M in
set_option maxRecDepth 1000000 in
set_option maxHeartbeats 8000000 in
theorem walk (a0 : Option Addr) (len0 cap0 : Nat) (z0 : List Int) (a1 : Option Addr) (len1 cap1 : Nat) (z1 : List Int) (w : World) (w0 : IsRow .u8 w a0 len0 cap0 z0) (w1 : IsRow .u8 w a1 len1 cap1 z1) :
    Calls Try.prog 4 #[.slice a0 len0 cap0, .slice a1 len1 cap1] w fun e w' => e = .returned (.bool true) ∧ Below w.heap.size w w' := by
  obtain ⟨hr0, hw0⟩ := Reads.row (show IsRow' .u8 w a0 len0 cap0 z0 from w0)
  obtain ⟨hr1, hw1⟩ := Reads.row (show IsRow' .u8 w a1 len1 cap1 z1 from w1)
  have hz0 := bytes_of_wf hw0
  have hz1 := bytes_of_wf hw1
  generalize z0.take len0 = zs0 at *
  generalize z1.take len1 = zs1 at *
  clear w0 w1 hw0 hw1
  by_cases hl0 : 2000 < len0
  · clear hr0 hr1 hz0 hz1
    go_enter Try.func4, Try.ntmps4
    go_wp2_with fail
    refine (alive_any w).mono ?_
    rintro x w1 ⟨rfl, hb1⟩
    go_wp2
    go_ret
    exact ⟨rfl, hb1⟩
  have hd0 : decide ((2000 : Int) < (len0 : Int)) = false := by simp; omega
  by_cases hl1 : 2500 < len1
  · clear hr0 hr1 hz0 hz1
    go_enter Try.func4, Try.ntmps4
    go_wp2_with fail
    refine (alive_any w).mono ?_
    rintro x w1 ⟨rfl, hb1⟩
    go_wp2
    go_ret
    exact ⟨rfl, hb1⟩
  have HR0 : Hid (∀ W, Below w.heap.size w W → Reads .u8 W a0 len0 cap0 zs0) := fun W hb => hr0.below hb
  have HR1 : Hid (∀ W, Below w.heap.size w W → Reads .u8 W a1 len1 cap1 zs1) := fun W hb => hr1.below hb
  have H1 : Hid (∀ W, Below w.heap.size w W → Calls Try.prog 19 #[.slice a0 len0 cap0] W fun x w' => ReadOut (readF zs0) W x w') := fun W hb => read_any a0 len0 cap0 zs0 W (hr0.below hb) hz0 (by omega)
  have H2 : Hid (∀ W, Below w.heap.size w W → Calls Try.prog 20 #[.slice a0 len0 cap0] W fun x w' => ReadOut (readF zs0) W x w') := fun W hb => rread_any a0 len0 cap0 zs0 W (hr0.below hb) hz0 (by omega)
  have H3 : Hid (∀ W, Below w.heap.size w W → Calls Try.prog 21 #[.slice a1 len1 cap1] W fun x w' => ReadOut (parseM zs1) W x w') := fun W hb => parsem_any a1 len1 cap1 zs1 W (hr1.below hb) hz1 (by omega)
  have H4 : Hid (∀ W, Below w.heap.size w W → Calls Try.prog 22 #[.slice a1 len1 cap1] W fun x w' => ReadOut (parseM zs1) W x w') := fun W hb => rparsem_any a1 len1 cap1 zs1 W (hr1.below hb) hz1 (by omega)
  generalize readF zs0 = r1 at *
  generalize parseM zs1 = r2 at *
  obtain ⟨M1, g1⟩ := r1
  obtain ⟨M2, g2⟩ := r2
  unfold ReadOut MV at H1 H2 H3 H4
  simp only at H1 H2 H3 H4
  clear hr0 hr1 hz0 hz1
  · go_enter Try.func4, Try.ntmps4
    go_wp2_with fail
    refine (H1.out w (Below.refl _ _)).mono ?_
    rintro x w1 ⟨pa, qa, rfl, hin1, hb1, _⟩
    have hal1 : Below w1.heap.size w1 (w1.alloc (.cells (MV M1 pa qa) 34)) := (Below.refl _ _).alloc (Nat.le_refl _) _
    have HB1 : Hid (Below w.heap.size w (w1.alloc (.cells (MV M1 pa qa) 34))) := (hb1.trans (hal1.mono hb1.size))
    have HC1 : Hid ((w1.alloc (.cells (MV M1 pa qa) 34)).heap[w1.heap.size]? = some (.cells (MV M1 pa qa) 34)) := heap_alloc_new w1 _
    have HI1 := hid (hin1.below hal1)
    clear hin1 hb1 hal1
    unfold MV at HB1
    go_wp2_with fail
    refine (H2.out _ HB1.out).mono ?_
    rintro x w2 ⟨pb, qb, rfl, hin2, hb2, _⟩
    have hal2 : Below w2.heap.size w2 (w2.alloc (.cells (MV M1 pb qb) 27)) := (Below.refl _ _).alloc (Nat.le_refl _) _
    have HB2 : Hid (Below w.heap.size w (w2.alloc (.cells (MV M1 pb qb) 27))) := HB1.out.trans ((hb2.trans (hal2.mono hb2.size)).mono HB1.out.size)
    have HC2 : Hid ((w2.alloc (.cells (MV M1 pb qb) 27)).heap[w2.heap.size]? = some (.cells (MV M1 pb qb) 27)) := heap_alloc_new w2 _
    have HI2 := hid (hin2.below hal2)
    have HC12 := hid (block_below (block_below HC1.out hb2) hal2)
    have HI12 := hid ((HI1.out.below hb2).below hal2)
    clear hin2 hb2 hal2 HC1 HI1 HB1
    unfold MV at HB2
    go_wp2_with fail
    refine (H3.out _ HB2.out).mono ?_
    rintro x w3 ⟨pc, qc, rfl, hin3, hb3, _⟩
    have hal3 : Below w3.heap.size w3 (w3.alloc (.cells (MV M2 pc qc) 34)) := (Below.refl _ _).alloc (Nat.le_refl _) _
    have HB3 : Hid (Below w.heap.size w (w3.alloc (.cells (MV M2 pc qc) 34))) := HB2.out.trans ((hb3.trans (hal3.mono hb3.size)).mono HB2.out.size)
    have HC3 : Hid ((w3.alloc (.cells (MV M2 pc qc) 34)).heap[w3.heap.size]? = some (.cells (MV M2 pc qc) 34)) := heap_alloc_new w3 _
    have HI3 := hid (hin3.below hal3)
    have HC13 := hid (block_below (block_below HC12.out hb3) hal3)
    have HI13 := hid ((HI12.out.below hb3).below hal3)
    have HC23 := hid (block_below (block_below HC2.out hb3) hal3)
    have HI23 := hid ((HI2.out.below hb3).below hal3)
    clear hin3 hb3 hal3 HC12 HI12 HC2 HI2 HB2
    unfold MV at HB3
    go_wp2_with fail
    refine (H4.out _ HB3.out).mono ?_
    rintro x w4 ⟨pd, qd, rfl, hin4, hb4, _⟩
    have hal4 : Below w4.heap.size w4 (w4.alloc (.cells (MV M2 pd qd) 27)) := (Below.refl _ _).alloc (Nat.le_refl _) _
    have HB4 : Hid (Below w.heap.size w (w4.alloc (.cells (MV M2 pd qd) 27))) := HB3.out.trans ((hb4.trans (hal4.mono hb4.size)).mono HB3.out.size)
    have HC4 : Hid ((w4.alloc (.cells (MV M2 pd qd) 27)).heap[w4.heap.size]? = some (.cells (MV M2 pd qd) 27)) := heap_alloc_new w4 _
    have HI4 := hid (hin4.below hal4)
    have HC14 := hid (block_below (block_below HC13.out hb4) hal4)
    have HI14 := hid ((HI13.out.below hb4).below hal4)
    have HC24 := hid (block_below (block_below HC23.out hb4) hal4)
    have HI24 := hid ((HI23.out.below hb4).below hal4)
    have HC34 := hid (block_below (block_below HC3.out hb4) hal4)
    have HI34 := hid ((HI3.out.below hb4).below hal4)
    clear hin4 hb4 hal4 HC13 HI13 HC23 HI23 HC3 HI3 HB3 H1 H2 H3 H4
    have HSS : Hid (∀ W, Below (w4.alloc (.cells (MV M2 pd qd) 27)).heap.size (w4.alloc (.cells (MV M2 pd qd) 27)) W → W.cell? ⟨w1.heap.size, 0, none⟩ = some (.int .i64 M1.kind) ∧ W.cell? ⟨w1.heap.size, 1, none⟩ = some (.int .u64 M1.st) ∧ W.cell? ⟨w1.heap.size, 2, none⟩ = some (.int .u64 M1.se) ∧ W.cell? ⟨w1.heap.size, 3, none⟩ = some (.int .u64 M1.ate) ∧ W.cell? ⟨w1.heap.size, 4, none⟩ = some (.int .u64 M1.inc) ∧ W.cell? ⟨w1.heap.size, 5, none⟩ = some (.int .u64 M1.n) ∧ W.cell? ⟨w1.heap.size, 6, none⟩ = some (.int .u64 M1.cnt) ∧ W.cell? ⟨w1.heap.size, 7, none⟩ = some (.int .i64 M1.why) ∧ W.cell? ⟨w1.heap.size, 8, none⟩ = some (.int .u64 M1.seed) ∧ W.cell? ⟨w1.heap.size, 9, none⟩ = some (.slice pa.a pa.l pa.c) ∧ W.cell? ⟨w1.heap.size, 10, none⟩ = some (.int .i64 M1.most) ∧ W.cell? ⟨w1.heap.size, 11, none⟩ = some (.slice qa.a qa.l qa.c) ∧ W.cell? ⟨w2.heap.size, 0, none⟩ = some (.int .i64 M1.kind) ∧ W.cell? ⟨w2.heap.size, 1, none⟩ = some (.int .u64 M1.st) ∧ W.cell? ⟨w2.heap.size, 2, none⟩ = some (.int .u64 M1.se) ∧ W.cell? ⟨w2.heap.size, 3, none⟩ = some (.int .u64 M1.ate) ∧ W.cell? ⟨w2.heap.size, 4, none⟩ = some (.int .u64 M1.inc) ∧ W.cell? ⟨w2.heap.size, 5, none⟩ = some (.int .u64 M1.n) ∧ W.cell? ⟨w2.heap.size, 6, none⟩ = some (.int .u64 M1.cnt) ∧ W.cell? ⟨w2.heap.size, 7, none⟩ = some (.int .i64 M1.why) ∧ W.cell? ⟨w2.heap.size, 8, none⟩ = some (.int .u64 M1.seed) ∧ W.cell? ⟨w2.heap.size, 9, none⟩ = some (.slice pb.a pb.l pb.c) ∧ W.cell? ⟨w2.heap.size, 10, none⟩ = some (.int .i64 M1.most) ∧ W.cell? ⟨w2.heap.size, 11, none⟩ = some (.slice qb.a qb.l qb.c) ∧ W.cell? ⟨w3.heap.size, 0, none⟩ = some (.int .i64 M2.kind) ∧ W.cell? ⟨w3.heap.size, 1, none⟩ = some (.int .u64 M2.st) ∧ W.cell? ⟨w3.heap.size, 2, none⟩ = some (.int .u64 M2.se) ∧ W.cell? ⟨w3.heap.size, 3, none⟩ = some (.int .u64 M2.ate) ∧ W.cell? ⟨w3.heap.size, 4, none⟩ = some (.int .u64 M2.inc) ∧ W.cell? ⟨w3.heap.size, 5, none⟩ = some (.int .u64 M2.n) ∧ W.cell? ⟨w3.heap.size, 6, none⟩ = some (.int .u64 M2.cnt) ∧ W.cell? ⟨w3.heap.size, 7, none⟩ = some (.int .i64 M2.why) ∧ W.cell? ⟨w3.heap.size, 8, none⟩ = some (.int .u64 M2.seed) ∧ W.cell? ⟨w3.heap.size, 9, none⟩ = some (.slice pc.a pc.l pc.c) ∧ W.cell? ⟨w3.heap.size, 10, none⟩ = some (.int .i64 M2.most) ∧ W.cell? ⟨w3.heap.size, 11, none⟩ = some (.slice qc.a qc.l qc.c) ∧ W.cell? ⟨w4.heap.size, 0, none⟩ = some (.int .i64 M2.kind) ∧ W.cell? ⟨w4.heap.size, 1, none⟩ = some (.int .u64 M2.st) ∧ W.cell? ⟨w4.heap.size, 2, none⟩ = some (.int .u64 M2.se) ∧ W.cell? ⟨w4.heap.size, 3, none⟩ = some (.int .u64 M2.ate) ∧ W.cell? ⟨w4.heap.size, 4, none⟩ = some (.int .u64 M2.inc) ∧ W.cell? ⟨w4.heap.size, 5, none⟩ = some (.int .u64 M2.n) ∧ W.cell? ⟨w4.heap.size, 6, none⟩ = some (.int .u64 M2.cnt) ∧ W.cell? ⟨w4.heap.size, 7, none⟩ = some (.int .i64 M2.why) ∧ W.cell? ⟨w4.heap.size, 8, none⟩ = some (.int .u64 M2.seed) ∧ W.cell? ⟨w4.heap.size, 9, none⟩ = some (.slice pd.a pd.l pd.c) ∧ W.cell? ⟨w4.heap.size, 10, none⟩ = some (.int .i64 M2.most) ∧ W.cell? ⟨w4.heap.size, 11, none⟩ = some (.slice qd.a qd.l qd.c)) := fun W hb => by
      obtain ⟨a0', a1', a2', a3', a4', a5', a6', a7', a8', a9', a10', a11'⟩ := MV_cells (block_below HC14.out hb)
      obtain ⟨b0', b1', b2', b3', b4', b5', b6', b7', b8', b9', b10', b11'⟩ := MV_cells (block_below HC24.out hb)
      obtain ⟨c0', c1', c2', c3', c4', c5', c6', c7', c8', c9', c10', c11'⟩ := MV_cells (block_below HC34.out hb)
      obtain ⟨d0', d1', d2', d3', d4', d5', d6', d7', d8', d9', d10', d11'⟩ := MV_cells (block_below HC4.out hb)
      exact ⟨a0', a1', a2', a3', a4', a5', a6', a7', a8', a9', a10', a11', b0', b1', b2', b3', b4', b5', b6', b7', b8', b9', b10', b11', c0', c1', c2', c3', c4', c5', c6', c7', c8', c9', c10', c11', d0', d1', d2', d3', d4', d5', d6', d7', d8', d9', d10', d11'⟩
    have HS1 : Hid (∀ W, Below (w4.alloc (.cells (MV M2 pd qd) 27)).heap.size (w4.alloc (.cells (MV M2 pd qd) 27)) W → Calls Try.prog 18 #[.agg (MV M1 pa qa), .agg (MV M1 pb qb)] W fun e w' => e = .returned (.bool true) ∧ Below W.heap.size W w') := fun W hb => by
      have := rsame_any M1 M1 pa qa pb qb W (HI14.out.below hb) (HI24.out.below hb)
      rwa [(sameB_iff M1 M1).2 rfl] at this
    have HS2 : Hid (∀ W, Below (w4.alloc (.cells (MV M2 pd qd) 27)).heap.size (w4.alloc (.cells (MV M2 pd qd) 27)) W → Calls Try.prog 18 #[.agg (MV M2 pc qc), .agg (MV M2 pd qd)] W fun e w' => e = .returned (.bool true) ∧ Below W.heap.size W w') := fun W hb => by
      have := rsame_any M2 M2 pc qc pd qd W (HI34.out.below hb) (HI4.out.below hb)
      rwa [(sameB_iff M2 M2).2 rfl] at this
    clear HC14 HC24 HC34 HC4 HI14 HI24 HI34 HI4
    unfold MV at HB4 HSS HS1 HS2
    go_wp2_with fail
    generalize hw5 : w4.alloc _ = w5 at *
    clear hw5
    have hcD : Below w5.heap.size w5 w5.drew := Below.drew (Below.refl _ _)
    go_region_held (fun W : World => W.cell? ⟨w1.heap.size, 0, none⟩ = some (.int .i64 M1.kind) ∧ W.cell? ⟨w1.heap.size, 1, none⟩ = some (.int .u64 M1.st) ∧ W.cell? ⟨w1.heap.size, 2, none⟩ = some (.int .u64 M1.se) ∧ W.cell? ⟨w1.heap.size, 3, none⟩ = some (.int .u64 M1.ate) ∧ W.cell? ⟨w1.heap.size, 4, none⟩ = some (.int .u64 M1.inc) ∧ W.cell? ⟨w1.heap.size, 5, none⟩ = some (.int .u64 M1.n) ∧ W.cell? ⟨w1.heap.size, 6, none⟩ = some (.int .u64 M1.cnt) ∧ W.cell? ⟨w1.heap.size, 7, none⟩ = some (.int .i64 M1.why) ∧ W.cell? ⟨w1.heap.size, 8, none⟩ = some (.int .u64 M1.seed) ∧ W.cell? ⟨w1.heap.size, 9, none⟩ = some (.slice pa.a pa.l pa.c) ∧ W.cell? ⟨w1.heap.size, 10, none⟩ = some (.int .i64 M1.most) ∧ W.cell? ⟨w1.heap.size, 11, none⟩ = some (.slice qa.a qa.l qa.c) ∧ W.cell? ⟨w2.heap.size, 0, none⟩ = some (.int .i64 M1.kind) ∧ W.cell? ⟨w2.heap.size, 1, none⟩ = some (.int .u64 M1.st) ∧ W.cell? ⟨w2.heap.size, 2, none⟩ = some (.int .u64 M1.se) ∧ W.cell? ⟨w2.heap.size, 3, none⟩ = some (.int .u64 M1.ate) ∧ W.cell? ⟨w2.heap.size, 4, none⟩ = some (.int .u64 M1.inc) ∧ W.cell? ⟨w2.heap.size, 5, none⟩ = some (.int .u64 M1.n) ∧ W.cell? ⟨w2.heap.size, 6, none⟩ = some (.int .u64 M1.cnt) ∧ W.cell? ⟨w2.heap.size, 7, none⟩ = some (.int .i64 M1.why) ∧ W.cell? ⟨w2.heap.size, 8, none⟩ = some (.int .u64 M1.seed) ∧ W.cell? ⟨w2.heap.size, 9, none⟩ = some (.slice pb.a pb.l pb.c) ∧ W.cell? ⟨w2.heap.size, 10, none⟩ = some (.int .i64 M1.most) ∧ W.cell? ⟨w2.heap.size, 11, none⟩ = some (.slice qb.a qb.l qb.c) ∧ W.cell? ⟨w3.heap.size, 0, none⟩ = some (.int .i64 M2.kind) ∧ W.cell? ⟨w3.heap.size, 1, none⟩ = some (.int .u64 M2.st) ∧ W.cell? ⟨w3.heap.size, 2, none⟩ = some (.int .u64 M2.se) ∧ W.cell? ⟨w3.heap.size, 3, none⟩ = some (.int .u64 M2.ate) ∧ W.cell? ⟨w3.heap.size, 4, none⟩ = some (.int .u64 M2.inc) ∧ W.cell? ⟨w3.heap.size, 5, none⟩ = some (.int .u64 M2.n) ∧ W.cell? ⟨w3.heap.size, 6, none⟩ = some (.int .u64 M2.cnt) ∧ W.cell? ⟨w3.heap.size, 7, none⟩ = some (.int .i64 M2.why) ∧ W.cell? ⟨w3.heap.size, 8, none⟩ = some (.int .u64 M2.seed) ∧ W.cell? ⟨w3.heap.size, 9, none⟩ = some (.slice pc.a pc.l pc.c) ∧ W.cell? ⟨w3.heap.size, 10, none⟩ = some (.int .i64 M2.most) ∧ W.cell? ⟨w3.heap.size, 11, none⟩ = some (.slice qc.a qc.l qc.c) ∧ W.cell? ⟨w4.heap.size, 0, none⟩ = some (.int .i64 M2.kind) ∧ W.cell? ⟨w4.heap.size, 1, none⟩ = some (.int .u64 M2.st) ∧ W.cell? ⟨w4.heap.size, 2, none⟩ = some (.int .u64 M2.se) ∧ W.cell? ⟨w4.heap.size, 3, none⟩ = some (.int .u64 M2.ate) ∧ W.cell? ⟨w4.heap.size, 4, none⟩ = some (.int .u64 M2.inc) ∧ W.cell? ⟨w4.heap.size, 5, none⟩ = some (.int .u64 M2.n) ∧ W.cell? ⟨w4.heap.size, 6, none⟩ = some (.int .u64 M2.cnt) ∧ W.cell? ⟨w4.heap.size, 7, none⟩ = some (.int .i64 M2.why) ∧ W.cell? ⟨w4.heap.size, 8, none⟩ = some (.int .u64 M2.seed) ∧ W.cell? ⟨w4.heap.size, 9, none⟩ = some (.slice pd.a pd.l pd.c) ∧ W.cell? ⟨w4.heap.size, 10, none⟩ = some (.int .i64 M2.most) ∧ W.cell? ⟨w4.heap.size, 11, none⟩ = some (.slice qd.a qd.l qd.c)) (first | (with_reducible exact HSS.out _ hcZ) | (with_reducible exact HSS.out _ hcY) | (with_reducible exact HSS.out _ hcX) | (with_reducible exact HSS.out _ hcB) | (with_reducible exact HSS.out _ hcA) | (with_reducible exact HSS.out _ hcD)) (first | (go_at_call_of 23 (M1.kind); refine (ours_any M1 pa qa _).mono ?_; rintro x wA ⟨rfl, hbA⟩; have hcA : Below w5.heap.size w5 wA := hcD.trans hbA) | (go_at_call_of 18 (M1.kind); refine (HS1.out wA hcA).mono ?_; rintro x wB ⟨rfl, hbB⟩; have hcB : Below w5.heap.size w5 wB := hcA.trans (hbB.mono hcA.size)) | (go_at_call_of 23 (M2.kind); refine (ours_any M2 pc qc _).mono ?_; rintro x wX ⟨rfl, hbX⟩; have hcX : Below w5.heap.size w5 wX := hcB.trans (hbX.mono hcB.size)) | (go_at_call_of 18 (M2.kind); refine (HS2.out wX hcX).mono ?_; rintro x wY ⟨rfl, hbY⟩; have hcY : Below w5.heap.size w5 wY := hcX.trans (hbY.mono hcX.size)) | (go_at_call 9; refine (alive_any wY).mono ?_; rintro x wZ ⟨rfl, hbZ⟩; have hcZ : Below w5.heap.size w5 wZ := hcY.trans (hbZ.mono hcY.size)))
    all_goals
      go_wp2_with fail
      go_ret
      exact ⟨rfl, HB4.out.trans (hcZ.mono HB4.out.size)⟩

/-! ### THE ROW's STEP: WRITTEN OUT: LEAVE IT -/
set_option maxRecDepth 100000 in
theorem lifted (os : Os) (started : os.Started) (H : Type) (enc : TypeId × Value → H) :
    ReturnsInHanded {} Try.checked os 4 .any (Rows.msgReadsSpec.pre6 enc Try.prog Try.f4 Rows.msgReadsRow.domain false) (Rows.msgReadsSpec.post enc Try.prog Try.f4 false true false false) := by
  refine returnsInHanded_of_change (C := Try.checked) own started (by kernel_rfl) Try.func4
    (ChangeSpec.witness6 (enc := enc) (C := Try.checked) false ⟨#[], #[.slice none 0 0, .slice none 0 0], []⟩ 8 (by kernel_rfl) (by kernel_rfl) (by kernel_rfl) (by kernel_rfl)) ?_
  intro W base args ds gs before hval0 hW hcnd _
  have hval : ∀ (j : Nat) t v, Try.f4.params[j]? = some t → args[j]? = some v → Value.okWide Try.prog W .any base t v := hval0
  have hW' := hW
  obtain ⟨p, q, hA0, hV, rfl, hfz, hnd⟩ := hW
  have hA : DataW.TrodAll enc Try.prog W 0 (fun _ => true) true Try.f4.params.toList args.toList ds p := hA0
  rw [Try.params4] at hA hval
  obtain ⟨v0, vs0, d0, ds0, p0, q0, hargs, rfl, rfl, h0, r0⟩ := trodAll_cons hA
  obtain ⟨v1, vs1, d1, ds1, p1, q1, rfl, rfl, rfl, h1, r1⟩ := trodAll_cons r0
  obtain ⟨rfl, rfl, rfl⟩ := trodAll_nil r1
  obtain rfl : args = #[v0, v1] := by cases args; simp_all
  obtain ⟨rfl, rfl⟩ := trodVars_none hV
  obtain ⟨a0, len0, cap0, rfl⟩ := okWide_slice Try.underlying30 (hval 0 30 v0 rfl rfl)
  have k0 := h0
  have lt0 : ∀ x ∈ p0, x.block < W.heap.size := by obtain ⟨m, hm⟩ := k0; exact DataW.trod_lt m _ _ _ hm
  obtain ⟨z0, w0⟩ : ∃ zs, IsRow .u8 W a0 len0 cap0 zs := by
    obtain ⟨fuel, hf⟩ := h0
    rcases open_ints Try.underlying30 Try.underlying5 (by kernel_rfl) hf with ⟨hcs, _⟩ | ⟨x, l, c, zs, hcs, _, hl, hm, hz, _, hcell, hwz⟩
    · simp [Value.cells] at hcs
      obtain ⟨rfl, rfl, rfl⟩ := hcs
      exact ⟨[], .inl ⟨rfl, rfl, rfl, rfl⟩⟩
    · simp [Value.cells] at hcs
      obtain ⟨rfl, rfl, rfl⟩ := hcs
      exact ⟨zs, .inr ⟨_, rfl, hl, hm, by simpa using hz, hcell, hwz⟩⟩
  obtain ⟨a1, len1, cap1, rfl⟩ := okWide_slice Try.underlying30 (hval 1 30 v1 rfl rfl)
  have k1 := h1
  have lt1 : ∀ x ∈ p1, x.block < W.heap.size := by obtain ⟨m, hm⟩ := k1; exact DataW.trod_lt m _ _ _ hm
  obtain ⟨z1, w1⟩ : ∃ zs, IsRow .u8 W a1 len1 cap1 zs := by
    obtain ⟨fuel, hf⟩ := h1
    rcases open_ints Try.underlying30 Try.underlying5 (by kernel_rfl) hf with ⟨hcs, _⟩ | ⟨x, l, c, zs, hcs, _, hl, hm, hz, _, hcell, hwz⟩
    · simp [Value.cells] at hcs
      obtain ⟨rfl, rfl, rfl⟩ := hcs
      exact ⟨[], .inl ⟨rfl, rfl, rfl, rfl⟩⟩
    · simp [Value.cells] at hcs
      obtain ⟨rfl, rfl, rfl⟩ := hcs
      exact ⟨zs, .inr ⟨_, rfl, hl, hm, by simpa using hz, hcell, hwz⟩⟩
  clear hA0 hval0
  refine (walk a0 len0 cap0 z0 a1 len1 cap1 z1 W w0 w1).mono fun e W' ⟨he, bel⟩ => ?_
  subst he
  exact ⟨_, rfl, _, _, _, [], _, [], hW', trodAll_mk1 (shut_bool Try.underlying4 _), (trodAll_cons_mk (Below.trod laidOut (by kernel_rfl) (of_decide_eq_true (by kernel_rfl)) k0 bel lt0) (trodAll_cons_mk (Below.trod laidOut (by kernel_rfl) (of_decide_eq_true (by kernel_rfl)) k1 bel lt1) trodAll_mk0)), rfl, bel.frame _, fun h => by cases h⟩

theorem over : Rows.msgReadsRow.holds Try.pinned (OpenSpec.ofChange Rows.msgReadsSpec) :=
  OpenClaim.holds_of_wide 4 Try.f4 rfl rfl rfl rfl rfl rfl rfl ⟨rfl, rfl, rfl, rfl, rfl⟩ rfl rfl rfl rfl rfl (by kernel_rfl) Try.func4 (by kernel_rfl)
    (of_decide_eq_true (by kernel_rfl)) (by unfold Func.isWrapper; first | (rw [if_pos (by decide +kernel)]; kernel_rfl) | (rw [if_neg (by decide +kernel)]; exact ⟨rfl, rfl⟩))
    (fun os started H enc _ => lifted os started H enc)

/-- ████ THE STATEMENT ████ -/
theorem proved : Rows.MsgReadsSaid := over
#print axioms proved
end Go.Proofs.Ytlcfjhlchpeedaa.msgReads
