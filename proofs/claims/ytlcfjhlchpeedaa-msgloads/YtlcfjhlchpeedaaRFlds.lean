/-
  Contract: the document's Reader.field hands back a message with the next field.
-/
import Derived.Test.YtlcfjhlchpeedaaRRds
namespace Go.Proofs.Ytlcfjhlchpeedaa
open Go.RowKit
open M
set_option linter.unusedVariables false
set_option maxRecDepth 1000000

/-- What a call that reads a field has done. -/
def RFielded (B H base : Nat) (r : Mg × List Int × Int) (w : World) (x : Ending) (w' : World) : Prop :=
  ∃ (m2 : Mg) (p2 q2 : Sl), x = .returned (.agg (MV m2 p2 q2)) ∧ RdAt 73 B H r.2.1 r.2.2 w' ∧ MsgOwn base w' m2 p2 q2 ∧ But [B] w w' ∧ (r.2.2 = 0 → m2 = r.1)
theorem two_blocks (w : World) (o1 o2 : Obj) : Below w.heap.size w ((w.alloc o1).alloc o2) ∧ ((w.alloc o1).alloc o2).heap[w.heap.size]? = some o1 ∧ ((w.alloc o1).alloc o2).heap[w.heap.size + 1]? = some o2 := by
  refine ⟨by go_grown, (Below.heap_alloc _ _ _ (by simp)).trans (heap_alloc_new w _), ?_⟩
  have h1 := heap_alloc_new (w.alloc o1) o2
  have e : (w.alloc o1).heap.size = w.heap.size + 1 := by simp
  rw [e] at h1
  exact h1

set_option maxHeartbeats 4000000 in
theorem rfield_115 (B H base : Nat) (m : Mg) (p q : Sl) (zs : List Int) (e : Int) (w : World) (hr : RdAt 73 B H zs e w) (hm : MsgOwn base w m p q) (hH : H ≤ B) (hB : B < base) (hb : base ≤ w.heap.size) :
    Calls Try.prog 43 #[.pointer (some ⟨B, 0, none⟩), .agg (MV m p q), .int .u8 115] w fun x w' => RFielded B H base (fieldF m zs e 115) w x w' := by
  obtain ⟨hbA, hA0, hA1⟩ := two_blocks w (.cells (MV m p q) 27) (.cells (MV (zeroM 0) ⟨none, 0, 0⟩ ⟨none, 0, 0⟩) 27)
  have hsA : ((w.alloc (.cells (MV m p q) 27)).alloc (.cells (MV (zeroM 0) ⟨none, 0, 0⟩ ⟨none, 0, 0⟩) 27)).heap.size = w.heap.size + 2 := by simp
  have hN := rnum_any B H zs e 18446744073709551615 _ (hr.below hbA (by omega) hH) hH (by omega) (by omega)
  have HF : Hid (fieldF m zs e 115 = ({ m with st := (numF zs e 18446744073709551615).1 }, (numF zs e 18446744073709551615).2)) := rfl
  obtain ⟨⟨n0, n1⟩, _, _⟩ := numF_bd hr.bytes e (most := 18446744073709551615) (by omega)
  rw [HF.out]
  generalize numF zs e 18446744073709551615 = r at *
  obtain ⟨n, zs1, e1⟩ := r
  simp only at *
  have HM := hid hm
  have HA0 := hid hA0
  have HA1 := hid hA1
  have HBA := hid hbA
  clear hr hm HF hA0 hA1 hbA
  rw [MV_zero] at hN hsA
  unfold MV at hN hsA ⊢
  have HSA := hid hsA
  clear hsA
  go_enter Try.func43, Try.ntmps43
  go_wp2_with fail
  refine hN.mono ?_
  rintro x w1 ⟨rfl, hrd, hbt⟩
  simp only at hrd
  have hs1 := hbt.size
  have hsA' := HSA.out
  have HC8 := hid ((hbt.block w.heap.size (by rw [hsA']; omega) (by simp; omega)).trans HA0.out)
  have HZ8 := hid ((hbt.block (w.heap.size + 1) (by rw [hsA']; omega) (by simp; omega)).trans HA1.out)
  have HBT1 : Hid (But [B] w w1) := (But.of HBA.out).trans hbt
  have hs2 : w.heap.size + 2 ≤ w1.heap.size := by have := hbt.size; simp at this; omega
  have HX : Hid (But [w.heap.size] w1 (w1.setCell ⟨w.heap.size, 1, none⟩ (.int .u64 n))) := (But.refl _ _).set (by simp) _
  have HRD8 : Hid (RdAt 73 B H zs1 e1 (w1.setCell ⟨w.heap.size, 1, none⟩ (.int .u64 n))) := hrd.but HX.out (by simp; omega) (by simp; omega) hH
  have HBT8 : Hid (But [B] w (w1.setCell ⟨w.heap.size, 1, none⟩ (.int .u64 n))) := HBT1.out.below (HX.out.to (by simp) HBT1.out.size)
  have HZ9 : Hid ((w1.setCell ⟨w.heap.size, 1, none⟩ (.int .u64 n)).heap[w.heap.size + 1]? = some (.cells (MV (zeroM 0) ⟨none, 0, 0⟩ ⟨none, 0, 0⟩) 27)) := (HX.out.block _ (by omega) (by simp)).trans HZ8.out
  obtain ⟨d0, d1, d2, d3, d4, d5, d6, d7, d8, d9, d10, d11⟩ := MV_cells HC8.out
  obtain ⟨z0, z1, z2, z3, z4, z5, z6, z7, z8, z9, z10, z11⟩ := MV_cells HZ8.out
  simp only [zeroM] at z0 z1 z2 z3 z4 z5 z6 z7 z8 z9 z10 z11
  have hfc := fun j => Joins.unfrozen_of_block HC8.out j
  have hfz := fun j => Joins.unfrozen_of_block HZ8.out j
  clear hN hrd hbt HC8 HZ8 HA0 HA1 HBA hs1 hsA'
  go_wp2_with fail
  change bodyPost _ _ _ _ _ (setMsg (w1.setCell ⟨w.heap.size, 1, none⟩ (.int .u64 n)) (w.heap.size + 1) { m with st := n } p q)
  have hb9 := setMsg_block (m := { m with st := n }) (p := p) (q := q) HZ9.out
  have hbt9 := setMsg_but (w1.setCell ⟨w.heap.size, 1, none⟩ (.int .u64 n)) (w.heap.size + 1) { m with st := n } p q
  have HRD9 := hid (HRD8.out.but hbt9 (by simp; omega) (by simp; omega) hH)
  have HBT9 : Hid (But [B] w (setMsg (w1.setCell ⟨w.heap.size, 1, none⟩ (.int .u64 n)) (w.heap.size + 1) { m with st := n } p q)) := HBT8.out.below (hbt9.to (B := w.heap.size) (by simp) (by have := HBT8.out.size; omega))
  have HOW9 : Hid (MsgOwn base _ { m with st := n } p q) := MsgOwn.but (m := { m with st := n }) HM.out HBT9.out (by simp; omega)
  clear HZ9 HRD8 HBT8
  generalize setMsg (w1.setCell ⟨w.heap.size, 1, none⟩ (.int .u64 n)) (w.heap.size + 1) { m with st := n } p q = w9 at *
  obtain ⟨e0, e1', e2', e3', e4, e5, e6, e7, e8, e9, e10, e11⟩ := MV_cells hb9
  exact bodyPost_ret (v := .agg (MV { m with st := n } p q)) (by simp [results, Try.results43, go_sem, MV, *]) rfl ⟨{ m with st := n }, p, q, rfl, HRD9.out, HOW9.out, HBT9.out, fun _ => rfl⟩

set_option maxHeartbeats 4000000 in
theorem rfield_101 (B H base : Nat) (m : Mg) (p q : Sl) (zs : List Int) (e : Int) (w : World) (hr : RdAt 73 B H zs e w) (hm : MsgOwn base w m p q) (hH : H ≤ B) (hB : B < base) (hb : base ≤ w.heap.size) :
    Calls Try.prog 43 #[.pointer (some ⟨B, 0, none⟩), .agg (MV m p q), .int .u8 101] w fun x w' => RFielded B H base (fieldF m zs e 101) w x w' := by
  obtain ⟨hbA, hA0, hA1⟩ := two_blocks w (.cells (MV m p q) 27) (.cells (MV (zeroM 0) ⟨none, 0, 0⟩ ⟨none, 0, 0⟩) 27)
  have hsA : ((w.alloc (.cells (MV m p q) 27)).alloc (.cells (MV (zeroM 0) ⟨none, 0, 0⟩ ⟨none, 0, 0⟩) 27)).heap.size = w.heap.size + 2 := by simp
  have hN := rnum_any B H zs e 18446744073709551615 _ (hr.below hbA (by omega) hH) hH (by omega) (by omega)
  have HF : Hid (fieldF m zs e 101 = ({ m with se := (numF zs e 18446744073709551615).1 }, (numF zs e 18446744073709551615).2)) := rfl
  obtain ⟨⟨n0, n1⟩, _, _⟩ := numF_bd hr.bytes e (most := 18446744073709551615) (by omega)
  rw [HF.out]
  generalize numF zs e 18446744073709551615 = r at *
  obtain ⟨n, zs1, e1⟩ := r
  simp only at *
  have HM := hid hm
  have HA0 := hid hA0
  have HA1 := hid hA1
  have HBA := hid hbA
  clear hr hm HF hA0 hA1 hbA
  rw [MV_zero] at hN hsA
  unfold MV at hN hsA ⊢
  have HSA := hid hsA
  clear hsA
  go_enter Try.func43, Try.ntmps43
  go_wp2_with fail
  refine hN.mono ?_
  rintro x w1 ⟨rfl, hrd, hbt⟩
  simp only at hrd
  have hs1 := hbt.size
  have hsA' := HSA.out
  have HC8 := hid ((hbt.block w.heap.size (by rw [hsA']; omega) (by simp; omega)).trans HA0.out)
  have HZ8 := hid ((hbt.block (w.heap.size + 1) (by rw [hsA']; omega) (by simp; omega)).trans HA1.out)
  have HBT1 : Hid (But [B] w w1) := (But.of HBA.out).trans hbt
  have hs2 : w.heap.size + 2 ≤ w1.heap.size := by have := hbt.size; simp at this; omega
  have HX : Hid (But [w.heap.size] w1 (w1.setCell ⟨w.heap.size, 2, none⟩ (.int .u64 n))) := (But.refl _ _).set (by simp) _
  have HRD8 : Hid (RdAt 73 B H zs1 e1 (w1.setCell ⟨w.heap.size, 2, none⟩ (.int .u64 n))) := hrd.but HX.out (by simp; omega) (by simp; omega) hH
  have HBT8 : Hid (But [B] w (w1.setCell ⟨w.heap.size, 2, none⟩ (.int .u64 n))) := HBT1.out.below (HX.out.to (by simp) HBT1.out.size)
  have HZ9 : Hid ((w1.setCell ⟨w.heap.size, 2, none⟩ (.int .u64 n)).heap[w.heap.size + 1]? = some (.cells (MV (zeroM 0) ⟨none, 0, 0⟩ ⟨none, 0, 0⟩) 27)) := (HX.out.block _ (by omega) (by simp)).trans HZ8.out
  obtain ⟨d0, d1, d2, d3, d4, d5, d6, d7, d8, d9, d10, d11⟩ := MV_cells HC8.out
  obtain ⟨z0, z1, z2, z3, z4, z5, z6, z7, z8, z9, z10, z11⟩ := MV_cells HZ8.out
  simp only [zeroM] at z0 z1 z2 z3 z4 z5 z6 z7 z8 z9 z10 z11
  have hfc := fun j => Joins.unfrozen_of_block HC8.out j
  have hfz := fun j => Joins.unfrozen_of_block HZ8.out j
  clear hN hrd hbt HC8 HZ8 HA0 HA1 HBA hs1 hsA'
  go_wp2_with fail
  change bodyPost _ _ _ _ _ (setMsg (w1.setCell ⟨w.heap.size, 2, none⟩ (.int .u64 n)) (w.heap.size + 1) { m with se := n } p q)
  have hb9 := setMsg_block (m := { m with se := n }) (p := p) (q := q) HZ9.out
  have hbt9 := setMsg_but (w1.setCell ⟨w.heap.size, 2, none⟩ (.int .u64 n)) (w.heap.size + 1) { m with se := n } p q
  have HRD9 := hid (HRD8.out.but hbt9 (by simp; omega) (by simp; omega) hH)
  have HBT9 : Hid (But [B] w (setMsg (w1.setCell ⟨w.heap.size, 2, none⟩ (.int .u64 n)) (w.heap.size + 1) { m with se := n } p q)) := HBT8.out.below (hbt9.to (B := w.heap.size) (by simp) (by have := HBT8.out.size; omega))
  have HOW9 : Hid (MsgOwn base _ { m with se := n } p q) := MsgOwn.but (m := { m with se := n }) HM.out HBT9.out (by simp; omega)
  clear HZ9 HRD8 HBT8
  generalize setMsg (w1.setCell ⟨w.heap.size, 2, none⟩ (.int .u64 n)) (w.heap.size + 1) { m with se := n } p q = w9 at *
  obtain ⟨e0, e1', e2', e3', e4, e5, e6, e7, e8, e9, e10, e11⟩ := MV_cells hb9
  exact bodyPost_ret (v := .agg (MV { m with se := n } p q)) (by simp [results, Try.results43, go_sem, MV, *]) rfl ⟨{ m with se := n }, p, q, rfl, HRD9.out, HOW9.out, HBT9.out, fun _ => rfl⟩

set_option maxHeartbeats 4000000 in
theorem rfield_97 (B H base : Nat) (m : Mg) (p q : Sl) (zs : List Int) (e : Int) (w : World) (hr : RdAt 73 B H zs e w) (hm : MsgOwn base w m p q) (hH : H ≤ B) (hB : B < base) (hb : base ≤ w.heap.size) :
    Calls Try.prog 43 #[.pointer (some ⟨B, 0, none⟩), .agg (MV m p q), .int .u8 97] w fun x w' => RFielded B H base (fieldF m zs e 97) w x w' := by
  obtain ⟨hbA, hA0, hA1⟩ := two_blocks w (.cells (MV m p q) 27) (.cells (MV (zeroM 0) ⟨none, 0, 0⟩ ⟨none, 0, 0⟩) 27)
  have hsA : ((w.alloc (.cells (MV m p q) 27)).alloc (.cells (MV (zeroM 0) ⟨none, 0, 0⟩ ⟨none, 0, 0⟩) 27)).heap.size = w.heap.size + 2 := by simp
  have hN := rnum_any B H zs e 18446744073709551615 _ (hr.below hbA (by omega) hH) hH (by omega) (by omega)
  have HF : Hid (fieldF m zs e 97 = ({ m with ate := (numF zs e 18446744073709551615).1 }, (numF zs e 18446744073709551615).2)) := rfl
  obtain ⟨⟨n0, n1⟩, _, _⟩ := numF_bd hr.bytes e (most := 18446744073709551615) (by omega)
  rw [HF.out]
  generalize numF zs e 18446744073709551615 = r at *
  obtain ⟨n, zs1, e1⟩ := r
  simp only at *
  have HM := hid hm
  have HA0 := hid hA0
  have HA1 := hid hA1
  have HBA := hid hbA
  clear hr hm HF hA0 hA1 hbA
  rw [MV_zero] at hN hsA
  unfold MV at hN hsA ⊢
  have HSA := hid hsA
  clear hsA
  go_enter Try.func43, Try.ntmps43
  go_wp2_with fail
  refine hN.mono ?_
  rintro x w1 ⟨rfl, hrd, hbt⟩
  simp only at hrd
  have hs1 := hbt.size
  have hsA' := HSA.out
  have HC8 := hid ((hbt.block w.heap.size (by rw [hsA']; omega) (by simp; omega)).trans HA0.out)
  have HZ8 := hid ((hbt.block (w.heap.size + 1) (by rw [hsA']; omega) (by simp; omega)).trans HA1.out)
  have HBT1 : Hid (But [B] w w1) := (But.of HBA.out).trans hbt
  have hs2 : w.heap.size + 2 ≤ w1.heap.size := by have := hbt.size; simp at this; omega
  have HX : Hid (But [w.heap.size] w1 (w1.setCell ⟨w.heap.size, 3, none⟩ (.int .u64 n))) := (But.refl _ _).set (by simp) _
  have HRD8 : Hid (RdAt 73 B H zs1 e1 (w1.setCell ⟨w.heap.size, 3, none⟩ (.int .u64 n))) := hrd.but HX.out (by simp; omega) (by simp; omega) hH
  have HBT8 : Hid (But [B] w (w1.setCell ⟨w.heap.size, 3, none⟩ (.int .u64 n))) := HBT1.out.below (HX.out.to (by simp) HBT1.out.size)
  have HZ9 : Hid ((w1.setCell ⟨w.heap.size, 3, none⟩ (.int .u64 n)).heap[w.heap.size + 1]? = some (.cells (MV (zeroM 0) ⟨none, 0, 0⟩ ⟨none, 0, 0⟩) 27)) := (HX.out.block _ (by omega) (by simp)).trans HZ8.out
  obtain ⟨d0, d1, d2, d3, d4, d5, d6, d7, d8, d9, d10, d11⟩ := MV_cells HC8.out
  obtain ⟨z0, z1, z2, z3, z4, z5, z6, z7, z8, z9, z10, z11⟩ := MV_cells HZ8.out
  simp only [zeroM] at z0 z1 z2 z3 z4 z5 z6 z7 z8 z9 z10 z11
  have hfc := fun j => Joins.unfrozen_of_block HC8.out j
  have hfz := fun j => Joins.unfrozen_of_block HZ8.out j
  clear hN hrd hbt HC8 HZ8 HA0 HA1 HBA hs1 hsA'
  go_wp2_with fail
  change bodyPost _ _ _ _ _ (setMsg (w1.setCell ⟨w.heap.size, 3, none⟩ (.int .u64 n)) (w.heap.size + 1) { m with ate := n } p q)
  have hb9 := setMsg_block (m := { m with ate := n }) (p := p) (q := q) HZ9.out
  have hbt9 := setMsg_but (w1.setCell ⟨w.heap.size, 3, none⟩ (.int .u64 n)) (w.heap.size + 1) { m with ate := n } p q
  have HRD9 := hid (HRD8.out.but hbt9 (by simp; omega) (by simp; omega) hH)
  have HBT9 : Hid (But [B] w (setMsg (w1.setCell ⟨w.heap.size, 3, none⟩ (.int .u64 n)) (w.heap.size + 1) { m with ate := n } p q)) := HBT8.out.below (hbt9.to (B := w.heap.size) (by simp) (by have := HBT8.out.size; omega))
  have HOW9 : Hid (MsgOwn base _ { m with ate := n } p q) := MsgOwn.but (m := { m with ate := n }) HM.out HBT9.out (by simp; omega)
  clear HZ9 HRD8 HBT8
  generalize setMsg (w1.setCell ⟨w.heap.size, 3, none⟩ (.int .u64 n)) (w.heap.size + 1) { m with ate := n } p q = w9 at *
  obtain ⟨e0, e1', e2', e3', e4, e5, e6, e7, e8, e9, e10, e11⟩ := MV_cells hb9
  exact bodyPost_ret (v := .agg (MV { m with ate := n } p q)) (by simp [results, Try.results43, go_sem, MV, *]) rfl ⟨{ m with ate := n }, p, q, rfl, HRD9.out, HOW9.out, HBT9.out, fun _ => rfl⟩

set_option maxHeartbeats 4000000 in
theorem rfield_105 (B H base : Nat) (m : Mg) (p q : Sl) (zs : List Int) (e : Int) (w : World) (hr : RdAt 73 B H zs e w) (hm : MsgOwn base w m p q) (hH : H ≤ B) (hB : B < base) (hb : base ≤ w.heap.size) :
    Calls Try.prog 43 #[.pointer (some ⟨B, 0, none⟩), .agg (MV m p q), .int .u8 105] w fun x w' => RFielded B H base (fieldF m zs e 105) w x w' := by
  obtain ⟨hbA, hA0, hA1⟩ := two_blocks w (.cells (MV m p q) 27) (.cells (MV (zeroM 0) ⟨none, 0, 0⟩ ⟨none, 0, 0⟩) 27)
  have hsA : ((w.alloc (.cells (MV m p q) 27)).alloc (.cells (MV (zeroM 0) ⟨none, 0, 0⟩ ⟨none, 0, 0⟩) 27)).heap.size = w.heap.size + 2 := by simp
  have hN := rnum_any B H zs e 18446744073709551615 _ (hr.below hbA (by omega) hH) hH (by omega) (by omega)
  have HF : Hid (fieldF m zs e 105 = ({ m with inc := (numF zs e 18446744073709551615).1 }, (numF zs e 18446744073709551615).2)) := rfl
  obtain ⟨⟨n0, n1⟩, _, _⟩ := numF_bd hr.bytes e (most := 18446744073709551615) (by omega)
  rw [HF.out]
  generalize numF zs e 18446744073709551615 = r at *
  obtain ⟨n, zs1, e1⟩ := r
  simp only at *
  have HM := hid hm
  have HA0 := hid hA0
  have HA1 := hid hA1
  have HBA := hid hbA
  clear hr hm HF hA0 hA1 hbA
  rw [MV_zero] at hN hsA
  unfold MV at hN hsA ⊢
  have HSA := hid hsA
  clear hsA
  go_enter Try.func43, Try.ntmps43
  go_wp2_with fail
  refine hN.mono ?_
  rintro x w1 ⟨rfl, hrd, hbt⟩
  simp only at hrd
  have hs1 := hbt.size
  have hsA' := HSA.out
  have HC8 := hid ((hbt.block w.heap.size (by rw [hsA']; omega) (by simp; omega)).trans HA0.out)
  have HZ8 := hid ((hbt.block (w.heap.size + 1) (by rw [hsA']; omega) (by simp; omega)).trans HA1.out)
  have HBT1 : Hid (But [B] w w1) := (But.of HBA.out).trans hbt
  have hs2 : w.heap.size + 2 ≤ w1.heap.size := by have := hbt.size; simp at this; omega
  have HX : Hid (But [w.heap.size] w1 (w1.setCell ⟨w.heap.size, 4, none⟩ (.int .u64 n))) := (But.refl _ _).set (by simp) _
  have HRD8 : Hid (RdAt 73 B H zs1 e1 (w1.setCell ⟨w.heap.size, 4, none⟩ (.int .u64 n))) := hrd.but HX.out (by simp; omega) (by simp; omega) hH
  have HBT8 : Hid (But [B] w (w1.setCell ⟨w.heap.size, 4, none⟩ (.int .u64 n))) := HBT1.out.below (HX.out.to (by simp) HBT1.out.size)
  have HZ9 : Hid ((w1.setCell ⟨w.heap.size, 4, none⟩ (.int .u64 n)).heap[w.heap.size + 1]? = some (.cells (MV (zeroM 0) ⟨none, 0, 0⟩ ⟨none, 0, 0⟩) 27)) := (HX.out.block _ (by omega) (by simp)).trans HZ8.out
  obtain ⟨d0, d1, d2, d3, d4, d5, d6, d7, d8, d9, d10, d11⟩ := MV_cells HC8.out
  obtain ⟨z0, z1, z2, z3, z4, z5, z6, z7, z8, z9, z10, z11⟩ := MV_cells HZ8.out
  simp only [zeroM] at z0 z1 z2 z3 z4 z5 z6 z7 z8 z9 z10 z11
  have hfc := fun j => Joins.unfrozen_of_block HC8.out j
  have hfz := fun j => Joins.unfrozen_of_block HZ8.out j
  clear hN hrd hbt HC8 HZ8 HA0 HA1 HBA hs1 hsA'
  go_wp2_with fail
  change bodyPost _ _ _ _ _ (setMsg (w1.setCell ⟨w.heap.size, 4, none⟩ (.int .u64 n)) (w.heap.size + 1) { m with inc := n } p q)
  have hb9 := setMsg_block (m := { m with inc := n }) (p := p) (q := q) HZ9.out
  have hbt9 := setMsg_but (w1.setCell ⟨w.heap.size, 4, none⟩ (.int .u64 n)) (w.heap.size + 1) { m with inc := n } p q
  have HRD9 := hid (HRD8.out.but hbt9 (by simp; omega) (by simp; omega) hH)
  have HBT9 : Hid (But [B] w (setMsg (w1.setCell ⟨w.heap.size, 4, none⟩ (.int .u64 n)) (w.heap.size + 1) { m with inc := n } p q)) := HBT8.out.below (hbt9.to (B := w.heap.size) (by simp) (by have := HBT8.out.size; omega))
  have HOW9 : Hid (MsgOwn base _ { m with inc := n } p q) := MsgOwn.but (m := { m with inc := n }) HM.out HBT9.out (by simp; omega)
  clear HZ9 HRD8 HBT8
  generalize setMsg (w1.setCell ⟨w.heap.size, 4, none⟩ (.int .u64 n)) (w.heap.size + 1) { m with inc := n } p q = w9 at *
  obtain ⟨e0, e1', e2', e3', e4, e5, e6, e7, e8, e9, e10, e11⟩ := MV_cells hb9
  exact bodyPost_ret (v := .agg (MV { m with inc := n } p q)) (by simp [results, Try.results43, go_sem, MV, *]) rfl ⟨{ m with inc := n }, p, q, rfl, HRD9.out, HOW9.out, HBT9.out, fun _ => rfl⟩

set_option maxHeartbeats 4000000 in
theorem rfield_110 (B H base : Nat) (m : Mg) (p q : Sl) (zs : List Int) (e : Int) (w : World) (hr : RdAt 73 B H zs e w) (hm : MsgOwn base w m p q) (hH : H ≤ B) (hB : B < base) (hb : base ≤ w.heap.size) :
    Calls Try.prog 43 #[.pointer (some ⟨B, 0, none⟩), .agg (MV m p q), .int .u8 110] w fun x w' => RFielded B H base (fieldF m zs e 110) w x w' := by
  obtain ⟨hbA, hA0, hA1⟩ := two_blocks w (.cells (MV m p q) 27) (.cells (MV (zeroM 0) ⟨none, 0, 0⟩ ⟨none, 0, 0⟩) 27)
  have hsA : ((w.alloc (.cells (MV m p q) 27)).alloc (.cells (MV (zeroM 0) ⟨none, 0, 0⟩ ⟨none, 0, 0⟩) 27)).heap.size = w.heap.size + 2 := by simp
  have hN := rnum_any B H zs e 18446744073709551615 _ (hr.below hbA (by omega) hH) hH (by omega) (by omega)
  have HF : Hid (fieldF m zs e 110 = ({ m with n := (numF zs e 18446744073709551615).1 }, (numF zs e 18446744073709551615).2)) := rfl
  obtain ⟨⟨n0, n1⟩, _, _⟩ := numF_bd hr.bytes e (most := 18446744073709551615) (by omega)
  rw [HF.out]
  generalize numF zs e 18446744073709551615 = r at *
  obtain ⟨n, zs1, e1⟩ := r
  simp only at *
  have HM := hid hm
  have HA0 := hid hA0
  have HA1 := hid hA1
  have HBA := hid hbA
  clear hr hm HF hA0 hA1 hbA
  rw [MV_zero] at hN hsA
  unfold MV at hN hsA ⊢
  have HSA := hid hsA
  clear hsA
  go_enter Try.func43, Try.ntmps43
  go_wp2_with fail
  refine hN.mono ?_
  rintro x w1 ⟨rfl, hrd, hbt⟩
  simp only at hrd
  have hs1 := hbt.size
  have hsA' := HSA.out
  have HC8 := hid ((hbt.block w.heap.size (by rw [hsA']; omega) (by simp; omega)).trans HA0.out)
  have HZ8 := hid ((hbt.block (w.heap.size + 1) (by rw [hsA']; omega) (by simp; omega)).trans HA1.out)
  have HBT1 : Hid (But [B] w w1) := (But.of HBA.out).trans hbt
  have hs2 : w.heap.size + 2 ≤ w1.heap.size := by have := hbt.size; simp at this; omega
  have HX : Hid (But [w.heap.size] w1 (w1.setCell ⟨w.heap.size, 5, none⟩ (.int .u64 n))) := (But.refl _ _).set (by simp) _
  have HRD8 : Hid (RdAt 73 B H zs1 e1 (w1.setCell ⟨w.heap.size, 5, none⟩ (.int .u64 n))) := hrd.but HX.out (by simp; omega) (by simp; omega) hH
  have HBT8 : Hid (But [B] w (w1.setCell ⟨w.heap.size, 5, none⟩ (.int .u64 n))) := HBT1.out.below (HX.out.to (by simp) HBT1.out.size)
  have HZ9 : Hid ((w1.setCell ⟨w.heap.size, 5, none⟩ (.int .u64 n)).heap[w.heap.size + 1]? = some (.cells (MV (zeroM 0) ⟨none, 0, 0⟩ ⟨none, 0, 0⟩) 27)) := (HX.out.block _ (by omega) (by simp)).trans HZ8.out
  obtain ⟨d0, d1, d2, d3, d4, d5, d6, d7, d8, d9, d10, d11⟩ := MV_cells HC8.out
  obtain ⟨z0, z1, z2, z3, z4, z5, z6, z7, z8, z9, z10, z11⟩ := MV_cells HZ8.out
  simp only [zeroM] at z0 z1 z2 z3 z4 z5 z6 z7 z8 z9 z10 z11
  have hfc := fun j => Joins.unfrozen_of_block HC8.out j
  have hfz := fun j => Joins.unfrozen_of_block HZ8.out j
  clear hN hrd hbt HC8 HZ8 HA0 HA1 HBA hs1 hsA'
  go_wp2_with fail
  change bodyPost _ _ _ _ _ (setMsg (w1.setCell ⟨w.heap.size, 5, none⟩ (.int .u64 n)) (w.heap.size + 1) { m with n := n } p q)
  have hb9 := setMsg_block (m := { m with n := n }) (p := p) (q := q) HZ9.out
  have hbt9 := setMsg_but (w1.setCell ⟨w.heap.size, 5, none⟩ (.int .u64 n)) (w.heap.size + 1) { m with n := n } p q
  have HRD9 := hid (HRD8.out.but hbt9 (by simp; omega) (by simp; omega) hH)
  have HBT9 : Hid (But [B] w (setMsg (w1.setCell ⟨w.heap.size, 5, none⟩ (.int .u64 n)) (w.heap.size + 1) { m with n := n } p q)) := HBT8.out.below (hbt9.to (B := w.heap.size) (by simp) (by have := HBT8.out.size; omega))
  have HOW9 : Hid (MsgOwn base _ { m with n := n } p q) := MsgOwn.but (m := { m with n := n }) HM.out HBT9.out (by simp; omega)
  clear HZ9 HRD8 HBT8
  generalize setMsg (w1.setCell ⟨w.heap.size, 5, none⟩ (.int .u64 n)) (w.heap.size + 1) { m with n := n } p q = w9 at *
  obtain ⟨e0, e1', e2', e3', e4, e5, e6, e7, e8, e9, e10, e11⟩ := MV_cells hb9
  exact bodyPost_ret (v := .agg (MV { m with n := n } p q)) (by simp [results, Try.results43, go_sem, MV, *]) rfl ⟨{ m with n := n }, p, q, rfl, HRD9.out, HOW9.out, HBT9.out, fun _ => rfl⟩

set_option maxHeartbeats 4000000 in
theorem rfield_99 (B H base : Nat) (m : Mg) (p q : Sl) (zs : List Int) (e : Int) (w : World) (hr : RdAt 73 B H zs e w) (hm : MsgOwn base w m p q) (hH : H ≤ B) (hB : B < base) (hb : base ≤ w.heap.size) :
    Calls Try.prog 43 #[.pointer (some ⟨B, 0, none⟩), .agg (MV m p q), .int .u8 99] w fun x w' => RFielded B H base (fieldF m zs e 99) w x w' := by
  obtain ⟨hbA, hA0, hA1⟩ := two_blocks w (.cells (MV m p q) 27) (.cells (MV (zeroM 0) ⟨none, 0, 0⟩ ⟨none, 0, 0⟩) 27)
  have hsA : ((w.alloc (.cells (MV m p q) 27)).alloc (.cells (MV (zeroM 0) ⟨none, 0, 0⟩ ⟨none, 0, 0⟩) 27)).heap.size = w.heap.size + 2 := by simp
  have hN := rnum_any B H zs e 18446744073709551615 _ (hr.below hbA (by omega) hH) hH (by omega) (by omega)
  have HF : Hid (fieldF m zs e 99 = ({ m with cnt := (numF zs e 18446744073709551615).1 }, (numF zs e 18446744073709551615).2)) := rfl
  obtain ⟨⟨n0, n1⟩, _, _⟩ := numF_bd hr.bytes e (most := 18446744073709551615) (by omega)
  rw [HF.out]
  generalize numF zs e 18446744073709551615 = r at *
  obtain ⟨n, zs1, e1⟩ := r
  simp only at *
  have HM := hid hm
  have HA0 := hid hA0
  have HA1 := hid hA1
  have HBA := hid hbA
  clear hr hm HF hA0 hA1 hbA
  rw [MV_zero] at hN hsA
  unfold MV at hN hsA ⊢
  have HSA := hid hsA
  clear hsA
  go_enter Try.func43, Try.ntmps43
  go_wp2_with fail
  refine hN.mono ?_
  rintro x w1 ⟨rfl, hrd, hbt⟩
  simp only at hrd
  have hs1 := hbt.size
  have hsA' := HSA.out
  have HC8 := hid ((hbt.block w.heap.size (by rw [hsA']; omega) (by simp; omega)).trans HA0.out)
  have HZ8 := hid ((hbt.block (w.heap.size + 1) (by rw [hsA']; omega) (by simp; omega)).trans HA1.out)
  have HBT1 : Hid (But [B] w w1) := (But.of HBA.out).trans hbt
  have hs2 : w.heap.size + 2 ≤ w1.heap.size := by have := hbt.size; simp at this; omega
  have HX : Hid (But [w.heap.size] w1 (w1.setCell ⟨w.heap.size, 6, none⟩ (.int .u64 n))) := (But.refl _ _).set (by simp) _
  have HRD8 : Hid (RdAt 73 B H zs1 e1 (w1.setCell ⟨w.heap.size, 6, none⟩ (.int .u64 n))) := hrd.but HX.out (by simp; omega) (by simp; omega) hH
  have HBT8 : Hid (But [B] w (w1.setCell ⟨w.heap.size, 6, none⟩ (.int .u64 n))) := HBT1.out.below (HX.out.to (by simp) HBT1.out.size)
  have HZ9 : Hid ((w1.setCell ⟨w.heap.size, 6, none⟩ (.int .u64 n)).heap[w.heap.size + 1]? = some (.cells (MV (zeroM 0) ⟨none, 0, 0⟩ ⟨none, 0, 0⟩) 27)) := (HX.out.block _ (by omega) (by simp)).trans HZ8.out
  obtain ⟨d0, d1, d2, d3, d4, d5, d6, d7, d8, d9, d10, d11⟩ := MV_cells HC8.out
  obtain ⟨z0, z1, z2, z3, z4, z5, z6, z7, z8, z9, z10, z11⟩ := MV_cells HZ8.out
  simp only [zeroM] at z0 z1 z2 z3 z4 z5 z6 z7 z8 z9 z10 z11
  have hfc := fun j => Joins.unfrozen_of_block HC8.out j
  have hfz := fun j => Joins.unfrozen_of_block HZ8.out j
  clear hN hrd hbt HC8 HZ8 HA0 HA1 HBA hs1 hsA'
  go_wp2_with fail
  change bodyPost _ _ _ _ _ (setMsg (w1.setCell ⟨w.heap.size, 6, none⟩ (.int .u64 n)) (w.heap.size + 1) { m with cnt := n } p q)
  have hb9 := setMsg_block (m := { m with cnt := n }) (p := p) (q := q) HZ9.out
  have hbt9 := setMsg_but (w1.setCell ⟨w.heap.size, 6, none⟩ (.int .u64 n)) (w.heap.size + 1) { m with cnt := n } p q
  have HRD9 := hid (HRD8.out.but hbt9 (by simp; omega) (by simp; omega) hH)
  have HBT9 : Hid (But [B] w (setMsg (w1.setCell ⟨w.heap.size, 6, none⟩ (.int .u64 n)) (w.heap.size + 1) { m with cnt := n } p q)) := HBT8.out.below (hbt9.to (B := w.heap.size) (by simp) (by have := HBT8.out.size; omega))
  have HOW9 : Hid (MsgOwn base _ { m with cnt := n } p q) := MsgOwn.but (m := { m with cnt := n }) HM.out HBT9.out (by simp; omega)
  clear HZ9 HRD8 HBT8
  generalize setMsg (w1.setCell ⟨w.heap.size, 6, none⟩ (.int .u64 n)) (w.heap.size + 1) { m with cnt := n } p q = w9 at *
  obtain ⟨e0, e1', e2', e3', e4, e5, e6, e7, e8, e9, e10, e11⟩ := MV_cells hb9
  exact bodyPost_ret (v := .agg (MV { m with cnt := n } p q)) (by simp [results, Try.results43, go_sem, MV, *]) rfl ⟨{ m with cnt := n }, p, q, rfl, HRD9.out, HOW9.out, HBT9.out, fun _ => rfl⟩

set_option maxHeartbeats 4000000 in
theorem rfield_119 (B H base : Nat) (m : Mg) (p q : Sl) (zs : List Int) (e : Int) (w : World) (hr : RdAt 73 B H zs e w) (hm : MsgOwn base w m p q) (hH : H ≤ B) (hB : B < base) (hb : base ≤ w.heap.size) :
    Calls Try.prog 43 #[.pointer (some ⟨B, 0, none⟩), .agg (MV m p q), .int .u8 119] w fun x w' => RFielded B H base (fieldF m zs e 119) w x w' := by
  obtain ⟨hbA, hA0, hA1⟩ := two_blocks w (.cells (MV m p q) 27) (.cells (MV (zeroM 0) ⟨none, 0, 0⟩ ⟨none, 0, 0⟩) 27)
  have hsA : ((w.alloc (.cells (MV m p q) 27)).alloc (.cells (MV (zeroM 0) ⟨none, 0, 0⟩ ⟨none, 0, 0⟩) 27)).heap.size = w.heap.size + 2 := by simp
  have hN := rnum_any B H zs e 255 _ (hr.below hbA (by omega) hH) hH (by omega) (by omega)
  have HF : Hid (fieldF m zs e 119 = ({ m with why := (numF zs e 255).1 }, (numF zs e 255).2)) := rfl
  obtain ⟨⟨n0, n1⟩, _, _⟩ := numF_bd hr.bytes e (most := 255) (by omega)
  rw [HF.out]
  generalize numF zs e 255 = r at *
  obtain ⟨n, zs1, e1⟩ := r
  simp only at *
  have HM := hid hm
  have HA0 := hid hA0
  have HA1 := hid hA1
  have HBA := hid hbA
  clear hr hm HF hA0 hA1 hbA
  rw [MV_zero] at hN hsA
  unfold MV at hN hsA ⊢
  have HSA := hid hsA
  clear hsA
  go_enter Try.func43, Try.ntmps43
  go_wp2_with fail
  refine hN.mono ?_
  rintro x w1 ⟨rfl, hrd, hbt⟩
  simp only at hrd
  have hs1 := hbt.size
  have hsA' := HSA.out
  have HC8 := hid ((hbt.block w.heap.size (by rw [hsA']; omega) (by simp; omega)).trans HA0.out)
  have HZ8 := hid ((hbt.block (w.heap.size + 1) (by rw [hsA']; omega) (by simp; omega)).trans HA1.out)
  have HBT1 : Hid (But [B] w w1) := (But.of HBA.out).trans hbt
  have hs2 : w.heap.size + 2 ≤ w1.heap.size := by have := hbt.size; simp at this; omega
  have HX : Hid (But [w.heap.size] w1 (w1.setCell ⟨w.heap.size, 7, none⟩ (.int .i64 n))) := (But.refl _ _).set (by simp) _
  have HRD8 : Hid (RdAt 73 B H zs1 e1 (w1.setCell ⟨w.heap.size, 7, none⟩ (.int .i64 n))) := hrd.but HX.out (by simp; omega) (by simp; omega) hH
  have HBT8 : Hid (But [B] w (w1.setCell ⟨w.heap.size, 7, none⟩ (.int .i64 n))) := HBT1.out.below (HX.out.to (by simp) HBT1.out.size)
  have HZ9 : Hid ((w1.setCell ⟨w.heap.size, 7, none⟩ (.int .i64 n)).heap[w.heap.size + 1]? = some (.cells (MV (zeroM 0) ⟨none, 0, 0⟩ ⟨none, 0, 0⟩) 27)) := (HX.out.block _ (by omega) (by simp)).trans HZ8.out
  obtain ⟨d0, d1, d2, d3, d4, d5, d6, d7, d8, d9, d10, d11⟩ := MV_cells HC8.out
  obtain ⟨z0, z1, z2, z3, z4, z5, z6, z7, z8, z9, z10, z11⟩ := MV_cells HZ8.out
  simp only [zeroM] at z0 z1 z2 z3 z4 z5 z6 z7 z8 z9 z10 z11
  have hfc := fun j => Joins.unfrozen_of_block HC8.out j
  have hfz := fun j => Joins.unfrozen_of_block HZ8.out j
  clear hN hrd hbt HC8 HZ8 HA0 HA1 HBA hs1 hsA'
  go_wp2_with fail
  change bodyPost _ _ _ _ _ (setMsg (w1.setCell ⟨w.heap.size, 7, none⟩ (.int .i64 n)) (w.heap.size + 1) { m with why := n } p q)
  have hb9 := setMsg_block (m := { m with why := n }) (p := p) (q := q) HZ9.out
  have hbt9 := setMsg_but (w1.setCell ⟨w.heap.size, 7, none⟩ (.int .i64 n)) (w.heap.size + 1) { m with why := n } p q
  have HRD9 := hid (HRD8.out.but hbt9 (by simp; omega) (by simp; omega) hH)
  have HBT9 : Hid (But [B] w (setMsg (w1.setCell ⟨w.heap.size, 7, none⟩ (.int .i64 n)) (w.heap.size + 1) { m with why := n } p q)) := HBT8.out.below (hbt9.to (B := w.heap.size) (by simp) (by have := HBT8.out.size; omega))
  have HOW9 : Hid (MsgOwn base _ { m with why := n } p q) := MsgOwn.but (m := { m with why := n }) HM.out HBT9.out (by simp; omega)
  clear HZ9 HRD8 HBT8
  generalize setMsg (w1.setCell ⟨w.heap.size, 7, none⟩ (.int .i64 n)) (w.heap.size + 1) { m with why := n } p q = w9 at *
  obtain ⟨e0, e1', e2', e3', e4, e5, e6, e7, e8, e9, e10, e11⟩ := MV_cells hb9
  exact bodyPost_ret (v := .agg (MV { m with why := n } p q)) (by simp [results, Try.results43, go_sem, MV, *]) rfl ⟨{ m with why := n }, p, q, rfl, HRD9.out, HOW9.out, HBT9.out, fun _ => rfl⟩

set_option maxHeartbeats 4000000 in
theorem rfield_108 (B H base : Nat) (m : Mg) (p q : Sl) (zs : List Int) (e : Int) (w : World) (hr : RdAt 73 B H zs e w) (hm : MsgOwn base w m p q) (hH : H ≤ B) (hB : B < base) (hb : base ≤ w.heap.size) :
    Calls Try.prog 43 #[.pointer (some ⟨B, 0, none⟩), .agg (MV m p q), .int .u8 108] w fun x w' => RFielded B H base (fieldF m zs e 108) w x w' := by
  obtain ⟨hbA, hA0, hA1⟩ := two_blocks w (.cells (MV m p q) 27) (.cells (MV (zeroM 0) ⟨none, 0, 0⟩ ⟨none, 0, 0⟩) 27)
  have hsA : ((w.alloc (.cells (MV m p q) 27)).alloc (.cells (MV (zeroM 0) ⟨none, 0, 0⟩ ⟨none, 0, 0⟩) 27)).heap.size = w.heap.size + 2 := by simp
  have hN := rlistr_any B H zs e _ (hr.below hbA (by omega) hH) hH
  have HF : Hid (fieldF m zs e 108 = ({ m with li := (listF zs e).1 }, (listF zs e).2)) := rfl
  rw [HF.out]
  generalize listF zs e = r at *
  obtain ⟨l, zs1, e1⟩ := r
  simp only at *
  have HM := hid hm
  have HA0 := hid hA0
  have HA1 := hid hA1
  have HBA := hid hbA
  clear hr hm HF hA0 hA1 hbA
  rw [MV_zero] at hN hsA
  unfold MV at hN hsA ⊢
  have HSA := hid hsA
  clear hsA
  go_enter Try.func43, Try.ntmps43
  go_wp2_with fail
  refine hN.mono ?_
  rintro x w1 ⟨v, toks, rfl, htl, how, hrd, hbt, htk⟩
  simp only at hrd htk
  obtain ⟨s, rfl, hsl⟩ := own_sl how
  rw [← hsl] at how htl
  have hs1 := hbt.size
  have hsA' := HSA.out
  rw [hsA'] at how
  have HC8 := hid ((hbt.block w.heap.size (by rw [hsA']; omega) (by simp; omega)).trans HA0.out)
  have HZ8 := hid ((hbt.block (w.heap.size + 1) (by rw [hsA']; omega) (by simp; omega)).trans HA1.out)
  have HBT1 : Hid (But [B] w w1) := (But.of HBA.out).trans hbt
  have hs2 : w.heap.size + 2 ≤ w1.heap.size := by have := hbt.size; simp at this; omega
  have HX : Hid (But [w.heap.size] w1 (w1.setCell ⟨w.heap.size, 11, none⟩ (.slice s.a s.l s.c))) := (But.refl _ _).set (by simp) _
  have HRD8 : Hid (RdAt 73 B H zs1 e1 (w1.setCell ⟨w.heap.size, 11, none⟩ (.slice s.a s.l s.c))) := hrd.but HX.out (by simp; omega) (by simp; omega) hH
  have HBT8 : Hid (But [B] w (w1.setCell ⟨w.heap.size, 11, none⟩ (.slice s.a s.l s.c))) := HBT1.out.below (HX.out.to (by simp) HBT1.out.size)
  have HZ9 : Hid ((w1.setCell ⟨w.heap.size, 11, none⟩ (.slice s.a s.l s.c)).heap[w.heap.size + 1]? = some (.cells (MV (zeroM 0) ⟨none, 0, 0⟩ ⟨none, 0, 0⟩) 27)) := (HX.out.block _ (by omega) (by simp)).trans HZ8.out
  have HOW8 := hid (own_but how HX.out (by simp))
  have HTL := hid htl
  have HTK := hid htk
  obtain ⟨d0, d1, d2, d3, d4, d5, d6, d7, d8, d9, d10, d11⟩ := MV_cells HC8.out
  obtain ⟨z0, z1, z2, z3, z4, z5, z6, z7, z8, z9, z10, z11⟩ := MV_cells HZ8.out
  simp only [zeroM] at z0 z1 z2 z3 z4 z5 z6 z7 z8 z9 z10 z11
  have hfc := fun j => Joins.unfrozen_of_block HC8.out j
  have hfz := fun j => Joins.unfrozen_of_block HZ8.out j
  clear hN hrd hbt HC8 HZ8 HA0 HA1 HBA hs1 hsA' how htl htk hsl
  go_wp2_with fail
  change bodyPost _ _ _ _ _ (setMsg (w1.setCell ⟨w.heap.size, 11, none⟩ (.slice s.a s.l s.c)) (w.heap.size + 1) { m with li := toks } p s)
  have hb9 := setMsg_block (m := { m with li := toks }) (p := p) (q := s) HZ9.out
  have hbt9 := setMsg_but (w1.setCell ⟨w.heap.size, 11, none⟩ (.slice s.a s.l s.c)) (w.heap.size + 1) { m with li := toks } p s
  have HRD9 := hid (HRD8.out.but hbt9 (by simp; omega) (by simp; omega) hH)
  have HBT9 : Hid (But [B] w (setMsg (w1.setCell ⟨w.heap.size, 11, none⟩ (.slice s.a s.l s.c)) (w.heap.size + 1) { m with li := toks } p s)) := HBT8.out.below (hbt9.to (B := w.heap.size) (by simp) (by have := HBT8.out.size; omega))
  have HOW9 : Hid (MsgOwn base _ { m with li := toks } p s) := ⟨own_but HM.out.1 HBT9.out (by simp; omega), own_base (own_but HOW8.out hbt9 (by simp)) (by omega), HM.out.2.2.1, HTL.out⟩
  clear HZ9 HRD8 HBT8
  generalize setMsg (w1.setCell ⟨w.heap.size, 11, none⟩ (.slice s.a s.l s.c)) (w.heap.size + 1) { m with li := toks } p s = w9 at *
  obtain ⟨e0, e1', e2', e3', e4, e5, e6, e7, e8, e9, e10, e11⟩ := MV_cells hb9
  exact bodyPost_ret (v := .agg (MV { m with li := toks } p s)) (by simp [results, Try.results43, go_sem, MV, *]) rfl ⟨{ m with li := toks }, p, s, rfl, HRD9.out, HOW9.out, HBT9.out, fun h => by rw [HTK.out h]⟩

set_option maxHeartbeats 4000000 in
theorem rfield_106 (B H base : Nat) (m : Mg) (p q : Sl) (zs : List Int) (e : Int) (w : World) (hr : RdAt 73 B H zs e w) (hm : MsgOwn base w m p q) (hH : H ≤ B) (hB : B < base) (hb : base ≤ w.heap.size) :
    Calls Try.prog 43 #[.pointer (some ⟨B, 0, none⟩), .agg (MV m p q), .int .u8 106] w fun x w' => RFielded B H base (fieldF m zs e 106) w x w' := by
  obtain ⟨hbA, hA0, hA1⟩ := two_blocks w (.cells (MV m p q) 27) (.cells (MV (zeroM 0) ⟨none, 0, 0⟩ ⟨none, 0, 0⟩) 27)
  have hsA : ((w.alloc (.cells (MV m p q) 27)).alloc (.cells (MV (zeroM 0) ⟨none, 0, 0⟩ ⟨none, 0, 0⟩) 27)).heap.size = w.heap.size + 2 := by simp
  have hN := rnum_any B H zs e 18446744073709551615 _ (hr.below hbA (by omega) hH) hH (by omega) (by omega)
  have HF : Hid (fieldF m zs e 106 = ({ m with seed := (jobF zs e).1.1, most := (jobF zs e).1.2.1, pr := (jobF zs e).1.2.2 }, (jobF zs e).2)) := rfl
  rw [HF.out]
  unfold jobF
  have hz1 := (numF_bd hr.bytes e (most := 18446744073709551615) (by omega)).2.1
  generalize numF zs e 18446744073709551615 = r at *
  obtain ⟨n, zs1, e1⟩ := r
  simp only at *
  have HN2 : Hid (∀ W, RdAt 73 B H zs1 e1 W → Calls Try.prog 42 #[.pointer (some ⟨B, 0, none⟩), .int .u64 256] W fun x w' => Numbered 73 B H (numF zs1 e1 256) W x w') := fun W hW => rnum_any B H zs1 e1 256 W hW hH (by omega) (by omega)
  obtain ⟨⟨k0, k1⟩, _, _⟩ := numF_bd hz1 e1 (most := 256) (by omega)
  generalize numF zs1 e1 256 = r at *
  obtain ⟨k, zs2, e2⟩ := r
  simp only at *
  have HN3 : Hid (∀ W, RdAt 73 B H zs2 e2 W → Calls Try.prog 60 #[.pointer (some ⟨B, 0, none⟩)] W fun x w' => RListed 73 B H (listF zs2 e2) W x w') := fun W hW => rlistr_any B H zs2 e2 W hW hH
  generalize listF zs2 e2 = r at *
  obtain ⟨l, zs3, e3⟩ := r
  simp only at *
  have HM := hid hm
  have HA0 := hid hA0
  have HA1 := hid hA1
  have HBA := hid hbA
  clear hr hm HF hA0 hA1 hbA hz1
  rw [MV_zero] at hN hsA
  unfold MV at hN hsA ⊢
  have HSA := hid hsA
  clear hsA
  go_enter Try.func43, Try.ntmps43
  go_wp2_with fail
  refine hN.mono ?_
  rintro x w1 ⟨rfl, hrd, hbt⟩
  simp only at hrd
  have hsA' := HSA.out
  have HC1 := hid ((hbt.block w.heap.size (by rw [hsA']; omega) (by simp; omega)).trans HA0.out)
  have HZ1 := hid ((hbt.block (w.heap.size + 1) (by rw [hsA']; omega) (by simp; omega)).trans HA1.out)
  have HBT1 : Hid (But [B] w w1) := (But.of HBA.out).trans hbt
  have hs1 : w.heap.size + 2 ≤ w1.heap.size := by have := hbt.size; omega
  have HX1 : Hid (But [w.heap.size] w1 (w1.setCell ⟨w.heap.size, 8, none⟩ (.int .u64 n))) := (But.refl _ _).set (by simp) _
  have hN2 := HN2.out _ (hrd.but HX1.out (by simp; omega) (by simp; omega) hH)
  have HBTa : Hid (But [B] w (w1.setCell ⟨w.heap.size, 8, none⟩ (.int .u64 n))) := HBT1.out.below (HX1.out.to (by simp) HBT1.out.size)
  have HZa := hid ((HX1.out.block (w.heap.size + 1) (by omega) (by simp)).trans HZ1.out)
  have HCa := hid (Joins.block_setCell (i := 8) HC1.out (.int .u64 n))
  have hsa : w.heap.size + 2 ≤ (w1.setCell ⟨w.heap.size, 8, none⟩ (.int .u64 n)).heap.size := Nat.le_trans hs1 HX1.out.size
  obtain ⟨d0, d1, d2, d3, d4, d5, d6, d7, d8, d9, d10, d11⟩ := MV_cells HC1.out
  have hfc := fun j => Joins.unfrozen_of_block HC1.out j
  clear hN hrd hbt HC1 HZ1 HA0 HA1 HBA hsA' HX1 HBT1 HN2
  go_wp2_with fail
  refine hN2.mono ?_
  rintro x w2 ⟨rfl, hrd, hbt⟩
  simp only at hrd
  have HC2 := hid ((hbt.block w.heap.size (by omega) (by simp; omega)).trans HCa.out)
  have HZ2 := hid ((hbt.block (w.heap.size + 1) (by omega) (by simp; omega)).trans HZa.out)
  have HBT2 := hid (HBTa.out.trans hbt)
  have hs2 : w.heap.size + 2 ≤ w2.heap.size := Nat.le_trans hsa hbt.size
  have HX2 : Hid (But [w.heap.size] w2 (w2.setCell ⟨w.heap.size, 10, none⟩ (.int .i64 k))) := (But.refl _ _).set (by simp) _
  have hN3 := HN3.out _ (hrd.but HX2.out (by simp; omega) (by simp; omega) hH)
  have HBTb : Hid (But [B] w (w2.setCell ⟨w.heap.size, 10, none⟩ (.int .i64 k))) := HBT2.out.below (HX2.out.to (by simp) HBT2.out.size)
  have HZb := hid ((HX2.out.block (w.heap.size + 1) (by omega) (by simp)).trans HZ2.out)
  have HCb := hid (Joins.block_setCell (i := 10) HC2.out (.int .i64 k))
  have hsb : w.heap.size + 2 ≤ (w2.setCell ⟨w.heap.size, 10, none⟩ (.int .i64 k)).heap.size := Nat.le_trans hs2 HX2.out.size
  clear d0 d1 d2 d3 d4 d5 d6 d7 d8 d9 d10 d11 hfc
  have HC2' : Hid (w2.heap[w.heap.size]? = some (.cells (MV { m with seed := n } p q) 27)) := HC2.out
  obtain ⟨d0, d1, d2, d3, d4, d5, d6, d7, d8, d9, d10, d11⟩ := MV_cells HC2'.out
  have hfc := fun j => Joins.unfrozen_of_block HC2'.out j
  clear hN2 hrd hbt HC2 HC2' HZ2 HBT2 HX2 HCa HZa HBTa HN3
  go_wp2_with fail
  refine hN3.mono ?_
  rintro x w3 ⟨v, toks, rfl, htl, how, hrd, hbt, htk⟩
  simp only at hrd htk
  obtain ⟨s, rfl, hsl⟩ := own_sl how
  rw [← hsl] at how htl
  have HC8 : Hid (w3.heap[w.heap.size]? = some (.cells (MV { m with seed := n, most := k } p q) 27)) := (hbt.block w.heap.size (by omega) (by simp; omega)).trans HCb.out
  have HZ8 := hid ((hbt.block (w.heap.size + 1) (by omega) (by simp; omega)).trans HZb.out)
  have HBT3 := hid (HBTb.out.trans hbt)
  have hs3 : w.heap.size + 2 ≤ w3.heap.size := Nat.le_trans hsb hbt.size
  have HX : Hid (But [w.heap.size] w3 (w3.setCell ⟨w.heap.size, 9, none⟩ (.slice s.a s.l s.c))) := (But.refl _ _).set (by simp) _
  have HRD8 : Hid (RdAt 73 B H zs3 e3 (w3.setCell ⟨w.heap.size, 9, none⟩ (.slice s.a s.l s.c))) := hrd.but HX.out (by simp; omega) (by simp; omega) hH
  have HBT8 : Hid (But [B] w (w3.setCell ⟨w.heap.size, 9, none⟩ (.slice s.a s.l s.c))) := HBT3.out.below (HX.out.to (by simp) HBT3.out.size)
  have HZ9 : Hid ((w3.setCell ⟨w.heap.size, 9, none⟩ (.slice s.a s.l s.c)).heap[w.heap.size + 1]? = some (.cells (MV (zeroM 0) ⟨none, 0, 0⟩ ⟨none, 0, 0⟩) 27)) := (HX.out.block _ (by omega) (by simp)).trans HZ8.out
  have HOW8 := hid (own_base (B := w.heap.size + 2) (own_but how HX.out (by simp; omega)) hsb)
  have HTL := hid htl
  have HTK := hid htk
  clear d0 d1 d2 d3 d4 d5 d6 d7 d8 d9 d10 d11 hfc
  obtain ⟨d0, d1, d2, d3, d4, d5, d6, d7, d8, d9, d10, d11⟩ := MV_cells HC8.out
  obtain ⟨z0, z1, z2, z3, z4, z5, z6, z7, z8, z9, z10, z11⟩ := MV_cells HZ8.out
  simp only [zeroM] at z0 z1 z2 z3 z4 z5 z6 z7 z8 z9 z10 z11
  have hfc := fun j => Joins.unfrozen_of_block HC8.out j
  have hfz := fun j => Joins.unfrozen_of_block HZ8.out j
  clear hN3 hrd hbt HC8 HZ8 how htl htk hsl HBT3 HX HCb HZb HBTb
  go_wp2_with fail
  change bodyPost _ _ _ _ _ (setMsg (w3.setCell ⟨w.heap.size, 9, none⟩ (.slice s.a s.l s.c)) (w.heap.size + 1) { m with seed := n, most := k, pr := toks } s q)
  have hb9 := setMsg_block (m := { m with seed := n, most := k, pr := toks }) (p := s) (q := q) HZ9.out
  have hbt9 := setMsg_but (w3.setCell ⟨w.heap.size, 9, none⟩ (.slice s.a s.l s.c)) (w.heap.size + 1) { m with seed := n, most := k, pr := toks } s q
  have HRD9 := hid (HRD8.out.but hbt9 (by simp; omega) (by simp; omega) hH)
  have HBT9 : Hid (But [B] w (setMsg (w3.setCell ⟨w.heap.size, 9, none⟩ (.slice s.a s.l s.c)) (w.heap.size + 1) { m with seed := n, most := k, pr := toks } s q)) := HBT8.out.below (hbt9.to (B := w.heap.size) (by simp) (by have := HBT8.out.size; omega))
  have HOW9 : Hid (MsgOwn base _ { m with seed := n, most := k, pr := toks } s q) := ⟨own_base (own_but HOW8.out hbt9 (by simp)) (by omega), own_but HM.out.2.1 HBT9.out (by simp; omega), HTL.out, HM.out.2.2.2⟩
  clear HZ9 HRD8 HBT8
  generalize setMsg (w3.setCell ⟨w.heap.size, 9, none⟩ (.slice s.a s.l s.c)) (w.heap.size + 1) { m with seed := n, most := k, pr := toks } s q = w9 at *
  obtain ⟨e0, e1', e2', e3', e4, e5, e6, e7, e8, e9, e10, e11⟩ := MV_cells hb9
  exact bodyPost_ret (v := .agg (MV { m with seed := n, most := k, pr := toks } s q)) (by simp [results, Try.results43, go_sem, MV, *]) rfl ⟨{ m with seed := n, most := k, pr := toks }, s, q, rfl, HRD9.out, HOW9.out, HBT9.out, fun h => by rw [HTK.out h]⟩

theorem rfield_any (B H base : Nat) (m : Mg) (p q : Sl) (zs : List Int) (e c : Int) (hc : Letter c) (w : World) (hr : RdAt 73 B H zs e w) (hm : MsgOwn base w m p q) (hH : H ≤ B) (hB : B < base) (hb : base ≤ w.heap.size) :
    Calls Try.prog 43 #[.pointer (some ⟨B, 0, none⟩), .agg (MV m p q), .int .u8 c] w fun x w' => RFielded B H base (fieldF m zs e c) w x w' := by
  rcases hc with rfl | rfl | rfl | rfl | rfl | rfl | rfl | rfl | rfl
  · exact rfield_115 B H base m p q zs e w hr hm hH hB hb
  · exact rfield_101 B H base m p q zs e w hr hm hH hB hb
  · exact rfield_97 B H base m p q zs e w hr hm hH hB hb
  · exact rfield_105 B H base m p q zs e w hr hm hH hB hb
  · exact rfield_110 B H base m p q zs e w hr hm hH hB hb
  · exact rfield_99 B H base m p q zs e w hr hm hH hB hb
  · exact rfield_119 B H base m p q zs e w hr hm hH hB hb
  · exact rfield_106 B H base m p q zs e w hr hm hH hB hb
  · exact rfield_108 B H base m p q zs e w hr hm hH hB hb

end Go.Proofs.Ytlcfjhlchpeedaa
