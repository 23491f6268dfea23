/-
  Contract: reader.field reads the numbers of a field into a message.
-/
import Derived.Test.YtlcfjhlchpeedaaLsts
namespace Go.Proofs.Ytlcfjhlchpeedaa
open Go.RowKit
open M
set_option linter.unusedVariables false
set_option maxRecDepth 1000000

/-- A message in block C, its lists in rows of the call's own from base on. -/
def MsgAt (T : TypeId) (C base : Nat) (m : Mg) (w : World) : Prop :=
  ∃ p q : Sl, w.heap[C]? = some (.cells (MV m p q) T) ∧ w.ownsRow base 3 1 (.slice p.a p.l p.c) p.l (m.pr.map (Value.int .i64)) ∧ w.ownsRow base 3 1 (.slice q.a q.l q.c) q.l (m.li.map (Value.int .i64)) ∧ p.l ≤ 256 ∧ q.l ≤ 256
theorem MsgAt.lt {T : TypeId} {C base : Nat} {m : Mg} {w : World} (h : MsgAt T C base m w) : C < w.heap.size := by
  obtain ⟨p, q, h1, _⟩ := h
  exact (Array.getElem?_eq_some_iff.1 h1).1
theorem MsgAt.but {T : TypeId} {C base : Nat} {m : Mg} {w w' : World} {S : List Nat} (h : MsgAt T C base m w) (hb : But S w w') (hC : C ∉ S) (hS : ∀ s ∈ S, s < base) : MsgAt T C base m w' := by
  have hlt := h.lt
  obtain ⟨p, q, h1, h2, h3, h4, h5⟩ := h
  exact ⟨p, q, (hb.block C hlt hC).trans h1, own_but h2 hb hS, own_but h3 hb hS, h4, h5⟩
theorem listF_len256 {zs : List Int} (hz : IsBytes zs) (e : Int) : (listF zs e).1.length ≤ 256 := by
  unfold listF
  rw [toksF_len]
  have := (numF_bd hz e (most := 256) (by omega)).1
  omega
theorem RdAt.bytes {T : TypeId} {B H : Nat} {zs : List Int} {e : Int} {w : World} (h : RdAt T B H zs e w) : IsBytes zs := by
  obtain ⟨_, _, _, _, _, _, hz, _⟩ := h; exact hz

set_option maxHeartbeats 4000000 in
theorem field_115 (B C H base : Nat) (m : Mg) (zs : List Int) (e : Int) (w : World) (hr : RdAt 66 B H zs e w) (hm : MsgAt 34 C base m w) (hH : H ≤ B) (hBC : B < C) (hC : C < base) (hb : base ≤ w.heap.size) :
    Calls Try.prog 40 #[.pointer (some ⟨B, 0, none⟩), .pointer (some ⟨C, 0, none⟩), .int .i32 115] w fun x w' => x = .returned (.tuple #[]) ∧ RdAt 66 B H (fieldF m zs e 115).2.1 (fieldF m zs e 115).2.2 w' ∧ MsgAt 34 C base (fieldF m zs e 115).1 w' ∧ But [B, C] w w' := by
  have hN := anynum_any B H zs e w hr hH
  have HF : Hid (fieldF m zs e 115 = ({ m with st := (numF zs e 18446744073709551615).1 }, (numF zs e 18446744073709551615).2)) := rfl
  obtain ⟨⟨n0, n1⟩, _, _⟩ := numF_bd hr.bytes e (most := 18446744073709551615) (by omega)
  rw [HF.out]
  generalize numF zs e 18446744073709551615 = r at *
  obtain ⟨n, zs1, e1⟩ := r
  simp only at *
  have HM := hid hm
  clear hr hm HF
  go_enter Try.func40, Try.ntmps40
  go_wp2_with fail
  refine hN.mono ?_
  rintro x w1 ⟨rfl, hrd, hbt⟩
  simp only at hrd
  have hs := hbt.size
  obtain ⟨p, q, hblk, hp, hq, p1, q1⟩ := HM.out.but hbt (by simp; omega) (by simp; omega)
  have hcl : w1.cell? ⟨C, 1, none⟩ = some (.int .u64 m.st) := by rw [Joins.cell_of_block hblk]; rfl
  have hfz := Joins.unfrozen_of_block hblk 1
  have HS := hid (Joins.block_setCell (i := 1) hblk (.int .u64 n))
  have HX : Hid (But [C] w1 (w1.setCell ⟨C, 1, none⟩ (.int .u64 n))) := (But.refl _ _).set (by simp) _
  have HP := hid (own_but hp HX.out (by simp; omega))
  have HQ := hid (own_but hq HX.out (by simp; omega))
  have HR := hid hrd
  have HT := hid hbt
  clear hN HM hblk hp hq hrd hbt
  go_wp2
  go_end0
  exact ⟨rfl, HR.out.but HX.out (by simp; omega) (by simp; omega) hH, ⟨p, q, HS.out, HP.out, HQ.out, p1, q1⟩, (HT.out.mono (by simp)).trans (HX.out.mono (by simp))⟩

set_option maxHeartbeats 4000000 in
theorem field_101 (B C H base : Nat) (m : Mg) (zs : List Int) (e : Int) (w : World) (hr : RdAt 66 B H zs e w) (hm : MsgAt 34 C base m w) (hH : H ≤ B) (hBC : B < C) (hC : C < base) (hb : base ≤ w.heap.size) :
    Calls Try.prog 40 #[.pointer (some ⟨B, 0, none⟩), .pointer (some ⟨C, 0, none⟩), .int .i32 101] w fun x w' => x = .returned (.tuple #[]) ∧ RdAt 66 B H (fieldF m zs e 101).2.1 (fieldF m zs e 101).2.2 w' ∧ MsgAt 34 C base (fieldF m zs e 101).1 w' ∧ But [B, C] w w' := by
  have hN := anynum_any B H zs e w hr hH
  have HF : Hid (fieldF m zs e 101 = ({ m with se := (numF zs e 18446744073709551615).1 }, (numF zs e 18446744073709551615).2)) := rfl
  obtain ⟨⟨n0, n1⟩, _, _⟩ := numF_bd hr.bytes e (most := 18446744073709551615) (by omega)
  rw [HF.out]
  generalize numF zs e 18446744073709551615 = r at *
  obtain ⟨n, zs1, e1⟩ := r
  simp only at *
  have HM := hid hm
  clear hr hm HF
  go_enter Try.func40, Try.ntmps40
  go_wp2_with fail
  refine hN.mono ?_
  rintro x w1 ⟨rfl, hrd, hbt⟩
  simp only at hrd
  have hs := hbt.size
  obtain ⟨p, q, hblk, hp, hq, p1, q1⟩ := HM.out.but hbt (by simp; omega) (by simp; omega)
  have hcl : w1.cell? ⟨C, 2, none⟩ = some (.int .u64 m.se) := by rw [Joins.cell_of_block hblk]; rfl
  have hfz := Joins.unfrozen_of_block hblk 2
  have HS := hid (Joins.block_setCell (i := 2) hblk (.int .u64 n))
  have HX : Hid (But [C] w1 (w1.setCell ⟨C, 2, none⟩ (.int .u64 n))) := (But.refl _ _).set (by simp) _
  have HP := hid (own_but hp HX.out (by simp; omega))
  have HQ := hid (own_but hq HX.out (by simp; omega))
  have HR := hid hrd
  have HT := hid hbt
  clear hN HM hblk hp hq hrd hbt
  go_wp2
  go_end0
  exact ⟨rfl, HR.out.but HX.out (by simp; omega) (by simp; omega) hH, ⟨p, q, HS.out, HP.out, HQ.out, p1, q1⟩, (HT.out.mono (by simp)).trans (HX.out.mono (by simp))⟩

set_option maxHeartbeats 4000000 in
theorem field_97 (B C H base : Nat) (m : Mg) (zs : List Int) (e : Int) (w : World) (hr : RdAt 66 B H zs e w) (hm : MsgAt 34 C base m w) (hH : H ≤ B) (hBC : B < C) (hC : C < base) (hb : base ≤ w.heap.size) :
    Calls Try.prog 40 #[.pointer (some ⟨B, 0, none⟩), .pointer (some ⟨C, 0, none⟩), .int .i32 97] w fun x w' => x = .returned (.tuple #[]) ∧ RdAt 66 B H (fieldF m zs e 97).2.1 (fieldF m zs e 97).2.2 w' ∧ MsgAt 34 C base (fieldF m zs e 97).1 w' ∧ But [B, C] w w' := by
  have hN := anynum_any B H zs e w hr hH
  have HF : Hid (fieldF m zs e 97 = ({ m with ate := (numF zs e 18446744073709551615).1 }, (numF zs e 18446744073709551615).2)) := rfl
  obtain ⟨⟨n0, n1⟩, _, _⟩ := numF_bd hr.bytes e (most := 18446744073709551615) (by omega)
  rw [HF.out]
  generalize numF zs e 18446744073709551615 = r at *
  obtain ⟨n, zs1, e1⟩ := r
  simp only at *
  have HM := hid hm
  clear hr hm HF
  go_enter Try.func40, Try.ntmps40
  go_wp2_with fail
  refine hN.mono ?_
  rintro x w1 ⟨rfl, hrd, hbt⟩
  simp only at hrd
  have hs := hbt.size
  obtain ⟨p, q, hblk, hp, hq, p1, q1⟩ := HM.out.but hbt (by simp; omega) (by simp; omega)
  have hcl : w1.cell? ⟨C, 3, none⟩ = some (.int .u64 m.ate) := by rw [Joins.cell_of_block hblk]; rfl
  have hfz := Joins.unfrozen_of_block hblk 3
  have HS := hid (Joins.block_setCell (i := 3) hblk (.int .u64 n))
  have HX : Hid (But [C] w1 (w1.setCell ⟨C, 3, none⟩ (.int .u64 n))) := (But.refl _ _).set (by simp) _
  have HP := hid (own_but hp HX.out (by simp; omega))
  have HQ := hid (own_but hq HX.out (by simp; omega))
  have HR := hid hrd
  have HT := hid hbt
  clear hN HM hblk hp hq hrd hbt
  go_wp2
  go_end0
  exact ⟨rfl, HR.out.but HX.out (by simp; omega) (by simp; omega) hH, ⟨p, q, HS.out, HP.out, HQ.out, p1, q1⟩, (HT.out.mono (by simp)).trans (HX.out.mono (by simp))⟩

set_option maxHeartbeats 4000000 in
theorem field_105 (B C H base : Nat) (m : Mg) (zs : List Int) (e : Int) (w : World) (hr : RdAt 66 B H zs e w) (hm : MsgAt 34 C base m w) (hH : H ≤ B) (hBC : B < C) (hC : C < base) (hb : base ≤ w.heap.size) :
    Calls Try.prog 40 #[.pointer (some ⟨B, 0, none⟩), .pointer (some ⟨C, 0, none⟩), .int .i32 105] w fun x w' => x = .returned (.tuple #[]) ∧ RdAt 66 B H (fieldF m zs e 105).2.1 (fieldF m zs e 105).2.2 w' ∧ MsgAt 34 C base (fieldF m zs e 105).1 w' ∧ But [B, C] w w' := by
  have hN := anynum_any B H zs e w hr hH
  have HF : Hid (fieldF m zs e 105 = ({ m with inc := (numF zs e 18446744073709551615).1 }, (numF zs e 18446744073709551615).2)) := rfl
  obtain ⟨⟨n0, n1⟩, _, _⟩ := numF_bd hr.bytes e (most := 18446744073709551615) (by omega)
  rw [HF.out]
  generalize numF zs e 18446744073709551615 = r at *
  obtain ⟨n, zs1, e1⟩ := r
  simp only at *
  have HM := hid hm
  clear hr hm HF
  go_enter Try.func40, Try.ntmps40
  go_wp2_with fail
  refine hN.mono ?_
  rintro x w1 ⟨rfl, hrd, hbt⟩
  simp only at hrd
  have hs := hbt.size
  obtain ⟨p, q, hblk, hp, hq, p1, q1⟩ := HM.out.but hbt (by simp; omega) (by simp; omega)
  have hcl : w1.cell? ⟨C, 4, none⟩ = some (.int .u64 m.inc) := by rw [Joins.cell_of_block hblk]; rfl
  have hfz := Joins.unfrozen_of_block hblk 4
  have HS := hid (Joins.block_setCell (i := 4) hblk (.int .u64 n))
  have HX : Hid (But [C] w1 (w1.setCell ⟨C, 4, none⟩ (.int .u64 n))) := (But.refl _ _).set (by simp) _
  have HP := hid (own_but hp HX.out (by simp; omega))
  have HQ := hid (own_but hq HX.out (by simp; omega))
  have HR := hid hrd
  have HT := hid hbt
  clear hN HM hblk hp hq hrd hbt
  go_wp2
  go_end0
  exact ⟨rfl, HR.out.but HX.out (by simp; omega) (by simp; omega) hH, ⟨p, q, HS.out, HP.out, HQ.out, p1, q1⟩, (HT.out.mono (by simp)).trans (HX.out.mono (by simp))⟩

set_option maxHeartbeats 4000000 in
theorem field_110 (B C H base : Nat) (m : Mg) (zs : List Int) (e : Int) (w : World) (hr : RdAt 66 B H zs e w) (hm : MsgAt 34 C base m w) (hH : H ≤ B) (hBC : B < C) (hC : C < base) (hb : base ≤ w.heap.size) :
    Calls Try.prog 40 #[.pointer (some ⟨B, 0, none⟩), .pointer (some ⟨C, 0, none⟩), .int .i32 110] w fun x w' => x = .returned (.tuple #[]) ∧ RdAt 66 B H (fieldF m zs e 110).2.1 (fieldF m zs e 110).2.2 w' ∧ MsgAt 34 C base (fieldF m zs e 110).1 w' ∧ But [B, C] w w' := by
  have hN := anynum_any B H zs e w hr hH
  have HF : Hid (fieldF m zs e 110 = ({ m with n := (numF zs e 18446744073709551615).1 }, (numF zs e 18446744073709551615).2)) := rfl
  obtain ⟨⟨n0, n1⟩, _, _⟩ := numF_bd hr.bytes e (most := 18446744073709551615) (by omega)
  rw [HF.out]
  generalize numF zs e 18446744073709551615 = r at *
  obtain ⟨n, zs1, e1⟩ := r
  simp only at *
  have HM := hid hm
  clear hr hm HF
  go_enter Try.func40, Try.ntmps40
  go_wp2_with fail
  refine hN.mono ?_
  rintro x w1 ⟨rfl, hrd, hbt⟩
  simp only at hrd
  have hs := hbt.size
  obtain ⟨p, q, hblk, hp, hq, p1, q1⟩ := HM.out.but hbt (by simp; omega) (by simp; omega)
  have hcl : w1.cell? ⟨C, 5, none⟩ = some (.int .u64 m.n) := by rw [Joins.cell_of_block hblk]; rfl
  have hfz := Joins.unfrozen_of_block hblk 5
  have HS := hid (Joins.block_setCell (i := 5) hblk (.int .u64 n))
  have HX : Hid (But [C] w1 (w1.setCell ⟨C, 5, none⟩ (.int .u64 n))) := (But.refl _ _).set (by simp) _
  have HP := hid (own_but hp HX.out (by simp; omega))
  have HQ := hid (own_but hq HX.out (by simp; omega))
  have HR := hid hrd
  have HT := hid hbt
  clear hN HM hblk hp hq hrd hbt
  go_wp2
  go_end0
  exact ⟨rfl, HR.out.but HX.out (by simp; omega) (by simp; omega) hH, ⟨p, q, HS.out, HP.out, HQ.out, p1, q1⟩, (HT.out.mono (by simp)).trans (HX.out.mono (by simp))⟩

set_option maxHeartbeats 4000000 in
theorem field_99 (B C H base : Nat) (m : Mg) (zs : List Int) (e : Int) (w : World) (hr : RdAt 66 B H zs e w) (hm : MsgAt 34 C base m w) (hH : H ≤ B) (hBC : B < C) (hC : C < base) (hb : base ≤ w.heap.size) :
    Calls Try.prog 40 #[.pointer (some ⟨B, 0, none⟩), .pointer (some ⟨C, 0, none⟩), .int .i32 99] w fun x w' => x = .returned (.tuple #[]) ∧ RdAt 66 B H (fieldF m zs e 99).2.1 (fieldF m zs e 99).2.2 w' ∧ MsgAt 34 C base (fieldF m zs e 99).1 w' ∧ But [B, C] w w' := by
  have hN := anynum_any B H zs e w hr hH
  have HF : Hid (fieldF m zs e 99 = ({ m with cnt := (numF zs e 18446744073709551615).1 }, (numF zs e 18446744073709551615).2)) := rfl
  obtain ⟨⟨n0, n1⟩, _, _⟩ := numF_bd hr.bytes e (most := 18446744073709551615) (by omega)
  rw [HF.out]
  generalize numF zs e 18446744073709551615 = r at *
  obtain ⟨n, zs1, e1⟩ := r
  simp only at *
  have HM := hid hm
  clear hr hm HF
  go_enter Try.func40, Try.ntmps40
  go_wp2_with fail
  refine hN.mono ?_
  rintro x w1 ⟨rfl, hrd, hbt⟩
  simp only at hrd
  have hs := hbt.size
  obtain ⟨p, q, hblk, hp, hq, p1, q1⟩ := HM.out.but hbt (by simp; omega) (by simp; omega)
  have hcl : w1.cell? ⟨C, 6, none⟩ = some (.int .u64 m.cnt) := by rw [Joins.cell_of_block hblk]; rfl
  have hfz := Joins.unfrozen_of_block hblk 6
  have HS := hid (Joins.block_setCell (i := 6) hblk (.int .u64 n))
  have HX : Hid (But [C] w1 (w1.setCell ⟨C, 6, none⟩ (.int .u64 n))) := (But.refl _ _).set (by simp) _
  have HP := hid (own_but hp HX.out (by simp; omega))
  have HQ := hid (own_but hq HX.out (by simp; omega))
  have HR := hid hrd
  have HT := hid hbt
  clear hN HM hblk hp hq hrd hbt
  go_wp2
  go_end0
  exact ⟨rfl, HR.out.but HX.out (by simp; omega) (by simp; omega) hH, ⟨p, q, HS.out, HP.out, HQ.out, p1, q1⟩, (HT.out.mono (by simp)).trans (HX.out.mono (by simp))⟩

set_option maxHeartbeats 4000000 in
theorem field_119 (B C H base : Nat) (m : Mg) (zs : List Int) (e : Int) (w : World) (hr : RdAt 66 B H zs e w) (hm : MsgAt 34 C base m w) (hH : H ≤ B) (hBC : B < C) (hC : C < base) (hb : base ≤ w.heap.size) :
    Calls Try.prog 40 #[.pointer (some ⟨B, 0, none⟩), .pointer (some ⟨C, 0, none⟩), .int .i32 119] w fun x w' => x = .returned (.tuple #[]) ∧ RdAt 66 B H (fieldF m zs e 119).2.1 (fieldF m zs e 119).2.2 w' ∧ MsgAt 34 C base (fieldF m zs e 119).1 w' ∧ But [B, C] w w' := by
  have hN := number_any B H zs e 255 w hr hH (by omega) (by omega)
  have HF : Hid (fieldF m zs e 119 = ({ m with why := (numF zs e 255).1 }, (numF zs e 255).2)) := rfl
  obtain ⟨⟨n0, n1⟩, _, _⟩ := numF_bd hr.bytes e (most := 255) (by omega)
  rw [HF.out]
  generalize numF zs e 255 = r at *
  obtain ⟨n, zs1, e1⟩ := r
  simp only at *
  have HM := hid hm
  clear hr hm HF
  go_enter Try.func40, Try.ntmps40
  go_wp2_with fail
  refine hN.mono ?_
  rintro x w1 ⟨rfl, hrd, hbt⟩
  simp only at hrd
  have hs := hbt.size
  obtain ⟨p, q, hblk, hp, hq, p1, q1⟩ := HM.out.but hbt (by simp; omega) (by simp; omega)
  have hcl : w1.cell? ⟨C, 7, none⟩ = some (.int .i64 m.why) := by rw [Joins.cell_of_block hblk]; rfl
  have hfz := Joins.unfrozen_of_block hblk 7
  have HS := hid (Joins.block_setCell (i := 7) hblk (.int .i64 n))
  have HX : Hid (But [C] w1 (w1.setCell ⟨C, 7, none⟩ (.int .i64 n))) := (But.refl _ _).set (by simp) _
  have HP := hid (own_but hp HX.out (by simp; omega))
  have HQ := hid (own_but hq HX.out (by simp; omega))
  have HR := hid hrd
  have HT := hid hbt
  clear hN HM hblk hp hq hrd hbt
  go_wp2
  go_end0
  exact ⟨rfl, HR.out.but HX.out (by simp; omega) (by simp; omega) hH, ⟨p, q, HS.out, HP.out, HQ.out, p1, q1⟩, (HT.out.mono (by simp)).trans (HX.out.mono (by simp))⟩

set_option maxHeartbeats 4000000 in
theorem field_108 (B C H base : Nat) (m : Mg) (zs : List Int) (e : Int) (w : World) (hr : RdAt 66 B H zs e w) (hm : MsgAt 34 C base m w) (hH : H ≤ B) (hBC : B < C) (hC : C < base) (hb : base ≤ w.heap.size) :
    Calls Try.prog 40 #[.pointer (some ⟨B, 0, none⟩), .pointer (some ⟨C, 0, none⟩), .int .i32 108] w fun x w' => x = .returned (.tuple #[]) ∧ RdAt 66 B H (fieldF m zs e 108).2.1 (fieldF m zs e 108).2.2 w' ∧ MsgAt 34 C base (fieldF m zs e 108).1 w' ∧ But [B, C] w w' := by
  have hN := list_any B H zs e w hr hH
  have HF : Hid (fieldF m zs e 108 = ({ m with li := (listF zs e).1 }, (listF zs e).2)) := rfl
  have hl := listF_len256 hr.bytes e
  rw [HF.out]
  generalize listF zs e = r at *
  obtain ⟨l, zs1, e1⟩ := r
  simp only at *
  have HM := hid hm
  clear hr hm HF
  go_enter Try.func40, Try.ntmps40
  go_wp2_with fail
  refine hN.mono ?_
  rintro x w1 ⟨v, rfl, how, hrd, hbt⟩
  simp only at how hrd
  obtain ⟨s, rfl, hsl⟩ := own_sl how
  rw [← hsl] at how
  have hs := hbt.size
  obtain ⟨p, q, hblk, hp, hq, p1, q1⟩ := HM.out.but hbt (by simp; omega) (by simp; omega)
  have hcl : w1.cell? ⟨C, 11, none⟩ = some (.slice q.a q.l q.c) := by rw [Joins.cell_of_block hblk]; rfl
  have hfz := Joins.unfrozen_of_block hblk 11
  have HS := hid (Joins.block_setCell (i := 11) hblk (.slice s.a s.l s.c))
  have HX : Hid (But [C] w1 (w1.setCell ⟨C, 11, none⟩ (.slice s.a s.l s.c))) := (But.refl _ _).set (by simp) _
  have HP := hid (own_but hp HX.out (by simp; omega))
  have HQ := hid (own_base (B := base) (own_but how HX.out (by simp; omega)) (by omega))
  have HR := hid hrd
  have HT := hid hbt
  have HL : Hid (s.l ≤ 256) := by unfold Hid; omega
  clear hN HM hblk hp hq hrd hbt how hsl
  go_wp2
  go_end0
  exact ⟨rfl, HR.out.but HX.out (by simp; omega) (by simp; omega) hH, ⟨p, s, HS.out, HP.out, HQ.out, p1, HL.out⟩, (HT.out.mono (by simp)).trans (HX.out.mono (by simp))⟩

set_option maxHeartbeats 4000000 in
theorem field_106 (B C H base : Nat) (m : Mg) (zs : List Int) (e : Int) (w : World) (hr : RdAt 66 B H zs e w) (hm : MsgAt 34 C base m w) (hH : H ≤ B) (hBC : B < C) (hC : C < base) (hb : base ≤ w.heap.size) :
    Calls Try.prog 40 #[.pointer (some ⟨B, 0, none⟩), .pointer (some ⟨C, 0, none⟩), .int .i32 106] w fun x w' => x = .returned (.tuple #[]) ∧ RdAt 66 B H (fieldF m zs e 106).2.1 (fieldF m zs e 106).2.2 w' ∧ MsgAt 34 C base (fieldF m zs e 106).1 w' ∧ But [B, C] w w' := by
  have hN := job_any B H zs e w hr hH
  have HF : Hid (fieldF m zs e 106 = ({ m with seed := (jobF zs e).1.1, most := (jobF zs e).1.2.1, pr := (jobF zs e).1.2.2 }, (jobF zs e).2)) := rfl
  have hl : (jobF zs e).1.2.2.length ≤ 256 := by
    have h1 := (numF_bd hr.bytes e (most := 18446744073709551615) (by omega)).2.1
    have h2 := (numF_bd h1 (numF zs e 18446744073709551615).2.2 (most := 256) (by omega)).2.1
    exact listF_len256 h2 _
  rw [HF.out]
  generalize jobF zs e = r at *
  obtain ⟨⟨n, k, l⟩, zs1, e1⟩ := r
  simp only at *
  have HM := hid hm
  clear hr hm HF
  go_enter Try.func40, Try.ntmps40
  go_wp2_with fail
  refine hN.mono ?_
  rintro x w1 ⟨s, rfl, how, hsl, hrd, hbt⟩
  rw [← hsl] at how
  have hs := hbt.size
  obtain ⟨p, q, hblk, hp, hq, p1, q1⟩ := HM.out.but hbt (by simp; omega) (by simp; omega)
  have c8 : w1.cell? ⟨C, 8, none⟩ = some (.int .u64 m.seed) := by rw [Joins.cell_of_block hblk]; rfl
  have c9 : w1.cell? ⟨C, 9, none⟩ = some (.slice p.a p.l p.c) := by rw [Joins.cell_of_block hblk]; rfl
  have c10 : w1.cell? ⟨C, 10, none⟩ = some (.int .i64 m.most) := by rw [Joins.cell_of_block hblk]; rfl
  have f8 := Joins.unfrozen_of_block hblk 8
  have f9 := Joins.unfrozen_of_block hblk 9
  have f10 := Joins.unfrozen_of_block hblk 10
  have HS := hid (Joins.block_setCell (i := 10) (Joins.block_setCell (i := 9) (Joins.block_setCell (i := 8) hblk (.int .u64 n)) (.slice s.a s.l s.c)) (.int .i64 k))
  have HX : Hid (But [C] w1 (((w1.setCell ⟨C, 8, none⟩ (.int .u64 n)).setCell ⟨C, 9, none⟩ (.slice s.a s.l s.c)).setCell ⟨C, 10, none⟩ (.int .i64 k))) := (((But.refl _ _).set (by simp) _).set (by simp) _).set (by simp) _
  have HP := hid (own_base (B := base) (own_but how HX.out (by simp; omega)) (by omega))
  have HQ := hid (own_but hq HX.out (by simp; omega))
  have HR := hid hrd
  have HT := hid hbt
  have HL : Hid (s.l ≤ 256) := by unfold Hid; omega
  clear hN HM hblk hp hq hrd hbt how hsl
  go_wp2
  go_end0
  exact ⟨rfl, HR.out.but HX.out (by simp; omega) (by simp; omega) hH, ⟨s, q, HS.out, HP.out, HQ.out, HL.out, q1⟩, (HT.out.mono (by simp)).trans (HX.out.mono (by simp))⟩

theorem field_any (B C H base : Nat) (m : Mg) (zs : List Int) (e c : Int) (hc : Letter c) (w : World) (hr : RdAt 66 B H zs e w) (hm : MsgAt 34 C base m w) (hH : H ≤ B) (hBC : B < C) (hC : C < base) (hb : base ≤ w.heap.size) :
    Calls Try.prog 40 #[.pointer (some ⟨B, 0, none⟩), .pointer (some ⟨C, 0, none⟩), .int .i32 c] w fun x w' => x = .returned (.tuple #[]) ∧ RdAt 66 B H (fieldF m zs e c).2.1 (fieldF m zs e c).2.2 w' ∧ MsgAt 34 C base (fieldF m zs e c).1 w' ∧ But [B, C] w w' := by
  rcases hc with rfl | rfl | rfl | rfl | rfl | rfl | rfl | rfl | rfl
  · exact field_115 B C H base m zs e w hr hm hH hBC hC hb
  · exact field_101 B C H base m zs e w hr hm hH hBC hC hb
  · exact field_97 B C H base m zs e w hr hm hH hBC hC hb
  · exact field_105 B C H base m zs e w hr hm hH hBC hC hb
  · exact field_110 B C H base m zs e w hr hm hH hBC hC hb
  · exact field_99 B C H base m zs e w hr hm hH hBC hC hb
  · exact field_119 B C H base m zs e w hr hm hH hBC hC hb
  · exact field_106 B C H base m zs e w hr hm hH hBC hC hb
  · exact field_108 B C H base m zs e w hr hm hH hBC hC hb

end Go.Proofs.Ytlcfjhlchpeedaa
