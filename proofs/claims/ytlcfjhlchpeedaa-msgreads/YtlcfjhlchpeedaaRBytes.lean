/-
  Contract: the document's Parse hands back the message of bytes, or the error.
-/
import Derived.Test.YtlcfjhlchpeedaaRRead
import Derived.Test.YtlcfjhlchpeedaaBytes
namespace Go.Proofs.Ytlcfjhlchpeedaa
open Go.RowKit
open M
set_option linter.unusedVariables false
set_option maxRecDepth 1000000

set_option maxHeartbeats 4000000 in
theorem rparsem_any (a : Option Addr) (l c : Nat) (zs : List Int) (w : World) (hr : Reads .u8 w a l c zs) (hz : IsBytes zs) (hl : l ≤ 10000) :
    Calls Try.prog 22 #[.slice a l c] w fun x w' => ReadOut (parseM zs) w x w' := by
  have hO := rone_any a l c zs (w.alloc (.cells (MV (zeroM 0) ⟨none, 0, 0⟩ ⟨none, 0, 0⟩) 27)) (hr.below (by go_grown)) hz hl
  have HPM : Hid (parseM zs = if (oneF zs).2 ≠ 0 then (zeroM 0, (oneF zs).2) else readF (oneF zs).1) := rfl
  obtain ⟨ob, ol⟩ := one_bytes hz
  have HOB := hid ob
  unfold Told1 at hO
  rw [MV_zero] at hO
  generalize oneF zs = r at *
  obtain ⟨ys, f⟩ := r
  simp only at *
  clear hr hz ob
  go_enter Try.func22, Try.ntmps22
  go_wp2_with fail
  refine hO.mono ?_
  rintro x w1 ⟨a1, l1, c1, rfl, hr1, hb1⟩
  have HB1 : Hid (Below w.heap.size w w1) := (by go_grown : Below w.heap.size w _).trans (hb1.mono (by go_size))
  have HC1 : Hid (w1.heap[w.heap.size]? = some (.cells (MV (zeroM 0) ⟨none, 0, 0⟩ ⟨none, 0, 0⟩) 27)) := block_below (heap_alloc_new w _) hb1
  have HR1 := hid hr1
  have hl1 : l1 ≤ 2048 := by have := hr1.size; omega
  clear hO hr1 hb1
  by_cases hf : f = 0
  · subst hf
    have hR := rread_any a1 l1 c1 ys w1 HR1.out HOB.out (by omega)
    rw [if_neg (by simp)] at HPM
    unfold ReadOut at hR
    rw [← HPM.out] at hR
    obtain ⟨m, g, HMG⟩ : ∃ m g, Hid (parseM zs = (m, g)) := ⟨_, _, rfl⟩
    rw [HMG.out] at hR
    simp only at hR
    unfold MV at hR
    clear HR1 HOB HPM
    go_wp2_with fail
    refine hR.mono ?_
    rintro x w2 ⟨p, q, rfl, hin, hb2, hown⟩
    have HB2 := hid (HB1.out.trans (hb2.mono HB1.out.size))
    have HC2 := hid (block_below HC1.out hb2)
    have HOW := hid hown
    have hs1 := (Array.getElem?_eq_some_iff.1 HC1.out).1
    obtain ⟨d0, d1, d2, d3, d4, d5, d6, d7, d8, d9, d10, d11⟩ := MV_cells HC2.out
    have hfz := fun j => Joins.unfrozen_of_block HC2.out j
    simp only [zeroM] at d0 d1 d2 d3 d4 d5 d6 d7 d8 d9 d10 d11
    clear hR hin hb2 hown HB1 HC1
    go_wp2_with fail
    change bodyPost _ _ _ _ _ (setMsg w2 w.heap.size m p q)
    have hb9 := setMsg_block (m := m) (p := p) (q := q) HC2.out
    have hbt9 := setMsg_but w2 w.heap.size m p q
    clear d0 d1 d2 d3 d4 d5 d6 d7 d8 d9 d10 d11 hfz HC2
    generalize setMsg w2 w.heap.size m p q = w9 at *
    obtain ⟨e0, e1, e2, e3, e4, e5, e6, e7, e8, e9, e10, e11⟩ := MV_cells hb9
    have HOW9 := HOW.out.but hbt9 (by simp; omega)
    refine bodyPost_ret (v := .tuple #[.agg (MV m p q), .int .i64 g]) (by simp [results, Try.results22, go_sem, MV, *]) rfl ?_
    rw [HMG.out]
    exact ⟨p, q, rfl, HOW9.in, HB2.out.trans (hbt9.to (by simp) HB2.out.size), HOW9.low (by omega)⟩
  · rw [if_pos (by simpa using hf)] at HPM
    obtain ⟨d0, d1, d2, d3, d4, d5, d6, d7, d8, d9, d10, d11⟩ := MV_cells HC1.out
    have hfz := fun j => Joins.unfrozen_of_block HC1.out j
    simp only [zeroM] at d0 d1 d2 d3 d4 d5 d6 d7 d8 d9 d10 d11
    clear HR1 HOB
    go_wp2_with fail
    change bodyPost _ _ _ _ _ (setMsg w1 w.heap.size (zeroM 0) ⟨none, 0, 0⟩ ⟨none, 0, 0⟩)
    have hb9 := setMsg_block (m := zeroM 0) (p := ⟨none, 0, 0⟩) (q := ⟨none, 0, 0⟩) HC1.out
    have hbt9 := setMsg_but w1 w.heap.size (zeroM 0) ⟨none, 0, 0⟩ ⟨none, 0, 0⟩
    clear d0 d1 d2 d3 d4 d5 d6 d7 d8 d9 d10 d11 hfz HC1
    generalize setMsg w1 w.heap.size (zeroM 0) ⟨none, 0, 0⟩ ⟨none, 0, 0⟩ = w9 at *
    obtain ⟨e0, e1, e2, e3, e4, e5, e6, e7, e8, e9, e10, e11⟩ := MV_cells hb9
    refine bodyPost_ret (v := .tuple #[.agg (MV (zeroM 0) ⟨none, 0, 0⟩ ⟨none, 0, 0⟩), .int .i64 f]) (by simp [results, Try.results22, go_sem, MV, *]) rfl ?_
    rw [HPM.out]
    exact ⟨⟨none, 0, 0⟩, ⟨none, 0, 0⟩, rfl, zero_in _ 0, HB1.out.trans (hbt9.to (by simp) HB1.out.size), zero_own _ _ 0⟩

end Go.Proofs.Ytlcfjhlchpeedaa
