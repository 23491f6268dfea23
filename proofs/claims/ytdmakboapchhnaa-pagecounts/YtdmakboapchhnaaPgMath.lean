/-
  Mathematics of layer 13: how often each page of a pool is held (hs); what is taken, held, dropped; which are held.
-/
import Derived.Test.YtdmakboapchhnaaFrames
namespace Go.Proofs.Ytdmakboapchhnaa
open Go.RowKit
set_option linter.unusedVariables false
set_option maxRecDepth 1000000

/-- How often a page is held: 0 of none. -/
def heldZ (hs : List Int) (n : Int) : Int := if 0 ≤ n ∧ n < hs.length then hs[n.toNat]?.getD 0 else 0
/-- The first free page, or how many there are. -/
def takeI (hs : List Int) : Nat := hs.findIdx (· == 0)
def takeN (hs : List Int) : Int := if takeI hs < hs.length then (takeI hs : Int) else 0
def takeE (hs : List Int) : Int := if takeI hs < hs.length then 0 else 9
def takeH (hs : List Int) : List Int := if takeI hs < hs.length then hs.set (takeI hs) 1 else hs
def holdE (hs : List Int) (n : Int) : Int := if heldZ hs n = 0 then 1 else if 2147483647 ≤ heldZ hs n then 5 else 0
def holdH (hs : List Int) (n : Int) : List Int := if heldZ hs n = 0 ∨ 2147483647 ≤ heldZ hs n then hs else hs.set n.toNat (heldZ hs n + 1)
def dropE (hs : List Int) (n : Int) : Int := if heldZ hs n = 0 then 1 else 0
def dropH (hs : List Int) (n : Int) : List Int := if heldZ hs n = 0 then hs else hs.set n.toNat (heldZ hs n - 1)
def dropB (hs : List Int) (n : Int) : Bool := decide (heldZ hs n = 1)
/-- Of the first k pages those that are held. -/
def usedK (hs : List Int) : Nat → List Int
  | 0 => []
  | k + 1 => if 0 < hs[k]?.getD 0 then usedK hs k ++ [(k : Int)] else usedK hs k
def usedL (hs : List Int) : List Int := usedK hs hs.length
/-- Each is held from 0 to 2^31 - 1 times. -/
def OkP (hs : List Int) : Prop := 1 ≤ hs.length ∧ hs.length ≤ 256 ∧ ∀ i, i < hs.length → 0 ≤ hs[i]?.getD 0 ∧ hs[i]?.getD 0 ≤ 2147483647

theorem usedK_len (hs : List Int) (k : Nat) : (usedK hs k).length ≤ k := by
  induction k with
  | zero => simp [usedK]
  | succ k ih =>
    simp only [usedK]
    split
    · simp; exact ih
    · omega
theorem takeI_le (hs : List Int) : takeI hs ≤ hs.length := List.findIdx_le_length
theorem takeI_at {hs : List Int} {i : Nat} (hi : i < hs.length) (h0 : hs[i]?.getD 0 = 0) (hn : ∀ j, j < i → hs[j]?.getD 0 ≠ 0) : takeI hs = i := by
  unfold takeI
  rw [List.findIdx_eq hi]
  rw [List.getElem?_eq_getElem hi] at h0
  refine ⟨by simpa using h0, fun j hj => ?_⟩
  have := hn j hj
  rw [List.getElem?_eq_getElem (by omega)] at this
  simpa using this
theorem takeI_none {hs : List Int} (hn : ∀ j, j < hs.length → hs[j]?.getD 0 ≠ 0) : takeI hs = hs.length := by
  unfold takeI
  rw [List.findIdx_eq_length]
  intro x hx
  obtain ⟨j, hj, rfl⟩ := List.getElem_of_mem hx
  have := hn j hj
  rw [List.getElem?_eq_getElem hj] at this
  simpa using this
theorem takeI_free {hs : List Int} (h : takeI hs < hs.length) : hs[takeI hs]?.getD 0 = 0 := by
  rw [List.getElem?_eq_getElem h]
  exact eq_of_beq (List.findIdx_getElem (p := fun x : Int => x == 0) (xs := hs) (w := h))
theorem takeH_len (hs : List Int) : (takeH hs).length = hs.length := by unfold takeH; split <;> simp
theorem holdH_len (hs : List Int) (n : Int) : (holdH hs n).length = hs.length := by unfold holdH; split <;> simp
theorem dropH_len (hs : List Int) (n : Int) : (dropH hs n).length = hs.length := by unfold dropH; split <;> simp
theorem heldZ_in {hs : List Int} {n : Int} (h : heldZ hs n ≠ 0) : 0 ≤ n ∧ n < hs.length := by
  unfold heldZ at h
  split at h
  · assumption
  · exact absurd rfl h
theorem heldZ_at {hs : List Int} {n : Int} (h0 : 0 ≤ n) (h1 : n < hs.length) : heldZ hs n = hs[n.toNat]?.getD 0 := by unfold heldZ; rw [if_pos ⟨h0, h1⟩]
theorem heldZ_out {hs : List Int} {n : Int} (h : n < 0 ∨ (hs.length : Int) ≤ n) : heldZ hs n = 0 := by unfold heldZ; rw [if_neg (by omega)]
theorem OkP.held {hs : List Int} (h : OkP hs) (n : Int) : 0 ≤ heldZ hs n ∧ heldZ hs n ≤ 2147483647 := by
  by_cases hn : 0 ≤ n ∧ n < hs.length
  · rw [heldZ_at hn.1 hn.2]; exact h.2.2 _ (by omega)
  · rw [heldZ_out (by omega)]; omega
theorem set_bd {hs : List Int} {k : Nat} {v lo hi : Int} (h : ∀ i, i < hs.length → lo ≤ hs[i]?.getD 0 ∧ hs[i]?.getD 0 ≤ hi) (h0 : lo ≤ v) (h1 : v ≤ hi) : ∀ i, i < (hs.set k v).length → lo ≤ (hs.set k v)[i]?.getD 0 ∧ (hs.set k v)[i]?.getD 0 ≤ hi := by
  intro i hi'
  rw [List.length_set] at hi'
  rw [List.getElem?_set]
  by_cases e : k = i
  · subst e
    rw [if_pos rfl, if_pos hi']
    exact ⟨h0, h1⟩
  · rw [if_neg e]
    exact h i hi'
theorem OkP.take {hs : List Int} (h : OkP hs) : OkP (takeH hs) := by
  refine ⟨by rw [takeH_len]; exact h.1, by rw [takeH_len]; exact h.2.1, ?_⟩
  unfold takeH
  split
  · exact set_bd h.2.2 (by omega) (by omega)
  · exact h.2.2
theorem OkP.hold {hs : List Int} (h : OkP hs) (n : Int) : OkP (holdH hs n) := by
  refine ⟨by rw [holdH_len]; exact h.1, by rw [holdH_len]; exact h.2.1, ?_⟩
  have := h.held n
  unfold holdH
  split
  · exact h.2.2
  · exact set_bd h.2.2 (by omega) (by omega)
theorem OkP.drop {hs : List Int} (h : OkP hs) (n : Int) : OkP (dropH hs n) := by
  refine ⟨by rw [dropH_len]; exact h.1, by rw [dropH_len]; exact h.2.1, ?_⟩
  have := h.held n
  unfold dropH
  split
  · exact h.2.2
  · exact set_bd h.2.2 (by omega) (by omega)
theorem okp_new {n : Nat} (h0 : 1 ≤ n) (h1 : n ≤ 256) : OkP (List.replicate n 0) := by
  refine ⟨by simpa using h0, by simpa using h1, fun i hi => ?_⟩
  rw [List.length_replicate] at hi
  rw [List.getElem?_replicate, if_pos hi]
  simp
end Go.Proofs.Ytdmakboapchhnaa
