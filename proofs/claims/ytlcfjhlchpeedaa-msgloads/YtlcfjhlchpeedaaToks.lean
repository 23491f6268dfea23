/-
  Contracts: msg.between, msg.listMay and the document's tokens tell whether numbers, and lists of tokens, may be; slices.Equal and the document's alike tell whether two lists are one; listNumbers and the document's list hand back how many tokens there are, and these. Nothing that was there turns.
-/
import Derived.Test.YtlcfjhlchpeedaaPuts
namespace Go.Proofs.Ytlcfjhlchpeedaa
open Go.RowKit
open M
set_option linter.unusedVariables false
set_option maxRecDepth 1000000

theorem ret_bool {a b : Bool} (h : a = b) : Ending.returned (.bool a) = .returned (.bool b) := by rw [h]

theorem between_any (n m : Int) (w : World) : Calls Try.prog 53 #[.int .i64 n, .int .i64 m] w fun e w' => e = .returned (.bool (decide (0 ≤ n ∧ n ≤ m))) ∧ w' = w := by
  by_cases h0 : 0 ≤ n
  · by_cases h1 : n ≤ m
    · go_enter Try.func53, Try.ntmps53
      go_wp2
      go_ret
      exact ⟨ret_bool (by simp [h0, h1]), rfl⟩
    · go_enter Try.func53, Try.ntmps53
      go_wp2
      go_ret
      exact ⟨ret_bool (by simp [h1]), rfl⟩
  · have hf : decide (0 ≤ n) = false := by simp; omega
    go_enter Try.func53, Try.ntmps53
    go_wp2
    go_ret
    exact ⟨ret_bool (by simp), rfl⟩

/-- A token may be. -/
def tokB (x : Int) : Bool := decide (0 ≤ x ∧ x ≤ 63)
/-- A list of tokens may be. -/
def toksB (l : List Int) : Bool := decide (l.length ≤ 256) && l.all tokB
theorem toksB_len {l : List Int} (h : toksB l = true) : l.length ≤ 256 := by
  unfold toksB at h; simp at h; exact h.1
theorem toksB_at {l : List Int} (h : toksB l = true) (x : Int) (hx : x ∈ l) : 0 ≤ x ∧ x ≤ 63 := by
  unfold toksB at h
  simp only [Bool.and_eq_true, List.all_eq_true] at h
  have := h.2 x hx
  unfold tokB at this
  exact of_decide_eq_true this
theorem all_snoc {l : List Int} {k : Nat} (h : k < l.length) (hk : (l.take k).all tokB = true) (ht : tokB (l[k]?.getD 0) = true) : (l.take (k + 1)).all tokB = true := by
  rw [take_snoc h, List.all_append, hk]; simpa using ht
theorem all_bad {l : List Int} {k : Nat} (h : k < l.length) (ht : tokB (l[k]?.getD 0) = false) : toksB l = false := by
  unfold toksB
  have : l.all tokB = false := by
    rw [List.all_eq_false]
    refine ⟨l[k], List.getElem_mem h, ?_⟩
    rw [List.getElem?_eq_getElem h] at ht
    simpa using ht
  rw [this, Bool.and_false]

set_option maxHeartbeats 1000000 in
theorem listmay_any (a : Option Addr) (len cap : Nat) (l : List Int) (w : World) (hr : Reads .i64 w a len cap l) (hlen : len ≤ 100000) :
    Calls Try.prog 54 #[.slice a len cap] w fun e w' => e = .returned (.bool (toksB l)) ∧ w' = w := by
  have HL : Hid (l.length = len) := hr.size
  by_cases h256 : len ≤ 256
  · go_enter Try.func54, Try.ntmps54
    go_wp2
    go_loop [10] (fun i => ∃ (k : Nat), k ≤ len ∧ i = .int .i64 k ∧ (l.take k).all tokB = true) (fun i => len - (intOf i).toNat)
    case atStart => exact ⟨0, by omega, rfl, by simp⟩
    case round =>
      obtain ⟨k, hk, rfl, hall⟩ := hrel
      have HA := hid hall
      clear hall
      by_cases hlt : k < len
      · obtain ⟨b, off, rfl, hc⟩ := hr.cell k hlt
        have HN : Hid (tokB (l[k]?.getD 0) = true → (l.take (k + 1)).all tokB = true) := fun ht => all_snoc (by have := HL.out; omega) HA.out ht
        have HF : Hid (tokB (l[k]?.getD 0) = false → toksB l = false) := fun ht => all_bad (by have := HL.out; omega) ht
        have hB := between_any (l[k]?.getD 0) 63 w
        clear hr
        generalize l[k]?.getD 0 = x at *
        by_cases hx : 0 ≤ x ∧ x ≤ 63
        · rw [decide_eq_true hx] at hB
          have HT := hid (HN.out (by unfold tokB; exact decide_eq_true hx))
          go_wp2_with fail
          refine hB.mono ?_
          rintro e w' ⟨rfl, rfl⟩
          go_wp2
          go_round
          case rel => exact ⟨k + 1, by omega, by go_num, HT.out⟩
          case measure => simp [intOf]; omega
        · rw [decide_eq_false hx] at hB
          have HT := hid (HF.out (by unfold tokB; exact decide_eq_false hx))
          go_wp2_with fail
          refine hB.mono ?_
          rintro e w' ⟨rfl, rfl⟩
          go_wp2
          go_ret
          exact ⟨ret_bool HT.out.symm, rfl⟩
      · have HT : Hid (toksB l = true) := by
          unfold Hid toksB
          have := HA.out
          rw [List.take_of_length_le (by have := HL.out; omega)] at this
          rw [this, HL.out]; simp [h256]
        clear hr
        go_wp2
        go_ret
        exact ⟨ret_bool HT.out.symm, rfl⟩
  · have HT : Hid (toksB l = false) := by unfold Hid toksB; rw [HL.out]; simp; omega
    clear hr
    go_enter Try.func54, Try.ntmps54
    go_wp2
    go_ret
    exact ⟨ret_bool HT.out.symm, rfl⟩

set_option maxHeartbeats 1000000 in
theorem tokens_any (a : Option Addr) (len cap : Nat) (l : List Int) (w : World) (hr : Reads .i64 w a len cap l) (hlen : len ≤ 100000) :
    Calls Try.prog 34 #[.slice a len cap] w fun e w' => e = .returned (.bool (toksB l)) ∧ w' = w := by
  have HL : Hid (l.length = len) := hr.size
  by_cases h256 : len ≤ 256
  · go_enter Try.func34, Try.ntmps34
    go_wp2
    go_loop [3] (fun i => ∃ (k : Nat), k ≤ len ∧ i = .int .i64 k ∧ (l.take k).all tokB = true) (fun i => len - (intOf i).toNat)
    case atStart => exact ⟨0, by omega, rfl, by simp⟩
    case round =>
      obtain ⟨k, hk, rfl, hall⟩ := hrel
      have HA := hid hall
      clear hall
      by_cases hlt : k < len
      · obtain ⟨b, off, rfl, hc⟩ := hr.cell k hlt
        have HN : Hid (tokB (l[k]?.getD 0) = true → (l.take (k + 1)).all tokB = true) := fun ht => all_snoc (by have := HL.out; omega) HA.out ht
        have HF : Hid (tokB (l[k]?.getD 0) = false → toksB l = false) := fun ht => all_bad (by have := HL.out; omega) ht
        clear hr
        generalize l[k]?.getD 0 = x at *
        rcases (by omega : x < 0 ∨ 63 < x ∨ (0 ≤ x ∧ x ≤ 63)) with hx | hx | hx
        · have HT := hid (HF.out (by unfold tokB; exact decide_eq_false (by omega)))
          go_wp2
          go_ret
          exact ⟨ret_bool HT.out.symm, rfl⟩
        · have HT := hid (HF.out (by unfold tokB; exact decide_eq_false (by omega)))
          have hd : decide (x < 0) = false := by simp; omega
          go_wp2
          go_ret
          exact ⟨ret_bool HT.out.symm, rfl⟩
        · have HT := hid (HN.out (by unfold tokB; exact decide_eq_true hx))
          have hd : decide (x < 0) = false := by simp; omega
          go_wp2
          go_round
          case rel => exact ⟨k + 1, by omega, by go_num, HT.out⟩
          case measure => simp [intOf]; omega
      · have HT : Hid (toksB l = true) := by
          unfold Hid toksB
          have := HA.out
          rw [List.take_of_length_le (by have := HL.out; omega)] at this
          rw [this, HL.out]; simp [h256]
        clear hr
        go_wp2
        go_ret
        exact ⟨ret_bool HT.out.symm, rfl⟩
  · have HT : Hid (toksB l = false) := by unfold Hid toksB; rw [HL.out]; simp; omega
    clear hr
    go_enter Try.func34, Try.ntmps34
    go_wp2
    go_ret
    exact ⟨ret_bool HT.out.symm, rfl⟩


theorem eq_of_take {xs ys : List Int} {n : Nat} (hx : xs.length = n) (hy : ys.length = n) (h : xs.take n = ys.take n) : xs = ys := by
  rwa [List.take_of_length_le (by omega), List.take_of_length_le (by omega)] at h
theorem take_eq_snoc {xs ys : List Int} {k : Nat} (hx : k < xs.length) (hy : k < ys.length) (h : xs.take k = ys.take k) (he : xs[k]?.getD 0 = ys[k]?.getD 0) : xs.take (k + 1) = ys.take (k + 1) := by
  rw [take_snoc hx, take_snoc hy, h, he]

set_option maxHeartbeats 1000000 in
theorem equal37_any (a : Option Addr) (len cap : Nat) (xs : List Int) (a2 : Option Addr) (l2 c2 : Nat) (ys : List Int) (w : World) (hr : Reads .i64 w a len cap xs) (hr2 : Reads .i64 w a2 l2 c2 ys) (hlen : len ≤ 100000) (hl2 : l2 ≤ 100000) :
    Calls Try.prog 37 #[.slice a len cap, .slice a2 l2 c2] w fun e w' => e = .returned (.bool (decide (xs = ys))) ∧ Below w.heap.size w w' := by
  have HL : Hid (xs.length = len) := hr.size
  have HL2 : Hid (ys.length = l2) := hr2.size
  by_cases hne : len = l2
  · subst hne
    go_enter Try.func37, Try.ntmps37
    go_wp2
    go_loopw [13] (fun i wr => ∃ (k : Nat), k ≤ len ∧ i = .int .i64 k ∧ xs.take k = ys.take k ∧ Below w.heap.size w wr) (fun i _ => len - (intOf i).toNat)
    case atStart => exact ⟨0, by omega, rfl, by simp, Below.refl _ _⟩
    case round =>
      obtain ⟨k, hk, rfl, htk, hb⟩ := hrel
      have HA := hid htk
      clear htk
      by_cases hlt : k < len
      · obtain ⟨b, off, rfl, hc0⟩ := hr.cell k hlt
        obtain ⟨b2, off2, rfl, hc20⟩ := hr2.cell k hlt
        have hc := (hb.cell (World.block_lt_of_cell? _ _ hc0)).trans hc0
        have hc2 := (hb.cell (World.block_lt_of_cell? _ _ hc20)).trans hc20
        clear hc0 hc20
        have HN : Hid (xs[k]?.getD 0 = ys[k]?.getD 0 → xs.take (k + 1) = ys.take (k + 1)) := fun he => take_eq_snoc (by have := HL.out; omega) (by have := HL2.out; omega) HA.out he
        have HF : Hid (xs[k]?.getD 0 ≠ ys[k]?.getD 0 → decide (xs = ys) = false) := fun he => decide_eq_false fun h => he (by rw [h])
        clear hr hr2
        generalize xs[k]?.getD 0 = x at *
        generalize ys[k]?.getD 0 = y at *
        by_cases hxy : x = y
        · subst hxy
          have HT := hid (HN.out rfl)
          go_wp2_with fail
          go_region
          go_wp2_with fail
          go_roundw
          case rel => exact ⟨k + 1, by omega, by go_num, HT.out, hb.drew⟩
          case measure => simp [intOf]; omega
        · have HT := hid (HF.out hxy)
          go_wp2_with fail
          go_region
          go_wp2_with fail
          go_ret
          exact ⟨ret_bool HT.out.symm, hb.drew⟩
      · have HT : Hid (decide (xs = ys) = true) := decide_eq_true (eq_of_take HL.out HL2.out (by have := HA.out; rwa [show k = len by omega] at this))
        clear hr hr2
        go_wp2
        go_ret
        exact ⟨ret_bool HT.out.symm, hb⟩
  · have HT : Hid (decide (xs = ys) = false) := decide_eq_false fun h => hne (by rw [← HL.out, ← HL2.out, h])
    have hne2 : ¬ (len : Int) = (l2 : Int) := by omega
    clear hr hr2
    go_enter Try.func37, Try.ntmps37
    go_wp2
    go_ret
    exact ⟨ret_bool HT.out.symm, Below.refl _ _⟩

set_option maxHeartbeats 1000000 in
theorem alike_any (a : Option Addr) (len cap : Nat) (xs : List Int) (a2 : Option Addr) (l2 c2 : Nat) (ys : List Int) (w : World) (hr : Reads .i64 w a len cap xs) (hr2 : Reads .i64 w a2 l2 c2 ys) (hlen : len ≤ 100000) (hl2 : l2 ≤ 100000) :
    Calls Try.prog 38 #[.slice a len cap, .slice a2 l2 c2] w fun e w' => e = .returned (.bool (decide (xs = ys))) ∧ Below w.heap.size w w' := by
  have HL : Hid (xs.length = len) := hr.size
  have HL2 : Hid (ys.length = l2) := hr2.size
  by_cases hne : len = l2
  · subst hne
    go_enter Try.func38, Try.ntmps38
    go_wp2
    go_loopw [5] (fun i wr => ∃ (k : Nat), k ≤ len ∧ i = .int .i64 k ∧ xs.take k = ys.take k ∧ Below w.heap.size w wr) (fun i _ => len - (intOf i).toNat)
    case atStart => exact ⟨0, by omega, rfl, by simp, Below.refl _ _⟩
    case round =>
      obtain ⟨k, hk, rfl, htk, hb⟩ := hrel
      have HA := hid htk
      clear htk
      by_cases hlt : k < len
      · obtain ⟨b, off, rfl, hc0⟩ := hr.cell k hlt
        obtain ⟨b2, off2, rfl, hc20⟩ := hr2.cell k hlt
        have hc := (hb.cell (World.block_lt_of_cell? _ _ hc0)).trans hc0
        have hc2 := (hb.cell (World.block_lt_of_cell? _ _ hc20)).trans hc20
        clear hc0 hc20
        have HN : Hid (xs[k]?.getD 0 = ys[k]?.getD 0 → xs.take (k + 1) = ys.take (k + 1)) := fun he => take_eq_snoc (by have := HL.out; omega) (by have := HL2.out; omega) HA.out he
        have HF : Hid (xs[k]?.getD 0 ≠ ys[k]?.getD 0 → decide (xs = ys) = false) := fun he => decide_eq_false fun h => he (by rw [h])
        clear hr hr2
        generalize xs[k]?.getD 0 = x at *
        generalize ys[k]?.getD 0 = y at *
        by_cases hxy : x = y
        · subst hxy
          have HT := hid (HN.out rfl)
          go_wp2_with fail
          go_region
          go_wp2_with fail
          go_roundw
          case rel => exact ⟨k + 1, by omega, by go_num, HT.out, hb.drew⟩
          case measure => simp [intOf]; omega
        · have HT := hid (HF.out hxy)
          go_wp2_with fail
          go_region
          go_wp2_with fail
          go_ret
          exact ⟨ret_bool HT.out.symm, hb.drew⟩
      · have HT : Hid (decide (xs = ys) = true) := decide_eq_true (eq_of_take HL.out HL2.out (by have := HA.out; rwa [show k = len by omega] at this))
        clear hr hr2
        go_wp2
        go_ret
        exact ⟨ret_bool HT.out.symm, hb⟩
  · have HT : Hid (decide (xs = ys) = false) := decide_eq_false fun h => hne (by rw [← HL.out, ← HL2.out, h])
    have hne2 : ¬ (len : Int) = (l2 : Int) := by omega
    clear hr hr2
    go_enter Try.func38, Try.ntmps38
    go_wp2
    go_ret
    exact ⟨ret_bool HT.out.symm, Below.refl _ _⟩

end Go.Proofs.Ytlcfjhlchpeedaa
