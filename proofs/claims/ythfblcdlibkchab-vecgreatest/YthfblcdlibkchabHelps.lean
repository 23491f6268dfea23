/-
  Contracts of what the statements lean on: same of like lists is true, far tells whether one is too long, alive is true.
-/
import Derived.Test.YthfblcdlibkchabTops
namespace Go.Proofs.Ythfblcdlibkchab
open Go.RowKit
set_option linter.unusedVariables false
set_option maxRecDepth 1000000

theorem ret_bool {a b : Bool} (h : a = b) : Ending.returned (.bool a) = .returned (.bool b) := by rw [h]
theorem same_yes (a b : Option Addr) (len ca cb : Nat) (xs : List Int) (w : World) (ha : Reads .i64 w a len ca xs) (hb : Reads .i64 w b len cb xs) (hlen : len ≤ 1000) :
    Calls Try.prog 16 #[.slice a len ca, .slice b len cb] w fun e w' => e = .returned (.bool true) ∧ Below w.heap.size w w' := by
  have HA := hid ha
  have HB := hid hb
  clear ha hb
  go_enter Try.func16, Try.ntmps16
  go_wp2_with fail
  go_loopw [13] (fun i W => ∃ k : Nat, k ≤ len ∧ i = .int .i64 k ∧ Hid (Below w.heap.size w W)) (fun i _ => len - (intOf i).toNat)
  case atStart => exact ⟨0, Nat.zero_le _, rfl, Below.refl _ _⟩
  case round =>
    obtain ⟨k, hk, rfl, HW⟩ := hrel
    by_cases hlt : k < len
    · obtain ⟨b1, o1, rfl, c1⟩ := (HA.out.below HW.out).cell k hlt
      obtain ⟨b2, o2, rfl, c2⟩ := (HB.out.below HW.out).cell k hlt
      have r1 := HA.out.room
      have r2 := HB.out.room
      have m1 := HA.out.most
      have m2 := HB.out.most
      clear HA HB
      generalize xs[k]?.getD 0 = x at *
      go_wp2_with fail
      go_region
      go_wp2_with fail
      go_round
      case rel => exact ⟨k + 1, by omega, by go_num, HW.out.drew⟩
      case measure => simp [intOf]; omega
    · go_wp2
      go_ret
      exact ⟨rfl, HW.out⟩

/-- A slice of a table: where it lies, its length, its room. -/
abbrev Hd := Option Addr × Nat × Nat
/-- The slice reads as these slices. -/
structure Rd2 (w : World) (a : Option Addr) (len cap : Nat) (hs : List Hd) : Prop where
  size : hs.length = len
  room : len ≤ cap
  most : cap ≤ 9223372036854775807
  bare : a = none → len = 0 ∧ cap = 0
  cell : ∀ i, i < len → ∃ b off, a = some ⟨b, off, none⟩ ∧ w.cell? ⟨b, off + i, none⟩ = some (.slice (hs[i]?.getD (none, 0, 0)).1 (hs[i]?.getD (none, 0, 0)).2.1 (hs[i]?.getD (none, 0, 0)).2.2)
theorem Rd2.below {w w' : World} {a : Option Addr} {len cap : Nat} {hs : List Hd} (h : Rd2 w a len cap hs) (hb : Below w.heap.size w w') : Rd2 w' a len cap hs :=
  ⟨h.size, h.room, h.most, h.bare, fun i hi => by
    obtain ⟨b, off, ha, hc⟩ := h.cell i hi
    exact ⟨b, off, ha, (hb.cell (World.block_lt_of_cell? _ _ hc)).trans hc⟩⟩
/-- One is too long, or there are too many. -/
def FarL (hs : List Hd) : Prop := (∃ i, i < hs.length ∧ 300 < (hs[i]?.getD (none, 0, 0)).2.1) ∨ 100 < hs.length
theorem far_no (a : Option Addr) (len cap : Nat) (hs : List Hd) (w : World) (h : Rd2 w a len cap hs) (hf : ¬ FarL hs) :
    Calls Try.prog 5 #[.slice a len cap] w fun e w' => e = .returned (.bool false) ∧ w' = w := by
  have H := hid h
  have hl := h.size
  have hr := h.room
  have hm := h.most
  have HF := hid hf
  have hl2 : len ≤ 100 := by unfold FarL at hf; omega
  have HL := hid hl
  clear h hf hl
  go_enter Try.func5, Try.ntmps5
  go_wp2_with fail
  go_loop [7] (fun i => ∃ k : Nat, k ≤ len ∧ i = .int .i64 k) (fun i => len - (intOf i).toNat)
  case atStart => exact ⟨0, Nat.zero_le _, rfl⟩
  case round =>
    obtain ⟨k, hk, rfl⟩ := hrel
    by_cases hlt : k < len
    · obtain ⟨b, off, rfl, hc⟩ := H.out.cell k hlt
      have hq : (hs[k]?.getD (none, 0, 0)).2.1 ≤ 300 := by
        have := HF.out
        unfold FarL at this
        have := HL.out
        refine Nat.not_lt.1 fun h => ?_
        apply HF.out
        exact .inl ⟨k, by omega, h⟩
      clear H HF HL
      generalize hs[k]?.getD (none, 0, 0) = q at *
      obtain ⟨q1, q2, q3⟩ := q
      simp only at hc hq
      go_wp2
      go_round
      case rel => exact ⟨k + 1, by omega, by go_num⟩
      case measure => simp [intOf]; omega
    · clear H HF HL
      go_wp2
      go_ret
      exact ⟨ret_bool (by simp; omega), rfl⟩
theorem far_yes (a : Option Addr) (len cap : Nat) (hs : List Hd) (w : World) (h : Rd2 w a len cap hs) (hf : FarL hs) :
    Calls Try.prog 5 #[.slice a len cap] w fun e w' => e = .returned (.bool true) ∧ w' = w := by
  have H := hid h
  have HLS := hid h.size
  have hr := h.room
  have hm := h.most
  have HF := hid hf
  clear h hf
  go_enter Try.func5, Try.ntmps5
  go_wp2_with fail
  go_loop [7] (fun i => ∃ k : Nat, k ≤ len ∧ i = .int .i64 k ∧ Hid (∀ j, j < k → (hs[j]?.getD (none, 0, 0)).2.1 ≤ 300)) (fun i => len - (intOf i).toNat)
  case atStart => exact ⟨0, Nat.zero_le _, rfl, fun j hj => absurd hj (by omega)⟩
  case round =>
    obtain ⟨k, hk, rfl, HA⟩ := hrel
    by_cases hlt : k < len
    · obtain ⟨b, off, rfl, hc⟩ := H.out.cell k hlt
      by_cases hq : (hs[k]?.getD (none, 0, 0)).2.1 ≤ 300
      · have HA2 : Hid (∀ j, j < k + 1 → (hs[j]?.getD (none, 0, 0)).2.1 ≤ 300) := by
          intro j hj
          rcases (by omega : j < k ∨ j = k) with h | rfl
          · exact HA.out j h
          · exact hq
        clear H HF HLS HA
        generalize hs[k]?.getD (none, 0, 0) = q at *
        obtain ⟨q1, q2, q3⟩ := q
        simp only at hc hq
        go_wp2
        go_round
        case rel => exact ⟨k + 1, by omega, by go_num, HA2⟩
        case measure => simp [intOf]; omega
      · clear H HF HLS HA
        generalize hs[k]?.getD (none, 0, 0) = q at *
        obtain ⟨q1, q2, q3⟩ := q
        simp only at hc hq
        go_wp2
        go_ret
        exact ⟨rfl, rfl⟩
    · have hgt : 100 < len := by
        rcases HF.out with ⟨i, hi, h⟩ | h
        · have := HLS.out
          have := HA.out i (by omega)
          omega
        · have := HLS.out; omega
      clear H HF HLS HA
      go_wp2
      go_ret
      exact ⟨ret_bool (by simp; omega), rfl⟩

/-- A literal in a new block. -/
theorem Reads.lit (w : World) (xs : List Int) (t : TypeId) (n : Nat) (h : xs.length = n) (hn : n ≤ 1000) : Reads .i64 (w.alloc (.cells (xs.map (Value.int .i64)).toArray t)) (some ⟨w.heap.size, 0, none⟩) n n xs := by
  refine ⟨h, Nat.le_refl _, by omega, (fun e => by cases e), fun i hi => ⟨w.heap.size, 0, rfl, ?_⟩⟩
  rw [Nat.zero_add, cell_of_row _ w.heap.size i _ _ _ (heap_alloc_new w _)]
  simp [(by omega : i < xs.length)]
theorem top_al {ps : List Int} (h : TopOf [3, 9, 9, 1] 4 2 ps) : ps = [1, 2] :=
  h.one ⟨[(1, 9), (2, 9)], [(0, 3), (3, 1)], rfl, rfl, by simp [Falls, leM, ltM], by decide, by simp [leM, ltM]⟩
theorem soft_al : softL [5, 5] = [32768, 32768] := by decide +kernel
theorem dot_al : dotK [65536, 2] [3, 0] 2 = 3 := by decide +kernel

set_option maxHeartbeats 2000000 in
theorem alive_any (w : World) : Calls Try.prog 6 #[] w fun e w' => e = .returned (.bool true) ∧ Below w.heap.size w w' := by
  have hT := top_any _ 4 4 2 2 [3, 9, 9, 1] _ (Reads.lit w [3, 9, 9, 1] 2 4 rfl (by omega)) (by omega) (.inr (.inl ⟨by omega, by omega, rfl⟩)) (by omega)
  have HB0 : Hid (Below w.heap.size w (w.alloc (.cells #[.int .i64 3, .int .i64 9, .int .i64 9, .int .i64 1] 2))) := (Below.refl _ _).alloc (Nat.le_refl _) _
  simp only [List.map_cons, List.map_nil] at hT
  go_enter Try.func6, Try.ntmps6
  go_wp2_with fail
  refine hT.mono ?_
  rintro e w1 ⟨g, ps, rfl, hO, hp, hb1⟩
  obtain rfl := top_al hp
  have hS := soft_any _ 2 2 [5, 5] _ (Reads.lit w1 [5, 5] 2 2 rfl (by omega)) (by omega)
  simp only [List.map_cons, List.map_nil, soft_al] at hS
  have HO := hid hO
  have HB1 : Hid (Below w.heap.size w w1) := HB0.out.trans (hb1.mono HB0.out.size)
  clear hO hp hb1 hT HB0
  go_wp2_with fail
  refine hS.mono ?_
  rintro e w2 ⟨g2, c2, rfl, hO2, hb2⟩
  have hb12 : Below w1.heap.size w1 w2 := ((Below.refl _ _).alloc (Nat.le_refl _) _).trans (hb2.mono (by simp))
  have l0 := (HO.out.stays hb12).cell (k := 0) (by omega)
  have l1 := (HO.out.stays hb12).cell (k := 1) (by omega)
  have s0 := hO2.cell (k := 0) (by omega)
  have HB2 : Hid (Below w.heap.size w w2) := HB1.out.trans (hb12.mono HB1.out.size)
  have HO2 := hid hO2
  simp only [List.getElem?_cons_zero, List.getElem?_cons_succ, Option.getD_some] at l0 l1 s0
  have hA : Reads .i64 ((w2.alloc (.cells #[.int .i64 65536, .int .i64 2] 2)).alloc (.cells #[.int .i64 3, .int .i64 0] 2)) (some ⟨w2.heap.size, 0, none⟩) 2 2 [65536, 2] := (Reads.lit w2 [65536, 2] 2 2 rfl (by omega)).below ((Below.refl _ _).alloc (Nat.le_refl _) _)
  have hB : Reads .i64 ((w2.alloc (.cells #[.int .i64 65536, .int .i64 2] 2)).alloc (.cells #[.int .i64 3, .int .i64 0] 2)) (some ⟨w2.heap.size + 1, 0, none⟩) 2 2 [3, 0] := by
    have := Reads.lit (w2.alloc (.cells #[.int .i64 65536, .int .i64 2] 2)) [3, 0] 2 2 rfl (by omega)
    rw [World.size_alloc] at this
    exact this
  have hD := dot_any _ _ 2 2 2 2 [65536, 2] [3, 0] _ hA hB (by omega) (by omega)
  have HB3 : Hid (Below w2.heap.size w2 ((w2.alloc (.cells #[.int .i64 65536, .int .i64 2] 2)).alloc (.cells #[.int .i64 3, .int .i64 0] 2))) := ((Below.refl _ _).alloc (Nat.le_refl _) _).alloc (by simp) _
  clear hA hB hO2 hb2 hb12 hS HO HB1
  rw [show min 2 2 = 2 from rfl, dot_al] at hD
  go_wp2_with fail
  refine hD.mono ?_
  rintro e w3 ⟨rfl, hb3⟩
  have hb23 : Below w2.heap.size w2 w3 := HB3.out.trans (hb3.mono HB3.out.size)
  have s3 : w3.cell? ⟨g2, 0, none⟩ = some (.int .i64 32768) := (hb23.cell (World.block_lt_of_cell? _ _ s0)).trans s0
  have HB4 := hid (HB2.out.trans (hb23.mono HB2.out.size))
  have hc2 := HO2.out.reads.room
  have hc3 := HO2.out.reads.most
  clear hb3 hb23 hD HB3 HB2 HO2 l0 l1 s0
  go_wp2
  go_ret
  exact ⟨rfl, HB4.out⟩

theorem pairK_comm (xs ys : List Int) (k : Nat) : pairK addZ ys xs k = pairK addZ xs ys k := by
  induction k with
  | zero => rfl
  | succ k ih => simp only [pairK]; rw [ih, addZ_comm]
theorem dotK_comm (xs ys : List Int) (k : Nat) : dotK ys xs k = dotK xs ys k := by
  induction k with
  | zero => rfl
  | succ k ih => simp only [dotK]; rw [ih, mulZ_comm]
theorem rd2_two (w : World) (a b : Option Addr) (la ca lb cb : Nat) : Rd2 (w.alloc (.cells #[.slice a la ca, .slice b lb cb] 22)) (some ⟨w.heap.size, 0, none⟩) 2 2 [(a, la, ca), (b, lb, cb)] := by
  refine ⟨rfl, Nat.le_refl _, by omega, (fun e => by cases e), fun i hi => ⟨w.heap.size, 0, rfl, ?_⟩⟩
  rw [Nat.zero_add, cell_of_row _ w.heap.size i _ _ _ (heap_alloc_new w _)]
  rcases (by omega : i = 0 ∨ i = 1) with rfl | rfl <;> rfl
theorem rd2_one (w : World) (a : Option Addr) (la ca : Nat) : Rd2 (w.alloc (.cells #[.slice a la ca] 22)) (some ⟨w.heap.size, 0, none⟩) 1 1 [(a, la, ca)] := by
  refine ⟨rfl, Nat.le_refl _, by omega, (fun e => by cases e), fun i hi => ⟨w.heap.size, 0, rfl, ?_⟩⟩
  rw [Nat.zero_add, cell_of_row _ w.heap.size i _ _ _ (heap_alloc_new w _)]
  obtain rfl : i = 0 := by omega
  rfl
theorem far_two {a b : Option Addr} {la ca lb cb : Nat} : FarL [(a, la, ca), (b, lb, cb)] ↔ 300 < la ∨ 300 < lb := by
  unfold FarL
  constructor
  · rintro (⟨i, hi, h⟩ | h)
    · simp at hi
      rcases (by omega : i = 0 ∨ i = 1) with rfl | rfl
      · exact .inl h
      · exact .inr h
    · simp at h
  · rintro (h | h)
    · exact .inl ⟨0, by simp, h⟩
    · exact .inl ⟨1, by simp, h⟩
theorem far_one {a : Option Addr} {la ca : Nat} : FarL [(a, la, ca)] ↔ 300 < la := by
  unfold FarL
  constructor
  · rintro (⟨i, hi, h⟩ | h)
    · simp at hi
      obtain rfl := hi
      exact h
    · simp at h
  · intro h
    exact .inl ⟨0, by simp, h⟩
end Go.Proofs.Ythfblcdlibkchab
