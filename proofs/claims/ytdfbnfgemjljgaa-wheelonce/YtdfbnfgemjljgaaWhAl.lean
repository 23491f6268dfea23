/-
  The statement's own function: alive.
-/
import Derived.Test.YtdfbnfgemjljgaaWhIf
namespace Go.Proofs.Ytdfbnfgemjljgaa
open Go.RowKit Go.Maps
set_option linter.unusedVariables false
set_option maxRecDepth 1000000

set_option maxHeartbeats 8000000 in
theorem alive20_any {P : WPred} (HP : Hid (Whl P)) (W : World) : Calls Try.prog 20 #[] W fun e w' => e = .returned (.bool true) ∧ Hid (Below W.heap.size W w') := by
  have hN := HP.out.new W
  go_enter Try.func20, Try.ntmps20
  go_wp2_with fail
  refine hN.mono ?_
  rintro r w1 ⟨B, rfl, H1⟩
  clear hN
  obtain ⟨F, hp1, hl1, hb1⟩ := H1.out
  have hS := HP.out.set hp1 (now := 0) (after := 5) (kind := 1) (label := 7) ⟨by omega, by omega⟩ ⟨by omega, by omega⟩ ⟨by omega, by omega⟩ ⟨by omega, by omega⟩
  have e1 : setC 0 [] 5 = 0 := by decide
  have e2 : timeZ 0 0 = 0 := by decide
  have e3 : setL 0 0 5 1 7 [] = [⟨1, 1, 7, 5⟩] := by unfold setL; rw [e1, if_pos rfl]; rfl
  rw [e1, e2, e3, if_pos rfl] at hS
  have HB1 := hid hb1
  have HL1 := hid hl1
  clear H1 hp1 hl1 hb1 e1 e2 e3
  go_wp2_with fail
  with_reducible refine hS.mono ?_
  rintro r w2 ⟨rfl, H2⟩
  clear hS
  obtain ⟨F2, hp2, hf2, hk2⟩ := H2.out
  have HB2 : Hid (Below W.heap.size W w2) := HB1.out.trans (hf2.to HL1.out HB1.out.size)
  have HL2 : Hid (∀ k, F2 k → W.heap.size ≤ k) := fun k hk => (hk2 k hk).elim (HL1.out k) (Nat.le_trans HB1.out.size)
  have hS := HP.out.set hp2 (now := 0) (after := 3) (kind := 2) (label := 7) ⟨by omega, by omega⟩ ⟨by omega, by omega⟩ ⟨by omega, by omega⟩ ⟨by omega, by omega⟩
  have e1 : setC (0 + 1) [⟨1, 1, 7, 5⟩] 3 = 0 := by unfold setC; simp
  have e2 : timeZ 0 0 = 0 := by decide
  have e3 : setL 0 (0 + 1) 3 2 7 [⟨1, 1, 7, 5⟩] = [⟨2, 2, 7, 3⟩, ⟨1, 1, 7, 5⟩] := by unfold setL; rw [e1, if_pos rfl]; rfl
  rw [e1, e2, e3, if_pos rfl, if_pos rfl] at hS
  clear H2 hp2 hf2 hk2 e1 e2 e3 HB1 HL1
  go_wp2_with fail
  with_reducible refine hS.mono ?_
  rintro r w3 ⟨rfl, H3⟩
  clear hS
  obtain ⟨F3, hp3, hf3, hk3⟩ := H3.out
  have HB3 : Hid (Below W.heap.size W w3) := HB2.out.trans (hf3.to HL2.out HB2.out.size)
  have HL3 : Hid (∀ k, F3 k → W.heap.size ≤ k) := fun k hk => (hk3 k hk).elim (HL2.out k) (Nat.le_trans HB2.out.size)
  have hX := HP.out.next hp3
  have HP3 := hid hp3
  clear H3 hp3 hf3 hk3 HB2 HL2
  simp only [List.head?_cons, Option.map_some, Option.getD_some, List.length_cons, List.length_nil] at hX
  rw [show decide (0 < 0 + 1 + 1) = true from rfl] at hX
  go_wp2_with fail
  with_reducible refine hX.mono ?_
  rintro r w4 ⟨rfl, H4⟩
  clear hX
  have HB4 : Hid (Below W.heap.size W w4) := HB3.out.trans (H4.out.mono HB3.out.size)
  have hD := HP.out.due (HP.out.below HP3.out H4.out) (now := 5) ⟨by omega, by omega⟩
  have e2 : timeZ 0 5 = 5 := by decide
  have e3 : List.takeWhile (dueB 5) [⟨2, 2, 7, 3⟩, ⟨1, 1, 7, 5⟩] = [⟨2, 2, 7, 3⟩, ⟨1, 1, 7, 5⟩] := rfl
  have e4 : List.dropWhile (dueB 5) [⟨2, 2, 7, 3⟩, ⟨1, 1, 7, 5⟩] = [] := rfl
  rw [e2, e3, e4] at hD
  clear H4 HP3 HB3 e2 e3 e4
  go_wp2_with fail
  with_reducible refine hD.mono ?_
  rintro r w5 ⟨a, len, cap, rfl, H5⟩
  clear hD
  obtain ⟨ht5, F5, hp5, hf5, _, _⟩ := H5.out
  have HB5 : Hid (Below W.heap.size W w5) := HB4.out.trans (hf5.to HL3.out HB4.out.size)
  obtain rfl : 2 = len := ht5.size
  have hrm := ht5.room
  have hms := ht5.most
  obtain ⟨b, off, rfl, hc0⟩ := ht5.cell 0 (by omega)
  obtain ⟨b', off', hq, hc1⟩ := ht5.cell 1 (by omega)
  cases hq
  have p0 := hc0.c0
  have p1 := hc1.c0
  rw [show tk [⟨2, 2, 7, 3⟩, ⟨1, 1, 7, 5⟩] 0 = ⟨2, 2, 7, 3⟩ from rfl] at p0
  rw [show tk [⟨2, 2, 7, 3⟩, ⟨1, 1, 7, 5⟩] 1 = ⟨1, 1, 7, 5⟩ from rfl] at p1
  have hL := HP.out.len hp5
  simp only [List.length_nil, Nat.zero_mul, Nat.one_mul, Nat.add_zero] at hL p0 p1
  clear H5 ht5 hp5 hf5 hc0 hc1 HB4 HL3
  go_wp2_with fail
  with_reducible refine hL.mono ?_
  rintro r w6 ⟨rfl, H6⟩
  have HE : Hid (Below W.heap.size W w6) := HB5.out.trans (H6.out.mono HB5.out.size)
  clear hL H6 HB5
  go_wp2_with fail
  go_ret
  exact ⟨rfl, HE⟩
end Go.Proofs.Ytdfbnfgemjljgaa
