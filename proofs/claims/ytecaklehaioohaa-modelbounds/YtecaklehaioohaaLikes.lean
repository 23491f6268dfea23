/-
  The statements' own 'rows': of like tables it is true.
-/
import Derived.Test.YtecaklehaioohaaRMTables
namespace Go.Proofs.Ytecaklehaioohaa
open Go.RowKit
set_option linter.unusedVariables false
set_option maxRecDepth 1000000

set_option maxHeartbeats 1000000 in
theorem rows_like (a b : Option Addr) (n ca cb : Nat) (ha hb : List Hd) (ls : List (List Int)) (w : World) (hA : Tbl w a n ca ha ls) (hB : Tbl w b n cb hb ls) (hn : n ≤ 1000) :
    Calls Try.prog 16 #[.slice a n ca, .slice b n cb] w fun e w' => e = .returned (.bool true) ∧ Below w.heap.size w w' := by
  have HA := hid hA
  have HB := hid hB
  have HC : Hid (∀ k W, k < n → Below w.heap.size w W → Calls Try.prog 11 #[.slice (ha[k]?.getD (none, 0, 0)).1 (ha[k]?.getD (none, 0, 0)).2.1 (ha[k]?.getD (none, 0, 0)).2.2, .slice (hb[k]?.getD (none, 0, 0)).1 (hb[k]?.getD (none, 0, 0)).2.1 (hb[k]?.getD (none, 0, 0)).2.2] W fun e w' => e = .returned (.bool true) ∧ Below W.heap.size W w') := by
    intro k W hk hW
    have h1 := (hA.below hW).rows k hk
    have h2 := (hB.below hW).rows k hk
    have e : (hb[k]?.getD (none, 0, 0)).2.1 = (ha[k]?.getD (none, 0, 0)).2.1 := by rw [← h1.size, ← h2.size]
    rw [e] at h2 ⊢
    exact same_yes _ _ _ _ _ _ W h1 h2 (hA.short k hk)
  have r1 := hA.rd.room
  have m1 := hA.rd.most
  have r2 := hB.rd.room
  have m2 := hB.rd.most
  clear hA hB
  go_enter Try.func16, Try.ntmps16
  go_wp2_with fail
  go_loopw [13] (fun i W => ∃ k : Nat, k ≤ n ∧ i = .int .i64 k ∧ Hid (Below w.heap.size w W)) (fun i _ => n - (intOf i).toNat)
  case atStart => exact ⟨0, Nat.zero_le _, rfl, Below.refl _ _⟩
  case round =>
    obtain ⟨k, hk, rfl, HW⟩ := hrel
    by_cases hlt : k < n
    · obtain ⟨b1, o1, rfl, c1⟩ := (HA.out.rd.below HW.out).cell k hlt
      obtain ⟨b2, o2, rfl, c2⟩ := (HB.out.rd.below HW.out).cell k hlt
      have hC := HC.out k wr.drew hlt HW.out.drew
      have q1 : (k : Int) < (n : Int) := by omega
      clear HA HB HC
      generalize ha[k]?.getD (none, 0, 0) = y at *
      generalize hb[k]?.getD (none, 0, 0) = z at *
      obtain ⟨y1, y2, y3⟩ := y
      obtain ⟨z1, z2, z3⟩ := z
      simp only at c1 c2 hC
      have HK : Hid (∀ W, Below wr.heap.size wr W → W.cell? ⟨b1, o1 + k, none⟩ = some (.slice y1 y2 y3) ∧ W.cell? ⟨b2, o2 + k, none⟩ = some (.slice z1 z2 z3)) :=
        fun W h => ⟨(h.cell (World.block_lt_of_cell? _ _ c1)).trans c1, (h.cell (World.block_lt_of_cell? _ _ c2)).trans c2⟩
      go_wp2_with fail
      go_region_held3 (fun W : World => W.cell? ⟨b1, o1 + k, none⟩ = some (.slice y1 y2 y3) ∧ W.cell? ⟨b2, o2 + k, none⟩ = some (.slice z1 z2 z3)) (first | (with_reducible exact ⟨c1, c2⟩) | (with_reducible exact HK.out _ (Below.refl _ _).drew) | (with_reducible exact HK.out _ HB4.out))
        (first | (go_at_call 11; (with_reducible refine hC.mono ?_); rintro e w4 ⟨rfl, hb4⟩; have HB4 : Hid (Below wr.heap.size wr w4) := (Below.refl _ _).drew.trans (hb4.mono (Nat.le_refl _))))
      have HW4 := hid (HW.out.trans (HB4.out.mono HW.out.size))
      clear HK hC hb4 HB4 c1 c2 HW
      go_wp2_with fail
      go_round
      case rel => exact ⟨k + 1, by omega, by go_num, HW4⟩
      case measure => simp [intOf]; omega
    · go_wp2
      go_ret
      exact ⟨rfl, HW.out⟩

end Go.Proofs.Ytecaklehaioohaa
