/-
  A prober newer than w (PkS); alive; a prober that nobody made.
-/
import Derived.Test.YtmpooeflbfggbaaPbArgs
namespace Go.Proofs.Ytmpooeflbfggbaa
open Go.RowKit
set_option linter.unusedVariables false
set_option maxRecDepth 1000000

/-- It lies there, above w; nothing below w has turned. -/
structure PkS (w : World) (b : Nat) (P : Pk) (W : World) : Prop where
  at' : PkAt W b P
  ok : PkOk P
  bel : Below w.heap.size w W
  lo : w.heap.size ≤ b
variable {w W W' : World} {b : Nat} {P P' : Pk}
theorem PkS.below (h : PkS w b P W) (hb : Below W.heap.size W W') : PkS w b P W' := ⟨h.at'.below hb, h.ok, h.bel.trans (hb.mono h.bel.size), h.lo⟩
theorem PkS.drewN (h : PkS w b P W) (n : Nat) : PkS w b P (W.drewN n) := h.below ⟨rfl, rfl, rfl, Nat.le_refl _, fun _ _ => rfl⟩
theorem PkS.step (h : PkS w b P W) (ok : PkOk P') (H : PkAt W' b P' ∧ Tn b W W') : PkS w b P' W' := ⟨H.1, ok, h.bel.trans (H.2.to (fun x hx => by rw [show x = b from hx]; exact h.lo) h.bel.size), h.lo⟩
theorem PkS.new {s : Sg} (hs : s.Is) (hb : Below w.heap.size w W) (H : PkAt W' b (Pk.new s) ∧ Below W.heap.size W W' ∧ W.heap.size ≤ b) : PkS w b (Pk.new s) W' := ⟨H.1, PkOk.new hs, hb.trans (H.2.1.mono hb.size), Nat.le_trans hb.size H.2.2⟩
theorem PkS.go {f : Nat} {ar : Array Value} {v : Value} (h : PkS w b P W) (ok : PkOk P') (hc : Calls Try.prog f ar W fun e w' => e = .returned v ∧ Hid (PkAt w' b P' ∧ Tn b W w')) : Calls Try.prog f ar W fun e w' => e = .returned v ∧ Hid (PkS w b P' w') := hc.mono fun e w' ⟨he, H⟩ => ⟨he, h.step ok H.out⟩
theorem PkS.cTick (h : PkS w b P W) (t : Int) : Calls Try.prog 12 #[.pointer (some ⟨b, 0, none⟩), .int .i64 t] W fun e w' => e = .returned (.tuple #[.int .u64 (P.go t).tkn, .bool (P.go t).tkb]) ∧ Hid (PkS w b (P.go t).tk w') := h.go (h.ok.go t).tk (ptick_any h.at' h.ok t)
theorem PkS.cPong (h : PkS w b P W) (t n : Int) : Calls Try.prog 14 #[.pointer (some ⟨b, 0, none⟩), .int .i64 t, .int .u64 n] W fun e w' => e = .returned (.bool ((P.go t).yes n)) ∧ Hid (PkS w b ((P.go t).pg n) w') := h.go ((h.ok.go t).pg n) (ppong_any h.at' h.ok t n)
theorem PkS.cUp (h : PkS w b P W) : Calls Try.prog 16 #[.pointer (some ⟨b, 0, none⟩)] W fun e w' => e = .returned (.bool P.up) ∧ w' = W := pup_any h.at' h.ok
theorem PkS.cNow (h : PkS w b P W) : Calls Try.prog 19 #[.pointer (some ⟨b, 0, none⟩)] W fun e w' => e = .returned (.int .i64 P.now) ∧ w' = W := pnow_any h.at' h.ok
theorem PkS.cAsked (h : PkS w b P W) : Calls Try.prog 20 #[.pointer (some ⟨b, 0, none⟩)] W fun e w' => e = .returned (.int .u64 P.ask) ∧ w' = W := pasked_any h.at' h.ok
theorem PkS.cDue (h : PkS w b P W) : Calls Try.prog 17 #[.pointer (some ⟨b, 0, none⟩)] W fun e w' => e = .returned (.int .i64 P.due) ∧ ∃ m, w' = W.drewN m := pdue_any h.at' h.ok
set_option maxHeartbeats 4000000 in
theorem alive23_any (W : World) : Calls Try.prog 10 #[] W fun e w' => e = .returned (.bool true) ∧ Hid (Below W.heap.size W w') := by
  have hs : Sg.Is ⟨10, 5, 1, 1⟩ := by unfold Sg.Is; decide
  have hN := pnew_yes hs W
  unfold SgV at hN
  simp only at hN
  go_enter Try.func10, Try.ntmps10
  go_wp2_with fail
  refine hN.mono ?_
  rintro e w1 ⟨b, rfl, H1⟩
  have HS : Hid (PkS W b ⟨10, 5, 1, 1, 0, false, 0, 0, 0, false, 0, 0⟩ w1) := (PkS.new hs (Below.refl _ _) H1.out)
  have hA := HS.out.cTick 0
  rw [show (Pk.go ⟨10, 5, 1, 1, 0, false, 0, 0, 0, false, 0, 0⟩ 0).tkn = 1 from rfl, show (Pk.go ⟨10, 5, 1, 1, 0, false, 0, 0, 0, false, 0, 0⟩ 0).tkb = true from rfl, show (Pk.go ⟨10, 5, 1, 1, 0, false, 0, 0, 0, false, 0, 0⟩ 0).tk = ⟨10, 5, 1, 1, 0, false, 10, 5, 1, true, 0, 0⟩ from rfl] at hA
  clear hN H1 HS
  go_wp2_with fail
  refine hA.mono ?_
  rintro e w2 ⟨rfl, HS⟩
  have hF := HS.out.cPong 4 1
  rw [show (Pk.go ⟨10, 5, 1, 1, 0, false, 10, 5, 1, true, 0, 0⟩ 4).yes 1 = true from rfl, show (Pk.go ⟨10, 5, 1, 1, 0, false, 10, 5, 1, true, 0, 0⟩ 4).pg 1 = ⟨10, 5, 1, 1, 4, true, 10, 5, 1, false, 0, 0⟩ from rfl] at hF
  clear hA HS
  go_wp2_with fail
  refine hF.mono ?_
  rintro e w3 ⟨rfl, HS⟩
  have hT := HS.out.cPong 4 1
  rw [show (Pk.go ⟨10, 5, 1, 1, 4, true, 10, 5, 1, false, 0, 0⟩ 4).yes 1 = false from rfl, show (Pk.go ⟨10, 5, 1, 1, 4, true, 10, 5, 1, false, 0, 0⟩ 4).pg 1 = ⟨10, 5, 1, 1, 4, true, 10, 5, 1, false, 0, 0⟩ from rfl] at hT
  clear hF HS
  go_wp2_with fail
  refine hT.mono ?_
  rintro e w4 ⟨rfl, HS⟩
  have hU := HS.out.cUp
  simp only at hU
  have HE := hid HS.out.bel
  clear hT HS
  go_wp2_with fail
  refine hU.mono ?_
  rintro e w5 ⟨rfl, rfl⟩
  clear hU
  go_wp2_with fail
  go_ret
  exact ⟨rfl, HE⟩
/-! ### A prober that nobody made -/
variable {p : Option Addr}
theorem PkNo.below (h : PkNo W p) (hb : Below W.heap.size W W') : PkNo W' p := h.imp id fun ⟨b, e, hc⟩ => ⟨b, e, (hb.cell (World.block_lt_of_cell? _ _ hc)).trans hc⟩
theorem ntick (h : PkNo W p) (t : Int) : Calls Try.prog 12 #[.pointer p, .int .i64 t] W fun e w' => e = .returned (.tuple #[.int .u64 0, .bool false]) ∧ w' = W := by
  have hM := pmade_no h
  clear h
  go_enter Try.func12, Try.ntmps12
  go_wp2_with fail
  refine hM.mono ?_
  rintro e w1 ⟨rfl, rfl⟩
  go_wp2_with fail
  go_ret2
  exact ⟨rfl, rfl⟩
theorem npong (h : PkNo W p) (t n : Int) : Calls Try.prog 14 #[.pointer p, .int .i64 t, .int .u64 n] W fun e w' => e = .returned (.bool false) ∧ w' = W := by
  have hM := pmade_no h
  clear h
  go_enter Try.func14, Try.ntmps14
  go_wp2_with fail
  refine hM.mono ?_
  rintro e w1 ⟨rfl, rfl⟩
  go_wp2_with fail
  go_ret
  exact ⟨rfl, rfl⟩
theorem nup (h : PkNo W p) : Calls Try.prog 16 #[.pointer p] W fun e w' => e = .returned (.bool false) ∧ w' = W := by
  have hM := pmade_no h
  clear h
  go_enter Try.func16, Try.ntmps16
  go_wp2_with fail
  refine hM.mono ?_
  rintro e w1 ⟨rfl, rfl⟩
  go_wp2_with fail
  go_ret
  exact ⟨rfl, rfl⟩
theorem ndue (h : PkNo W p) : Calls Try.prog 17 #[.pointer p] W fun e w' => e = .returned (.int .i64 1099511627776) ∧ w' = W := by
  have hM := pmade_no h
  clear h
  go_enter Try.func17, Try.ntmps17
  go_wp2_with fail
  refine hM.mono ?_
  rintro e w1 ⟨rfl, rfl⟩
  go_wp2_with fail
  go_ret
  exact ⟨rfl, rfl⟩
theorem nnow (h : PkNo W p) : Calls Try.prog 19 #[.pointer p] W fun e w' => e = .returned (.int .i64 0) ∧ w' = W := by
  have hM := pmade_no h
  clear h
  go_enter Try.func19, Try.ntmps19
  go_wp2_with fail
  refine hM.mono ?_
  rintro e w1 ⟨rfl, rfl⟩
  go_wp2_with fail
  go_ret
  exact ⟨rfl, rfl⟩
theorem nasked (h : PkNo W p) : Calls Try.prog 20 #[.pointer p] W fun e w' => e = .returned (.int .u64 0) ∧ w' = W := by
  have hM := pmade_no h
  clear h
  go_enter Try.func20, Try.ntmps20
  go_wp2_with fail
  refine hM.mono ?_
  rintro e w1 ⟨rfl, rfl⟩
  go_wp2_with fail
  go_ret
  exact ⟨rfl, rfl⟩
end Go.Proofs.Ytmpooeflbfggbaa
