/-
  A breaker newer than w (BrS); alive; a breaker that nobody made.
-/
import Derived.Test.YtekdbmhpdkdjjaaBrArgs
namespace Go.Proofs.Ytekdbmhpdkdjjaa
open Go.RowKit
set_option linter.unusedVariables false
set_option maxRecDepth 1000000

/-- It lies there, above w; nothing below w has turned. -/
structure BrS (w : World) (b : Nat) (P : Pk) (W : World) : Prop where
  at' : PkAt W b P
  ok : PkOk P
  bel : Below w.heap.size w W
  lo : w.heap.size ≤ b
variable {w W W' : World} {b : Nat} {P P' : Pk}
theorem BrS.below (h : BrS w b P W) (hb : Below W.heap.size W W') : BrS w b P W' := ⟨h.at'.below hb, h.ok, h.bel.trans (hb.mono h.bel.size), h.lo⟩
theorem BrS.step (h : BrS w b P W) (ok : PkOk P') (H : PkAt W' b P' ∧ Tn b W W') : BrS w b P' W' := ⟨H.1, ok, h.bel.trans (H.2.to (fun x hx => by rw [show x = b from hx]; exact h.lo) h.bel.size), h.lo⟩
theorem BrS.new {s : Sg} (hs : s.Is) (hb : Below w.heap.size w W) (H : PkAt W' b (Pk.new s) ∧ Below W.heap.size W W' ∧ W.heap.size ≤ b) : BrS w b (Pk.new s) W' := ⟨H.1, PkOk.new hs, hb.trans (H.2.1.mono hb.size), Nat.le_trans hb.size H.2.2⟩
theorem BrS.go {f : Nat} {ar : Array Value} {v : Value} (h : BrS w b P W) (ok : PkOk P') (hc : Calls Try.prog f ar W fun e w' => e = .returned v ∧ Hid (PkAt w' b P' ∧ Tn b W w')) : Calls Try.prog f ar W fun e w' => e = .returned v ∧ Hid (BrS w b P' w') := hc.mono fun e w' ⟨he, H⟩ => ⟨he, h.step ok H.out⟩
theorem BrS.cState (h : BrS w b P W) (t : Int) : Calls Try.prog 23 #[.pointer (some ⟨b, 0, none⟩), .int .i64 t] W fun e w' => e = .returned (.int .i64 (P.go t).st) ∧ Hid (BrS w b (P.go t) w') := h.go (h.ok.go t) (bstate_any h.at' h.ok t)
theorem BrS.cAllow (h : BrS w b P W) (t : Int) : Calls Try.prog 13 #[.pointer (some ⟨b, 0, none⟩), .int .i64 t] W fun e w' => e = .returned (.bool (P.go t).may) ∧ Hid (BrS w b (P.go t).alw w') := h.go (h.ok.go t).alw (ballow_any h.at' h.ok t)
theorem BrS.cOK (h : BrS w b P W) (t : Int) : Calls Try.prog 15 #[.pointer (some ⟨b, 0, none⟩), .int .i64 t] W fun e w' => e = .returned (.tuple #[]) ∧ Hid (BrS w b (P.go t).oks w') := h.go (h.ok.go t).oks (bok_any h.at' h.ok t)
theorem BrS.cFail (h : BrS w b P W) (t : Int) : Calls Try.prog 17 #[.pointer (some ⟨b, 0, none⟩), .int .i64 t] W fun e w' => e = .returned (.tuple #[]) ∧ Hid (BrS w b (P.go t).fls w') := h.go (h.ok.go t).fls (bfail_any h.at' h.ok t)
theorem BrS.cLeave (h : BrS w b P W) (t : Int) : Calls Try.prog 20 #[.pointer (some ⟨b, 0, none⟩), .int .i64 t] W fun e w' => e = .returned (.tuple #[]) ∧ Hid (BrS w b (P.go t).lve w') := h.go (h.ok.go t).lve (bleave_any h.at' h.ok t)
theorem BrS.cReset (h : BrS w b P W) : Calls Try.prog 22 #[.pointer (some ⟨b, 0, none⟩)] W fun e w' => e = .returned (.tuple #[]) ∧ Hid (BrS w b P.shut w') := h.go h.ok.shut (breset_any h.at' h.ok)
theorem BrS.cCool (h : BrS w b P W) : Calls Try.prog 24 #[.pointer (some ⟨b, 0, none⟩)] W fun e w' => e = .returned (.int .i64 P.cool) ∧ w' = W := bcool_any h.at' h.ok
theorem BrS.cNow (h : BrS w b P W) : Calls Try.prog 25 #[.pointer (some ⟨b, 0, none⟩)] W fun e w' => e = .returned (.int .i64 P.now) ∧ w' = W := bnow_any h.at' h.ok
theorem BrS.as (h : BrS w b P W) (e : P = P') : BrS w b P' W := e ▸ h
set_option maxHeartbeats 4000000 in
theorem alive22_any (W : World) : Calls Try.prog 10 #[] W fun e w' => e = .returned (.bool true) ∧ Hid (Below W.heap.size W w') := by
  have hs : Sg.Is ⟨1, 10, 20, 1⟩ := by unfold Sg.Is; decide
  have hN := bnew_yes hs W
  unfold SgV at hN
  simp only at hN
  go_enter Try.func10, Try.ntmps10
  go_wp2_with fail
  refine hN.mono ?_
  rintro e w1 ⟨b, rfl, H1⟩
  have HS : Hid (BrS W b ⟨1, 10, 20, 1, 0, 0, 10, 0, 1, 0, false, 0, 0⟩ w1) := (BrS.new hs (Below.refl _ _) H1.out)
  have hA := HS.out.cAllow 0
  rw [show (Pk.go ⟨1, 10, 20, 1, 0, 0, 10, 0, 1, 0, false, 0, 0⟩ 0).may = true from by decide, show (Pk.go ⟨1, 10, 20, 1, 0, 0, 10, 0, 1, 0, false, 0, 0⟩ 0).alw = ⟨1, 10, 20, 1, 0, 0, 10, 0, 1, 0, false, 0, 0⟩ from rfl] at hA
  clear hN H1 HS
  go_wp2_with fail
  refine hA.mono ?_
  rintro e w2 ⟨rfl, HS⟩
  have hF := HS.out.cFail 0
  rw [show (Pk.go ⟨1, 10, 20, 1, 0, 0, 10, 0, 1, 0, false, 0, 0⟩ 0).fls = ⟨1, 10, 20, 1, 0, 1, 20, 1, 1, 10, false, 0, 0⟩ from rfl] at hF
  clear hA HS
  go_wp2_with fail
  refine hF.mono ?_
  rintro e w3 ⟨rfl, HS⟩
  have hT := HS.out.cState 9
  rw [show Pk.go ⟨1, 10, 20, 1, 0, 1, 20, 1, 1, 10, false, 0, 0⟩ 9 = ⟨1, 10, 20, 1, 9, 1, 20, 1, 1, 10, false, 0, 0⟩ from rfl] at hT
  simp only at hT
  clear hF HS
  go_wp2_with fail
  refine hT.mono ?_
  rintro e w4 ⟨rfl, HS⟩
  have hT2 := HS.out.cState 10
  rw [show Pk.go ⟨1, 10, 20, 1, 9, 1, 20, 1, 1, 10, false, 0, 0⟩ 10 = ⟨1, 10, 20, 1, 10, 2, 20, 1, 1, 10, false, 0, 1⟩ from rfl] at hT2
  simp only at hT2
  clear hT HS
  go_wp2_with fail
  refine hT2.mono ?_
  rintro e w5 ⟨rfl, HS⟩
  have hO := HS.out.cOK 11
  rw [show (Pk.go ⟨1, 10, 20, 1, 10, 2, 20, 1, 1, 10, false, 0, 1⟩ 11).oks = ⟨1, 10, 20, 1, 11, 0, 10, 0, 1, 0, false, 0, 0⟩ from rfl] at hO
  clear hT2 HS
  go_wp2_with fail
  refine hO.mono ?_
  rintro e w6 ⟨rfl, HS⟩
  have hT3 := HS.out.cState 11
  rw [show Pk.go ⟨1, 10, 20, 1, 11, 0, 10, 0, 1, 0, false, 0, 0⟩ 11 = ⟨1, 10, 20, 1, 11, 0, 10, 0, 1, 0, false, 0, 0⟩ from rfl] at hT3
  simp only at hT3
  clear hO HS
  go_wp2_with fail
  refine hT3.mono ?_
  rintro e w7 ⟨rfl, HS⟩
  have HE := hid HS.out.bel
  clear hT3 HS
  go_wp2_with fail
  go_ret
  exact ⟨rfl, HE⟩
/-! ### A breaker that nobody made -/
variable {p : Option Addr}
theorem PkNo.below (h : PkNo W p) (hb : Below W.heap.size W W') : PkNo W' p := h.imp id fun ⟨b, e, hc⟩ => ⟨b, e, (hb.cell (World.block_lt_of_cell? _ _ hc)).trans hc⟩
theorem nstate (h : PkNo W p) (t : Int) : Calls Try.prog 23 #[.pointer p, .int .i64 t] W fun e w' => e = .returned (.int .i64 0) ∧ w' = W := by
  have hM := bmade_no h
  clear h
  go_enter Try.func23, Try.ntmps23
  go_wp2_with fail
  refine hM.mono ?_
  rintro e w1 ⟨rfl, rfl⟩
  go_wp2_with fail
  go_ret
  exact ⟨rfl, rfl⟩
theorem nallow (h : PkNo W p) (t : Int) : Calls Try.prog 13 #[.pointer p, .int .i64 t] W fun e w' => e = .returned (.bool false) ∧ w' = W := by
  have hM := bmade_no h
  clear h
  go_enter Try.func13, Try.ntmps13
  go_wp2_with fail
  refine hM.mono ?_
  rintro e w1 ⟨rfl, rfl⟩
  go_wp2_with fail
  go_ret
  exact ⟨rfl, rfl⟩
theorem ncool (h : PkNo W p) : Calls Try.prog 24 #[.pointer p] W fun e w' => e = .returned (.int .i64 0) ∧ w' = W := by
  have hM := bmade_no h
  clear h
  go_enter Try.func24, Try.ntmps24
  go_wp2_with fail
  refine hM.mono ?_
  rintro e w1 ⟨rfl, rfl⟩
  go_wp2_with fail
  go_ret
  exact ⟨rfl, rfl⟩
theorem nnow (h : PkNo W p) : Calls Try.prog 25 #[.pointer p] W fun e w' => e = .returned (.int .i64 0) ∧ w' = W := by
  have hM := bmade_no h
  clear h
  go_enter Try.func25, Try.ntmps25
  go_wp2_with fail
  refine hM.mono ?_
  rintro e w1 ⟨rfl, rfl⟩
  go_wp2_with fail
  go_ret
  exact ⟨rfl, rfl⟩
theorem nok (h : PkNo W p) (t : Int) : Calls Try.prog 15 #[.pointer p, .int .i64 t] W fun e w' => e = .returned (.tuple #[]) ∧ w' = W := by
  have hM := bmade_no h
  clear h
  go_enter Try.func15, Try.ntmps15
  go_wp2_with fail
  refine hM.mono ?_
  rintro e w1 ⟨rfl, rfl⟩
  go_wp2_with fail
  refine bodyPost_ret (results_none rfl _ _ _) rfl ?_
  exact ⟨rfl, rfl⟩
theorem nfail (h : PkNo W p) (t : Int) : Calls Try.prog 17 #[.pointer p, .int .i64 t] W fun e w' => e = .returned (.tuple #[]) ∧ w' = W := by
  have hM := bmade_no h
  clear h
  go_enter Try.func17, Try.ntmps17
  go_wp2_with fail
  refine hM.mono ?_
  rintro e w1 ⟨rfl, rfl⟩
  go_wp2_with fail
  refine bodyPost_ret (results_none rfl _ _ _) rfl ?_
  exact ⟨rfl, rfl⟩
theorem nleave (h : PkNo W p) (t : Int) : Calls Try.prog 20 #[.pointer p, .int .i64 t] W fun e w' => e = .returned (.tuple #[]) ∧ w' = W := by
  have hM := bmade_no h
  clear h
  go_enter Try.func20, Try.ntmps20
  go_wp2_with fail
  refine hM.mono ?_
  rintro e w1 ⟨rfl, rfl⟩
  go_wp2_with fail
  refine bodyPost_ret (results_none rfl _ _ _) rfl ?_
  exact ⟨rfl, rfl⟩
theorem nreset (h : PkNo W p) : Calls Try.prog 22 #[.pointer p] W fun e w' => e = .returned (.tuple #[]) ∧ w' = W := by
  have hM := bmade_no h
  clear h
  go_enter Try.func22, Try.ntmps22
  go_wp2_with fail
  refine hM.mono ?_
  rintro e w1 ⟨rfl, rfl⟩
  go_wp2_with fail
  go_end0
  exact ⟨rfl, rfl⟩
end Go.Proofs.Ytekdbmhpdkdjjaa
