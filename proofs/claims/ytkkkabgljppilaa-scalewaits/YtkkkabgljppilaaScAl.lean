/-
  A scaler newer than w (PkS); alive; a scaler that nobody made.
-/
import Derived.Test.YtkkkabgljppilaaScArgs
namespace Go.Proofs.Ytkkkabgljppilaa
open Go.RowKit
set_option linter.unusedVariables false
set_option maxRecDepth 1000000

/-- It lies there, above w; nothing below w has turned. -/
structure PkS (w : World) (b : Nat) (P : Pk) (W : World) : Prop where
  at' : PkAt W b P
  ok : PkOk P
  bel : Below w.heap.size w W
  lo : w.heap.size ≤ b
variable {w W W' : World} {b : Nat} {P P' : Pk}
theorem PkS.below (h : PkS w b P W) (hb : Below W.heap.size W W') : PkS w b P W' := ⟨h.at'.below hb, h.ok, h.bel.trans (hb.mono h.bel.size), h.lo⟩
theorem PkS.drewN (h : PkS w b P W) (n : Nat) : PkS w b P (W.drewN n) := h.below ⟨rfl, rfl, rfl, Nat.le_refl _, fun _ _ => rfl⟩
theorem PkS.step (h : PkS w b P W) (ok : PkOk P') (H : PkAt W' b P' ∧ Tn b W W') : PkS w b P' W' := ⟨H.1, ok, h.bel.trans (H.2.to (fun x hx => by rw [show x = b from hx]; exact h.lo) h.bel.size), h.lo⟩
theorem PkS.new {s : Sg} (hs : s.Is) (hb : Below w.heap.size w W) (H : PkAt W' b (Pk.new s) ∧ Below W.heap.size W W' ∧ W.heap.size ≤ b) : PkS w b (Pk.new s) W' := ⟨H.1, PkOk.new hs, hb.trans (H.2.1.mono hb.size), Nat.le_trans hb.size H.2.2⟩
theorem PkS.cStep (h : PkS w b P W) (t live load : Int) : Calls Try.prog 15 #[.pointer (some ⟨b, 0, none⟩), .int .i64 t, .int .i64 live, .int .i64 load] W fun e w' => e = .returned (.int .i64 (P.stp t live load)) ∧ Hid (PkS w b (P.stpd t live load) w') := (sstep_any h.at' h.ok t live load).mono fun e w' ⟨he, H⟩ => ⟨he, h.step (h.ok.stpd t live load) H.out⟩
theorem PkS.cSet (h : PkS w b P W) (x y : Int) : Calls Try.prog 13 #[.pointer (some ⟨b, 0, none⟩), .int .i64 x, .int .i64 y] W fun e w' => e = .returned (.int .i64 (if Bnd x y then 0 else 1)) ∧ Hid (PkS w b (P.put x y) w') := (sset_any h.at' h.ok x y).mono fun e w' ⟨he, H⟩ => ⟨he, h.step (h.ok.put x y) H.out⟩
theorem PkS.cWant (h : PkS w b P W) (load : Int) : Calls Try.prog 18 #[.pointer (some ⟨b, 0, none⟩), .int .i64 load] W fun e w' => e = .returned (.int .i64 (P.want load)) ∧ w' = W := swant_any h.at' h.ok load
theorem PkS.cNow (h : PkS w b P W) : Calls Try.prog 20 #[.pointer (some ⟨b, 0, none⟩)] W fun e w' => e = .returned (.int .i64 P.now) ∧ w' = W := snow_any h.at' h.ok
theorem PkS.cBounds (h : PkS w b P W) : Calls Try.prog 17 #[.pointer (some ⟨b, 0, none⟩)] W fun e w' => e = .returned (.tuple #[.int .i64 P.mn, .int .i64 P.mx]) ∧ ∃ m, w' = W.drewN m := sbounds_any h.at' h.ok
set_option maxHeartbeats 4000000 in
theorem alive25_any (W : World) : Calls Try.prog 10 #[] W fun e w' => e = .returned (.bool true) ∧ Hid (Below W.heap.size W w') := by
  have hs : Sg.Is ⟨1, 4, 10, 0, 0, 0⟩ := by decide
  have hN := snew_yes hs W
  unfold SgV at hN
  simp only at hN
  go_enter Try.func10, Try.ntmps10
  go_wp2_with fail
  refine hN.mono ?_
  rintro e w1 ⟨b, rfl, H1⟩
  have HS : Hid (PkS W b ⟨1, 4, 10, 0, 0, 0, 0, -1, -1⟩ w1) := (PkS.new hs (Below.refl _ _) H1.out)
  have hA := HS.out.cWant 25
  rw [show (Pk.want ⟨1, 4, 10, 0, 0, 0, 0, -1, -1⟩ 25) = 3 from rfl] at hA
  clear hN H1
  go_wp2_with fail
  refine hA.mono ?_
  rintro e w2 ⟨rfl, rfl⟩
  have hF := HS.out.cStep 0 1 25
  rw [show (Pk.stp ⟨1, 4, 10, 0, 0, 0, 0, -1, -1⟩ 0 1 25) = 1 from rfl, show (Pk.stpd ⟨1, 4, 10, 0, 0, 0, 0, -1, -1⟩ 0 1 25) = ⟨1, 4, 10, 0, 0, 0, 0, 0, -1⟩ from rfl] at hF
  clear hA HS
  go_wp2_with fail
  refine hF.mono ?_
  rintro e w3 ⟨rfl, HS⟩
  have hT := HS.out.cStep 0 5 25
  rw [show (Pk.stp ⟨1, 4, 10, 0, 0, 0, 0, 0, -1⟩ 0 5 25) = -1 from rfl] at hT
  clear hF HS
  go_wp2_with fail
  refine hT.mono ?_
  rintro e w4 ⟨rfl, HS⟩
  have HE := hid HS.out.bel
  clear hT HS
  go_wp2_with fail
  go_ret
  exact ⟨rfl, HE⟩
/-! ### A scaler that nobody made -/
variable {p : Option Addr}
theorem PkNo.below (h : PkNo W p) (hb : Below W.heap.size W W') : PkNo W' p := h.imp id fun ⟨b, e, hc⟩ => ⟨b, e, (hb.cell (World.block_lt_of_cell? _ _ hc)).trans hc⟩
theorem nstep (h : PkNo W p) (t live load : Int) : Calls Try.prog 15 #[.pointer p, .int .i64 t, .int .i64 live, .int .i64 load] W fun e w' => e = .returned (.int .i64 0) ∧ w' = W := by
  have hM := smade_no h
  clear h
  go_enter Try.func15, Try.ntmps15
  go_wp2_with fail
  refine hM.mono ?_
  rintro e w1 ⟨rfl, rfl⟩
  go_wp2_with fail
  go_ret
  exact ⟨rfl, rfl⟩
theorem nset (h : PkNo W p) (x y : Int) : Calls Try.prog 13 #[.pointer p, .int .i64 x, .int .i64 y] W fun e w' => e = .returned (.int .i64 1) ∧ w' = W := by
  have hM := smade_no h
  clear h
  go_enter Try.func13, Try.ntmps13
  go_wp2_with fail
  refine hM.mono ?_
  rintro e w1 ⟨rfl, rfl⟩
  go_wp2_with fail
  go_ret
  exact ⟨rfl, rfl⟩
theorem nwant (h : PkNo W p) (load : Int) : Calls Try.prog 18 #[.pointer p, .int .i64 load] W fun e w' => e = .returned (.int .i64 0) ∧ w' = W := by
  have hM := smade_no h
  clear h
  go_enter Try.func18, Try.ntmps18
  go_wp2_with fail
  refine hM.mono ?_
  rintro e w1 ⟨rfl, rfl⟩
  go_wp2_with fail
  go_ret
  exact ⟨rfl, rfl⟩
theorem nbounds (h : PkNo W p) : Calls Try.prog 17 #[.pointer p] W fun e w' => e = .returned (.tuple #[.int .i64 0, .int .i64 0]) ∧ w' = W := by
  have hM := smade_no h
  clear h
  go_enter Try.func17, Try.ntmps17
  go_wp2_with fail
  refine hM.mono ?_
  rintro e w1 ⟨rfl, rfl⟩
  go_wp2_with fail
  go_ret2
  exact ⟨rfl, rfl⟩
theorem nnow (h : PkNo W p) : Calls Try.prog 20 #[.pointer p] W fun e w' => e = .returned (.int .i64 0) ∧ w' = W := by
  have hM := smade_no h
  clear h
  go_enter Try.func20, Try.ntmps20
  go_wp2_with fail
  refine hM.mono ?_
  rintro e w1 ⟨rfl, rfl⟩
  go_wp2_with fail
  go_ret
  exact ⟨rfl, rfl⟩
end Go.Proofs.Ytkkkabgljppilaa
