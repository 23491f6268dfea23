/-
  A list newer than w (MbS); alive; a list that nobody made.
-/
import Derived.Test.YtlhhkgjolilpiaaMbAll
namespace Go.Proofs.Ytlhhkgjolilpiaa
open Go.RowKit
set_option linter.unusedVariables false
set_option maxRecDepth 1000000

/-- It lies there, above w; nothing below w has turned. -/
def MbS (w : World) (b : Nat) (S : Ml) (W : World) : Prop := ∃ M f, MlAt W b M f S ∧ MlOk S ∧ Below w.heap.size w W ∧ ∀ k, mF b M f S.L k → w.heap.size ≤ k
variable {w W W' : World} {b : Nat} {S S' : Ml} {n t i wt v s : Int}
theorem MbS.ok (h : MbS w b S W) : MlOk S := by obtain ⟨M, f, _, h2, _⟩ := h; exact h2
theorem MbS.bel (h : MbS w b S W) : Below w.heap.size w W := by obtain ⟨M, f, _, _, h3, _⟩ := h; exact h3
theorem MbS.below (h : MbS w b S W) (hb : Below W.heap.size W W') : MbS w b S W' := by
  obtain ⟨M, f, h1, h2, h3, h4⟩ := h
  exact ⟨M, f, h1.below hb, h2, h3.trans (hb.mono h3.size), h4⟩
/-- Where it lies, and what a call makes of it. -/
theorem MbS.go (h : MbS w b S W) : ∃ M f, MlAt W b M f S ∧ MlOk S ∧ ∀ f' S' W', MlO W b M f S S' f' W' → MlOk S' → MbS w b S' W' := by
  obtain ⟨M, f, h1, h2, h3, h4⟩ := h
  exact ⟨M, f, h1, h2, fun f' S' W' H ok => ⟨M, f', H.at', ok, h3.trans (H.fr.to h4 h3.size), fun k hk => (H.own k hk).elim (h4 k) fun e => Nat.le_trans h3.size e⟩⟩
theorem mnew_S (W : World) (hb : Below w.heap.size w W) : Calls Try.prog 6 #[] W fun e w' => ∃ b, e = .returned (.pointer (some ⟨b, 0, none⟩)) ∧ Hid (MbS w b Ml.zero w') :=
  (mnew_any W).mono fun e w' ⟨b, M, he, H⟩ => ⟨b, he, M, _, H.out.1, MlOk.zero, hb.trans (H.out.2.1.mono hb.size), fun k hk => Nat.le_trans hb.size (H.out.2.2 k hk)⟩
theorem MbS.cAdd (h : MbS w b S W) (t : Int) : Calls Try.prog 8 #[.pointer (some ⟨b, 0, none⟩), .int .i64 t] W fun e w' => e = .returned (.tuple #[.int .u64 (S.tm t).addN, .int .i64 (S.tm t).addE]) ∧ Hid (MbS w b (S.tm t).addS w') := by
  obtain ⟨M, f, h1, ok, hg⟩ := h.go
  exact (madd_any h1 ok t).mono fun e w' ⟨he, H⟩ => ⟨he, by obtain ⟨f', H⟩ := H.out; exact hg _ _ _ H (ok.tm t).addS⟩
theorem MbS.cUp (h : MbS w b S W) (t : Int) (hn : isU n) (hi : isU i) : Calls Try.prog 18 #[.pointer (some ⟨b, 0, none⟩), .int .i64 t, .int .u64 n, .int .u64 i] W fun e w' => e = .returned (.tuple #[.bool ((S.tm t).upB n i), .int .i64 ((S.tm t).upE n i)]) ∧ Hid (MbS w b ((S.tm t).upS n i) w') := by
  obtain ⟨M, f, h1, ok, hg⟩ := h.go
  exact (mup_any h1 ok.ris t hn i).mono fun e w' ⟨he, H⟩ => ⟨he, hg _ _ _ H.out ((ok.tm t).upS n hi)⟩
theorem MbS.cLost (h : MbS w b S W) (t : Int) (hn : isU n) : Calls Try.prog 10 #[.pointer (some ⟨b, 0, none⟩), .int .i64 t, .int .u64 n] W fun e w' => e = .returned (.int .i64 ((S.tm t).turnE n)) ∧ Hid (MbS w b ((S.tm t).turnS n 4) w') := by
  obtain ⟨M, f, h1, ok, hg⟩ := h.go
  exact (mlost_any h1 ok.ris t hn).mono fun e w' ⟨he, H⟩ => ⟨he, hg _ _ _ H.out ((ok.tm t).turnS n (by decide))⟩
theorem MbS.cDrain (h : MbS w b S W) (t : Int) (hn : isU n) : Calls Try.prog 12 #[.pointer (some ⟨b, 0, none⟩), .int .i64 t, .int .u64 n] W fun e w' => e = .returned (.int .i64 ((S.tm t).turnE n)) ∧ Hid (MbS w b ((S.tm t).turnS n 3) w') := by
  obtain ⟨M, f, h1, ok, hg⟩ := h.go
  exact (mdrain_any h1 ok.ris t hn).mono fun e w' ⟨he, H⟩ => ⟨he, hg _ _ _ H.out ((ok.tm t).turnS n (by decide))⟩
theorem MbS.cRemove (h : MbS w b S W) (t : Int) (hn : isU n) (wt : Int) : Calls Try.prog 14 #[.pointer (some ⟨b, 0, none⟩), .int .i64 t, .int .u64 n, .int .i64 wt] W fun e w' => e = .returned (.int .i64 ((S.tm t).rmE n wt)) ∧ Hid (MbS w b ((S.tm t).rmS n wt) w') := by
  obtain ⟨M, f, h1, ok, hg⟩ := h.go
  exact (mremove_any h1 ok t hn wt).mono fun e w' ⟨he, H⟩ => ⟨he, hg _ _ _ H.out ((ok.tm t).rmS n wt)⟩
theorem MbS.cBind (h : MbS w b S W) (hn : isU n) (v : Int) : Calls Try.prog 16 #[.pointer (some ⟨b, 0, none⟩), .int .u64 n, .int .i64 v] W fun e w' => e = .returned (.int .i64 (S.bindE n v)) ∧ Hid (MbS w b (S.bindS n v) w') := by
  obtain ⟨M, f, h1, ok, hg⟩ := h.go
  exact (mbind_any h1 ok hn v).mono fun e w' ⟨he, H⟩ => ⟨he, hg _ _ _ H.out (ok.bindS n v)⟩
theorem MbS.cGet (h : MbS w b S W) (hn : isU n) : Calls Try.prog 26 #[.pointer (some ⟨b, 0, none⟩), .int .u64 n] W fun e w' => e = .returned (.tuple #[.agg (MrC (S.getR n)), .int .i64 (S.getE n)]) ∧ Hid (Below W.heap.size W w') := by
  obtain ⟨M, f, h1, ok, _⟩ := h
  exact mget_any h1 ok hn
theorem MbS.cAll (h : MbS w b S W) : Calls Try.prog 21 #[.pointer (some ⟨b, 0, none⟩)] W fun e w' => ∃ a cap, e = .returned (.slice a S.L.length cap) ∧ Hid (RwM 55 w' W.heap.size (.slice a S.L.length cap) S.L ∧ Below W.heap.size W w') := by
  obtain ⟨M, f, h1, ok, _⟩ := h
  exact mall_any h1 ok
theorem MbS.cLive (h : MbS w b S W) : Calls Try.prog 22 #[.pointer (some ⟨b, 0, none⟩)] W fun e w' => e = .returned (.int .i64 (liveL S.L)) ∧ Hid (Below W.heap.size W w') := by
  obtain ⟨M, f, h1, ok, _⟩ := h
  exact mlive_any h1 ok
theorem MbS.cNow (h : MbS w b S W) : Calls Try.prog 24 #[.pointer (some ⟨b, 0, none⟩)] W fun e w' => e = .returned (.int .i64 S.now) ∧ w' = W := by
  obtain ⟨M, f, h1, _⟩ := h
  exact mnow_any h1
/-! ### alive -/
theorem al1 : (Ml.zero.tm 0).addN = 1 ∧ (Ml.zero.tm 0).addE = 0 ∧ (Ml.zero.tm 0).addS = ⟨0, 1, [⟨1, 1, 0, 0, 0⟩]⟩ := ⟨rfl, rfl, rfl⟩
theorem al2 : ((⟨0, 1, [⟨1, 1, 0, 0, 0⟩]⟩ : Ml).tm 1).upB 1 5 = false ∧ ((⟨0, 1, [⟨1, 1, 0, 0, 0⟩]⟩ : Ml).tm 1).upE 1 5 = 0 ∧ ((⟨0, 1, [⟨1, 1, 0, 0, 0⟩]⟩ : Ml).tm 1).upS 1 5 = ⟨1, 1, [⟨1, 2, 5, 0, 1⟩]⟩ := ⟨rfl, rfl, rfl⟩
theorem al3 : ((⟨1, 1, [⟨1, 2, 5, 0, 1⟩]⟩ : Ml).tm 2).upB 1 6 = true ∧ ((⟨1, 1, [⟨1, 2, 5, 0, 1⟩]⟩ : Ml).tm 2).upE 1 6 = 0 ∧ ((⟨1, 1, [⟨1, 2, 5, 0, 1⟩]⟩ : Ml).tm 2).upS 1 6 = ⟨2, 1, [⟨1, 2, 6, 0, 1⟩]⟩ := ⟨rfl, rfl, rfl⟩
theorem al4 : (⟨2, 1, [⟨1, 2, 6, 0, 1⟩]⟩ : Ml).getR 1 = ⟨1, 2, 6, 0, 1⟩ ∧ (⟨2, 1, [⟨1, 2, 6, 0, 1⟩]⟩ : Ml).getE 1 = 0 := ⟨rfl, rfl⟩
set_option maxHeartbeats 4000000 in
theorem alive24_any (W : World) : Calls Try.prog 25 #[] W fun e w' => e = .returned (.bool true) ∧ Hid (Below W.heap.size W w') := by
  have u1 : isU 1 := ⟨by decide, by decide⟩
  have u5 : isU 5 := ⟨by decide, by decide⟩
  have u6 : isU 6 := ⟨by decide, by decide⟩
  have hN := mnew_S (w := W) W (Below.refl _ _)
  go_enter Try.func25, Try.ntmps25
  go_wp2_with fail
  refine hN.mono ?_
  rintro e w1 ⟨b, rfl, H1⟩
  have hA := H1.out.cAdd 0
  rw [al1.1, al1.2.1, al1.2.2] at hA
  clear hN H1
  go_wp2_with fail
  refine hA.mono ?_
  rintro e w2 ⟨rfl, H2⟩
  have hB := H2.out.cUp 1 u1 u5
  rw [al2.1, al2.2.1, al2.2.2] at hB
  clear hA H2
  go_wp2_with fail
  refine hB.mono ?_
  rintro e w3 ⟨rfl, H3⟩
  have hC := H3.out.cUp 2 u1 u6
  rw [al3.1, al3.2.1, al3.2.2] at hC
  clear hB H3
  go_wp2_with fail
  refine hC.mono ?_
  rintro e w4 ⟨rfl, H4⟩
  have hG := H4.out.cGet u1
  rw [al4.1, al4.2] at hG
  unfold MrC at hG
  have HB4 := hid H4.out.bel
  clear hC H4
  go_wp2_with fail
  refine hG.mono ?_
  rintro e w5 ⟨rfl, H5⟩
  have HE : Hid (∀ o : Obj, Below W.heap.size W (w5.alloc o)) := fun o => by
    have h1 := HB4.out.trans (H5.out.mono HB4.out.size)
    exact h1.alloc h1.size o
  clear hG H5 HB4
  go_wp2_with fail
  go_ret
  exact ⟨rfl, HE.out _⟩
/-! ### A list that nobody made -/
variable {p : Option Addr}
theorem MlNo.below (h : MlNo W p) (hb : Below W.heap.size W W') : MlNo W' p := h.imp id fun ⟨b, e, hc⟩ => ⟨b, e, (hb.cell (World.block_lt_of_cell? _ _ hc)).trans hc⟩
theorem none1 (h : MlNo W p) (n : Int) : Calls Try.prog 35 #[.pointer p, .int .u64 n] W fun e w' => e = .returned (.tuple #[.pointer none, .int .i64 2]) ∧ w' = W := by
  have hM := mmade_no h
  clear h
  go_enter Try.func35, Try.ntmps35
  go_wp2_with fail
  refine hM.mono ?_
  rintro e w1 ⟨rfl, rfl⟩
  go_wp2_with fail
  go_ret2
  exact ⟨rfl, rfl⟩
theorem nat1 (h : MlNo W p) (t n : Int) : Calls Try.prog 34 #[.pointer p, .int .i64 t, .int .u64 n] W fun e w' => e = .returned (.tuple #[.pointer none, .int .i64 2]) ∧ w' = W := by
  have hM := mmade_no h
  have hO := none1 h n
  clear h
  go_enter Try.func34, Try.ntmps34
  go_wp2_with fail
  refine hM.mono ?_
  rintro e w1 ⟨rfl, rfl⟩
  go_wp2_with fail
  refine hO.mono ?_
  rintro e w1 ⟨rfl, rfl⟩
  go_wp2_with fail
  go_ret2
  exact ⟨rfl, rfl⟩
theorem nturn (h : MlNo W p) (t n s : Int) : Calls Try.prog 31 #[.pointer p, .int .i64 t, .int .u64 n, .int .i64 s] W fun e w' => e = .returned (.int .i64 2) ∧ w' = W := by
  have hM := nat1 h t n
  clear h
  go_enter Try.func31, Try.ntmps31
  go_wp2_with fail
  refine hM.mono ?_
  rintro e w1 ⟨rfl, rfl⟩
  go_wp2_with fail
  go_ret
  exact ⟨rfl, rfl⟩
theorem nadd (h : MlNo W p) (t : Int) : Calls Try.prog 8 #[.pointer p, .int .i64 t] W fun e w' => e = .returned (.tuple #[.int .u64 0, .int .i64 2]) ∧ w' = W := by
  have hM := mmade_no h
  clear h
  go_enter Try.func8, Try.ntmps8
  go_wp2_with fail
  refine hM.mono ?_
  rintro e w1 ⟨rfl, rfl⟩
  go_wp2_with fail
  go_ret2
  exact ⟨rfl, rfl⟩
theorem nup (h : MlNo W p) (t n i : Int) : Calls Try.prog 18 #[.pointer p, .int .i64 t, .int .u64 n, .int .u64 i] W fun e w' => e = .returned (.tuple #[.bool false, .int .i64 2]) ∧ w' = W := by
  have hM := nat1 h t n
  clear h
  go_enter Try.func18, Try.ntmps18
  go_wp2_with fail
  refine hM.mono ?_
  rintro e w1 ⟨rfl, rfl⟩
  go_wp2_with fail
  go_ret2
  exact ⟨rfl, rfl⟩
theorem nlost (h : MlNo W p) (t n : Int) : Calls Try.prog 10 #[.pointer p, .int .i64 t, .int .u64 n] W fun e w' => e = .returned (.int .i64 2) ∧ w' = W := by
  have hM := nturn h t n 4
  clear h
  go_enter Try.func10, Try.ntmps10
  go_wp2_with fail
  refine hM.mono ?_
  rintro e w1 ⟨rfl, rfl⟩
  go_wp2_with fail
  go_ret
  exact ⟨rfl, rfl⟩
theorem ndrain (h : MlNo W p) (t n : Int) : Calls Try.prog 12 #[.pointer p, .int .i64 t, .int .u64 n] W fun e w' => e = .returned (.int .i64 2) ∧ w' = W := by
  have hM := nturn h t n 3
  clear h
  go_enter Try.func12, Try.ntmps12
  go_wp2_with fail
  refine hM.mono ?_
  rintro e w1 ⟨rfl, rfl⟩
  go_wp2_with fail
  go_ret
  exact ⟨rfl, rfl⟩
theorem nremove (h : MlNo W p) (t n wt : Int) : Calls Try.prog 14 #[.pointer p, .int .i64 t, .int .u64 n, .int .i64 wt] W fun e w' => e = .returned (.int .i64 2) ∧ w' = W := by
  have hM := nat1 h t n
  clear h
  go_enter Try.func14, Try.ntmps14
  go_wp2_with fail
  refine hM.mono ?_
  rintro e w1 ⟨rfl, rfl⟩
  go_wp2_with fail
  go_ret
  exact ⟨rfl, rfl⟩
theorem nbind (h : MlNo W p) (n v : Int) : Calls Try.prog 16 #[.pointer p, .int .u64 n, .int .i64 v] W fun e w' => e = .returned (.int .i64 2) ∧ w' = W := by
  have hM := none1 h n
  clear h
  go_enter Try.func16, Try.ntmps16
  go_wp2_with fail
  refine hM.mono ?_
  rintro e w1 ⟨rfl, rfl⟩
  go_wp2_with fail
  go_ret
  exact ⟨rfl, rfl⟩
theorem nget (h : MlNo W p) (n : Int) : Calls Try.prog 26 #[.pointer p, .int .u64 n] W fun e w' => e = .returned (.tuple #[.agg #[.int .u64 0, .int .i64 0, .int .u64 0, .int .i64 0, .int .i64 0], .int .i64 2]) ∧ Hid (Below W.heap.size W w') := by
  have HB : Hid (∀ o : Obj, Below W.heap.size W (W.alloc o)) := fun o => (Below.refl _ _).alloc (Nat.le_refl _) _
  have hM := none1 (h.below (HB.out (.cells #[.int .u64 0, .int .i64 0, .int .u64 0, .int .i64 0, .int .i64 0] 55))) n
  clear h
  go_enter Try.func26, Try.ntmps26
  go_wp2_with fail
  refine hM.mono ?_
  rintro e w1 ⟨rfl, rfl⟩
  go_wp2_with fail
  exact bodyPost_ret (v := .tuple #[.agg #[.int .u64 0, .int .i64 0, .int .u64 0, .int .i64 0, .int .i64 0], .int .i64 2]) (by rw [results_cell_tmp rfl]; simp [go_sem]) rfl ⟨rfl, HB.out _⟩
theorem nall (h : MlNo W p) : Calls Try.prog 21 #[.pointer p] W fun e w' => e = .returned (.slice none 0 0) ∧ w' = W := by
  have hM := mmade_no h
  clear h
  go_enter Try.func21, Try.ntmps21
  go_wp2_with fail
  refine hM.mono ?_
  rintro e w1 ⟨rfl, rfl⟩
  go_wp2_with fail
  go_ret
  exact ⟨rfl, rfl⟩
theorem nlive (h : MlNo W p) : Calls Try.prog 22 #[.pointer p] W fun e w' => e = .returned (.int .i64 0) ∧ w' = W := by
  have hM := mmade_no h
  clear h
  go_enter Try.func22, Try.ntmps22
  go_wp2_with fail
  refine hM.mono ?_
  rintro e w1 ⟨rfl, rfl⟩
  go_wp2_with fail
  go_ret
  exact ⟨rfl, rfl⟩
theorem nnow (h : MlNo W p) : Calls Try.prog 24 #[.pointer p] W fun e w' => e = .returned (.int .i64 0) ∧ w' = W := by
  have hM := mmade_no h
  clear h
  go_enter Try.func24, Try.ntmps24
  go_wp2_with fail
  refine hM.mono ?_
  rintro e w1 ⟨rfl, rfl⟩
  go_wp2_with fail
  go_ret
  exact ⟨rfl, rfl⟩
end Go.Proofs.Ytlhhkgjolilpiaa
