/-
  The document's side of layer 13: contracts of its pool: New, Take, Held, Hold, Drop, Used.
-/
import Derived.Test.YtdmakboapchhnaaPgMath
namespace Go.Proofs.Ytdmakboapchhnaa
open Go.RowKit
set_option linter.unusedVariables false
set_option maxRecDepth 1000000

theorem fb_set1 (w : World) (b k : Nat) (u : Value) : Fb (at1 b) w (w.setCell ⟨b, k, none⟩ u) := Fb.set (F := at1 b) (p := ⟨b, k, none⟩) rfl u
/-- The document's pool in block B: how often each page is held lies in block b. -/
structure RpAt (W : World) (B b n : Nat) (hs : List Int) : Prop where
  var : W.heap[B]? = some (.cells #[.slice (some ⟨b, 0, none⟩) n n] 29 (0, 0))
  own : OwnK 3 0 b n n hs W
  ok : OkP hs
theorem RpAt.len {W : World} {B b n : Nat} {hs : List Int} (h : RpAt W B b n hs) : hs.length = n := h.own.len
theorem RpAt.ne {W : World} {B b n : Nat} {hs : List Int} (h : RpAt W B b n hs) : B ≠ b := by
  intro e
  rcases id h.own.2 with ⟨h', _⟩ | ⟨g, cap, cur, h', _, hg, _⟩
  · cases h'
  · cases h'
    rw [← e, h.var] at hg
    simp at hg
theorem RpAt.same {W W' : World} {B b n : Nat} {hs : List Int} (h : RpAt W B b n hs) (h1 : W'.heap[B]? = W.heap[B]?) (h2 : W'.heap[b]? = W.heap[b]?) : RpAt W' B b n hs :=
  ⟨h1.trans h.var, h.own.same h2, h.ok⟩
theorem RpAt.below {W W' : World} {B b n : Nat} {hs : List Int} (h : RpAt W B b n hs) (hb : Below W.heap.size W W') : RpAt W' B b n hs :=
  h.same (hb.block _ (lt_of_block h.var)) (hb.block _ h.own.lt)
theorem RpAt.fb {F : Nat → Prop} {W W' : World} {B b n : Nat} {hs : List Int} (h : RpAt W B b n hs) (hb : Fb F W W') (h1 : ¬ F B) (h2 : ¬ F b) : RpAt W' B b n hs :=
  h.same (hb.block _ (lt_of_block h.var) h1) (hb.block _ h.own.lt h2)
theorem RpAt.set {W : World} {B b n : Nat} {hs : List Int} (h : RpAt W B b n hs) (k : Nat) (v : Int) (ho : OkP (hs.set k v)) : RpAt (W.setCell ⟨b, k, none⟩ (.int .i64 v)) B b n (hs.set k v) :=
  ⟨by rw [Below.heap_setCell _ _ _ _ (by exact h.ne)]; exact h.var, h.own.set k v, ho⟩
theorem RpAt.cells {W : World} {B b n : Nat} {hs : List Int} (h : RpAt W B b n hs) : W.cell? ⟨B, 0, none⟩ = some (.slice (some ⟨b, 0, none⟩) n n) := by rw [cell_of_row _ _ _ _ _ _ h.var]; rfl

theorem make_intsI (w : World) (m : Nat) (hm : m ≤ 1001) : (Instr.makeSlice 27 (.int .i64 (m : Int)) (.int .i64 (m : Int))).run Try.prog w = .ok (.slice (some ⟨w.heap.size, 0, none⟩) m m) (w.alloc (.cells (madeCells #[.int .i64 0] m) 3)) := by
  obtain ⟨i0, hi, hz0, hz1, hz2⟩ := info_parts Try.info3
  have := run_make (P := Try.prog) w 27 3 i0 (.int .i64 0) Try.underlying27 hi hz0 .i64 .i64 (m : Int) (m : Int) (by omega) (Int.le_refl _) (by rw [hz2]; omega) (by omega)
  rw [this, hz1, Int.toNat_natCast, Nat.mul_one]
  rfl
theorem rpnew_no (n : Int) (w : World) (hn : n < 1 ∨ 256 < n) : Calls Try.prog 7 #[.int .i64 n] w fun e w' => e = .returned (.tuple #[.agg #[.slice none 0 0], .int .i64 1]) ∧ Below w.heap.size w w' := by
  have HB : Hid (Below w.heap.size w (w.alloc (.cells #[.slice none 0 0] 29))) := (Below.refl _ _).alloc (Nat.le_refl _) _
  by_cases h1 : n < 1
  · clear hn
    go_enter Try.func7, Try.ntmps7
    go_wp2
    exact bodyPost_ret (v := .tuple #[.agg #[.slice none 0 0], .int .i64 1]) (by simp [results, Try.results7, go_sem]) rfl ⟨rfl, HB.out⟩
  · have h2 : 256 < n := by omega
    clear hn
    go_enter Try.func7, Try.ntmps7
    go_wp2
    exact bodyPost_ret (v := .tuple #[.agg #[.slice none 0 0], .int .i64 1]) (by simp [results, Try.results7, go_sem]) rfl ⟨rfl, HB.out⟩
theorem rpnew_yes (n : Nat) (w : World) (h0 : 1 ≤ n) (h1 : n ≤ 256) : Calls Try.prog 7 #[.int .i64 n] w fun e w' => ∃ b, e = .returned (.tuple #[.agg #[.slice (some ⟨b, 0, none⟩) n n], .int .i64 0]) ∧ w.heap.size ≤ b ∧ OwnK 3 0 b n n (List.replicate n 0) w' ∧ Below w.heap.size w w' := by
  have hmk := make_intsI (w.alloc (.cells #[.slice none 0 0] 29)) n (by omega)
  rw [World.size_alloc] at hmk
  have HO : Hid (OwnK 3 0 (w.heap.size + 1) n n (List.replicate n 0) ((w.alloc (.cells #[.slice (some ⟨w.heap.size + 1, 0, none⟩) n n] 29)).alloc (.cells (madeCells #[.int .i64 0] n) 3))) := by
    have := own_made 3 (w.alloc (.cells #[.slice (some ⟨w.heap.size + 1, 0, none⟩) n n] 29)) n (by omega)
    rw [World.size_alloc] at this
    exact this.low (Nat.zero_le _)
  have HB : Hid (Below w.heap.size w ((w.alloc (.cells #[.slice (some ⟨w.heap.size + 1, 0, none⟩) n n] 29)).alloc (.cells (madeCells #[.int .i64 0] n) 3))) := ((Below.refl _ _).alloc (Nat.le_refl _) _).alloc (by simp) _
  have q1 : ¬ (n : Int) < 1 := by omega
  have q2 : ¬ (256 : Int) < (n : Int) := by omega
  go_enter Try.func7, Try.ntmps7
  go_wp2
  exact bodyPost_ret (v := .tuple #[.agg #[.slice (some ⟨w.heap.size + 1, 0, none⟩) n n], .int .i64 0]) (by simp [results, Try.results7, go_sem]) rfl ⟨w.heap.size + 1, rfl, by omega, HO.out, HB.out⟩

/-- A row is read at a place of a pool. -/
theorem RpAt.cell {W : World} {B b n : Nat} {hs : List Int} (h : RpAt W B b n hs) {k : Nat} (hk : k < n) : W.cell? ⟨b, k, none⟩ = some (.int .i64 (hs[k]?.getD 0)) := h.own.cell hk
set_option maxHeartbeats 1000000 in
theorem rptake_any (B b n : Nat) (hs : List Int) (w : World) (h : RpAt w B b n hs) :
    Calls Try.prog 15 #[.pointer (some ⟨B, 0, none⟩)] w fun e w' => e = .returned (.tuple #[.int .i64 (takeN hs), .int .i64 (takeE hs)]) ∧ RpAt w' B b n (takeH hs) ∧ Fb (at1 b) w w' := by
  have hl := h.len
  have hn := h.ok.2.1
  have cB := h.cells
  have HH := hid h
  have HYe : Hid (∀ k, k < n → hs[k]?.getD 0 = 0 → (∀ j, j < k → hs[j]?.getD 0 ≠ 0) → takeN hs = k ∧ takeE hs = 0 ∧ RpAt (w.setCell ⟨b, k, none⟩ (.int .i64 1)) B b n (takeH hs)) := fun k hk h0 hj => by
    have e := takeI_at (by omega) h0 hj
    have hlt : takeI hs < hs.length := by omega
    have hH : takeH hs = hs.set k 1 := by unfold takeH; rw [if_pos hlt, e]
    refine ⟨by unfold takeN; rw [if_pos hlt, e], by unfold takeE; rw [if_pos hlt], ?_⟩
    have ho := h.ok.take
    rw [hH] at ho ⊢
    exact h.set k 1 ho
  have HNo : Hid ((∀ j, j < n → hs[j]?.getD 0 ≠ 0) → takeN hs = 0 ∧ takeE hs = 9 ∧ takeH hs = hs) := fun hj => by
    have e := takeI_none (hs := hs) (fun j hj' => hj j (by omega))
    have hlt : ¬ takeI hs < hs.length := by omega
    exact ⟨by unfold takeN; rw [if_neg hlt], by unfold takeE; rw [if_neg hlt], by unfold takeH; rw [if_neg hlt]⟩
  rw [hl] at hn
  clear h hl
  go_enter Try.func15, Try.ntmps15
  go_wp2_with fail
  go_loopw [4] (fun i W => ∃ k : Nat, k ≤ n ∧ i = .int .i64 k ∧ Hid (∀ j, j < k → hs[j]?.getD 0 ≠ 0) ∧ Hid (W = w)) (fun i _ => n - (intOf i).toNat)
  case atStart => exact ⟨0, Nat.zero_le _, rfl, fun j hj => absurd hj (by omega), rfl⟩
  case round =>
  obtain ⟨k, hk, rfl, HJ, HW⟩ := hrel
  have hW := HW.out
  subst hW
  clear HW
  by_cases hlt : k < n
  · have q1 : (k : Int) < (n : Int) := by omega
    have ck := HH.out.cell hlt
    have fk := HH.out.own.frozen k
    by_cases h0 : hs[k]?.getD 0 = 0
    · obtain ⟨e1, e2, hR⟩ := HYe.out k hlt h0 HJ.out
      have HR := hid hR
      rw [h0] at ck
      have HEq : Hid (Ending.returned (.tuple #[.int .i64 (k : Int), .int .i64 0]) = .returned (.tuple #[.int .i64 (takeN hs), .int .i64 (takeE hs)])) := by unfold Hid; rw [e1, e2]
      have HF : Hid (Fb (at1 b) wr (wr.setCell ⟨b, k, none⟩ (.int .i64 1))) := fb_set1 _ _ _ _
      clear HYe HNo HJ HH hR h0 e1 e2
      go_wp2
      go_ret2
      exact ⟨HEq.out, HR.out, HF.out⟩
    · have HJ2 : Hid (∀ j, j < k + 1 → hs[j]?.getD 0 ≠ 0) := fun j hj => by
        rcases (by omega : j < k ∨ j = k) with h' | rfl
        · exact HJ.out j h'
        · exact h0
      clear HYe HNo HJ HH
      generalize hs[k]?.getD 0 = x at *
      have h0' : (x == 0) = false := by simp [h0]
      go_wp2_with fail
      go_round
      case rel => exact ⟨k + 1, by omega, by go_num, HJ2, trivial⟩
      case measure => simp [intOf]; omega
  · obtain rfl : k = n := by omega
    obtain ⟨e1, e2, e3⟩ := HNo.out HJ.out
    have HEq : Hid (Ending.returned (.tuple #[.int .i64 0, .int .i64 9]) = .returned (.tuple #[.int .i64 (takeN hs), .int .i64 (takeE hs)])) := by unfold Hid; rw [e1, e2]
    have HR : Hid (RpAt wr B b k (takeH hs)) := by unfold Hid; rw [e3]; exact HH.out
    clear HYe HNo HJ e1 e2 e3 HH
    go_wp2
    go_ret2
    exact ⟨HEq.out, HR.out, Fb.refl _ _⟩
theorem rpheld_any (B b n : Nat) (hs : List Int) (m : Int) (w : World) (h : RpAt w B b n hs) :
    Calls Try.prog 17 #[.pointer (some ⟨B, 0, none⟩), .int .i64 m] w fun e w' => e = .returned (.int .i64 (heldZ hs m)) ∧ w' = w := by
  have hl := h.len
  have hn := h.ok.2.1
  have cB := h.cells
  rw [hl] at hn
  by_cases h1 : m < 0
  · rw [heldZ_out (by omega)]
    clear h hl
    go_enter Try.func17, Try.ntmps17
    go_wp2
    go_ret
    exact ⟨rfl, rfl⟩
  by_cases h2 : (n : Int) ≤ m
  · rw [heldZ_out (by omega)]
    clear h hl
    go_enter Try.func17, Try.ntmps17
    go_wp2
    go_ret
    exact ⟨rfl, rfl⟩
  obtain ⟨k, rfl⟩ : ∃ k : Nat, m = k := ⟨m.toNat, by omega⟩
  rw [heldZ_at (by omega) (by omega), Int.toNat_natCast]
  have ck := h.cell (k := k) (by omega)
  have q1 : k < n := by omega
  clear h hl
  generalize hs[k]?.getD 0 = x at *
  go_enter Try.func17, Try.ntmps17
  go_wp2
  go_ret
  exact ⟨rfl, rfl⟩
set_option maxHeartbeats 1000000 in
theorem rphold_any (B b n : Nat) (hs : List Int) (m : Int) (w : World) (h : RpAt w B b n hs) :
    Calls Try.prog 11 #[.pointer (some ⟨B, 0, none⟩), .int .i64 m] w fun e w' => e = .returned (.int .i64 (holdE hs m)) ∧ RpAt w' B b n (holdH hs m) ∧ Fb (at1 b) w w' := by
  have hl := h.len
  have hn := h.ok.2.1
  have hd := h.ok.held m
  have cB := h.cells
  have hC := rpheld_any B b n hs m w h
  have HH := hid h
  have hoo := h.ok.hold m
  rw [hl] at hn
  by_cases h0 : heldZ hs m = 0
  · have e1 : holdE hs m = 1 := by unfold holdE; rw [if_pos h0]
    have e2 : holdH hs m = hs := by unfold holdH; rw [if_pos (.inl h0)]
    rw [e1, e2]
    rw [h0] at hC
    clear h hl hd h0 e1 e2 hoo
    go_enter Try.func11, Try.ntmps11
    go_wp2_with fail
    refine hC.mono ?_
    rintro e w' ⟨rfl, rfl⟩
    go_wp2
    go_ret
    exact ⟨rfl, HH.out, Fb.refl _ _⟩
  obtain ⟨b0, b1⟩ := heldZ_in h0
  obtain ⟨k, rfl⟩ : ∃ k : Nat, m = k := ⟨m.toNat, by omega⟩
  have hkn : k < n := by omega
  have hat : heldZ hs (k : Int) = hs[k]?.getD 0 := by rw [heldZ_at (by omega) (by omega), Int.toNat_natCast]
  have ck := h.cell hkn
  have fk := h.own.frozen k
  rw [← hat] at ck
  by_cases h3 : 2147483647 ≤ heldZ hs (k : Int)
  · have e1 : holdE hs (k : Int) = 5 := by unfold holdE; rw [if_neg h0, if_pos h3]
    have e2 : holdH hs (k : Int) = hs := by unfold holdH; rw [if_pos (.inr h3)]
    rw [e1, e2]
    clear h hl e1 e2 hat b0 b1 hoo
    generalize heldZ hs (k : Int) = x at *
    have h0' : (x == 0) = false := by simp [h0]
    go_enter Try.func11, Try.ntmps11
    go_wp2_with fail
    refine hC.mono ?_
    rintro e w' ⟨rfl, rfl⟩
    go_wp2
    go_ret
    exact ⟨rfl, HH.out, Fb.refl _ _⟩
  · have e1 : holdE hs (k : Int) = 0 := by unfold holdE; rw [if_neg h0, if_neg h3]
    have e2 : holdH hs (k : Int) = hs.set k (heldZ hs (k : Int) + 1) := by unfold holdH; rw [if_neg (by omega), Int.toNat_natCast]
    rw [e2] at hoo
    have HR := hid (h.set k _ hoo)
    have HF : Hid (Fb (at1 b) w (w.setCell ⟨b, k, none⟩ (.int .i64 (heldZ hs (k : Int) + 1)))) := fb_set1 _ _ _ _
    rw [e1, e2]
    clear h hl e1 e2 hat b0 b1 hoo HH
    generalize heldZ hs (k : Int) = x at *
    have h0' : (x == 0) = false := by simp [h0]
    go_enter Try.func11, Try.ntmps11
    go_wp2_with fail
    refine hC.mono ?_
    rintro e w' ⟨rfl, rfl⟩
    go_wp2
    go_ret
    exact ⟨rfl, HR.out, HF.out⟩
set_option maxHeartbeats 1000000 in
theorem rpdrop_any (B b n : Nat) (hs : List Int) (m : Int) (w : World) (h : RpAt w B b n hs) :
    Calls Try.prog 13 #[.pointer (some ⟨B, 0, none⟩), .int .i64 m] w fun e w' => e = .returned (.tuple #[.bool (dropB hs m), .int .i64 (dropE hs m)]) ∧ RpAt w' B b n (dropH hs m) ∧ Fb (at1 b) w w' := by
  have hl := h.len
  have hn := h.ok.2.1
  have hd := h.ok.held m
  have cB := h.cells
  have hC := rpheld_any B b n hs m w h
  have HH := hid h
  have hoo := h.ok.drop m
  rw [hl] at hn
  by_cases h0 : heldZ hs m = 0
  · have e1 : dropE hs m = 1 := by unfold dropE; rw [if_pos h0]
    have e2 : dropH hs m = hs := by unfold dropH; rw [if_pos h0]
    have e3 : dropB hs m = false := by unfold dropB; rw [h0]; rfl
    rw [e1, e2, e3]
    rw [h0] at hC
    clear h hl hd h0 e1 e2 e3 hoo
    go_enter Try.func13, Try.ntmps13
    go_wp2_with fail
    refine hC.mono ?_
    rintro e w' ⟨rfl, rfl⟩
    go_wp2
    go_ret2
    exact ⟨rfl, HH.out, Fb.refl _ _⟩
  obtain ⟨b0, b1⟩ := heldZ_in h0
  obtain ⟨k, rfl⟩ : ∃ k : Nat, m = k := ⟨m.toNat, by omega⟩
  have hkn : k < n := by omega
  have hat : heldZ hs (k : Int) = hs[k]?.getD 0 := by rw [heldZ_at (by omega) (by omega), Int.toNat_natCast]
  have ck := h.cell hkn
  have fk := h.own.frozen k
  rw [← hat] at ck
  have hne := h.ne
  have e1 : dropE hs (k : Int) = 0 := by unfold dropE; rw [if_neg h0]
  have e2 : dropH hs (k : Int) = hs.set k (heldZ hs (k : Int) - 1) := by unfold dropH; rw [if_neg h0, Int.toNat_natCast]
  have e3 : dropB hs (k : Int) = decide (heldZ hs (k : Int) - 1 = 0) := by
    unfold dropB
    by_cases h1 : heldZ hs (k : Int) = 1
    · rw [decide_eq_true h1, decide_eq_true (by omega)]
    · rw [decide_eq_false h1, decide_eq_false (by omega)]
  rw [e2] at hoo
  have HR := hid (h.set k _ hoo)
  have HF : Hid (Fb (at1 b) w (w.setCell ⟨b, k, none⟩ (.int .i64 (heldZ hs (k : Int) - 1)))) := fb_set1 _ _ _ _
  rw [e1, e2, e3]
  clear h hl e1 e2 e3 hat b0 b1 hoo HH
  generalize heldZ hs (k : Int) = x at *
  have h0' : (x == 0) = false := by simp [h0]
  by_cases h1 : x - 1 = 0
  · rw [decide_eq_true h1]
    have hx : x = 1 := by omega
    subst hx
    go_enter Try.func13, Try.ntmps13
    go_wp2_with fail
    refine hC.mono ?_
    rintro e w' ⟨rfl, rfl⟩
    go_wp2
    go_ret2
    exact ⟨rfl, HR.out, HF.out⟩
  · rw [decide_eq_false h1]
    have h1' : (x - 1 == 0) = false := by simp [h1]
    go_enter Try.func13, Try.ntmps13
    go_wp2_with fail
    refine hC.mono ?_
    rintro e w' ⟨rfl, rfl⟩
    go_wp2
    go_ret2
    exact ⟨rfl, HR.out, HF.out⟩
set_option maxHeartbeats 1000000 in
theorem rpused_any (B b n : Nat) (hs : List Int) (w : World) (h : RpAt w B b n hs) :
    Calls Try.prog 20 #[.pointer (some ⟨B, 0, none⟩)] w fun e w' => Gives w (usedL hs).length (usedL hs) e w' := by
  obtain ⟨i0, hi, hz0, hz1, hz2⟩ := info_parts Try.info3
  have hl := h.len
  have hn := h.ok.2.1
  have HH := hid fun (W : World) (hb : Below w.heap.size w W) => h.below hb
  have HL := hid fun (k : Nat) => usedK_len hs k
  have HU : Hid (∀ k, usedK hs (k + 1) = if 0 < hs[k]?.getD 0 then usedK hs k ++ [(k : Int)] else usedK hs k) := fun k => rfl
  have HE : Hid (usedK hs n = usedL hs) := by unfold Hid usedL; rw [hl]
  rw [hl] at hn
  clear h hl
  obtain ⟨U, hU⟩ : ∃ U : Nat → List Int, U = usedK hs := ⟨_, rfl⟩
  have HU0 : Hid (U 0 = []) := by unfold Hid; rw [hU]; rfl
  rw [← hU] at HL HU HE
  clear hU
  go_enter Try.func20, Try.ntmps20
  go_wp2_with fail
  go_loopw [3, 4] (fun v i W => ∃ k m : Nat, k ≤ n ∧ i = .int .i64 k ∧ m ≤ k ∧ Hid ((U k).length = m) ∧ Hid (W.ownsRow w.heap.size 3 1 v m ((U k).map (Value.int .i64))) ∧ Hid (Below w.heap.size w W)) (fun _ i _ => n - (intOf i).toNat)
  case atStart => exact ⟨0, 0, Nat.zero_le _, rfl, Nat.le_refl _, by unfold Hid; rw [HU0.out]; rfl, by unfold Hid; rw [HU0.out]; exact World.ownsRow_nil _ _ _ _, Below.refl _ _⟩
  case round =>
  obtain ⟨k, m, hk, rfl, hm, HM, HO, HW⟩ := hrel
  rename World => wr
  have hR := HH.out _ HW.out
  have cB := hR.cells
  by_cases hlt : k < n
  · have q1 : (k : Int) < (n : Int) := by omega
    have ck := hR.cell hlt
    have HUk := hid (HU.out k)
    have HLk := hid (HL.out (k + 1))
    clear hR HL HU HU0 HE
    by_cases h0 : 0 < hs[k]?.getD 0
    · have HE2 : Hid (U (k + 1) = U k ++ [(k : Int)]) := by unfold Hid; rw [HUk.out, if_pos h0]
      have HAl : Hid (Below wr.heap.size wr (wr.alloc (.cells #[.int .i64 (k : Int)] 3))) := (Below.refl _ _).alloc (Nat.le_refl _) _
      have HSz : Hid (w.heap.size ≤ (wr.alloc (.cells #[.int .i64 (k : Int)] 3)).heap.size) := Nat.le_trans HW.out.size HAl.out.size
      clear HUk
      generalize hs[k]?.getD 0 = x at *
      go_wp2_with (at_builtin; refine append_any _ rfl (.tmp 22) (.tmp 24) 27 rfl w.heap.size 3 i0 (.int .i64 0) 8 Try.underlying27 hi hz0 hz1 hz2 rfl .i64 _ m (U k) rfl (own_below HO.out HAl.out) _ 1 1 [(k : Int)] rfl (Reads.one _ _ _) (by omega) (by omega) HSz.out ?_; intro v3 w3 hO3 hb3)
      have HO3 : Hid (w3.ownsRow w.heap.size 3 1 v3 (m + 1) ((U (k + 1)).map (Value.int .i64))) := by unfold Hid; rw [HE2.out]; exact hO3
      have HW3 : Hid (Below w.heap.size w w3) := (HW.out.trans (HAl.out.mono HW.out.size)).trans hb3
      have HM3 : Hid ((U (k + 1)).length = m + 1) := by unfold Hid; rw [HE2.out, List.length_append, HM.out]; rfl
      clear hO3 hb3 HO HW HAl HSz HM HE2 ck cB
      go_wp2_with fail
      go_round
      case rel => exact ⟨k + 1, m + 1, by omega, by go_num, by omega, HM3, HO3, HW3⟩
      case measure => simp [intOf]; omega
    · have HE2 : Hid (U (k + 1) = U k) := by unfold Hid; rw [HUk.out, if_neg h0]
      have HO3 : Hid (wr.ownsRow w.heap.size 3 1 u3 m ((U (k + 1)).map (Value.int .i64))) := by unfold Hid; rw [HE2.out]; exact HO.out
      have HM3 : Hid ((U (k + 1)).length = m) := by unfold Hid; rw [HE2.out]; exact HM.out
      clear HUk HE2 HO HM
      generalize hs[k]?.getD 0 = x at *
      go_wp2_with fail
      go_round
      case rel => exact ⟨k + 1, m, by omega, by go_num, by omega, HM3, HO3, HW⟩
      case measure => simp [intOf]; omega
  · obtain rfl : k = n := by omega
    obtain ⟨a5, c5, rfl, hr5⟩ := Reads.own (k := .i64) HO.out
    have HR5 : Hid (Reads .i64 wr a5 (usedL hs).length c5 (usedL hs)) := by unfold Hid; rw [← HE.out, HM.out]; exact hr5
    have HEq : Hid (Ending.returned (.slice a5 m c5) = .returned (.slice a5 (usedL hs).length c5)) := by unfold Hid; rw [← HE.out, HM.out]
    clear hr5 HO HE HM HL HU HU0 hR
    go_wp2
    go_ret
    exact ⟨_, _, HEq.out, HR5.out, HW.out⟩
end Go.Proofs.Ytdmakboapchhnaa
