/-
  Package page: a pool in memory (PgAt), and contracts of what does not turn it: made, Held, look, Free, Used; of a pool that nobody made.
-/
import Derived.Test.YtdmakboapchhnaaPgRef
import Derived.Test.YtdmakboapchhnaaPgFree
import Derived.Test.YtdmakboapchhnaaHiPushs
namespace Go.Proofs.Ytdmakboapchhnaa
open Go.RowKit
set_option linter.unusedVariables false
set_option maxRecDepth 1000000

/-- The blocks of a pool. -/
def at3 (B b g k : Nat) : Prop := k = B ∨ k = b ∨ k = g
/-- A pool in block B: how often each page is held lies in block b, the free ones in block g. -/
structure PgB (W : World) (B b g n : Nat) (hs fs : List Int) : Prop where
  var : W.heap[B]? = some (.cells #[.slice (some ⟨b, 0, none⟩) n n, .slice (some ⟨g, 0, none⟩) fs.length n] 53 (0, 0))
  own : OwnK 3 0 b n n hs W
  row : OwnK 3 0 g fs.length n fs W
  ne1 : B ≠ b
  ne2 : B ≠ g
  ne3 : b ≠ g
  heap : HeapI fs fs.length
  free : FreeOf hs fs
theorem PgB.same {W W' : World} {B b g n : Nat} {hs fs : List Int} (h : PgB W B b g n hs fs) (hF : ∀ k, at3 B b g k → W'.heap[k]? = W.heap[k]?) : PgB W' B b g n hs fs :=
  ⟨(hF B (.inl rfl)).trans h.var, h.own.same (hF b (.inr (.inl rfl))), h.row.same (hF g (.inr (.inr rfl))), h.ne1, h.ne2, h.ne3, h.heap, h.free⟩
theorem PgB.len {W : World} {B b g n : Nat} {hs fs : List Int} (h : PgB W B b g n hs fs) : hs.length = n := h.own.len
theorem PgB.cells {W : World} {B b g n : Nat} {hs fs : List Int} (h : PgB W B b g n hs fs) : W.cell? ⟨B, 0, none⟩ = some (.slice (some ⟨b, 0, none⟩) n n) ∧ W.cell? ⟨B, 1, none⟩ = some (.slice (some ⟨g, 0, none⟩) fs.length n) := cells_two h.var
theorem PgB.old {W : World} {B b g n : Nat} {hs fs : List Int} (h : PgB W B b g n hs fs) : ∀ k, at3 B b g k → k < W.heap.size := by
  rintro k (rfl | rfl | rfl)
  · exact lt_of_block h.var
  · exact h.own.lt
  · exact h.row.lt
def PgX (W : World) (p : Option Addr) (hs : List Int) (F : Nat → Prop) : Prop := ∃ B b g n fs, p = some ⟨B, 0, none⟩ ∧ PgB W B b g n hs fs ∧ F = at3 B b g
/-- The pool at a pointer: how often each page is held; it lies in the blocks F alone. -/
structure PgAt (W : World) (p : Option Addr) (hs : List Int) (F : Nat → Prop) : Prop where
  ptr : ∃ g, p = some ⟨g, 0, none⟩
  ok : OkP hs
  old : ∀ k, F k → k < W.heap.size
  rest : PgX W p hs F
theorem PgB.at {W : World} {B b g n : Nat} {hs fs : List Int} (h : PgB W B b g n hs fs) (ho : OkP hs) : PgAt W (some ⟨B, 0, none⟩) hs (at3 B b g) := ⟨⟨B, rfl⟩, ho, h.old, B, b, g, n, fs, rfl, h, rfl⟩
theorem PgAt.same {W W' : World} {p : Option Addr} {hs : List Int} {F : Nat → Prop} (h : PgAt W p hs F) (hs' : W.heap.size ≤ W'.heap.size) (hF : ∀ k, F k → W'.heap[k]? = W.heap[k]?) : PgAt W' p hs F := by
  obtain ⟨B, b, g, n, fs, rfl, hB, rfl⟩ := h.rest
  exact (hB.same hF).at h.ok
theorem PgAt.below {W W' : World} {p : Option Addr} {hs : List Int} {F : Nat → Prop} (h : PgAt W p hs F) (hb : Below W.heap.size W W') : PgAt W' p hs F := h.same hb.size fun k hk => hb.block k (h.old k hk)
/-- What turns elsewhere leaves it. -/
theorem PgAt.fb {G : Nat → Prop} {W W' : World} {p : Option Addr} {hs : List Int} {F : Nat → Prop} (h : PgAt W p hs F) (hb : Fb G W W') (hG : ∀ k, F k → ¬ G k) : PgAt W' p hs F := h.same hb.size fun k hk => hb.block k (h.old k hk) (hG k hk)
/-- What a call that turns the pool leaves. -/
def PgG (w : World) (F : Nat → Prop) (p : Option Addr) (hs : List Int) (w' : World) : Prop := ∃ F', PgAt w' p hs F' ∧ (∀ k, F' k → F k ∨ w.heap.size ≤ k) ∧ Fb F w w'
theorem PgB.g {w w' : World} {B b g n : Nat} {hs fs : List Int} (h : PgB w' B b g n hs fs) (ho : OkP hs) (hb : Fb (at3 B b g) w w') : PgG w (at3 B b g) (some ⟨B, 0, none⟩) hs w' := ⟨_, h.at ho, fun k hk => .inl hk, hb⟩

theorem pmade_yes {W : World} {B b g n : Nat} {hs fs : List Int} (h : PgB W B b g n hs fs) (ho : OkP hs) : Calls Try.prog 25 #[.pointer (some ⟨B, 0, none⟩)] W fun e w' => e = .returned (.bool true) ∧ W = w' := by
  have c0 := h.cells.1
  have hl := h.len
  have h1 := ho.1
  have q1 : 0 < n := by omega
  clear h ho hl h1
  go_enter Try.func25, Try.ntmps25
  go_wp2
  go_ret
  exact ⟨rfl, rfl⟩
theorem pheld_in {W : World} {B b g n : Nat} {hs fs : List Int} (h : PgB W B b g n hs fs) (ho : OkP hs) (m : Int) : Calls Try.prog 16 #[.pointer (some ⟨B, 0, none⟩), .int .i64 m] W fun e w' => e = .returned (.int .i64 (heldZ hs m)) ∧ W = w' := by
  have hl := h.len
  have hn := ho.2.1
  have cB := h.cells.1
  have hM := pmade_yes h ho
  rw [hl] at hn
  by_cases h1 : m < 0
  · rw [heldZ_out (by omega)]
    clear h hl ho
    go_enter Try.func16, Try.ntmps16
    go_wp2_with fail
    refine hM.mono ?_
    rintro e w' ⟨rfl, rfl⟩
    go_wp2
    go_ret
    exact ⟨rfl, rfl⟩
  by_cases h2 : (n : Int) ≤ m
  · rw [heldZ_out (by omega)]
    clear h hl ho
    go_enter Try.func16, Try.ntmps16
    go_wp2_with fail
    refine hM.mono ?_
    rintro e w' ⟨rfl, rfl⟩
    go_wp2
    go_ret
    exact ⟨rfl, rfl⟩
  obtain ⟨k, rfl⟩ : ∃ k : Nat, m = k := ⟨m.toNat, by omega⟩
  rw [heldZ_at (by omega) (by omega), Int.toNat_natCast]
  have ck := h.own.cell (k := k) (by omega)
  have q1 : k < n := by omega
  clear h hl ho
  generalize hs[k]?.getD 0 = x at *
  go_enter Try.func16, Try.ntmps16
  go_wp2_with fail
  refine hM.mono ?_
  rintro e w' ⟨rfl, rfl⟩
  go_wp2
  go_ret
  exact ⟨rfl, rfl⟩
theorem plook_in {W : World} {B b g n : Nat} {hs fs : List Int} (h : PgB W B b g n hs fs) (ho : OkP hs) (m : Int) : Calls Try.prog 23 #[.pointer (some ⟨B, 0, none⟩), .int .i64 m] W fun e w' => e = .returned (.int .i64 (dropE hs m)) ∧ W = w' := by
  have hM := pmade_yes h ho
  have hH := pheld_in h ho m
  clear h ho
  unfold dropE
  generalize heldZ hs m = x at *
  by_cases h0 : x = 0
  · subst h0
    rw [if_pos rfl]
    go_enter Try.func23, Try.ntmps23
    go_wp2_with fail
    refine hM.mono ?_
    rintro e w' ⟨rfl, rfl⟩
    go_wp2_with fail
    refine hH.mono ?_
    rintro e w' ⟨rfl, rfl⟩
    go_wp2
    go_ret
    exact ⟨rfl, rfl⟩
  · rw [if_neg h0]
    have h0' : (x == 0) = false := by simp [h0]
    go_enter Try.func23, Try.ntmps23
    go_wp2_with fail
    refine hM.mono ?_
    rintro e w' ⟨rfl, rfl⟩
    go_wp2_with fail
    refine hH.mono ?_
    rintro e w' ⟨rfl, rfl⟩
    go_wp2
    go_ret
    exact ⟨rfl, rfl⟩
theorem pheld_any {F : Nat → Prop} (p : Option Addr) (hs : List Int) (n : Int) (w : World) (h : PgAt w p hs F) : Calls Try.prog 16 #[.pointer p, .int .i64 n] w fun e w' => e = .returned (.int .i64 (heldZ hs n)) ∧ Below w.heap.size w w' := by
  obtain ⟨B, b, g, m, fs, rfl, hB, rfl⟩ := h.rest
  exact (pheld_in hB h.ok n).mono fun e w' ⟨h1, h2⟩ => ⟨h1, by rw [← h2]; exact Below.refl _ _⟩
theorem pfree_any {F : Nat → Prop} (p : Option Addr) (hs : List Int) (w : World) (h : PgAt w p hs F) : Calls Try.prog 21 #[.pointer p] w fun e w' => e = .returned (.int .i64 ((hs.length : Int) - ((usedL hs).length : Int))) ∧ Below w.heap.size w w' := by
  obtain ⟨B, b, g, m, fs, rfl, hB, rfl⟩ := h.rest
  have hM := pmade_yes hB h.ok
  have c1 := hB.cells.2
  have hE : (hs.length : Int) - ((usedL hs).length : Int) = (fs.length : Int) := by have := hB.free.cnt; omega
  rw [hE]
  clear h hB hE
  generalize fs.length = q at *
  go_enter Try.func21, Try.ntmps21
  go_wp2_with fail
  refine hM.mono ?_
  rintro e w' ⟨rfl, rfl⟩
  go_wp2_with fail
  refine (qlen_any _ _ _ _).mono ?_
  rintro e w' ⟨rfl, rfl⟩
  go_wp2
  go_ret
  exact ⟨rfl, Below.refl _ _⟩
set_option maxHeartbeats 1000000 in
theorem pused_any {F : Nat → Prop} (p : Option Addr) (hs : List Int) (w : World) (h : PgAt w p hs F) : Calls Try.prog 19 #[.pointer p] w fun e w' => Gives w (usedL hs).length (usedL hs) e w' := by
  obtain ⟨B, b, g, n, fs, rfl, hB, rfl⟩ := h.rest
  have hM := pmade_yes hB h.ok
  obtain ⟨i0, hi, hz0, hz1, hz2⟩ := info_parts Try.info3
  have hl := hB.len
  have hn := h.ok.2.1
  have cB := hB.cells.1
  have HH := hid fun (W : World) (hb : Below w.heap.size w W) => hB.own.stays hb
  have HL := hid fun (k : Nat) => usedK_len hs k
  have HU : Hid (∀ k, usedK hs (k + 1) = if 0 < hs[k]?.getD 0 then usedK hs k ++ [(k : Int)] else usedK hs k) := fun k => rfl
  have HE : Hid (usedK hs n = usedL hs) := by unfold Hid usedL; rw [hl]
  rw [hl] at hn
  clear h hl hB
  obtain ⟨U, hU⟩ : ∃ U : Nat → List Int, U = usedK hs := ⟨_, rfl⟩
  have HU0 : Hid (U 0 = []) := by unfold Hid; rw [hU]; rfl
  rw [← hU] at HL HU HE
  clear hU
  go_enter Try.func19, Try.ntmps19
  go_wp2_with fail
  refine hM.mono ?_
  rintro e w' ⟨rfl, rfl⟩
  clear hM
  go_wp2_with fail
  go_loopw [3, 14] (fun v i W => ∃ k m : Nat, k ≤ n ∧ i = .int .i64 k ∧ m ≤ k ∧ Hid ((U k).length = m) ∧ Hid (W.ownsRow w.heap.size 3 1 v m ((U k).map (Value.int .i64))) ∧ Hid (Below w.heap.size w W)) (fun _ i _ => n - (intOf i).toNat)
  case atStart => exact ⟨0, 0, Nat.zero_le _, rfl, Nat.le_refl _, by unfold Hid; rw [HU0.out]; rfl, by unfold Hid; rw [HU0.out]; exact World.ownsRow_nil _ _ _ _, Below.refl _ _⟩
  case round =>
  obtain ⟨k, m, hk, rfl, hm, HM, HO, HW⟩ := hrel
  rename World => wr
  have hR := HH.out _ HW.out
  by_cases hlt : k < n
  · have q1 : (k : Int) < (n : Int) := by omega
    have ck := hR.cell hlt
    have HUk := hid (HU.out k)
    have HLk := hid (HL.out (k + 1))
    clear hR HL HU HU0 HE
    by_cases h0 : 0 < hs[k]?.getD 0
    · have HE2 : Hid (U (k + 1) = U k ++ [(k : Int)]) := by unfold Hid; rw [HUk.out, if_pos h0]
      have HAl : Hid (Below wr.heap.size wr (wr.alloc (.cells #[.int .i64 (k : Int)] 3))) := (Below.refl _ _).alloc (Nat.le_refl _) _
      have HSz : Hid (w.heap.size ≤ (wr.alloc (.cells #[.int .i64 (k : Int)] 3)).heap.size) := Nat.le_trans HW.out.size HAl.out.size
      clear HUk
      generalize hs[k]?.getD 0 = x at *
      go_wp2_with (at_builtin; refine append_any _ rfl (.tmp 21) (.tmp 23) 27 rfl w.heap.size 3 i0 (.int .i64 0) 8 Try.underlying27 hi hz0 hz1 hz2 rfl .i64 _ m (U k) rfl (own_below HO.out HAl.out) _ 1 1 [(k : Int)] rfl (Reads.one _ _ _) (by omega) (by omega) HSz.out ?_; intro v3 w3 hO3 hb3)
      have HO3 : Hid (w3.ownsRow w.heap.size 3 1 v3 (m + 1) ((U (k + 1)).map (Value.int .i64))) := by unfold Hid; rw [HE2.out]; exact hO3
      have HW3 : Hid (Below w.heap.size w w3) := (HW.out.trans (HAl.out.mono HW.out.size)).trans hb3
      have HM3 : Hid ((U (k + 1)).length = m + 1) := by unfold Hid; rw [HE2.out, List.length_append, HM.out]; rfl
      clear hO3 hb3 HO HW HAl HSz HM HE2 ck
      go_wp2_with fail
      go_round
      case rel => exact ⟨k + 1, m + 1, by omega, by go_num, by omega, HM3, HO3, HW3⟩
      case measure => simp [intOf]; omega
    · have HE2 : Hid (U (k + 1) = U k) := by unfold Hid; rw [HUk.out, if_neg h0]
      have HO3 : Hid (wr.ownsRow w.heap.size 3 1 u3 m ((U (k + 1)).map (Value.int .i64))) := by unfold Hid; rw [HE2.out]; exact HO.out
      have HM3 : Hid ((U (k + 1)).length = m) := by unfold Hid; rw [HE2.out]; exact HM.out
      clear HUk HE2 HO HM
      generalize hs[k]?.getD 0 = x at *
      go_wp2_with fail
      go_round
      case rel => exact ⟨k + 1, m, by omega, by go_num, by omega, HM3, HO3, HW⟩
      case measure => simp [intOf]; omega
  · obtain rfl : k = n := by omega
    obtain ⟨a5, c5, rfl, hr5⟩ := Reads.own (k := .i64) HO.out
    have HR5 : Hid (Reads .i64 wr a5 (usedL hs).length c5 (usedL hs)) := by unfold Hid; rw [← HE.out, HM.out]; exact hr5
    have HEq : Hid (Ending.returned (.slice a5 m c5) = .returned (.slice a5 (usedL hs).length c5)) := by unfold Hid; rw [← HE.out, HM.out]
    clear hr5 HO HE HM HL HU HU0 hR
    go_wp2
    go_ret
    exact ⟨_, _, HEq.out, HR5.out, HW.out⟩
/-- The cells of a pool that nobody made. -/
def zeroP : Array Value := #[.slice none 0 0, .slice none 0 0]
/-- No pool, or one that nobody made. -/
def PgNo (W : World) (p : Option Addr) : Prop := p = none ∨ ∃ g, p = some ⟨g, 0, none⟩ ∧ W.heap[g]? = some (.cells zeroP 53 (0, 0))
theorem PgNo.below {W W' : World} {p : Option Addr} (h : PgNo W p) (hb : Below W.heap.size W W') : PgNo W' p := by
  rcases h with h | ⟨g, hp, hg⟩
  · exact .inl h
  · exact .inr ⟨g, hp, (hb.block g (lt_of_block hg)).trans hg⟩
theorem pmade_no {W : World} {p : Option Addr} (h : PgNo W p) : Calls Try.prog 25 #[.pointer p] W fun e w' => e = .returned (.bool false) ∧ W = w' := by
  rcases h with rfl | ⟨g, rfl, hg⟩
  · go_enter Try.func25, Try.ntmps25
    go_wp2
    go_ret
    exact ⟨rfl, rfl⟩
  · have c0 := (cells_two hg).1
    clear hg
    go_enter Try.func25, Try.ntmps25
    go_wp2
    go_ret
    exact ⟨rfl, rfl⟩
theorem pno_look (p : Option Addr) (n : Int) (w : World) (h : PgNo w p) : Calls Try.prog 23 #[.pointer p, .int .i64 n] w fun e w' => e = .returned (.int .i64 2) ∧ w = w' := by
  have hM := pmade_no h
  clear h
  go_enter Try.func23, Try.ntmps23
  go_wp2_with fail
  refine hM.mono ?_
  rintro e w' ⟨rfl, rfl⟩
  go_wp2
  go_ret
  exact ⟨rfl, rfl⟩
theorem pno_take (p : Option Addr) (w : World) (h : PgNo w p) : Calls Try.prog 14 #[.pointer p] w fun e w' => e = .returned (.tuple #[.int .i64 0, .int .i64 2]) ∧ Below w.heap.size w w' := by
  have hM := pmade_no h
  clear h
  go_enter Try.func14, Try.ntmps14
  go_wp2_with fail
  refine hM.mono ?_
  rintro e w' ⟨rfl, rfl⟩
  go_wp2
  go_ret2
  exact ⟨rfl, Below.refl _ _⟩
theorem pno_drop (p : Option Addr) (n : Int) (w : World) (h : PgNo w p) : Calls Try.prog 12 #[.pointer p, .int .i64 n] w fun e w' => e = .returned (.tuple #[.bool false, .int .i64 2]) ∧ Below w.heap.size w w' := by
  have hM := pno_look p n w h
  clear h
  go_enter Try.func12, Try.ntmps12
  go_wp2_with fail
  refine hM.mono ?_
  rintro e w' ⟨rfl, rfl⟩
  go_wp2
  go_ret2
  exact ⟨rfl, Below.refl _ _⟩
theorem pno_hold (p : Option Addr) (n : Int) (w : World) (h : PgNo w p) : Calls Try.prog 10 #[.pointer p, .int .i64 n] w fun e w' => e = .returned (.int .i64 2) ∧ Below w.heap.size w w' := by
  have hM := pno_look p n w h
  clear h
  go_enter Try.func10, Try.ntmps10
  go_wp2_with fail
  refine hM.mono ?_
  rintro e w' ⟨rfl, rfl⟩
  go_wp2
  go_ret
  exact ⟨rfl, Below.refl _ _⟩
theorem pno_held (p : Option Addr) (n : Int) (w : World) (h : PgNo w p) : Calls Try.prog 16 #[.pointer p, .int .i64 n] w fun e w' => e = .returned (.int .i64 0) ∧ Below w.heap.size w w' := by
  have hM := pmade_no h
  clear h
  go_enter Try.func16, Try.ntmps16
  go_wp2_with fail
  refine hM.mono ?_
  rintro e w' ⟨rfl, rfl⟩
  go_wp2
  go_ret
  exact ⟨rfl, Below.refl _ _⟩
theorem pno_free (p : Option Addr) (w : World) (h : PgNo w p) : Calls Try.prog 21 #[.pointer p] w fun e w' => e = .returned (.int .i64 0) ∧ Below w.heap.size w w' := by
  have hM := pmade_no h
  clear h
  go_enter Try.func21, Try.ntmps21
  go_wp2_with fail
  refine hM.mono ?_
  rintro e w' ⟨rfl, rfl⟩
  go_wp2
  go_ret
  exact ⟨rfl, Below.refl _ _⟩
theorem pno_used (p : Option Addr) (w : World) (h : PgNo w p) : Calls Try.prog 19 #[.pointer p] w fun e w' => ∃ a cap, e = .returned (.slice a 0 cap) ∧ cap ≤ 9223372036854775807 ∧ Below w.heap.size w w' := by
  have hM := pmade_no h
  clear h
  go_enter Try.func19, Try.ntmps19
  go_wp2_with fail
  refine hM.mono ?_
  rintro e w' ⟨rfl, rfl⟩
  go_wp2
  go_ret
  exact ⟨none, 0, rfl, by omega, Below.refl _ _⟩
end Go.Proofs.Ytdmakboapchhnaa
