/-
  Package link: ask; Len, Counts, Clear, New, Send, Deliver, Drop.
-/
import Derived.Test.YtlhmalmmligkkaaLkDel
namespace Go.Proofs.Ytlhmalmmligkkaa
open Go.RowKit
set_option linter.unusedVariables false
set_option maxRecDepth 1000000
variable {B b : Nat} {w w' : World} {v : Value} {us : List Value} {S : Lm}

theorem isW0 : isW 0 := ⟨by decide, by decide⟩
/-- All its blocks. -/
def lkF (b : Nat) (v : Value) (us : List Value) (k : Nat) : Prop := rwF b v k ∨ msF us k
/-- The link goes on: what is known of it, what was written into, which blocks are its own now. -/
def Goes (B : Nat) (w : World) (b : Nat) (v : Value) (us : List Value) (S' : Lm) (w' : World) : Prop :=
  ∃ v' us', LkAt B w' b v' us' S' ∧ Fb (rwF b v) w w' ∧ ∀ k, lkF b v' us' k → lkF b v us k ∨ w.heap.size ≤ k
theorem Reads.fb {k : IntKind} {w w' : World} {a : Option Addr} {len cap : Nat} {zs : List Int} {F : Nat → Prop} (h : Reads k w a len cap zs) (hb : Fb F w w') (hF : 0 < len → ∀ p, a = some p → ¬ F p.block) : Reads k w' a len cap zs :=
  ⟨h.size, h.room, h.most, h.bare, fun i hi => by
    obtain ⟨b, off, ha, hc⟩ := h.cell i hi
    exact ⟨b, off, ha, hb.cell hc (by have := hF (by omega) _ ha; exact this)⟩⟩
theorem LkAt.goes (h : LkAt B w' b v us S) (hf : Fb (rwF b v) w w') : Goes B w b v us S w' := ⟨v, us, h, hf, fun k hk => .inl hk⟩
theorem Goes.then {S2 : Lm} {w1 w2 : World} {v1 : Value} {us1 : List Value} (h1 : Fb (rwF b v) w w1) (h2 : ∀ k, lkF b v1 us1 k → lkF b v us k ∨ w.heap.size ≤ k) (h3 : ∀ k, rwF b v1 k → rwF b v k ∨ w.heap.size ≤ k) (h : Goes B w1 b v1 us1 S2 w2) : Goes B w b v us S2 w2 := by
  obtain ⟨v', us', a1, a2, a3⟩ := h
  exact ⟨v', us', a1, h1.trans a2 h3, fun k hk => (a3 k hk).elim (h2 k) fun hs => .inr (Nat.le_trans h1.size hs)⟩
/-- A row that lies where it lay, or in new memory. -/
theorem rw_new {v' : Value} (h : ∀ k, v'.ownBlock = some k → v.ownBlock = some k ∨ w.heap.size ≤ k) : ∀ k, rwF b v' k → rwF b v k ∨ w.heap.size ≤ k := fun k hk => hk.elim (fun e => .inl (.inl e)) fun e => (h k e).imp .inr id
theorem fb_at (W : World) (v : Value) {b i j : Nat} (u x : Value) : Fb (rwF b v) W ((W.setCell ⟨b, i, none⟩ u).setCell ⟨b, j, none⟩ x) := (fb_set2 W b i j u x).mono fun k hk => .inl hk
theorem lask_none (h : LkAt B w b v us S) {i : Int} (hi : ¬ (0 ≤ i ∧ i < S.ms.length)) (f : Value) : Calls Try.prog 28 #[.pointer (some ⟨b, 0, none⟩), .int .i64 i, f] w fun e w' => e = .returned (.tuple #[.slice none 0 0, .int .i64 6]) ∧ w' = w := by
  have hM := lmade_yes h
  have c1 := h.cells.2.1
  have hlen := h.vlen
  by_cases h0 : i < 0
  · clear h hi
    go_enter Try.func28, Try.ntmps28
    go_wp2_with fail
    with_reducible refine hM.mono ?_
    rintro e w1 ⟨rfl, rfl⟩
    go_wp2_with fail
    go_ret2
    exact ⟨rfl, rfl⟩
  · have h1 : (S.ms.length : Int) ≤ i := by omega
    have h0' : 0 ≤ i := by omega
    clear h hi
    go_enter Try.func28, Try.ntmps28
    go_wp2_with fail
    with_reducible refine hM.mono ?_
    rintro e w1 ⟨rfl, rfl⟩
    go_wp2_with fail
    go_ret2
    exact ⟨rfl, rfl⟩
theorem lask_nil (i : Int) (f : Value) (w : World) : Calls Try.prog 28 #[.pointer none, .int .i64 i, f] w fun e w' => e = .returned (.tuple #[.slice none 0 0, .int .i64 2]) ∧ w' = w := by
  have hM := lmade_nil w
  go_enter Try.func28, Try.ntmps28
  go_wp2_with fail
  with_reducible refine hM.mono ?_
  rintro e w1 ⟨rfl, rfl⟩
  go_wp2_with fail
  go_ret2
  exact ⟨rfl, rfl⟩
theorem lask_zero {w : World} {b : Nat} (c0 : w.cell? ⟨b, 0, none⟩ = some (.int .i64 0)) (i : Int) (f : Value) : Calls Try.prog 28 #[.pointer (some ⟨b, 0, none⟩), .int .i64 i, f] w fun e w' => e = .returned (.tuple #[.slice none 0 0, .int .i64 2]) ∧ w' = w := by
  have hM := lmade_zero c0
  clear c0
  go_enter Try.func28, Try.ntmps28
  go_wp2_with fail
  with_reducible refine hM.mono ?_
  rintro e w1 ⟨rfl, rfl⟩
  go_wp2_with fail
  go_ret2
  exact ⟨rfl, rfl⟩
/-- The two methods as values. -/
def takeV (b : Nat) : Value := .func (.func 29) #[.pointer (some ⟨b, 0, none⟩)] #[]
def lookV (b : Nat) : Value := .func (.func 34) #[.pointer (some ⟨b, 0, none⟩)] #[]
theorem lask_take (h : LkAt B w b v us S) {i : Nat} {u : Value} (hu : us[i]? = some u) :
    Calls Try.prog 28 #[.pointer (some ⟨b, 0, none⟩), .int .i64 i, takeV b] w fun e w' => e = .returned (.tuple #[u, .int .i64 0]) ∧ Hid (∃ v', LkAt B w' b v' (us.eraseIdx i) (S.less i) ∧ Fb (rwF b v) w w' ∧ v'.ownBlock = v.ownBlock) := by
  have hi : i < S.ms.length := by rw [← h.len]; exact (List.getElem?_eq_some_iff.1 hu).1
  have hM := lmade_yes h
  have c1 := h.cells.2.1
  have hlen := h.vlen
  have hT := ltake_any h hu
  have r1 := h.ok.r1
  have r2 := h.ok.ms
  clear h hu
  unfold takeV
  go_enter Try.func28, Try.ntmps28
  go_wp2_with fail
  with_reducible refine hM.mono ?_
  rintro e w1 ⟨rfl, rfl⟩
  go_wp2_with fail
  with_reducible refine hT.mono ?_
  rintro e w2 ⟨rfl, H⟩
  go_wp2_with fail
  go_ret2
  exact ⟨rfl, H⟩
theorem lask_look (h : LkAt B w b v us S) {i : Nat} {u : Value} (hu : us[i]? = some u) :
    Calls Try.prog 28 #[.pointer (some ⟨b, 0, none⟩), .int .i64 i, lookV b] w fun e w' => e = .returned (.tuple #[u, .int .i64 0]) ∧ w' = w := by
  have hi : i < S.ms.length := by rw [← h.len]; exact (List.getElem?_eq_some_iff.1 hu).1
  have hM := lmade_yes h
  have c1 := h.cells.2.1
  have hlen := h.vlen
  have hT := lookat_any h hu
  have r1 := h.ok.r1
  have r2 := h.ok.ms
  clear h hu
  unfold lookV
  go_enter Try.func28, Try.ntmps28
  go_wp2_with fail
  with_reducible refine hM.mono ?_
  rintro e w1 ⟨rfl, rfl⟩
  go_wp2_with fail
  with_reducible refine hT.mono ?_
  rintro e w2 ⟨rfl, rfl⟩
  go_wp2_with fail
  go_ret2
  exact ⟨rfl, rfl⟩
theorem llen_any (h : LkAt B w b v us S) : Calls Try.prog 26 #[.pointer (some ⟨b, 0, none⟩)] w fun e w' => e = .returned (.int .i64 S.ms.length) ∧ w' = w := by
  have hM := lmade_yes h
  have c1 := h.cells.2.1
  have hlen := h.vlen
  clear h
  go_enter Try.func26, Try.ntmps26
  go_wp2_with fail
  with_reducible refine hM.mono ?_
  rintro e w1 ⟨rfl, rfl⟩
  go_wp2_with fail
  go_ret
  exact ⟨rfl, rfl⟩
/-- A link's numbers in a new block. -/
theorem lnew_any {room : Int} (h0 : 1 ≤ room) (h1 : room ≤ 256) (w : World) (hB : B ≤ w.heap.size) : Calls Try.prog 7 #[.int .i64 room] w fun e w' => ∃ b, e = .returned (.tuple #[.pointer (some ⟨b, 0, none⟩), .int .i64 0]) ∧ Hid (LkAt B w' b (.slice none 0 0) [] ⟨room.toNat, [], 0, 0, 0, 0⟩ ∧ Below w.heap.size w w' ∧ w.heap.size ≤ b) := by
  have hC := cnew_any w
  have HE : Hid (∀ w1 w2 : World, Below w.heap.size w w1 → ∀ w3, w2 = w1.alloc (.cells #[.int .u32 0, .int .u32 4294967295] 58) → w3 = w2.alloc (.cells (LkC room.toNat (.slice none 0 0) 0 0 0 0) 60) → LkAt B w3 (w1.heap.size + 1) (.slice none 0 0) [] ⟨room.toNat, [], 0, 0, 0, 0⟩ ∧ Below w.heap.size w w3 ∧ w.heap.size ≤ w1.heap.size + 1) := fun w1 w2 hb w3 e2 e3 => by
    have hs : w2.heap.size = w1.heap.size + 1 := by rw [e2]; simp
    have hb2 : Below w.heap.size w w2 := by rw [e2]; exact hb.alloc hb.size _
    have hb3 : Below w.heap.size w w3 := by rw [e3]; exact hb2.alloc hb2.size _
    have := hb.size
    refine ⟨⟨by omega, ?_, World.ownsRow_nil _ _ _ _, rfl, fun i u zs hu => by simp at hu, by simp, ?_⟩, hb3, by omega⟩
    · rw [e3, ← hs]; exact heap_alloc_new w2 _
    · exact ⟨by show 1 ≤ room.toNat; omega, by show room.toNat ≤ 256; omega, by simp, isW0, isW0, isW0, isW0⟩
  have HR : Hid (((room.toNat : Nat) : Int) = room) := Int.toNat_of_nonneg (by omega)
  go_enter Try.func7, Try.ntmps7
  go_wp2_with fail
  with_reducible refine hC.mono ?_
  rintro e w1 ⟨rfl, hb⟩
  go_wp2_with fail
  go_ret2
  refine ⟨_, rfl, HE.out w1 _ hb.out _ rfl ?_⟩
  unfold LkC
  rw [HR.out]
theorem lnew_bad {room : Int} (h : room < 1 ∨ 256 < room) (w : World) : Calls Try.prog 7 #[.int .i64 room] w fun e w' => e = .returned (.tuple #[.pointer none, .int .i64 1]) ∧ w' = w := by
  rcases id h with h1 | h1
  · clear h
    go_enter Try.func7, Try.ntmps7
    go_wp2_with fail
    go_ret2
    exact ⟨rfl, rfl⟩
  · clear h
    have h2 : 1 ≤ room := by omega
    go_enter Try.func7, Try.ntmps7
    go_wp2_with fail
    go_ret2
    exact ⟨rfl, rfl⟩
end Go.Proofs.Ytlhmalmmligkkaa
