/-
  The document's ring in memory (RfAt); New, has; appends as equations; near.
-/
import Derived.Test.YtaiojhigomdocaaRnStay
import Derived.Laws.ResultCell
namespace Go.Proofs.Ytaiojhigomdocaa
open Go.RowKit Go.Maps Go.Shelf Go.Sort
set_option linter.unusedVariables false
set_option maxRecDepth 1000000

/-- A row of numbers. -/
def UR (W : World) (v : Value) (l : List Int) : Prop := W.ownsRow 0 22 1 v l.length (l.map (Value.int .u64))
theorem UR.same {W W' : World} {v : Value} {l : List Int} (h : UR W v l) (hb : ∀ b, v.ownBlock = some b → W'.heap[b]? = W.heap[b]?) : UR W' v l := own_blk h hb
theorem UR.blk {W : World} {v : Value} {l : List Int} (h : UR W v l) {b : Nat} (hb : v.ownBlock = some b) : ∃ cur, W.heap[b]? = some (.cells cur 22 (0, 0)) := by
  rcases id h.2 with ⟨hv, _⟩ | ⟨g, cap, cur, hv, _, hg, _⟩
  · rw [hv] at hb; cases hb
  · rw [hv] at hb
    obtain rfl : g = b := by simpa [Value.ownBlock] using hb
    exact ⟨cur, hg⟩
theorem UR.reads {W : World} {v : Value} {l : List Int} (h : UR W v l) : ∃ a cap, v = .slice a l.length cap ∧ Reads .u64 W a l.length cap l := Reads.own (k := .u64) h
theorem UR.lt {W : World} {v : Value} {l : List Int} (h : UR W v l) {b : Nat} (hb : v.ownBlock = some b) : b < W.heap.size := by
  obtain ⟨cur, hc⟩ := h.blk hb
  exact lt_of_block hc
theorem own_base0 {base e size n : Nat} {v : Value} {xs : List Value} {w : World} (h : w.ownsRow base e size v n xs) : w.ownsRow 0 e size v n xs := by
  refine ⟨h.1, ?_⟩
  rcases h.2 with h' | ⟨g', c, cur, hv, hB, rest⟩
  · exact .inl h'
  · exact .inr ⟨g', c, cur, hv, Nat.zero_le _, rest⟩
/-- Where a row lies behind an append. -/
def Mvd (w : World) (v v' : Value) : Prop := v'.ownBlock = v.ownBlock ∨ ∃ o, v'.ownBlock = some o ∧ w.heap.size ≤ o
theorem mvd_pos {w w' : World} {e n : Nat} {v v' : Value} {xs : List Value} (h : w'.ownsRow w.heap.size e 1 v' n xs) (hn : 0 < n) : Mvd w v v' := by
  right
  rcases id h.2 with ⟨_, h0⟩ | ⟨g, cap, cur, rfl, hb, _⟩
  · omega
  · exact ⟨g, rfl, hb⟩
theorem stepApp {P : Program} {w : World} {ops : Array Oper} {o : Oper} {a : Act} {K : Act → World → Prop} {Q : Exit → Act → World → Prop} {E : Prop} (hgd : o.guard = none) (d : Tmp) (hd : o.dst = some d) (s x : Operand) (t : TypeId)
    (ho : o.op = .call { callee := .builtin .append, args := #[s, x], argTypes := #[t, t] }) (v1 v2 v' : Value) (w' : World) (hs : a.eval s = v1) (hx : a.eval x = v2) (hr : (Builtin.append_ #[t, t] o.type #[v1, v2]).run P w = .ok v' w') (h : K (a.put (some d) v') w') :
    if Region.wanted o (yielded ops a.tmps) = true then Oper.wp P o a w K Q else E := by
  have hw : Region.wanted o (yielded ops a.tmps) = true := by simp [Region.wanted, hgd]
  rw [if_pos hw]
  unfold Oper.wp execOp
  simp only [ho, resolve, invoke, builtin, Sem.run_bind, Sem.run_pure, Result.andThen_ok, List.map_toArray, List.map_cons, List.map_nil, hs, hx, hr]
  show K (a.put o.dst _) w'
  rw [hd]
  exact h
/-- An append to such a row, as an equation. -/
theorem runApp (w : World) (v : Value) (xs : List Int) (hown : UR w v xs) (ao : Option Addr) (m c : Nat) (news : List Int) (hr : Reads .u64 w ao m c news) (hb : xs.length + m ≤ 100000) (ty : TypeId) :
    ∃ v' w', (Builtin.append_ #[31, 31] ty #[v, .slice ao m c]).run Try.prog w = .ok v' w' ∧ UR w' v' (xs ++ news) ∧ w.grownBy w' v.ownBlock ∧ Mvd w v v' := by
  obtain ⟨i0, hi, hz0, hz1, hz2⟩ := info_parts Try.infoU
  have hnl : (news.map (Value.int .u64)).length = m * 1 := by simpa using hr.size
  have hbytes : (xs.length + m) * 8 ≤ 140737488355328 := by omega
  have hln : (xs ++ news).length = xs.length + m := by rw [List.length_append, hr.size]
  unfold UR at *
  rw [hln]
  cases ao with
  | none =>
    obtain ⟨rfl, rfl⟩ := hr.bare rfl
    have hn : news = [] := List.eq_nil_of_length_eq_zero hr.size
    subst hn
    exact ⟨v, w, run_append_owned_none (P := Try.prog) w 0 31 ty 22 i0 1 Try.underlying31 hi v _ _ hown, by simpa using hown, World.grownBy.refl _ _, .inl rfl⟩
  | some ad =>
  rcases id hown.2 with ⟨rfl, h0⟩ | ⟨g, cap, cur, rfl, hbg, hg, hnc, hcm, hcs, htake⟩
  · obtain rfl : xs = [] := List.eq_nil_of_length_eq_zero h0
    obtain ⟨v', w', h1, h2, h3, h4⟩ := run_append_own (P := Try.prog) w w.heap.size 31 ty 22 i0 (.int .u64 0) 1 8 Try.underlying31 hi hz0 hz1 hz2 rfl (by decide) (.slice none 0 0) 0 [] (World.ownsRow_nil _ _ _ _) ad m c (news.map (Value.int .u64)) hnl hr.news (ints_oneCell .u64 news) (by unfold maxLen; omega) (by simpa using hbytes) (Nat.le_refl _)
    refine ⟨v', w', h1, own_base0 (by simpa using h2), h3, ?_⟩
    by_cases hm : m = 0
    · left; rw [h4.2 ⟨rfl, hm⟩]
    · exact mvd_pos h2 (by omega)
  · by_cases hroom : xs.length + m ≤ cap
    · obtain ⟨w', h1, h2, h3⟩ := run_append_fits (P := Try.prog) w 0 31 ty 22 i0 1 Try.underlying31 hi hz1 g xs.length cap _ hown ad m c (news.map (Value.int .u64)) hnl hr.news (ints_oneCell .u64 news) hroom
      exact ⟨_, w', h1, by rw [List.map_append]; exact h2, h3, .inl rfl⟩
    · obtain ⟨v', w', h1, h2, h3⟩ := run_append_arg_grows (P := Try.prog) w 31 ty 22 i0 (.int .u64 0) 1 8 Try.underlying31 hi hz0 hz1 hz2 rfl (by decide) ⟨g, 0, none⟩ xs.length cap (xs.map (Value.int .u64)) (by simp) (hown.cells (g := g) rfl) ad m c (news.map (Value.int .u64)) hnl hr.news (by omega) (by unfold maxLen; omega) hbytes
      refine ⟨v', w', h1, own_base0 (by rw [List.map_append]; exact h2), ⟨h3.os, h3.tape, h3.output, h3.size, fun k hk _ => h3.block k hk (by simp)⟩, mvd_pos h2 (by omega)⟩
/-- A row from a place on. -/
theorem UR.from {W : World} {v : Value} {l : List Int} (h : UR W v l) {i : Nat} (hi : i ≤ l.length) : ∃ ao c, (∀ W' : World, (Instr.sliceAt 31 v (some (.int .i64 (i : Int))) none none).run Try.prog W' = .ok (.slice ao (l.length - i) c) W') ∧ ∀ W' : World, UR W' v l → Reads .u64 W' ao (l.length - i) c (l.drop i) := by
  obtain ⟨j0, ji, jz0, jz1, jz2⟩ := info_parts Try.infoU
  rcases id h.2 with ⟨rfl, h0⟩ | ⟨g, cap, cur, rfl, hbg, hg, hnc, hcm, hcs, htake⟩
  · obtain rfl : l = [] := List.eq_nil_of_length_eq_zero h0
    obtain rfl : i = 0 := by simpa using hi
    have h1 : ∀ W : World, (Instr.sliceBound (.int .i64 (0 : Int)) 0 .sliceB).run Try.prog W = .ok 0 W := fun W => by
      rw [run_sliceBound W .i64 0 0 _ (by omega) (by omega)]; congr 1
    refine ⟨none, 0, fun W' => ?_, fun W' _ => Reads.nil _ _⟩
    simp [Instr.sliceAt, Instr.slice, run_underlying Try.underlying31, Instr.sliceBounds, h1, sizeOf, typeInfo, ji, Addr.add]
  · unfold maxLen at hcm
    have h1 : ∀ W : World, (Instr.sliceBound (.int .i64 (i : Int)) l.length .sliceB).run Try.prog W = .ok i W := fun W => by
      rw [run_sliceBound W .i64 (i : Int) l.length _ (by omega) (by omega)]; congr 1
    refine ⟨if cap = i then some ⟨g, 0, none⟩ else some ⟨g, i, none⟩, cap - i, fun W' => ?_, fun W' h' => ?_⟩
    · by_cases c1 : cap = i
      · subst c1
        simp [Instr.sliceAt, Instr.slice, run_underlying Try.underlying31, Instr.sliceBounds, h1, sizeOf, typeInfo, ji, jz1, Addr.add]
      · by_cases c2 : i = 0
        · subst c2
          have h1' : ∀ W : World, (Instr.sliceBound (.int .i64 (0 : Int)) l.length .sliceB).run Try.prog W = .ok 0 W := h1
          simp [Instr.sliceAt, Instr.slice, run_underlying Try.underlying31, Instr.sliceBounds, h1', sizeOf, typeInfo, ji, jz1, Addr.add, c1]
        · simp [Instr.sliceAt, Instr.slice, run_underlying Try.underlying31, Instr.sliceBounds, h1, sizeOf, typeInfo, ji, jz1, Addr.add, c1, c2]
    · obtain ⟨a, cap', hv, hr⟩ := h'.reads
      obtain ⟨rfl, rfl⟩ : some ⟨g, 0, none⟩ = a ∧ cap = cap' := by simpa using hv
      refine ⟨by simp, by omega, by omega, ?_, fun j hj => ?_⟩
      · intro e
        split at e <;> cases e
      · rw [if_neg (by omega)]
        obtain ⟨b, off, hb, hc⟩ := hr.cell (i + j) (by omega)
        obtain ⟨rfl, rfl⟩ : g = b ∧ 0 = off := by simpa using hb
        refine ⟨g, i, rfl, ?_⟩
        rw [List.getElem?_drop]
        rw [Nat.zero_add] at hc
        exact hc
/-- The document's ring's cells. -/
def RfB (W : World) (B : Nat) (s : Int) (e : Nat) (u : Value) : Prop := W.heap[B]? = some (.cells #[.int .u64 s, .int .i64 e, u] 33 (0, 0))
theorem RfB.same {W W' : World} {B : Nat} {s : Int} {e : Nat} {u : Value} (h : RfB W B s e u) (hb : W'.heap[B]? = W.heap[B]?) : RfB W' B s e u := hb.trans h
theorem RfB.lt {W : World} {B : Nat} {s : Int} {e : Nat} {u : Value} (h : RfB W B s e u) : B < W.heap.size := lt_of_block h
theorem RfB.cells {W : World} {B : Nat} {s : Int} {e : Nat} {u : Value} (h : RfB W B s e u) : W.cell? ⟨B, 0, none⟩ = some (.int .u64 s) ∧ W.cell? ⟨B, 1, none⟩ = some (.int .i64 e) ∧ W.cell? ⟨B, 2, none⟩ = some u :=
  ⟨by rw [cell_of_row _ _ _ _ _ _ h]; rfl, by rw [cell_of_row _ _ _ _ _ _ h]; rfl, by rw [cell_of_row _ _ _ _ _ _ h]; rfl⟩
theorem RfB.frozen {W : World} {B : Nat} {s : Int} {e : Nat} {u : Value} (h : RfB W B s e u) (i : Nat) : W.frozen? ⟨B, i, none⟩ = false := frozen_of_row _ _ i _ _ h
theorem RfB.set {W : World} {B : Nat} {s : Int} {e : Nat} {u : Value} (h : RfB W B s e u) (v : Value) : RfB (W.setCell ⟨B, 2, none⟩ v) B s e v := row_set (k := 2) (u := v) h
theorem RfB.far {W : World} {B : Nat} {s : Int} {e : Nat} {u v : Value} {l : List Int} (h : RfB W B s e u) (hp : UR W v l) {b : Nat} (hb : v.ownBlock = some b) : b ≠ B := fun e => by
  obtain ⟨cur, hc⟩ := hp.blk hb
  rw [e, show W.heap[B]? = _ from h] at hc
  simp at hc
/-- The document's ring in block B. -/
structure RfAt (W : World) (B : Nat) (s : Int) (e : Nat) (u : Value) (l : List Int) : Prop where
  obj : RfB W B s e u
  row : UR W u l
  each : 1 ≤ e ∧ e ≤ 64
  len : l.length ≤ 64
def rfF (B : Nat) (u : Value) (k : Nat) : Prop := k = B ∨ u.ownBlock = some k
theorem RfAt.flt {W : World} {B : Nat} {s : Int} {e : Nat} {u : Value} {l : List Int} (h : RfAt W B s e u l) : ∀ k, rfF B u k → k < W.heap.size := by
  rintro k (rfl | hk)
  · exact h.obj.lt
  · exact h.row.lt hk
theorem RfAt.fb {F : Nat → Prop} {W W' : World} {B : Nat} {s : Int} {e : Nat} {u : Value} {l : List Int} (h : RfAt W B s e u l) (hb : Fb F W W') (hF : ∀ k, rfF B u k → ¬ F k) : RfAt W' B s e u l :=
  ⟨h.obj.same (hb.block _ h.obj.lt (hF _ (.inl rfl))), h.row.same fun b hb2 => hb.block b (h.row.lt hb2) (hF _ (.inr hb2)), h.each, h.len⟩
theorem RfAt.below {W W' : World} {B : Nat} {s : Int} {e : Nat} {u : Value} {l : List Int} (h : RfAt W B s e u l) (hb : RowKit.Below W.heap.size W W') : RfAt W' B s e u l :=
  h.fb (F := fun _ => False) (Fb.of hb) fun _ _ hh => hh
/-- The document's ring behind a call. -/
def RfO (W : World) (B : Nat) (s : Int) (e : Nat) (u : Value) (l : List Int) (w' : World) : Prop :=
  ∃ u', RfAt w' B s e u' l ∧ Fb (rfF B u) W w' ∧ ∀ k, u'.ownBlock = some k → u.ownBlock = some k ∨ W.heap.size ≤ k
theorem RfAt.stay {W W' : World} {B : Nat} {s : Int} {e : Nat} {u : Value} {l : List Int} (h : RfAt W B s e u l) (hb : RowKit.Below W.heap.size W W') : RfO W B s e u l W' := ⟨u, h.below hb, Fb.of hb, fun k hk => .inl hk⟩
theorem rfnew_no (s p : Int) (W : World) (hp : p < 1 ∨ 64 < p) : Calls Try.prog 8 #[.int .u64 s, .int .i64 p] W fun r w' => r = .returned (.tuple #[.agg #[.int .u64 0, .int .i64 0, .slice none 0 0], .int .i64 1]) ∧ Hid (RowKit.Below W.heap.size W w') := by
  have HB : Hid (∀ o : Obj, RowKit.Below W.heap.size W (W.alloc o)) := fun o => (RowKit.Below.refl _ _).alloc (Nat.le_refl _) o
  by_cases h1 : p < 1
  · clear hp
    go_enter Try.func8, Try.ntmps8
    go_wp2
    exact bodyPost_ret (v := .tuple #[.agg #[.int .u64 0, .int .i64 0, .slice none 0 0], .int .i64 1]) (by rw [results_cell_tmp rfl]; simp [go_sem]) rfl ⟨rfl, HB.out _⟩
  · have h2 : 64 < p := by omega
    clear hp
    go_enter Try.func8, Try.ntmps8
    go_wp2
    exact bodyPost_ret (v := .tuple #[.agg #[.int .u64 0, .int .i64 0, .slice none 0 0], .int .i64 1]) (by rw [results_cell_tmp rfl]; simp [go_sem]) rfl ⟨rfl, HB.out _⟩
theorem rfnew_yes (s : Int) (e : Nat) (W : World) (he : 1 ≤ e ∧ e ≤ 64) : Calls Try.prog 8 #[.int .u64 s, .int .i64 e] W fun r w' => r = .returned (.tuple #[.agg #[.int .u64 s, .int .i64 e, .slice none 0 0], .int .i64 0]) ∧ Hid (RowKit.Below W.heap.size W w') := by
  have h1 : ¬ (e : Int) < 1 := by omega
  have h2 : ¬ (64 : Int) < (e : Int) := by omega
  have h3 : e < 65 := by omega
  have h4 : ¬ 64 < e := by omega
  have h5 : ¬ e = 0 := by omega
  have HB : Hid (∀ o : Obj, RowKit.Below W.heap.size W (W.alloc o)) := fun o => (RowKit.Below.refl _ _).alloc (Nat.le_refl _) o
  go_enter Try.func8, Try.ntmps8
  go_wp2
  refine bodyPost_ret (v := .tuple #[.agg #[.int .u64 s, .int .i64 e, .slice none 0 0], .int .i64 0]) (by rw [results_cell_tmp rfl]; simp [go_sem]) rfl ⟨rfl, ?_⟩
  exact HB.out _
end Go.Proofs.Ytaiojhigomdocaa
