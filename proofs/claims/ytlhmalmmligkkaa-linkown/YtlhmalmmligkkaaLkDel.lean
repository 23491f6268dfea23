/-
  Package link: slices.Delete of one message; takeOut.
-/
import Derived.Test.YtlhmalmmligkkaaLkOp
namespace Go.Proofs.Ytlhmalmmligkkaa
open Go.RowKit
set_option linter.unusedVariables false
set_option maxRecDepth 1000000

theorem own_take {w : World} {base e n b cap : Nat} {xs : List Value} (h : w.ownsRow base e 1 (.slice (some ⟨b, 0, none⟩) n cap) n xs) {k : Nat} (hk : k ≤ n) : w.ownsRow base e 1 (.slice (some ⟨b, 0, none⟩) k cap) k (xs.take k) := by
  obtain ⟨h1, h2⟩ := h
  refine ⟨by rw [List.length_take, h1]; omega, ?_⟩
  rcases h2 with ⟨e, _⟩ | ⟨g, c, cur, e, h3, h4, h5, h6, h7, h8⟩
  · cases e
  · cases e
    refine .inr ⟨b, cap, cur, rfl, h3, h4, by omega, h6, h7, ?_⟩
    rw [← h8, List.take_take, Nat.min_eq_left (by omega), Nat.mul_one]
theorem row_sets {base T b n cap : Nat} : ∀ (us : List Value) (o : Nat) (vs : List Value) (W : World), W.ownsRow base T 1 (.slice (some ⟨b, 0, none⟩) n cap) n vs → o + us.length ≤ n →
    (W.setCells b o us).ownsRow base T 1 (.slice (some ⟨b, 0, none⟩) n cap) n (vs.take o ++ us ++ vs.drop (o + us.length))
  | [], o, vs, W, h, _ => by
    rw [List.length_nil, Nat.add_zero, List.append_nil, List.take_append_drop]
    exact h
  | u :: us, o, vs, W, h, hl => by
    rw [List.length_cons] at hl
    have hv : vs.length = n := by have := h.1; omega
    have := row_sets us (o + 1) _ _ (World.ownsRow.stored h o u).1 (by omega)
    rw [List.take_set, List.drop_set_of_lt (by omega)] at this
    rw [List.length_cons, show o + (us.length + 1) = o + 1 + us.length by omega]
    rw [show vs.take o ++ u :: us = (vs.take (o + 1)).set o u ++ us by
      rw [List.take_succ_eq_append_getElem (by omega), List.set_append_right _ _ (by rw [List.length_take]; omega)]
      simp [List.length_take, Nat.min_eq_left (show o ≤ vs.length by omega)]]
    exact this
theorem fb_sets {b : Nat} : ∀ (us : List Value) (o : Nat) (W : World), Fb (at1 b) W (W.setCells b o us)
  | [], o, W => Fb.refl _ _
  | u :: us, o, W => (Fb.set (F := at1 b) (w := W) (p := ⟨b, o, none⟩) (by exact rfl) u).trans (fb_sets us (o + 1) _) fun k hk => .inl hk
/-- An append whose run is known, at a step of a region that draws its order. -/
theorem step_app_eq {P : Program} {w : World} {ops : Array Oper} {o : Oper} {a : Act} {K : Act → World → Prop} {Q : Exit → Act → World → Prop} {E : Prop} (hgd : o.guard = none) (d : Tmp) (hd : o.dst = some d) (s x : Operand) (t : TypeId)
    (ho : o.op = .call { callee := .builtin .append, args := #[s, x], argTypes := #[t, t] }) (v1 v2 v' : Value) (w' : World) (hs : a.eval s = v1) (hx : a.eval x = v2) (hr : (Builtin.append_ #[t, t] o.type #[v1, v2]).run P w = .ok v' w') (h : K (a.put (some d) v') w') :
    if Region.wanted o (yielded ops a.tmps) = true then Oper.wp P o a w K Q else E := by
  have hw : Region.wanted o (yielded ops a.tmps) = true := by simp [Region.wanted, hgd]
  rw [if_pos hw]
  unfold Oper.wp execOp
  simp only [ho, resolve, invoke, builtin, Sem.run_bind, Sem.run_pure, Result.andThen_ok, List.map_toArray, List.map_cons, List.map_nil, hs, hx, hr]
  show K (a.put o.dst _) w'
  rw [hd]
  exact h
/-- A row read further than its length. -/
theorem own_more {w : World} {base e m b cap : Nat} {xs : List Value} (h : w.ownsRow base e 1 (.slice (some ⟨b, 0, none⟩) m cap) m xs) {n : Nat} (h1 : m ≤ n) (h2 : n ≤ cap) : ∃ vs, w.ownsRow base e 1 (.slice (some ⟨b, 0, none⟩) n cap) n vs ∧ vs.take m = xs := by
  rcases h.2 with ⟨e, _⟩ | ⟨g, c, cur, e, h3, h4, h5, h6, h7, h8⟩
  · cases e
  · cases e
    refine ⟨cur.toList.take n, ⟨by rw [List.length_take, Array.length_toList]; omega, .inr ⟨b, cap, cur, rfl, h3, h4, h2, h6, h7, by rw [Nat.mul_one]⟩⟩, ?_⟩
    rw [← h8, List.take_take, Nat.min_eq_left h1, Nat.mul_one]
theorem ucut_mid (b m n cap : Nat) (hk : m < n) (hc : n ≤ cap) (hm : cap ≤ 9223372036854775807) (W : World) :
    (Instr.sliceAt 27 (.slice (some ⟨b, 0, none⟩) m cap) (some (.int .i64 (m : Int))) (some (.int .i64 (n : Int))) none).run Try.prog W = .ok (.slice (some ⟨b, m, none⟩) (n - m) (cap - m)) W := by
  obtain ⟨j0, ji, jz0, jz1, jz2⟩ := info_parts Try.info36
  have h1 : ∀ W : World, (Instr.sliceBound (.int .i64 (m : Int)) n .sliceB).run Try.prog W = .ok m W := fun W => by
    rw [run_sliceBound W .i64 (m : Int) n _ (by omega) (by omega)]; congr 1
  have h2 : ∀ W : World, (Instr.sliceBound (.int .i64 (n : Int)) cap .sliceAcap).run Try.prog W = .ok n W := fun W => by
    rw [run_sliceBound W .i64 (n : Int) cap _ (by omega) (by omega)]; congr 1
  have h3 : ¬ cap = m := by omega
  simp [Instr.sliceAt, Instr.slice, run_underlying Try.underlying27, Instr.sliceBounds, h1, h2, sizeOf, typeInfo, ji, jz1, Addr.add, h3]
  intro h4
  exact h4.symm
theorem ucut_to (a : Option Addr) (n cap m : Nat) (hm : m ≤ cap) (hc : cap ≤ 9223372036854775807) (W : World) :
    (Instr.sliceAt 27 (.slice a n cap) none (some (.int .i64 (m : Int))) none).run Try.prog W = .ok (.slice a m cap) W := by
  obtain ⟨j0, ji, jz0, jz1, jz2⟩ := info_parts Try.info36
  have h2 : ∀ W : World, (Instr.sliceBound (.int .i64 (m : Int)) cap .sliceAcap).run Try.prog W = .ok m W := fun W => by
    rw [run_sliceBound W .i64 (m : Int) cap _ (by omega) (by omega)]; congr 1
  cases a with
  | none => simp [Instr.sliceAt, Instr.slice, run_underlying Try.underlying27, Instr.sliceBounds, h2, sizeOf, typeInfo, ji, Addr.add]
  | some a => simp [Instr.sliceAt, Instr.slice, run_underlying Try.underlying27, Instr.sliceBounds, h2, sizeOf, typeInfo, ji, Addr.add]
theorem zeroBs (w : World) : (zeroValue 36).run Try.prog w = .ok (.slice none 0 0) w := by kernel_rfl
/-- The rest of a row is cleared. -/
theorem row_clear {B b n cap i : Nat} {vs : List Value} {W : World} (h : W.ownsRow B 36 1 (.slice (some ⟨b, 0, none⟩) n cap) n vs) (hi : i < n) (c : Nat) (ty : TypeId) :
    ∃ W', (Builtin.clear_ #[27] ty #[.slice (some ⟨b, i, none⟩) (n - i) c]).run Try.prog W = .ok (.tuple #[]) W' ∧ W'.ownsRow B 36 1 (.slice (some ⟨b, 0, none⟩) i cap) i (vs.take i) ∧ Fb (at1 b) W W' := by
  have hl : vs.length = n := by have := h.1; omega
  have hs := row_sets (List.replicate (n - i) (Value.slice none 0 0)) i vs W h (by rw [List.length_replicate]; omega)
  refine ⟨_, Lib.run_clear_slice W _ _ ty (.slice none 0 0) Try.underlying27 zeroBs rfl rfl b i (n - i) c (by omega) (fun j hj => ?_) (fun j hj => World.ownsRow.frozenAt h _), ?_, fb_sets _ _ _⟩
  · rw [World.ownsRow.cellAt h _ (by omega), List.getElem?_eq_getElem (by omega)]
    rfl
  · have := own_take hs (k := i) (by omega)
    rw [List.append_assoc, List.take_append_of_le_length (by rw [List.length_take]; omega), List.take_take, Nat.min_self] at this
    exact this
theorem ucut_from (b n cap i : Nat) (hk : i < n) (hc : n ≤ cap) (hm : cap ≤ 9223372036854775807) : ∃ A : Addr, (∀ W : World,
    (Instr.sliceAt 27 (.slice (some ⟨b, 0, none⟩) n cap) (some (.int .i64 ((i : Int) + 1))) none none).run Try.prog W = .ok (.slice (some A) (n - (i + 1)) (cap - (i + 1))) W) ∧ (i + 1 < n → A = ⟨b, i + 1, none⟩) := by
  obtain ⟨j0, ji, jz0, jz1, jz2⟩ := info_parts Try.info36
  have h1 : ∀ W : World, (Instr.sliceBound (.int .i64 ((i : Int) + 1)) n .sliceB).run Try.prog W = .ok (i + 1) W := fun W => by
    rw [run_sliceBound W .i64 ((i : Int) + 1) n _ (by omega) (by omega)]; congr 1
  refine ⟨if cap = i + 1 then ⟨b, 0, none⟩ else ⟨b, i + 1, none⟩, fun W => ?_, fun h => by rw [if_neg (by omega)]⟩
  by_cases c1 : cap = i + 1
  · subst c1
    simp [Instr.sliceAt, Instr.slice, run_underlying Try.underlying27, Instr.sliceBounds, h1, sizeOf, typeInfo, ji, jz1, Addr.add]
  · simp [Instr.sliceAt, Instr.slice, run_underlying Try.underlying27, Instr.sliceBounds, h1, sizeOf, typeInfo, ji, jz1, Addr.add, c1]
/-- The bounds that Delete looks at. -/
theorem ucut_all (b n cap i : Nat) (hk : i < n) (hc : n ≤ cap) (hm : cap ≤ 9223372036854775807) : ∃ V : Value, ∀ W : World,
    (Instr.sliceAt 27 (.slice (some ⟨b, 0, none⟩) n cap) (some (.int .i64 (i : Int))) (some (.int .i64 ((i : Int) + 1))) (some (.int .i64 (n : Int)))).run Try.prog W = .ok V W := by
  obtain ⟨j0, ji, jz0, jz1, jz2⟩ := info_parts Try.info36
  have h1 : ∀ W : World, (Instr.sliceBound (.int .i64 (n : Int)) cap .slice3Acap).run Try.prog W = .ok n W := fun W => by
    rw [run_sliceBound W .i64 (n : Int) cap _ (by omega) (by omega)]; congr 1
  have h2 : ∀ W : World, (Instr.sliceBound (.int .i64 ((i : Int) + 1)) n .slice3B).run Try.prog W = .ok (i + 1) W := fun W => by
    rw [run_sliceBound W .i64 ((i : Int) + 1) n _ (by omega) (by omega)]; congr 1
  have h3 : ∀ W : World, (Instr.sliceBound (.int .i64 (i : Int)) (i + 1) .slice3C).run Try.prog W = .ok i W := fun W => by
    rw [run_sliceBound W .i64 (i : Int) (i + 1) _ (by omega) (by omega)]; congr 1
  have c1 : ¬ n = i := by omega
  refine ⟨_, fun W => by
    simp [Instr.sliceAt, Instr.slice, run_underlying Try.underlying27, Instr.sliceBounds, h1, h2, h3, sizeOf, typeInfo, ji, jz1, Addr.add, c1]
    rfl⟩
set_option maxHeartbeats 2000000 in
theorem sdel_any {B b n cap i : Nat} {us : List Value} {w : World} (h : w.ownsRow B 36 1 (.slice (some ⟨b, 0, none⟩) n cap) n us) (hone : ∀ u ∈ us, u.oneCell' = true) (hi : i < n) (hn : n ≤ 256) (r1 : n ≤ cap) (m1 : cap ≤ 9223372036854775807) :
    Calls Try.prog 42 #[.slice (some ⟨b, 0, none⟩) n cap, .int .i64 i, .int .i64 ((i : Int) + 1)] w fun e w' => e = .returned (.slice (some ⟨b, 0, none⟩) (n - 1) cap) ∧ Hid (w'.ownsRow B 36 1 (.slice (some ⟨b, 0, none⟩) (n - 1) cap) (n - 1) (us.eraseIdx i) ∧ Fb (at1 b) w w') := by
  obtain ⟨i0, hi0, hz0, hz1, hz2⟩ := info_parts Try.info36
  have hl : us.length = n := by have := h.1; omega
  have hO0 : w.drew.ownsRow B 36 1 (.slice (some ⟨b, 0, none⟩) i cap) i (us.take i) := own_take h (by omega)
  obtain ⟨V, hs0⟩ := ucut_all b n cap i hi r1 m1
  have hs1 := fun W => ucut_to (some ⟨b, 0, none⟩) n cap i (by omega) m1 W
  obtain ⟨A, hs2, hA⟩ := ucut_from b n cap i hi r1 m1
  have hnews : ∀ j u, (us.drop (i + 1))[j]? = some u → w.drew.cell? (A.add j) = some u := fun j u hu => by
    have hj : j < n - (i + 1) := by
      have := (List.getElem?_eq_some_iff.1 hu).1
      rw [List.length_drop, hl] at this
      exact this
    rw [hA (by omega), Addr.add_lit]
    show w.cell? ⟨b, i + 1 + j, none⟩ = some u
    rw [h.cellAt _ (by omega)]
    rw [List.getElem?_drop] at hu
    exact hu
  have hlen : (us.drop (i + 1)).length = (n - (i + 1)) * 1 := by rw [List.length_drop, hl, Nat.mul_one]
  obtain ⟨w1, e1, hO1, hg1⟩ := run_append_fits (P := Try.prog) w.drew B 27 27 36 i0 1 Try.underlying27 hi0 hz1 b i cap _ hO0 A (n - (i + 1)) (cap - (i + 1)) _ hlen hnews (fun u hu => hone u (List.mem_of_mem_drop hu)) (by omega)
  have hd : i + (n - (i + 1)) = n - 1 := by omega
  rw [hd] at e1 hO1
  obtain ⟨vs, hO2, hv2⟩ := own_more hO1 (n := n) (by omega) (by omega)
  obtain ⟨w2, e2, hO3, hf2⟩ := row_clear hO2 (i := n - 1) (by omega) (cap - (n - 1)) 0
  rw [hv2] at hO3
  have hs3 := ucut_mid b (n - 1) n cap (by omega) r1 m1
  have HR : Hid (w2.ownsRow B 36 1 (.slice (some ⟨b, 0, none⟩) (n - 1) cap) (n - 1) (us.eraseIdx i) ∧ Fb (at1 b) w w2) := by
    refine ⟨by rw [List.eraseIdx_eq_take_drop_succ]; exact hO3, Fb.trans (G := at1 b) ?_ hf2 fun x hx => .inl hx⟩
    exact ⟨hg1.os, hg1.tape, hg1.output, hg1.size, fun x hx hn => hg1.block x hx fun e => hn (by cases e; rfl)⟩
  have q1 : ¬ (i : Int) = (i : Int) + 1 := by omega
  have HE1 := hid e1
  clear h hone hO0 hnews hlen hO1 hg1 hO2 hv2 hO3 hf2 hA e1 hd hl
  generalize n - (i + 1) = d1 at *
  generalize cap - (i + 1) = c2 at *
  generalize cap - (n - 1) = c3 at *
  generalize n - (n - 1) = c4 at *
  generalize n - 1 = d at *
  go_enter Try.func42, Try.ntmps42
  go_wp2_with fail
  go_region_law (refine step_app_eq (by rfl) 26 (by rfl) (.tmp 22) (.tmp 25) 27 (by rfl) _ _ _ _ (by simp [Act.eval, Act.put]) (by simp [Act.eval, Act.put]) HE1.out ?_)
  go_wp2
  go_ret
  exact ⟨rfl, HR.out⟩
variable {B b : Nat} {w w' : World} {v : Value} {us : List Value} {S : Lm}
/-- One message less. -/
def Lm.less (S : Lm) (i : Nat) : Lm := S.put (S.ms.eraseIdx i)
theorem erase_at {α : Type} {xs : List α} {i j : Nat} {x : α} (h : (xs.eraseIdx i)[j]? = some x) : xs[if j < i then j else j + 1]? = some x := by
  rw [List.getElem?_eraseIdx] at h
  split at h
  · rw [if_pos ‹_›]; exact h
  · rw [if_neg ‹_›]; exact h
theorem ltake_end (h : LkAt B w b v us S) {i : Nat} (hi : i < S.ms.length) {g cap : Nat} (hv : v = .slice (some ⟨g, 0, none⟩) S.ms.length cap) {w1 : World}
    (hr : w1.ownsRow B 36 1 (.slice (some ⟨g, 0, none⟩) (S.ms.length - 1) cap) (S.ms.length - 1) (us.eraseIdx i)) (hf : Fb (at1 g) w w1) :
    LkAt B (w1.setCell ⟨b, 1, none⟩ (.slice (some ⟨g, 0, none⟩) (S.ms.length - 1) cap)) b (.slice (some ⟨g, 0, none⟩) (S.ms.length - 1) cap) (us.eraseIdx i) (S.less i) ∧ Fb (rwF b v) w (w1.setCell ⟨b, 1, none⟩ (.slice (some ⟨g, 0, none⟩) (S.ms.length - 1) cap)) := by
  have hvg : v.ownBlock = some g := by rw [hv]; rfl
  have hgb : g ≠ b := fun e => h.vb (by rw [hvg, e])
  have hb1 : w1.heap[b]? = some (.cells (LkC S.room v S.se S.ca S.dr S.tu) 60 (0, 0)) := hf.one h.blk fun e => hgb (Eq.symm (show b = g from e))
  have hfr : Fb (rwF b v) w (w1.setCell ⟨b, 1, none⟩ (.slice (some ⟨g, 0, none⟩) (S.ms.length - 1) cap)) := ((hf.mono fun k hk => .inr (by rw [hvg]; exact congrArg some (show k = g from hk).symm)) : Fb (rwF b v) w w1).trans (Fb.set (F := rwF b v) (p := ⟨b, 1, none⟩) (.inl rfl) _) fun k hk => .inl hk
  have hle : (us.eraseIdx i).length = S.ms.length - 1 := by rw [List.length_eraseIdx, if_pos (by rw [h.len]; exact hi), h.len]
  have hlm : (S.ms.eraseIdx i).length = S.ms.length - 1 := by rw [List.length_eraseIdx, if_pos hi]
  refine ⟨h.turn (row_set hb1) ?_ (by rw [hle, hlm]) (fun j x ys hx hy => ?_) (nd_erase h.nd i) (by rw [hlm]; have := h.ok.ms; omega), hfr⟩
  · rw [hle]
    exact own_blk hr fun k hk => Below.heap_setCell _ _ _ _ (by cases hk; exact hgb)
  · have hm := h.msg _ x ys (erase_at hx) (erase_at hy)
    exact hm.same fun k hk => hfr.block k (hm.lt hk).2 (h.off hm hk)
theorem ltake_any (h : LkAt B w b v us S) {i : Nat} {u : Value} (hu : us[i]? = some u) :
    Calls Try.prog 29 #[.pointer (some ⟨b, 0, none⟩), .int .i64 i] w fun e w' => e = .returned u ∧ Hid (∃ v', LkAt B w' b v' (us.eraseIdx i) (S.less i) ∧ Fb (rwF b v) w w' ∧ v'.ownBlock = v.ownBlock) := by
  have hi : i < S.ms.length := by rw [← h.len]; exact (List.getElem?_eq_some_iff.1 hu).1
  obtain ⟨g, cap, hv, v1, v2⟩ := h.form (by omega)
  have c1 := h.cells.2.1
  have c2 := h.at hv hu
  have r1 := h.ok.r1
  have r2 := h.ok.ms
  have hr := h.row
  rw [hv, h.len] at hr
  have hD := sdel_any hr h.ones hi (by omega) v1 v2
  have HE : Hid (∀ w1 : World, w1.ownsRow B 36 1 (.slice (some ⟨g, 0, none⟩) (S.ms.length - 1) cap) (S.ms.length - 1) (us.eraseIdx i) → Fb (at1 g) w w1 → _) := fun w1 a c => ltake_end h hi hv a c
  have HK : Hid (∀ w1 : World, Fb (at1 g) w w1 → w1.cell? ⟨b, 1, none⟩ = some v ∧ w1.frozen? ⟨b, 1, none⟩ = false) := fun w1 hf => by
    have hb1 : w1.heap[b]? = some (.cells (LkC S.room v S.se S.ca S.dr S.tu) 60 (0, 0)) := hf.one h.blk fun e => h.vb (by rw [hv]; exact congrArg some (show b = g from e).symm)
    exact ⟨by rw [cell_of_row _ _ _ _ _ _ hb1]; rfl, frozen_of_row _ _ 1 _ _ hb1⟩
  have hvo : v.ownBlock = some g := by rw [hv]; rfl
  have hsum : IntKind.i64.wrap ((i : Int) + 1) = (i : Int) + 1 := wrap64_in (by omega) (by omega)
  rw [hvo]
  subst hv
  clear h hu hr r2 hvo
  generalize S.ms.length = n at *
  go_enter Try.func29, Try.ntmps29
  go_wp2_with fail
  with_reducible refine hD.mono ?_
  rintro e w1 ⟨rfl, H⟩
  obtain ⟨c5, f5⟩ := HK.out _ H.out.2
  have HX := hid (HE.out _ H.out.1 H.out.2)
  clear hD HE HK H c1 c2
  go_wp2_with fail
  go_ret
  exact ⟨rfl, _, HX.out.1, HX.out.2, rfl⟩
end Go.Proofs.Ytlhmalmmligkkaa
