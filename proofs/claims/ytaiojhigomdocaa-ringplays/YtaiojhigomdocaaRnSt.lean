/-
  A ring in memory: its cells (RnB); made, has, New; lay adds a node's points.
-/
import Derived.Test.YtaiojhigomdocaaRnRow
import Derived.Test.YtaiojhigomdocaaRnMap
import Derived.Test.YtaiojhigomdocaaDerives
import Derived.Maps.AppendAt
namespace Go.Proofs.Ytaiojhigomdocaa
open Go.RowKit Go.Maps Go.Shelf Go.Sort
set_option linter.unusedVariables false
set_option maxRecDepth 1000000

/-- The ring's own cells. -/
def RnB (W : World) (B : Nat) (s : Int) (e M : Nat) (v : Value) : Prop := W.heap[B]? = some (.cells #[.int .u64 s, .int .i64 e, .map (some M), v] 58 (0, 0))
theorem RnB.same {W W' : World} {B : Nat} {s : Int} {e M : Nat} {v : Value} (h : RnB W B s e M v) (hb : W'.heap[B]? = W.heap[B]?) : RnB W' B s e M v := hb.trans h
theorem RnB.lt {W : World} {B : Nat} {s : Int} {e M : Nat} {v : Value} (h : RnB W B s e M v) : B < W.heap.size := lt_of_block h
theorem RnB.below {W W' : World} {B : Nat} {s : Int} {e M : Nat} {v : Value} (h : RnB W B s e M v) (hb : Below W.heap.size W W') : RnB W' B s e M v := h.same (hb.block _ h.lt)
theorem RnB.cells {W : World} {B : Nat} {s : Int} {e M : Nat} {v : Value} (h : RnB W B s e M v) : W.cell? ⟨B, 0, none⟩ = some (.int .u64 s) ∧ W.cell? ⟨B, 1, none⟩ = some (.int .i64 e) ∧ W.cell? ⟨B, 2, none⟩ = some (.map (some M)) ∧ W.cell? ⟨B, 3, none⟩ = some v :=
  ⟨by rw [cell_of_row _ _ _ _ _ _ h]; rfl, by rw [cell_of_row _ _ _ _ _ _ h]; rfl, by rw [cell_of_row _ _ _ _ _ _ h]; rfl, by rw [cell_of_row _ _ _ _ _ _ h]; rfl⟩
theorem RnB.frozen {W : World} {B : Nat} {s : Int} {e M : Nat} {v : Value} (h : RnB W B s e M v) (i : Nat) : W.frozen? ⟨B, i, none⟩ = false := frozen_of_row _ _ i _ _ h
theorem RnB.set {W : World} {B : Nat} {s : Int} {e M : Nat} {v : Value} (h : RnB W B s e M v) (u : Value) : RnB (W.setCell ⟨B, 3, none⟩ u) B s e M u := row_set (k := 3) (u := u) h
/-- The points' memory is not the ring's own. -/
theorem RnB.far {W : World} {B : Nat} {s : Int} {e M base : Nat} {v u : Value} {P : List (Int × Int)} (h : RnB W B s e M v) (hp : PtAt base W u P) {b : Nat} (hb : u.ownBlock = some b) : b ≠ B := fun e => by
  obtain ⟨cur, hc⟩ := hp.blk hb
  rw [e, show W.heap[B]? = _ from h] at hc
  simp at hc
theorem made_yes {W : World} {B e : Nat} (h : W.cell? ⟨B, 1, none⟩ = some (.int .i64 e)) (he : 1 ≤ e) : Calls Try.prog 24 #[.pointer (some ⟨B, 0, none⟩)] W fun r w' => r = .returned (.bool true) ∧ w' = W := by
  have h1 : (0 : Int) < (e : Int) := by omega
  have h2 : decide (0 < e) = true := decide_eq_true (by omega)
  have h3 : 0 < e := by omega
  go_enter Try.func24, Try.ntmps24
  go_wp2
  go_ret
  exact ⟨rfl, rfl⟩
theorem made_zero {W : World} {B : Nat} (h : W.cell? ⟨B, 1, none⟩ = some (.int .i64 0)) : Calls Try.prog 24 #[.pointer (some ⟨B, 0, none⟩)] W fun r w' => r = .returned (.bool false) ∧ w' = W := by
  go_enter Try.func24, Try.ntmps24
  go_wp2
  go_ret
  exact ⟨rfl, rfl⟩
theorem made_nil (W : World) : Calls Try.prog 24 #[.pointer none] W fun r w' => r = .returned (.bool false) ∧ w' = W := by
  go_enter Try.func24, Try.ntmps24
  go_wp2
  go_ret
  exact ⟨rfl, rfl⟩
theorem Rs_inv {v : Value} {y : DataW Unit × List MemPlace} (h : Rs v = some y) : v = .agg #[] := by
  cases v <;> simp [Rs] at h
  rename_i xs
  rw [h.1]
theorem SmAt.look2 {W : World} {B : Nat} {L : List Int} (h : SmAt W B L) {x : Int} (hx : isU x) : (Instr.lookup 55 (.map (some B)) (.int .u64 x) true).run Try.prog W = .ok (.tuple #[.agg #[], .bool (decide (x ∈ L))]) W := by
  obtain ⟨D, h1, h2, _⟩ := h
  obtain ⟨u, ps, hr, hu⟩ := h1.look_ok alaw Try.underlying55 (szero W) (zd := .lit (.int .i64 0)) (zp := []) rfl (akey hx)
  rw [h2 x hx] at hr
  rw [hr, Rs_inv hu]
theorem has_any {W : World} {B : Nat} {s : Int} {e M : Nat} {v : Value} {L : List Int} (h : RnB W B s e M v) (hM : SmAt W M L) {x : Int} (hx : isU x) : Calls Try.prog 25 #[.pointer (some ⟨B, 0, none⟩), .int .u64 x] W fun r w' => r = .returned (.bool (decide (x ∈ L))) ∧ Hid (Below W.heap.size W w') := by
  have c2 := h.cells.2.2.1
  have hl := hM.look2 hx
  generalize decide (x ∈ L) = c at *
  have HB : Hid (∀ o : Obj, Below W.heap.size W (W.alloc o)) := fun o => (Below.refl _ _).alloc (Nat.le_refl _) o
  clear h hM
  go_enter Try.func25, Try.ntmps25
  go_wp2
  go_ret
  exact ⟨rfl, HB.out _⟩
/-- The points of a node. -/
def ptsOf (s : Int) (e : Nat) (x : Int) : List (Int × Int) := (List.range e).map fun k : Nat => (atZ (deriveZ s [x]) (k : Int), x)
theorem ptsOf_succ (s : Int) (k : Nat) (x : Int) : ptsOf s (k + 1) x = ptsOf s k x ++ [(atZ (deriveZ s [x]) k, x)] := by
  simp [ptsOf, List.range_succ]
theorem ptsOf_len (s : Int) (k : Nat) (x : Int) : (ptsOf s k x).length = k := by simp [ptsOf]
/-- What lay and lift turn. -/
def lyF (B : Nat) (v : Value) (k : Nat) : Prop := k = B ∨ v.ownBlock = some k
/-- While points are added. -/
def LyI (w : World) (B : Nat) (s : Int) (e M : Nat) (v : Value) (P : List (Int × Int)) (v' : Value) (W : World) : Prop :=
  RnB W B s e M v' ∧ PtAt 0 W v' P ∧ Fb (lyF B v) w W ∧ ∀ k, v'.ownBlock = some k → v.ownBlock = some k ∨ w.heap.size ≤ k
theorem LyI.drew {w W : World} {B : Nat} {s : Int} {e M : Nat} {v v' : Value} {P : List (Int × Int)} (h : LyI w B s e M v P v' W) : LyI w B s e M v P v' W.drew := ⟨h.1, h.2.1, h.2.2.1.drew, h.2.2.2⟩
theorem LyI.step {w W w2 : World} {B : Nat} {s : Int} {e M : Nat} {v v' : Value} {P : List (Int × Int)} (h : LyI w B s e M v P v' W) {p : Int × Int} {o : Obj} {g n cap : Nat} (hn : n = P.length)
    (h1 : w2.ownsRow 0 74 2 (.slice (some ⟨g, 0, none⟩) (n + 1) cap) (n + 1) (flatP P ++ [.int .u64 p.1, .int .u64 p.2])) (h2 : (W.alloc o).grownBy w2 v'.ownBlock) (h3 : v'.ownBlock = some g ∨ g = W.heap.size + 1) :
    LyI w B s e M v (P ++ [p]) (.slice (some ⟨g, 0, none⟩) (n + 1) cap) (w2.setCell ⟨B, 3, none⟩ (.slice (some ⟨g, 0, none⟩) (n + 1) cap)) ∧ RnB w2 B s e M v' := by
  subst hn
  obtain ⟨k1, k2, k3, k4⟩ := h
  have hba : Below W.heap.size W (W.alloc o) := (Below.refl _ _).alloc (Nat.le_refl _) o
  have hlt : B < (W.alloc o).heap.size := by have := k1.lt; simp; omega
  have hB2 : RnB w2 B s e M v' := (k1.below hba).same (h2.block B hlt fun e => k1.far k2 e.symm rfl)
  have hf2 : Fb (lyF B v) w w2 := (k3.below hba).trans (G := fun k => v'.ownBlock = some k) ⟨h2.os, h2.tape, h2.output, h2.size, fun k hk hn => h2.block k hk fun e => hn e.symm⟩ fun k hk => (k4 k hk).elim (fun h => .inl (.inr h)) .inr
  refine ⟨⟨hB2.set _, ?_, hf2.trans (Fb.set (F := lyF B v) (.inl rfl) _) fun k hk => .inl hk, fun k hk => ?_⟩, hB2⟩
  · have hp : PtAt 0 w2 (.slice (some ⟨g, 0, none⟩) (P.length + 1) cap) (P ++ [p]) := by
      unfold PtAt
      rw [flatP_app, List.length_append]
      exact h1
    exact hp.same fun b hb => Below.heap_setCell _ _ _ _ (hB2.far hp hb)
  · obtain rfl : g = k := by simpa [Value.ownBlock] using hk
    rcases h3 with h3 | h3
    · exact k4 g h3
    · exact .inr (by have := k3.size; omega)
theorem Try.infoPt : (Try.prog.info? 74).map (fun i => (i.zero, i.size, i.bytes)) = some (some (.agg #[.int .u64 0, .int .u64 0]), 2, 16) := by kernel_rfl
set_option maxHeartbeats 2000000 in
theorem lay_any {W : World} {B : Nat} {s : Int} {e M : Nat} {v : Value} {P : List (Int × Int)} (h1 : RnB W B s e M v) (h2 : PtAt 0 W v P) (he : e ≤ 64) (hn : P.length ≤ 5000) (x : Int) :
    Calls Try.prog 28 #[.pointer (some ⟨B, 0, none⟩), .int .u64 x] W fun r w' => r = .returned (.tuple #[]) ∧ Hid (∃ v', LyI W B s e M v (srtP (P ++ ptsOf s e x)) v' w') := by
  obtain ⟨sd, Hsd⟩ : ∃ sd, Hid (deriveZ s [x] = sd) := ⟨_, rfl⟩
  obtain ⟨i0, hi, hz0, hz1, hz2⟩ := Go.info_parts Try.infoPt
  have c0 := h1.cells.1
  have HB0 : Hid (∀ o : Obj, LyI W B s e M v P v (W.alloc o)) := fun o =>
    have hb : Below W.heap.size W (W.alloc o) := (Below.refl _ _).alloc (Nat.le_refl _) o
    ⟨h1.below hb, h2.same fun b hb2 => by
      obtain ⟨cur, hc⟩ := h2.blk hb2
      exact hb.block b (lt_of_block hc), Fb.of hb, fun k hk => .inl hk⟩
  have hD : ∀ o : Value, o = .int .u64 x → Calls Try.prog 40 #[.int .u64 s, .slice (some ⟨W.heap.size, 0, none⟩) 1 1] (W.alloc (.cells #[o] 22)) fun e w' => e = .returned (.int .u64 sd) ∧ w' = W.alloc (.cells #[o] 22) := fun o ho => by
    subst ho
    rw [← Hsd.out]
    refine derive_any s (some ⟨W.heap.size, 0, none⟩) 1 1 [x] _ ?_ (by omega)
    refine ⟨rfl, Nat.le_refl _, by omega, (fun e => by cases e), fun i hi => ⟨W.heap.size, 0, rfl, ?_⟩⟩
    obtain rfl : i = 0 := by omega
    rw [cell_of_row _ _ _ _ _ _ (heap_alloc_new W _)]
    rfl
  replace hD := hD _ rfl
  clear h1 h2
  go_enter Try.func28, Try.ntmps28
  go_wp2_with fail
  refine hD.mono ?_
  rintro r w1 ⟨rfl, rfl⟩
  have HL0 := hid (HB0.out (.cells #[.int .u64 x] 22))
  generalize W.alloc (.cells #[.int .u64 x] 22) = w1 at *
  clear hD HB0 c0
  have c1 := HL0.out.1.cells.2.1
  go_wp2_with fail
  go_loopw [17] (fun z W' => ∃ (k : Nat) (v' : Value), k ≤ e ∧ z = .int .i64 k ∧ Hid (LyI W B s e M v (P ++ ptsOf s k x) v' W')) (fun z _ => e - (intOf z).toNat)
  case atStart => exact ⟨0, v, by omega, rfl, by simpa [ptsOf] using HL0⟩
  case round =>
  obtain ⟨k, v1, hk, rfl, HL⟩ := hrel
  rename World => w2
  clear HL0 c1
  by_cases hke : k < e
  · have g1 : (k : Int) < (e : Int) := by omega
    have hwk : IntKind.u64.wrap (k : Int) = (k : Int) := by rw [IntKind.wrap_u64]; omega
    obtain ⟨at1', Hat⟩ : ∃ a, Hid (atZ sd (k : Int) = a) := ⟨_, rfl⟩
    have hA := fun W : World => at_any sd (k : Int) W
    rw [Hat.out] at hA
    have HA : Hid (∀ W : World, Calls Try.prog 41 (#[.int .u64 sd, .int .u64 (k : Int)] ++ #[]) W fun e w' => e = .returned (.int .u64 at1') ∧ w' = W) := by
      intro W
      exact hA W
    obtain ⟨n, Hn⟩ : ∃ n, Hid ((P ++ ptsOf s k x).length = n) := ⟨_, rfl⟩
    have hn2 : n ≤ 6000 := by rw [← Hn.out, List.length_append, ptsOf_len]; omega
    have HK : Hid (∀ W' : World, Below w2.heap.size w2 W' → W'.cell? ⟨B, 3, none⟩ = some v1) := fun W' hb => (HL.out.1.below hb).cells.2.2.2
    have HV := hid (Below.refl w2.heap.size w2)
    have HVd : Hid (Below w2.heap.size w2 w2.drew) := (Below.refl _ _).drew
    have HVa := hid fun (o : Obj) => ((Below.refl w2.heap.size w2).alloc (Nat.le_refl _) o).drew
    have HO : Hid (∀ o : Obj, (w2.alloc o).drew.ownsRow 0 74 2 v1 n (flatP (P ++ ptsOf s k x))) := fun o => by
      rw [← Hn.out]
      exact HL.out.2.1.same fun b hb => by
        obtain ⟨cur, hc⟩ := HL.out.2.1.blk hb
        exact Below.heap_alloc _ _ _ (lt_of_block hc)
    have HNw : Hid (∀ j u, [Value.int .u64 at1', Value.int .u64 x][j]? = some u → (w2.alloc (.cells #[.int .u64 at1', .int .u64 x] 74)).drew.cell? ((⟨w2.heap.size, 0, none⟩ : Addr).add j) = some u) :=
      World.news_of_block (cs := #[.int .u64 at1', .int .u64 x]) (heap_alloc_new w2 _ : (w2.alloc (.cells #[.int .u64 at1', .int .u64 x] 74)).drew.heap[w2.heap.size]? = some (.cells #[.int .u64 at1', .int .u64 x] 74 (0, 0)))
    have HSt : Hid (∀ (w3 : World) (g cap : Nat), w3.ownsRow 0 74 2 (.slice (some ⟨g, 0, none⟩) (n + 1) cap) (n + 1) (flatP (P ++ ptsOf s k x) ++ [.int .u64 at1', .int .u64 x]) → (w2.alloc (.cells #[.int .u64 at1', .int .u64 x] 74)).drew.grownBy w3 v1.ownBlock → (v1.ownBlock = some g ∨ g = (w2.alloc (.cells #[.int .u64 at1', .int .u64 x] 74)).drew.heap.size) →
        LyI W B s e M v (P ++ ptsOf s (k + 1) x) (.slice (some ⟨g, 0, none⟩) (n + 1) cap) (w3.setCell ⟨B, 3, none⟩ (.slice (some ⟨g, 0, none⟩) (n + 1) cap)) ∧ RnB w3 B s e M v1) := by
      intro w3 g cap q1 q2 q3
      have := LyI.step (o := .cells #[.int .u64 at1', .int .u64 x] 74) HL.out.drew (p := (at1', x)) (g := g) (n := n) (cap := cap) (w2 := w3) Hn.out.symm q1 q2 (q3.imp id fun h => by rw [h]; show (w2.alloc _).heap.size = _; rw [World.size_alloc]; rfl)
      rw [ptsOf_succ, Hsd.out, Hat.out, ← List.append_assoc]
      exact this
    clear HL Hn hA Hat Hsd
    go_wp2_with fail
    have c3a := HK.out _ HV.out
    have c3b := fun o : Obj => HK.out _ (HVa.out o)
    have hE : ∀ args w, (callFunc 41 args).run Try.prog w = .ok (.enter 41 args) w := enters_of Try.func41 (by kernel_rfl) rfl
    go_region_law
      (first
        | (refine step_call2 rfl 28 rfl (.func 41) (.tmp 25) (.tmp 27) 22 22 rfl 41 #[] (by first | (simp [Act.eval]; done) | (simp [Act.eval, Act.put]; done)) hE (.int .u64 sd) (.int .u64 (k : Int)) (by first | (simp [Act.eval]; done) | (simp [Act.eval, Act.put]; done)) (by first | (simp [Act.eval]; done) | (simp [Act.eval, Act.put]; done)) (.int .u64 at1') (fun w' => w' = w2.drew) (HA.out w2.drew) ?_; rintro w' rfl)
        | (refine step_append_lies _ rfl (.tmp 24) (.tmp 31) 56 rfl 0 74 i0 (.agg #[.int .u64 0, .int .u64 0]) 2 16 Try.underlying56 hi hz0 hz1 hz2 rfl (by decide) v1 n _ (by first | (simp [Act.eval]; done) | (simp [Act.eval, Act.put]; done)) (HO.out _) ⟨w2.heap.size, 0, none⟩ 1 1 [.int .u64 at1', .int .u64 x] (by first | (simp [Act.eval]; done) | (simp [Act.eval, Act.put]; done)) rfl HNw.out (by simp [Value.oneCell']) (by omega) (by unfold maxLen; omega) (by omega) (Nat.zero_le _) _ rfl ?_; intro g cap w3 q1 q2 q3 q4; have HSt3 := hid (HSt.out w3 g cap q1 q2 q3); have HK3 := hid HSt3.out.2.cells.2.2.2; have c3 := HSt3.out.2.cells.2.2.2; have f3 := HSt3.out.2.frozen 3; clear q1 q2 q3 q4))
    all_goals
      have HN := hid HSt3.out.1
      clear HSt3 HK3 c3 f3 HSt HO HNw HK HV HVd HVa c3a c3b
      go_wp2_with fail
      go_round
      case rel => exact ⟨k + 1, _, by omega, by go_num, HN⟩
      case measure => simp [intOf]; omega
  · have g1 : ¬ (k : Int) < (e : Int) := by omega
    obtain rfl : k = e := by omega
    have c3 := HL.out.1.cells.2.2.2
    have hl : (P ++ ptsOf s k x).length ≤ 100000 := by rw [List.length_append, ptsOf_len]; omega
    have hS := usortf HL.out.2.1 hl
    go_wp2_with fail
    refine hS.mono ?_
    rintro r w3 ⟨rfl, H3⟩
    clear hS
    have HF : Hid (LyI W B s k M v (srtP (P ++ ptsOf s k x)) v1 w3) := by
      obtain ⟨k1, k2, k3, k4⟩ := HL.out
      obtain ⟨q1, q2⟩ := H3.out
      exact ⟨k1.same (q2.block B k1.lt fun e => k1.far k2 e rfl), q1, k3.trans q2 fun j hj => (k4 j hj).elim (fun h => .inl (.inr h)) .inr, k4⟩
    clear HL H3 c3
    go_wp2_with fail
    go_end0
    exact ⟨rfl, ⟨v1, HF.out⟩⟩
end Go.Proofs.Ytaiojhigomdocaa
