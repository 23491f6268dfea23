/-
  A range over a function, where the body may strike the very entry of the map that came (rfX).
-/
import Derived.Test.YtdchoegaindnbaaPtMap
import Derived.RangeFuncNested
import Derived.RangeFuncBound
import Derived.RangeFuncCalls
import Derived.RangeFuncLeaves
import Derived.RangeFuncOne
import Derived.Shelf.AbstractIn
import Derived.Shelf.RegionOpen
import Derived.Sort.MapsRangeIn
import Derived.WalkKit
import Derived.OwnWalkIn
import Derived.TacticsInMore
import Derived.LoopNIn
import Derived.LoopIn
import Derived.RegionIn
import Derived.Maps.OwnIn
import Derived.Maps.AppendAt
namespace Go.Proofs.Ytdchoegaindnbaa
open Go.RowKit Go.Maps Go.Shelf
set_option linter.unusedVariables false
set_option maxRecDepth 1000000

/-- Of a loop over the map M that has come past the key of m, what a round keeps: the entries to come are there as they were. -/
def Kx (M : Nat) (m : Mk) (W W' : World) : Prop :=
  ∀ r n D left cnt, W.ranges Try.prog 9 Rp M r n D left cnt → left (kz m.nm) = false → ∃ D' cnt', W'.ranges Try.prog 9 Rp M r n D' left cnt' ∧ cnt' ≤ cnt ∧ ∀ kl, left kl = true → ∀ zd, D'.atKey kl zd = D.atKey kl zd
theorem Kx.refl (M : Nat) (m : Mk) (W : World) : Kx M m W W := fun r n D left cnt h _ => ⟨D, cnt, h, Nat.le_refl _, fun _ _ _ => rfl⟩
theorem Kx.trans {M : Nat} {m : Mk} {A B C : World} (h : Kx M m A B) (k : Kx M m B C) : Kx M m A C := fun r n D left cnt hr hl => by
  obtain ⟨D1, c1, h1, h2, h3⟩ := h r n D left cnt hr hl
  obtain ⟨D2, c2, k1, k2, k3⟩ := k r n D1 left c1 h1 hl
  exact ⟨D2, c2, k1, Nat.le_trans k2 h2, fun kl hk zd => (k3 kl hk zd).trans (h3 kl hk zd)⟩
/-- The map and every loop over it lie as they lay. -/
theorem Kx.keep {M : Nat} {m : Mk} {W W' : World} (hM : W'.heap[M]? = W.heap[M]?) (hI : ∀ (k : Nat) (o : Obj), W.heap[k]? = some o → o.isWalk = true → k ≠ M → (∀ a b c d, o = .mapIter a b c d → W'.heap[k]? = W.heap[k]?)) : Kx M m W W' := fun r n D left cnt h hl => by
  have hne := h.ne
  obtain ⟨es, clock, since, seen, c0, hb, F, hs, hD, hr, rest⟩ := h
  exact ⟨D, cnt, ⟨es, clock, since, seen, c0, hM.trans hb, F, hs, hD, (hI r _ hr rfl hne _ _ _ _ rfl).trans hr, rest⟩, Nat.le_refl _, fun _ _ _ => rfl⟩
theorem Kx.put {M : Nat} {m : Mk} {W : World} {l : Nat} {o : Loop} (h : W.heap[l]? = some (.loop o)) (o' : Obj) (hM : ∃ es clock, W.heap[M]? = some (.map es clock)) : Kx M m W (W.putObj l o') := by
  obtain ⟨es, clock, hM⟩ := hM
  refine Kx.keep (World.putObj_heap_other fun e => ?_) fun k x hk _ _ a b c d e => World.putObj_heap_other fun e2 => ?_
  · rw [e, h] at hM; cases hM
  · subst e2; rw [h] at hk; rw [e] at hk; cases hk
/-- One that has no loop under way is kept by all: what is kept is said of a map alone. -/
theorem Kx.isMap {M : Nat} {m : Mk} {W W' : World} (h : (∃ es clock, W.heap[M]? = some (.map es clock)) → Kx M m W W') : Kx M m W W' := fun r n D left cnt hr hl => by
  obtain ⟨es, clock, since, seen, c0, hb, _⟩ := id hr
  exact h ⟨es, clock, hb⟩ r n D left cnt hr hl
theorem Kx.put' {M : Nat} {m : Mk} {W : World} {l : Nat} {o : Loop} (h : W.heap[l]? = some (.loop o)) (o' : Obj) : Kx M m W (W.putObj l o') := Kx.isMap fun hM => Kx.put h o' hM
/-- The mark's own entry is struck. -/
theorem Kx.drop {M : Nat} {m : Mk} {W : World} (hm : m.ok) (ty : TypeId) : ∀ W', (Builtin.delete_ #[50, 9] ty #[.map (some M), .string (strOfNums m.nm)]).run Try.prog W = .ok (.tuple #[]) W' → Kx M m W W' := fun W' hW r n D left cnt h hl => by
  obtain ⟨w2, c2, hr, h2, h3, h4⟩ := h.drop slaw Try.underlying50 (kz_key hm.len) ty
  rw [hW] at hr
  obtain rfl : W' = w2 := by injection hr
  have e : (fun z : Lit => left z && !z.sameKey (kz m.nm)) = left := by
    funext z
    cases hz : left z with
    | false => rfl
    | true =>
      cases hs : z.sameKey (kz m.nm) with
      | false => rfl
      | true => rw [WideAt.sameKey_eq hs, hl] at hz; cases hz
  rw [e] at h2
  exact ⟨_, c2, h2, h3, fun kl hk zd => atKey_del_other (k := kz m.nm) (k' := kl) (fun e2 => by rw [e2, hl] at hk; cases hk) zd⟩
variable {F : Fence} {n : Nat}
/-- 'for m := range those(is) { body }', where no body leaves the loop. -/
theorem rfX {g : Operand} {ps : Array Tmp} {assign body : Code} {Q : Exit → Act → World → Prop} {a : Act} {w : World} {M : Nat}
    (hro : F.round = none) (h1 : 1 ≤ n) {gf : Nat} {lb : Array Value} (hg : a.eval g = .func (.func gf) #[] lb) (hFg : F.fn gf) (eg : ∀ args w, (callFunc gf args).run Try.prog w = .ok (.enter gf args) w) (hps : ps.size = 1)
    (I : List Mk → World → Prop) (hI : OwnFrom w.heap.size I) (h0 : I [] w) (S : List Mk → Prop) (Ok : List Mk → Mk → Prop)
    (hseq : ∀ (l : Nat) (J : List Mk → World → Prop) (W : World), Below w.heap.size w W → AbidesFrom W.heap.size J → (∀ pre W', J pre W' → I pre W') →
      (∀ pre x W1, J pre W1 → Ok pre x → YieldAt F (n - 1 - 1) Try.prog l #[.pointer (some ⟨x.blk, 0, none⟩)] W1 fun e W' => e = .returned (.bool true) ∧ J (pre ++ [x]) W' ∧ Kx M x W1 W') →
      J [] W → CallsIn F (n - 1) Try.prog gf (#[.func (.yield l) #[] #[]] ++ lb) W fun e W' => (∃ v, e = .returned v) ∧ ∃ xs, S xs ∧ J xs W')
    (a₁ : Mk → Act)
    (hassign : ∀ (l : Nat) (x : Mk) (W : World) (K : Act → World → Prop), K (a₁ x) W →
      assign.wpIn (F.inRound l) (n - 1 - 1) Try.prog (Exit.then K (fun _ _ _ => False)) { tmps := (ps.zip #[.pointer (some ⟨x.blk, 0, none⟩)]).foldl (fun t (p, v) => t.setIfInBounds p v) a.tmps, defers := [] } W)
    (hbody : ∀ (l : Nat) (pre : List Mk) (x : Mk) (W : World), I pre W → Ok pre x → body.wpIn (F.inRound l) (n - 1 - 1) Try.prog (Exit.then (fun _ W' => KeepsFrom w.heap.size W W' ∧ Kx M x W W' ∧ I (pre ++ [x]) W') (fun _ _ _ => False)) (a₁ x) W)
    (hdone : ∀ (D : Nat) (xs : List Mk) (W : World), w.heap.size ≤ D → S xs → I xs W → W.heap[D]? = some (.deferred (some [])) → Q .normal { a with defers := { target := .collected D, args := #[] } :: a.defers } W) :
    (Code.rangeFunc g ps assign body).wpIn F n Try.prog Q a w := by
  refine wpIn_rangeFunc fun fn hfn => ?_
  rw [hro]
  let rc : LoopState → Option Code → Loop := fun st pe => { state := st, pending := pe, fn, tmps := a.tmps, params := ps, assign, body, defers := w.heap.size }
  let W1 := (w.alloc (.deferred (some []))).alloc (.loop (rc .ready none))
  have hL1 : W1.heap[w.heap.size + 1]? = some (.loop (rc .ready none)) := by
    have := World.alloc_heap_new (w.alloc (.deferred (some []))) (.loop (rc .ready none)); rwa [World.size_alloc] at this
  have hK1 : W1.heap[w.heap.size]? = some (.deferred (some [])) := (Below.heap_alloc _ _ _ (by simp)).trans (World.alloc_heap_new w _)
  have hs1 : W1.heap.size = w.heap.size + 2 := by simp [W1]
  refine ⟨w.heap.size + 1, [{ target := .collected w.heap.size, args := #[] }], W1, { target := .fn (.func gf) lb, args := #[.func (.yield (w.heap.size + 1)) #[] #[]] }, W1, gf, #[.func (.yield (w.heap.size + 1)) #[] #[]] ++ lb, W1, run_enterLoop_outer _ _ _ _ _, ?_, ?_, ?_, fun _ => h1, ?_⟩
  · simp only [resolve, hg]
    simp [go_sem]
  · intro f' hf'; simp [Target.leads] at hf'; subst hf'; exact hFg
  · simp [invoke, go_sem, eg]
  refine (hseq (w.heap.size + 1) (fun pre W => I pre W ∧ W.heap[w.heap.size + 1]? = some (.loop (rc .ready none)) ∧ W.heap[w.heap.size]? = some (.deferred (some []))) W1 (((Below.refl _ w).alloc (Nat.le_refl _) _).alloc (by simp) _) ?_ (fun _ _ h => h.1) ?_ ⟨hI.alloc _ (hI.alloc _ h0), hL1, hK1⟩).mono ?_
  · rintro s A B row ⟨q1, q2, q3⟩ hg' hr
    refine ⟨hI s A B row q1 hg' fun r e => ?_, (grownBy_keeps hg' (fun r e => (hr r e).2) q2 rfl).trans q2, (grownBy_keeps hg' (fun r e => (hr r e).2) q3 rfl).trans q3⟩
    obtain ⟨k1, o, k2, k3⟩ := hr r e
    exact ⟨by omega, o, k2, Obj.not_cells_of_walk k3⟩
  · rintro pre x W ⟨hi, hl, hk⟩ hok
    have hlt : w.heap.size + 1 < W.heap.size := (Array.getElem?_eq_some_iff.1 hl).1
    refine ⟨fn, _, assign, body, run_yield hl (by simp [rc, hps]), roundIn_of_wpIn hfn (hassign _ x W _ ⟨_, run_beginRound hl rfl, ?_⟩)⟩
    have hl2 : (W.putObj (w.heap.size + 1) (.loop (rc .busy none))).heap[w.heap.size + 1]? = some (.loop (rc .busy none)) := World.putObj_heap_same hlt
    have hk2 : (W.putObj (w.heap.size + 1) (.loop (rc .busy none))).heap[w.heap.size]? = some (.deferred (some [])) := (World.putObj_heap_other (by omega)).trans hk
    refine wpIn_mono (hbody _ pre x _ (hI.putObj _ hi (by omega) hl rfl) hok) ?_
    rintro e a3 W3 hp
    cases e with
    | normal =>
      obtain ⟨hk3, hx3, hi3⟩ := hp
      have hl3 := hk3.same _ _ (by omega) hl2 rfl
      have hd3 := hk3.same _ _ (Nat.le_refl _) hk2 rfl
      exact ⟨_, _, run_endRound none hl3, rfl, ⟨hI.putObj _ hi3 (by omega) hl3 rfl, World.putObj_heap_same (Array.getElem?_eq_some_iff.1 hl3).1, (World.putObj_heap_other (by omega)).trans hd3⟩, ((Kx.put' hl _).trans hx3).trans (Kx.put' hl3 _)⟩
    | ret => exact hp.elim
    | exit id => exact hp.elim
    | goto t => exact hp.elim
    | panic ch => exact hp.elim
    | outgrown => exact hp.elim
  · rintro e W2 ⟨⟨v, rfl⟩, xs, hS, hi, hl, hk⟩
    exact ⟨none, _, run_endLoop hl (by simp [rc]), hdone _ xs _ (Nat.le_refl _) hS (hI.putObj _ hi (by omega) hl rfl) ((World.putObj_heap_other (by omega)).trans hk)⟩
end Go.Proofs.Ytdchoegaindnbaa
