/-
  A range over those (rfT); Forget.
-/
import Derived.Test.YtdchoegaindnbaaPtTr
namespace Go.Proofs.Ytdchoegaindnbaa
open Go.RowKit Go.Maps Go.Shelf
set_option linter.unusedVariables false
set_option maxRecDepth 1000000

theorem those_any (B fi : Nat) (caps : Array Value) (W : World) : Calls Try.prog 27 #[.pointer (some ⟨B, 0, none⟩), .func (.func fi) #[] caps] W fun e w' => e = .returned (.func (.func 40) #[] #[.pointer (some ⟨W.heap.size, 0, none⟩), .pointer (some ⟨W.heap.size + 1, 0, none⟩)]) ∧ w' = (W.alloc (.cells #[.pointer (some ⟨B, 0, none⟩)] 23)).alloc (.cells #[.func (.func fi) #[] caps] 60) := by
  go_enter Try.func27, Try.ntmps27
  go_wp2
  go_ret
  exact ⟨rfl, rfl⟩
/-- 'for m := range t.those(is) { .. }'. -/
theorem rfT {n : Nat} {g : Operand} {ps : Array Tmp} {assign body : Code} {Q : Exit → Act → World → Prop} {a : Act} {w : World} (Bt Bi B room size M : Nat) (time : Int) (fi : Nat) (caps : Array Value) (p : Mk → Bool) (L : List Mk) (hn : 3 ≤ n)
    (hg : a.eval g = .func (.func 40) #[] #[.pointer (some ⟨Bt, 0, none⟩), .pointer (some ⟨Bi, 0, none⟩)]) (hps : ps.size = 1)
    (hent : ∀ args w, (callFunc fi args).run Try.prog w = .ok (.enter fi args) w)
    (I : List Mk → World → Prop) (hI : ∀ s W W', I s W → w.heap.size ≤ W.heap.size → Below w.heap.size W W' → I s W') (hIs : ∀ s W, I s W → w.heap.size ≤ W.heap.size) (h0 : I [] w)
    (hbt : w.cell? ⟨Bt, 0, none⟩ = some (.pointer (some ⟨B, 0, none⟩))) (hbi : ∀ pre W, I pre W → W.cell? ⟨Bi, 0, none⟩ = some (.func (.func fi) #[] caps))
    (his : ∀ pre W, I pre W → ∀ m ∈ L, m ∉ pre → Calls Try.prog fi (#[.pointer (some ⟨m.blk, 0, none⟩)] ++ caps) W fun e w' => e = .returned (.bool (p m)) ∧ ∃ q, w' = W.drewN q)
    (hT : TrB w B room size M time) (hP : PmAt w M L) (a₁ : Mk → Act)
    (hassign : ∀ (l : Nat) (x : Mk) (W : World) (K : Act → World → Prop), K (a₁ x) W →
      assign.wpIn (Fence.wide.inRound l) (n - 1 - 1) Try.prog (Exit.then K (fun _ _ _ => False)) { tmps := (ps.zip #[.pointer (some ⟨x.blk, 0, none⟩)]).foldl (fun t (p, v) => t.setIfInBounds p v) a.tmps, defers := [] } W)
    (hbody : ∀ (l : Nat) (pre : List Mk) (x : Mk) (W : World), I pre W → (x ∈ L ∧ p x = true ∧ x ∉ pre) → body.wpIn (Fence.wide.inRound l) (n - 1 - 1) Try.prog (Exit.then (fun _ W' => KeepsFrom w.heap.size W W' ∧ Kx M x W W' ∧ I (pre ++ [x]) W') (fun _ _ _ => False)) (a₁ x) W)
    (hdone : ∀ (D : Nat) (xs : List Mk) (W : World), w.heap.size ≤ D → xs.Perm (L.filter p) → I xs W → W.heap[D]? = some (.deferred (some [])) → Q .normal { a with defers := { target := .collected D, args := #[] } :: a.defers } W) :
    (Code.rangeFunc g ps assign body).wpIn Fence.wide n Try.prog Q a w := by
  refine rfX (M := M) rfl (by omega) hg trivial (enters_of Try.func40 (by kernel_rfl) rfl) hps I ?_ h0 (fun xs => xs.Perm (L.filter p)) (fun pre x => x ∈ L ∧ p x = true ∧ x ∉ pre) ?_ a₁ hassign hbody hdone
  · intro s W W' row hs hg' hr
    have hsz := hIs s W hs
    refine hI s W W' hs hsz ⟨hg'.os, hg'.tape, hg'.output, hg'.size, fun k hk => hg'.block k (by omega) fun e => ?_⟩
    have := (hr k e.symm).1
    omega
  · intro l J W hb hJ hJI hY hJ0
    exact those1 (n - 1) l Bt Bi B room size M time fi caps p L J (by omega) hent (fun pre W' h => hbi pre W' (hJI pre W' h)) (fun pre W' h => his pre W' (hJI pre W' h)) hY W hJ ((hb.cell (World.block_lt_of_cell? _ _ hbt)).trans hbt) (hT.below hb) (hP.below hb) hJ0
end Go.Proofs.Ytdchoegaindnbaa
