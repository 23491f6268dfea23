/-
  The document's tree: what Put does, in rounds.
-/
import Derived.Test.YtdchoegaindnbaaRpTurn
namespace Go.Proofs.Ytdchoegaindnbaa
open Go.RowKit
set_option linter.unusedVariables false
set_option maxRecDepth 1000000

/-- The mark that goes, among the first k. -/
def oldM (qs : List Rk) (T : Int) : Nat → Int
  | 0 => -1
  | k + 1 => if decide ((rk qs k).used < T) && (decide (oldM qs T k < 0) || oldB (rk qs k) (rk qs (oldM qs T k).toNat)) then (k : Int) else oldM qs T k
theorem oldM_bd (qs : List Rk) (T : Int) (k : Nat) : -1 ≤ oldM qs T k ∧ oldM qs T k < k := by
  induction k with
  | zero => simp [oldM]
  | succ k ih =>
    simp only [oldM]
    split
    · omega
    · omega
/-- One round of Put. -/
def StepP (pg : Nat) (T x : Int) (t : List Int) (qs : List Rk) (c : Nat) (qs' : List Rk) (c' : Nat) : Prop :=
  (∃ p : Nat, plcM qs x t = p ∧ qs' = qs.set p ((rk qs p).at T) ∧ c' = c) ∨
  (plcM qs x t < 0 ∧ c' = c + 1 ∧ ((qs.length < pg ∧ ∃ q : Rk, q.toks = t ∧ q.rep = x ∧ q.used = T ∧ qs' = qs ++ [q]) ∨ (pg ≤ qs.length ∧ ∃ (o : Nat) (q : Rk), oldM qs T qs.length = o ∧ q.toks = t ∧ q.rep = x ∧ q.used = T ∧ qs' = qs.eraseIdx o ++ [q])))
/-- So many rounds. -/
def RunP (pg : Nat) (T x : Int) (ts : List Int) (sz : Nat) : Nat → List Rk → List Rk → Nat → Prop
  | 0, q0, q1, c => q1 = q0 ∧ c = 0
  | j + 1, q0, q1, c => ∃ q c', RunP pg T x ts sz j q0 q c' ∧ StepP pg T x (ts.take ((j + 1) * sz)) q c' q1 c
/-- What Put leaves. -/
def PutP (pg : Nat) (T x : Int) (ts : List Int) (sz : Nat) (q0 q1 : List Rk) (c : Nat) : Prop :=
  RunP pg T x ts sz (ts.length / sz) q0 q1 c ∨ ∃ j, j < ts.length / sz ∧ RunP pg T x ts sz j q0 q1 c ∧ plcM q1 x (ts.take ((j + 1) * sz)) < 0 ∧ pg ≤ q1.length ∧ oldM q1 T q1.length < 0
/-- Between the rounds of Put. -/
def PutW (w : World) (B pg sz : Nat) (tn : Int) (v : Value) (q0 qs : List Rk) (W : World) : Prop :=
  ∃ v', RtAt W B pg sz tn v' qs ∧ (∀ k, rtF B v' qs k → rtF B v q0 k ∨ w.heap.size ≤ k) ∧ (∀ b, v'.ownBlock = some b → v.ownBlock = some b ∨ w.heap.size ≤ b) ∧ Fb (rcF B v) w W
theorem PutW.below {w W W' : World} {B pg sz : Nat} {tn : Int} {v : Value} {q0 qs : List Rk} (h : PutW w B pg sz tn v q0 qs W) (hb : Below W.heap.size W W') : PutW w B pg sz tn v q0 qs W' := by
  obtain ⟨v', h1, h2, h3, h4⟩ := h
  exact ⟨v', h1.below hb, h2, h3, h4.below hb⟩
theorem PutW.step {w W W' : World} {B pg sz : Nat} {tn : Int} {v v1 v2 : Value} {q0 q1 q2 : List Rk} (kt : ∀ k, rtF B v1 q1 k → rtF B v q0 k ∨ w.heap.size ≤ k) (k1 : ∀ b, v1.ownBlock = some b → v.ownBlock = some b ∨ w.heap.size ≤ b) (k3 : Fb (rcF B v) w W) (h1 : RtAt W' B pg sz tn v2 q2) (h3 : Fb (rcF B v1) W W') (h4 : ∀ b, v2.ownBlock = some b → v1.ownBlock = some b ∨ W.heap.size ≤ b) (ht : ∀ q ∈ q2, ∀ p, q.ap = some p → (∃ y ∈ q1, y.ap = some p) ∨ w.heap.size ≤ p.block) : PutW w B pg sz tn v q0 q2 W' := by
  have hb : ∀ b, v2.ownBlock = some b → v.ownBlock = some b ∨ w.heap.size ≤ b := fun b hb => by
    rcases h4 b hb with h | h
    · exact k1 b h
    · exact .inr (Nat.le_trans k3.size h)
  refine ⟨v2, h1, fun k hk => ?_, hb, k3.trans h3 fun x hx => ?_⟩
  · rcases hk with (rfl | hk) | ⟨q, hq, p, hp, rfl⟩
    · exact .inl (.inl (.inl rfl))
    · exact (hb k hk).imp (fun h => .inl (.inr h)) id
    · rcases ht q hq p hp with ⟨y, hy, hyp⟩ | h
      · exact kt _ (.inr ⟨y, hy, p, hyp, rfl⟩)
      · exact .inr h
  · rcases hx with rfl | hx
    · exact .inl (.inl rfl)
    · rcases k1 x hx with h | h
      · exact .inl (.inr h)
      · exact .inr h
theorem set_ap {qs : List Rk} {k : Nat} (hk : k < qs.length) {T : Int} : ∀ q ∈ qs.set k ((rk qs k).at T), ∀ p, q.ap = some p → (∃ y ∈ qs, y.ap = some p) := fun q hq p hp => by
  rcases mem_set_of hq with hq | rfl
  · exact ⟨q, hq, hp⟩
  · exact ⟨_, rk_mem hk, hp⟩
end Go.Proofs.Ytdchoegaindnbaa
