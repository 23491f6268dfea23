/-
  Contracts: madeOfBoth (with whatever function it is handed), Add.
-/
import Derived.Test.YtpllffekebkacaaScales
import Derived.Deep.AppendLies
import Derived.Deep.RegionLaw
namespace Go.Proofs.Ytpllffekebkacaa
open Go.RowKit
set_option linter.unusedVariables false
set_option maxRecDepth 1000000

theorem pair1_end {Bm g base n cap : Nat} {us : List Int} {z : Int} {wr w3 : World} (hgm : Bm ≠ g) (hO3 : w3.ownsRow base 2 1 (.slice (some ⟨g, 0, none⟩) (n + 1) cap) (n + 1) (us.map (Value.int .i64) ++ [.int .i64 z]))
    (hq : w3.heap[Bm]? = some (.cells #[.slice (some ⟨g, 0, none⟩) n cap] 22 (0, 0))) (hG : But [g] wr w3) :
    OwnK 2 base g (n + 1) cap (us ++ [z]) (w3.setCell ⟨Bm, 0, none⟩ (.slice (some ⟨g, 0, none⟩) (n + 1) cap)) ∧
    (w3.setCell ⟨Bm, 0, none⟩ (.slice (some ⟨g, 0, none⟩) (n + 1) cap)).heap[Bm]? = some (.cells #[.slice (some ⟨g, 0, none⟩) (n + 1) cap] 22 (0, 0)) ∧
    But [Bm, g] wr (w3.setCell ⟨Bm, 0, none⟩ (.slice (some ⟨g, 0, none⟩) (n + 1) cap)) := by
  refine ⟨?_, one_setCell hq, (hG.mono (by simp)).set (p := ⟨Bm, 0, none⟩) (by simp) _⟩
  unfold OwnK
  rw [List.map_append]
  exact ownsRow_setCell_other hO3 (by simp [Value.ownBlock]; exact fun e => hgm e.symm) _

/-- What stands in memory between the rounds of madeOfBoth: the function, the row, and the variable that holds it. -/
structure PairAt (w : World) (fn : Nat) (caps : Array Value) (B cap n : Nat) (us : List Int) (W : World) : Prop where
  old : Below w.heap.size w W
  fun_ : W.heap[B]? = some (.cells #[.func (.func fn) #[] caps] 46 (0, 0))
  var : W.heap[B + 2]? = some (.cells #[.slice (some ⟨B + 1, 0, none⟩) n cap] 22 (0, 0))
  own : OwnK 2 w.heap.size (B + 1) n cap us W
theorem PairAt.below {w : World} {fn : Nat} {caps : Array Value} {B cap n : Nat} {us : List Int} {W W' : World} (h : PairAt w fn caps B cap n us W) (hb : Below W.heap.size W W') : PairAt w fn caps B cap n us W' :=
  ⟨h.old.trans (hb.mono h.old.size), (hb.block _ (lt_of_block h.fun_)).trans h.fun_, (hb.block _ (lt_of_block h.var)).trans h.var, h.own.stays hb⟩
theorem PairAt.new (w : World) (fn : Nat) (caps : Array Value) (m : Nat) (hm : m ≤ 1000) :
    PairAt w fn caps w.heap.size m 0 [] (((w.alloc (.cells #[.func (.func fn) #[] caps] 46)).alloc (.cells (madeCells #[.int .i64 0] m) 2)).alloc (.cells #[.slice (some ⟨w.heap.size + 1, 0, none⟩) 0 m] 22)) := by
  have h1 := own_room 2 (w.alloc (.cells #[.func (.func fn) #[] caps] 46)) m (by omega)
  have e1 : (w.alloc (.cells #[.func (.func fn) #[] caps] 46)).heap.size = w.heap.size + 1 := by simp
  rw [e1] at h1
  refine ⟨?_, ?_, ?_, ?_⟩
  · exact (((Below.refl _ _).alloc (Nat.le_refl _) _).alloc (by simp) _).alloc (by simp; omega) _
  · rw [Below.heap_alloc _ _ _ (by simp; omega), Below.heap_alloc _ _ _ (by simp)]
    exact heap_alloc_new w _
  · have := heap_alloc_new ((w.alloc (.cells #[.func (.func fn) #[] caps] 46)).alloc (.cells (madeCells #[.int .i64 0] m) 2)) (.cells #[.slice (some ⟨w.heap.size + 1, 0, none⟩) 0 m] 22)
    simpa using this
  · exact (h1.low (by omega)).stays ((Below.refl _ _).alloc (Nat.le_refl _) _)
/-- What is made of the first k places of both. -/
def pairK (f : Int → Int → Int) (xs ys : List Int) : Nat → List Int
  | 0 => []
  | k + 1 => pairK f xs ys k ++ [f (xs[k]?.getD 0) (ys[k]?.getD 0)]
theorem pairK_len (f : Int → Int → Int) (xs ys : List Int) (k : Nat) : (pairK f xs ys k).length = k := by
  induction k with
  | zero => rfl
  | succ k ih => simp [pairK, ih]

end Go.Proofs.Ytpllffekebkacaa
