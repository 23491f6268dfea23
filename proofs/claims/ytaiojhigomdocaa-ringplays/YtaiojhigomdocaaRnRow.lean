/-
  A row of points in memory (PtAt), sorted by slices.SortFunc.
-/
import Derived.Test.YtaiojhigomdocaaRnPt
namespace Go.Proofs.Ytaiojhigomdocaa
open Go.RowKit Go.Shelf Go.Sort
set_option linter.unusedVariables false
set_option maxRecDepth 1000000

/-- The points' cells in a row. -/
def flatP : List (Int × Int) → List Value
  | [] => []
  | p :: r => .int .u64 p.1 :: .int .u64 p.2 :: flatP r
theorem flatP_len : ∀ P : List (Int × Int), (flatP P).length = P.length * 2
  | [] => rfl
  | p :: r => by simp only [flatP, List.length_cons, flatP_len r]; omega
theorem flatP_app : ∀ P Q : List (Int × Int), flatP (P ++ Q) = flatP P ++ flatP Q
  | [], Q => rfl
  | p :: r, Q => by simp only [List.cons_append, flatP, flatP_app r Q]
theorem flatP_get : ∀ (P : List (Int × Int)) (i : Nat) (p : Int × Int), P[i]? = some p → (flatP P)[i * 2]? = some (.int .u64 p.1) ∧ (flatP P)[i * 2 + 1]? = some (.int .u64 p.2)
  | [], i, p, h => by simp at h
  | q :: r, 0, p, h => by simp at h; subst h; exact ⟨rfl, rfl⟩
  | q :: r, i + 1, p, h => by
    have := flatP_get r i p (by simpa using h)
    rw [show (i + 1) * 2 = i * 2 + 1 + 1 by omega]
    simpa [flatP] using this
theorem flatP_at (P : List (Int × Int)) (t : Nat) (h : t < P.length * 2) : (flatP P)[t]? = some ((encPt P.toArray[t / 2]!)[t % 2]!) := by
  obtain ⟨i, hi⟩ : ∃ i, t = i * 2 ∨ t = i * 2 + 1 := ⟨t / 2, by omega⟩
  have hl : i < P.length := by omega
  obtain ⟨h0, h1⟩ := flatP_get P i P[i] (List.getElem?_eq_getElem hl)
  have he : P.toArray[i]! = P[i] := by simp [hl]
  rcases hi with rfl | rfl
  · rw [show i * 2 / 2 = i by omega, show i * 2 % 2 = 0 by omega, he]
    exact h0
  · rw [show (i * 2 + 1) / 2 = i by omega, show (i * 2 + 1) % 2 = 1 by omega, he]
    exact h1
/-- The slice's cells hold the points P, in memory from base on. -/
def PtAt (base : Nat) (W : World) (v : Value) (P : List (Int × Int)) : Prop := W.ownsRow base 74 2 v P.length (flatP P)
theorem PtAt.nil (base : Nat) (W : World) : PtAt base W (.slice none 0 0) [] := World.ownsRow_nil _ _ _ _
theorem PtAt.same {base : Nat} {W W' : World} {v : Value} {P : List (Int × Int)} (h : PtAt base W v P) (hb : ∀ b, v.ownBlock = some b → W'.heap[b]? = W.heap[b]?) : PtAt base W' v P := own_blk h hb
theorem PtAt.blk {base : Nat} {W : World} {v : Value} {P : List (Int × Int)} (h : PtAt base W v P) {b : Nat} (hb : v.ownBlock = some b) : ∃ cur, W.heap[b]? = some (.cells cur 74 (0, 0)) := by
  rcases id h.2 with ⟨hv, _⟩ | ⟨g, cap, cur, hv, _, hg, _⟩
  · rw [hv] at hb; cases hb
  · rw [hv] at hb; cases hb; exact ⟨cur, hg⟩
theorem PtAt.isSl {base : Nat} {W : World} {v : Value} {P : List (Int × Int)} (h : PtAt base W v P) : (v = .slice none 0 0 ∧ P = []) ∨ ∃ g cap, v = .slice (some ⟨g, 0, none⟩) P.length cap ∧ base ≤ g ∧ g < W.heap.size ∧ P.length ≤ cap := by
  rcases id h.2 with ⟨hv, h0⟩ | ⟨g, cap, cur, hv, hB, hg, h1, _⟩
  · exact .inl ⟨hv, List.length_eq_zero_iff.1 h0⟩
  · exact .inr ⟨g, cap, hv, hB, lt_of_block hg, h1⟩
theorem PtAt.cell {base : Nat} {W : World} {g n cap : Nat} {P : List (Int × Int)} (h : PtAt base W (.slice (some ⟨g, 0, none⟩) n cap) P) {t : Nat} {u : Value} (ht : (flatP P)[t]? = some u) : W.cell? ⟨g, t, none⟩ = some u := by
  rcases id h.2 with ⟨hv, h0⟩ | ⟨g', cap', cur, hv, hB, hg, h1, h2, h3, h4⟩
  · cases hv
  · cases hv
    rw [cell_of_row _ _ _ _ _ _ hg, ← Array.getElem?_toList]
    have hlt : t < P.length * 2 := by
      rw [← flatP_len]
      rcases Nat.lt_or_ge t (flatP P).length with h | h
      · exact h
      · rw [List.getElem?_eq_none h] at ht; cases ht
    rw [← List.getElem?_take_of_lt hlt, h4]
    exact ht
theorem PtAt.frozen {base : Nat} {W : World} {g n cap : Nat} {P : List (Int × Int)} (h : PtAt base W (.slice (some ⟨g, 0, none⟩) n cap) P) (t : Nat) : W.frozen? ⟨g, t, none⟩ = false := by
  rcases id h.2 with ⟨hv, h0⟩ | ⟨g', cap', cur, hv, hB, hg, h1, h2, h3, h4⟩
  · cases hv
  · cases hv
    exact frozen_of_row _ _ t _ _ hg
theorem PtAt.holds {base : Nat} {W : World} {g n cap : Nat} {P : List (Int × Int)} (h : PtAt base W (.slice (some ⟨g, 0, none⟩) n cap) P) : HoldsK encPt 2 W g 0 P.toArray := by
  intro j hj
  have hj' : j < P.length * 2 := by simpa [flatK] using hj
  rw [Nat.zero_add]
  refine ⟨?_, h.frozen j⟩
  rw [get_flatK _ _ _ _ (by simpa using hj')]
  exact h.cell (flatP_at P j hj')
/-- In the points' order. -/
def srtP (P : List (Int × Int)) : List (Int × Int) := P.mergeSort fun x y => !(ltOf cfZ) y x
theorem srtP_len (P : List (Int × Int)) : (srtP P).length = P.length := List.length_mergeSort P
theorem heapK {W : World} {g m : Nat} {os : Array Obj} {cur : Array Value} {e : TypeId} {fr : Nat × Nat} (d : Array Value) (hb : W.heap[g]? = some (.cells cur e fr)) :
    (grow (putRow id (Sort.ahead W m) g 0 d) os).heap[g]? = some (.cells (putCells id 0 d cur) e fr) := by
  have hg : g < W.heap.size := lt_of_block hb
  show ((putRow id (Sort.ahead W m) g 0 d).heap ++ os)[g]? = _
  rw [Array.getElem?_append_left (by simpa [putRow, mapBlock, Sort.ahead] using hg)]
  simp [putRow, mapBlock, Sort.ahead, Array.getElem?_modify, hb, onCells]
theorem fbK {W : World} {g m : Nat} {os : Array Obj} (d : Array Value) : Fb (at1 g) W (grow (putRow id (Sort.ahead W m) g 0 d) os) := by
  refine ⟨rfl, rfl, rfl, by simp [grow, putRow, mapBlock, Sort.ahead], fun k hk hne => ?_⟩
  show ((putRow id (Sort.ahead W m) g 0 d).heap ++ os)[k]? = _
  rw [Array.getElem?_append_left (by simpa [putRow, mapBlock, Sort.ahead] using hk)]
  have : g ≠ k := fun e => hne e.symm
  simp [putRow, mapBlock, Sort.ahead, Array.getElem?_modify, this]
theorem PtAt.sorted {base : Nat} {W : World} {g n cap m : Nat} {os : Array Obj} {P Q : List (Int × Int)} (h : PtAt base W (.slice (some ⟨g, 0, none⟩) n cap) P) (hl : Q.length = P.length) :
    PtAt base (sortWorldK encPt 2 W g 0 m Q.toArray os) (.slice (some ⟨g, 0, none⟩) n cap) Q := by
  rcases id h.2 with ⟨hv, h0⟩ | ⟨g', cap', cur, hv, hB, hg, h1, h2, h3, h4⟩
  · cases hv
  · cases hv
    refine ⟨by rw [flatP_len], .inr ⟨g, cap, _, by rw [hl], hB, heapK _ hg, by rw [hl]; exact h1, h2, by simpa [putCells] using h3, ?_⟩⟩
    apply List.ext_getElem?
    intro j
    by_cases hj : j < Q.length * 2
    · rw [List.getElem?_take_of_lt hj, Array.getElem?_toList, flatP_at Q j hj]
      have hjc : j < cur.size := by omega
      have hjf : j < (flatK encPt 2 Q.toArray).size := by simpa [flatK] using hj
      simp only [putCells, Array.getElem?_mapIdx, Array.getElem?_eq_getElem hjc, Option.map_some, Nat.zero_le, Nat.zero_add, true_and, if_pos hjf, Nat.sub_zero, id]
      rw [get_flatK _ _ _ _ (by simpa using hj)]
    · rw [List.getElem?_take_eq_none (by omega), List.getElem?_eq_none (by rw [flatP_len]; omega)]
theorem Try.aggPt (w : World) : (isAgg 74).run Try.prog w = .ok true w := by kernel_rfl
theorem Try.sizePt (w : World) : (Go.sizeOf 74).run Try.prog w = .ok 2 w := by kernel_rfl
theorem usortf {base : Nat} {W : World} {v : Value} {P : List (Int × Int)} (h : PtAt base W v P) (hn : P.length ≤ 100000) :
    Calls Try.prog 42 #[v, .func (.func 43) #[] #[]] W fun e w' => e = .returned (.tuple #[]) ∧ Hid (PtAt base w' v (srtP P) ∧ Fb (fun k => v.ownBlock = some k) W w') := by
  rcases h.isSl with ⟨rfl, rfl⟩ | ⟨g, cap, rfl, hB, hlt, hc⟩
  · refine (AnyF.slices_SortFunc_none Try.sortPt none 0 _ W).mono ?_
    rintro e w' ⟨rfl, rfl⟩
    exact ⟨rfl, by simpa [srtP] using PtAt.nil base w', Fb.refl _ _⟩
  · have hcon := AnyQ.slices_SortFunc_total Try.sortPt 2 Try.aggPt Try.sizePt encPt (fun _ => rfl) (fun x u hu => by simp [encPt] at hu; rcases hu with rfl | rfl <;> rfl) cfZ swoPt 43 #[] g 0 cap P.toArray W (enters_of Try.func43 (by kernel_rfl) rfl) (cmpPt _ _ _ _) h.holds hlt (by simp; omega) totPt
    change Calls Try.prog 42 _ _ _ at hcon
    rw [List.size_toArray] at hcon
    refine hcon.mono ?_
    rintro e w' ⟨rfl, m, os, rfl⟩
    refine ⟨rfl, h.sorted (srtP_len P), (fbK _).mono fun k hk => ?_⟩
    rw [show k = g from hk]
    rfl
end Go.Proofs.Ytaiojhigomdocaa
