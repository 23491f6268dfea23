/-
  Rows of marked candidates: of the call's own, read, appended to, sorted.
-/
import Derived.Test.YtmhpgkkaolcncaaRkSta
import Derived.Test.YtmhpgkkaolcncaaRkCmp
import Derived.Test.YtmhpgkkaolcncaaRkRs
namespace Go.Proofs.Ytmhpgkkaolcncaa
open Go.RowKit Go.Shelf Go.Sort
set_option linter.unusedVariables false
set_option maxRecDepth 1000000

def flatM (q : Wt) : List Cd → List Value
  | [] => []
  | c :: l => .int .u64 c.rep :: .int .i64 c.load :: .int .i64 c.known :: .bool c.bnd :: .int .i64 c.place :: .bool c.opn :: .int .i64 (markZ q c) :: flatM q l
theorem flatM_len (q : Wt) : ∀ l : List Cd, (flatM q l).length = l.length * 7
  | [] => rfl
  | c :: l => by simp [flatM, flatM_len q l]; omega
theorem flatM_app (q : Wt) : ∀ l m : List Cd, flatM q (l ++ m) = flatM q l ++ flatM q m
  | [], m => rfl
  | c :: l, m => by simp [flatM, flatM_app q l m]
theorem flatM_at (q : Wt) : ∀ (l : List Cd) (k j : Nat), k < l.length → j < 7 → (flatM q l)[k * 7 + j]? = (enM q (ck l k))[j]?
  | [], k, j, h, _ => by simp at h
  | c :: l, 0, j, h, hj => by
    have e : ck (c :: l) 0 = c := by simp [ck]
    rw [e]
    rcases j with _ | _ | _ | _ | _ | _ | _ | j
    all_goals first | rfl | (exfalso; omega)
  | c :: l, k + 1, j, h, hj => by
    have := flatM_at q l k j (by simpa using h) hj
    have e : ck (c :: l) (k + 1) = ck l k := by simp [ck]
    rw [e, show (k + 1) * 7 + j = (k * 7 + j) + 7 by omega]
    exact this
theorem flatM_get (q : Wt) (l : List Cd) (t : Nat) (h : t < l.length * 7) : (flatM q l)[t]? = some ((enM q (ck l (t / 7)))[t % 7]!) := by
  have := flatM_at q l (t / 7) (t % 7) (by omega) (by omega)
  rw [show t / 7 * 7 + t % 7 = t by omega] at this
  rw [this]
  have hj : t % 7 < 7 := by omega
  generalize t % 7 = j at *
  rcases j with _ | _ | _ | _ | _ | _ | _ | j
  all_goals first | rfl | (exfalso; omega)
theorem ck_arr (d : Array Cd) {i : Nat} (h : i < d.size) : d[i]! = ck d.toList i := by
  unfold ck
  rw [toList_get d h]
  rfl
theorem flatK_M (q : Wt) (d : Array Cd) : flatK (enM q) 7 d = (flatM q d.toList).toArray := by
  apply Array.ext_getElem?
  intro t
  by_cases h : t < d.size * 7
  · have h1 : t < (flatK (enM q) 7 d).size := by simpa using h
    rw [Array.getElem?_eq_getElem h1, ← getElem!_pos _ t h1, get_flatK _ _ _ _ h, List.getElem?_toArray, flatM_get q d.toList t (by simpa using h), ck_arr d (by omega)]
  · rw [Array.getElem?_eq_none (by simpa using h), List.getElem?_toArray, List.getElem?_eq_none (by rw [flatM_len]; simpa using h)]
theorem enM_one (q : Wt) (c : Cd) : ∀ u ∈ flatM q [c], u.oneCell' = true := by
  intro u hu
  simp only [flatM, List.mem_cons, List.not_mem_nil, or_false] at hu
  rcases hu with rfl | rfl | rfl | rfl | rfl | rfl | rfl <;> rfl
/-- A row of marked candidates of the call's own. -/
def OwM (q : Wt) (base : Nat) (W : World) (v : Value) (l : List Cd) : Prop := W.ownsRow base 51 7 v l.length (flatM q l)
theorem OwM.nil (q : Wt) (base : Nat) (W : World) : OwM q base W (.slice none 0 0) [] := World.ownsRow_nil _ _ _ _
/-- The slice reads as these marked candidates. -/
structure MsAt (q : Wt) (W : World) (a : Option Addr) (len cap : Nat) (l : List Cd) : Prop where
  size : l.length = len
  room : len ≤ cap
  most : cap ≤ 9223372036854775807
  cell : ∀ i, i < len → ∃ b, a = some ⟨b, 0, none⟩ ∧ ∀ j v, (enM q (ck l i))[j]? = some v → W.cell? ⟨b, i * 7 + j, none⟩ = some v
theorem MsAt.below {q : Wt} {W W' : World} {a : Option Addr} {len cap : Nat} {l : List Cd} (h : MsAt q W a len cap l) (hb : Below W.heap.size W W') : MsAt q W' a len cap l :=
  ⟨h.size, h.room, h.most, fun i hi => by
    obtain ⟨b, e, hc⟩ := h.cell i hi
    exact ⟨b, e, fun j v hv => (hb.cell (World.block_lt_of_cell? _ _ (hc j v hv))).trans (hc j v hv)⟩⟩
theorem MsAt.own {q : Wt} {base : Nat} {W : World} {a : Option Addr} {n cap : Nat} {l : List Cd} (h : OwM q base W (.slice a n cap) l) (hn : l.length = n) : MsAt q W a n cap l := by
  unfold OwM at h
  rw [hn] at h
  rcases id h.2 with ⟨hv, h0⟩ | ⟨g, cap', cur, hv, hb, hg, hnc, hm, _⟩
  · cases hv
    exact ⟨hn, Nat.le_refl _, by omega, fun i hi => by omega⟩
  · cases hv
    refine ⟨hn, hnc, by unfold maxLen at hm; omega, fun i hi => ⟨g, rfl, fun j v hv => ?_⟩⟩
    have hj : j < 7 := by
      have := (List.getElem?_eq_some_iff.1 hv).1
      simpa [enM] using this
    rw [World.ownsRow.cellAt h _ (by omega), flatM_at q l i j (by omega) hj]
    exact hv
theorem Try.infoM : (Try.prog.info? 51).map (fun i => (i.zero, i.size, i.bytes)) = some (some (.agg #[.int .u64 0, .int .i64 0, .int .i64 0, .bool false, .int .i64 0, .bool false, .int .i64 0]), 7, 56) := by kernel_rfl
/-- An append of one to such a row, as an equation. -/
theorem appM {q : Wt} {base : Nat} {w : World} {v : Value} {l : List Cd} (h : OwM q base w v l) (hl : l.length ≤ 60) (hb : base ≤ w.heap.size) (c : Cd) (ty : TypeId) :
    ∃ v' w', (Builtin.append_ #[48, 48] ty #[v, .slice (some ⟨w.heap.size, 0, none⟩) 1 1]).run Try.prog (w.alloc (.cells #[.int .u64 c.rep, .int .i64 c.load, .int .i64 c.known, .bool c.bnd, .int .i64 c.place, .bool c.opn, .int .i64 (markZ q c)] 51)) = .ok v' w' ∧ OwM q base w' v' (l ++ [c]) ∧ Below base w w' ∧ ∀ k, k < w.heap.size → v.ownBlock ≠ some k → w'.heap[k]? = w.heap[k]? := by
  obtain ⟨j0, ji, jz0, jz1, jz2⟩ := Go.info_parts Try.infoM
  obtain ⟨wB, hwB⟩ : ∃ wB, wB = w.alloc (.cells #[.int .u64 c.rep, .int .i64 c.load, .int .i64 c.known, .bool c.bnd, .int .i64 c.place, .bool c.opn, .int .i64 (markZ q c)] 51) := ⟨_, rfl⟩
  have hbB : Below w.heap.size w wB := by rw [hwB]; exact (Below.refl _ _).alloc (Nat.le_refl _) _
  have hnew : wB.heap[w.heap.size]? = some (.cells #[.int .u64 c.rep, .int .i64 c.load, .int .i64 c.known, .bool c.bnd, .int .i64 c.place, .bool c.opn, .int .i64 (markZ q c)] 51 (0, 0)) := by rw [hwB]; exact heap_alloc_new w _
  have hO : wB.ownsRow base 51 7 v l.length (flatM q l) := own_below h hbB
  rw [← hwB]
  obtain ⟨v', w', h1, h2, h3, _⟩ := run_append_own (P := Try.prog) wB base 48 ty 51 j0 (.agg #[.int .u64 0, .int .i64 0, .int .i64 0, .bool false, .int .i64 0, .bool false, .int .i64 0]) 7 56 Try.underlying48 ji jz0 jz1 jz2 rfl (by decide) v l.length _ hO ⟨w.heap.size, 0, none⟩ 1 1 (flatM q [c]) rfl (World.news_of_block hnew) (enM_one q c) (by unfold maxLen; omega) (by omega) (Nat.le_trans hb hbB.size)
  refine ⟨v', w', h1, ?_, ?_, ?_⟩
  · unfold OwM
    rw [List.length_append, flatM_app]
    exact h2
  · exact (hbB.mono hb).grown h3 (Nat.le_trans hb hbB.size) fun g hg => (hO.lt g hg).1
  · intro k hk hne
    exact (h3.block k (Nat.lt_of_lt_of_le hk hbB.size) fun e => hne e.symm).trans (hbB.block k hk)
theorem heapM {q : Wt} {W : World} {g m : Nat} {os : Array Obj} {cur : Array Value} {e : TypeId} {fr : Nat × Nat} (d : Array Cd) (hb : W.heap[g]? = some (.cells cur e fr)) :
    (sortWorldK (enM q) 7 W g 0 m d os).heap[g]? = some (.cells (putCells id 0 (flatK (enM q) 7 d) cur) e fr) := by
  have hg : g < W.heap.size := lt_of_block hb
  show ((putRow id (Sort.ahead W m) g 0 (flatK (enM q) 7 d)).heap ++ os)[g]? = _
  rw [Array.getElem?_append_left (by simpa [putRow, mapBlock, Sort.ahead] using hg)]
  simp [putRow, mapBlock, Sort.ahead, Array.getElem?_modify, hb, onCells]
theorem fbM {q : Wt} {W : World} {g m : Nat} {os : Array Obj} (d : Array Cd) : Fb (at1 g) W (sortWorldK (enM q) 7 W g 0 m d os) := by
  refine ⟨rfl, rfl, rfl, by simp [sortWorldK, grow, putRowK, putRow, mapBlock, Sort.ahead], fun k hk hne => ?_⟩
  show ((putRow id (Sort.ahead W m) g 0 (flatK (enM q) 7 d)).heap ++ os)[k]? = _
  rw [Array.getElem?_append_left (by simpa [putRow, mapBlock, Sort.ahead] using hk)]
  have : g ≠ k := fun e => hne e.symm
  simp [putRow, mapBlock, Sort.ahead, Array.getElem?_modify, this]
theorem rowM {q : Wt} {base : Nat} {W : World} {g cap n : Nat} {l : List Cd} (h : OwM q base W (.slice (some ⟨g, 0, none⟩) n cap) l) (hn : l.length = n) : RowK (enM q) 7 W g 0 l.toArray ∧ base ≤ g := by
  unfold OwM at h
  rw [hn] at h
  rcases id h.2 with ⟨hv, h0⟩ | ⟨g', cap', cur, hv, hB, hg, h1, h2, h3, h4⟩
  · cases hv
  cases hv
  refine ⟨⟨fun x => rfl, fun x v hv => ?_, fun j hj => ?_, lt_of_block hg⟩, hB⟩
  · exact enM_one q x v (by simpa [enM, flatM] using hv)
  · have hj' : j < n * 7 := by rw [size_flatK] at hj; simpa [hn] using hj
    rw [Nat.zero_add]
    refine ⟨?_, frozen_of_row _ _ j _ _ hg⟩
    rw [World.ownsRow.cellAt h j hj', flatM_get q l j (by rw [hn]; exact hj')]
    rw [size_flatK] at hj
    show _ = some (flatK (enM q) 7 l.toArray)[j]!
    rw [get_flatK _ _ _ _ hj, ck_arr l.toArray (by simp; omega)]
theorem sortedM {q : Wt} {base : Nat} {W w' : World} {g cap n : Nat} {l : List Cd} {d : Array Cd} (h : OwM q base W (.slice (some ⟨g, 0, none⟩) n cap) l) (hn : l.length = n) (hd : d.size = n) (hs : SWK (enM q) 7 W g 0 d w') : OwM q base w' (.slice (some ⟨g, 0, none⟩) n cap) d.toList ∧ Below base W w' := by
  obtain ⟨m, os, rfl⟩ := hs
  unfold OwM at *
  rw [hn] at h
  rcases id h.2 with ⟨hv, h0⟩ | ⟨g', cap', cur, hv, hB, hg, h1, h2, h3, h4⟩
  · cases hv
  cases hv
  have hgl := lt_of_block hg
  refine ⟨?_, (fbM d).to (fun x hx => by rw [hx]; exact hB) (by omega)⟩
  have hdl : d.toList.length = n := by simpa using hd
  rw [hdl]
  refine ⟨by rw [flatM_len, hdl], .inr ⟨g, cap, _, rfl, hB, heapM d hg, h1, h2, by simpa [putCells] using h3, ?_⟩⟩
  apply List.ext_getElem?
  intro j
  have hz : (flatK (enM q) 7 d).size = n * 7 := by rw [size_flatK, hd]
  by_cases hj : j < n * 7
  · have hjc : j < cur.size := by omega
    rw [List.getElem?_take_of_lt hj, Array.getElem?_toList]
    simp only [putCells, Array.getElem?_mapIdx, Array.getElem?_eq_getElem hjc, Option.map_some, Nat.zero_le, Nat.zero_add, true_and, Nat.sub_zero]
    rw [if_pos (by omega), flatM_get q d.toList j (by rw [hdl]; exact hj), get_flatK _ _ _ _ (by rw [hd]; exact hj), ck_arr d (by omega)]
    rfl
  · rw [List.getElem?_take_eq_none (by omega), List.getElem?_eq_none (by rw [flatM_len, hdl]; omega)]
end Go.Proofs.Ytmhpgkkaolcncaa
