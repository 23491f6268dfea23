/-
  slices.IndexFunc and slices.DeleteFunc over points, of those of a node; lift, Drop.
-/
import Derived.Test.YtaiojhigomdocaaRnOps
import Derived.Lib.SliceRun
namespace Go.Proofs.Ytaiojhigomdocaa
open Go.RowKit Go.Maps Go.Shelf Go.Sort
set_option linter.unusedVariables false
set_option maxRecDepth 1000000

/-- The closure: is a point the node's? -/
theorem uis {W : World} {g : Nat} {x : Int} (h : W.cell? ⟨g, 0, none⟩ = some (.int .u64 x)) (p : Int × Int) :
    Calls Try.prog 39 #[.agg #[.int .u64 p.1, .int .u64 p.2], .pointer (some ⟨g, 0, none⟩)] W fun r w' => r = .returned (.bool (p.2 == x)) ∧ Hid (RowKit.Below W.heap.size W w') := by
  obtain ⟨p1, p2⟩ := p
  obtain ⟨wA, hwA⟩ : ∃ wA, wA = W.alloc (.cells #[.int .u64 p1, .int .u64 p2] 74) := ⟨_, rfl⟩
  have hbA : RowKit.Below W.heap.size W wA := by rw [hwA]; exact (RowKit.Below.refl _ _).alloc (Nat.le_refl _) _
  have hA : wA.heap[W.heap.size]? = some (.cells #[.int .u64 p1, .int .u64 p2] 74 (0, 0)) := by rw [hwA]; exact heap_alloc_new W _
  have c1 := (cells_two hA).2
  have c2 : wA.cell? ⟨g, 0, none⟩ = some (.int .u64 x) := (hbA.cell (World.block_lt_of_cell? _ _ h)).trans h
  have HB := hid hbA
  rw [hwA] at c1 c2 HB
  clear h hA hbA hwA
  go_enter Try.func39, Try.ntmps39
  go_wp2
  go_ret
  exact ⟨rfl, HB⟩
/-- The row in a block, whole. -/
theorem PtAt.set {base : Nat} {W : World} {g n cap : Nat} {Q : List (Int × Int)} (h : PtAt base W (.slice (some ⟨g, 0, none⟩) n cap) Q) (i : Nat) (p : Int × Int) :
    PtAt base ((W.setCell ⟨g, i * 2, none⟩ (.int .u64 p.1)).setCell ⟨g, i * 2 + 1, none⟩ (.int .u64 p.2)) (.slice (some ⟨g, 0, none⟩) n cap) (Q.set i p) := by
  rcases id h.2 with ⟨hv, h0⟩ | ⟨g', cap', cur, hv, hB, hg, h1, h2, h3, h4⟩
  · cases hv
  · obtain ⟨rfl, hn, rfl⟩ : g = g' ∧ n = Q.length ∧ cap = cap' := by simpa using hv
    refine ⟨by rw [flatP_len], .inr ⟨g, cap, _, by rw [hn, List.length_set], hB, row_set (row_set hg), by rw [List.length_set]; exact h1, h2, by simpa using h3, ?_⟩⟩
    rw [List.length_set]
    apply List.ext_getElem?
    intro t
    by_cases ht : t < Q.length * 2
    · have hcur : cur[t]? = (flatP Q)[t]? := by
        rw [← Array.getElem?_toList, ← List.getElem?_take_of_lt ht, h4]
      have htc : t < cur.size := by omega
      rw [List.getElem?_take_of_lt ht, Array.getElem?_toList]
      obtain ⟨j, hj⟩ : ∃ j, t = j * 2 ∨ t = j * 2 + 1 := ⟨t / 2, by omega⟩
      have hjl : j < Q.length := by omega
      by_cases e : j = i
      · subst e
        have hget : (Q.set j p)[j]? = some p := by simp [hjl]
        obtain ⟨f0, f1⟩ := flatP_get _ _ _ hget
        rcases hj with rfl | rfl
        · rw [f0, Array.getElem?_setIfInBounds_ne (by omega)]
          simp [htc]
        · rw [f1]
          simp [htc]
      · have hget : (Q.set i p)[j]? = some Q[j] := by rw [List.getElem?_set_ne (fun h => e h.symm), List.getElem?_eq_getElem hjl]
        obtain ⟨f0, f1⟩ := flatP_get _ _ _ hget
        obtain ⟨e0, e1⟩ := flatP_get Q j Q[j] (List.getElem?_eq_getElem hjl)
        rw [Array.getElem?_setIfInBounds_ne (by omega), Array.getElem?_setIfInBounds_ne (by omega), hcur]
        rcases hj with rfl | rfl
        · rw [f0, e0]
        · rw [f1, e1]
    · rw [List.getElem?_take_eq_none (by omega), List.getElem?_eq_none (by rw [flatP_len, List.length_set]; omega)]
theorem fb_set2 (W : World) (g i j : Nat) (u v : Value) : Fb (at1 g) W ((W.setCell ⟨g, i, none⟩ u).setCell ⟨g, j, none⟩ v) :=
  ((Fb.refl _ W).trans (Fb.set (F := at1 g) (by exact rfl) _) fun k hk => .inl hk).trans (Fb.set (F := at1 g) (by exact rfl) _) fun k hk => .inl hk
theorem setCells_row {T : TypeId} : ∀ (vs : List Value) (W : World) (g o : Nat) (cur : Array Value), W.heap[g]? = some (.cells cur T (0, 0)) → ∃ cur', (W.setCells g o vs).heap[g]? = some (.cells cur' T (0, 0)) ∧ cur'.size = cur.size ∧ (∀ j, j < o → cur'[j]? = cur[j]?) ∧ Fb (at1 g) W (W.setCells g o vs)
  | [], W, g, o, cur, h => ⟨cur, h, rfl, fun _ _ => rfl, Fb.refl _ _⟩
  | v :: r, W, g, o, cur, h => by
    obtain ⟨cur', h1, h2, h3, h4⟩ := setCells_row r (W.setCell ⟨g, o, none⟩ v) g (o + 1) _ (row_set (k := o) (u := v) h)
    refine ⟨cur', h1, by rw [h2]; simp, fun j hj => ?_, (Fb.set (F := at1 g) (by exact rfl) _).trans h4 fun k hk => .inl hk⟩
    rw [h3 j (by omega), Array.getElem?_setIfInBounds_ne (by omega)]
theorem PtAt.cut {base : Nat} {W : World} {g n cap : Nat} {Q : List (Int × Int)} (h : PtAt base W (.slice (some ⟨g, 0, none⟩) n cap) Q) {i : Nat} (hi : i ≤ n) (vs : List Value) :
    PtAt base (W.setCells g (i * 2) vs) (.slice (some ⟨g, 0, none⟩) i cap) (Q.take i) ∧ Fb (at1 g) W (W.setCells g (i * 2) vs) := by
  rcases id h.2 with ⟨hv, h0⟩ | ⟨g', cap', cur, hv, hB, hg, h1, h2, h3, h4⟩
  · cases hv
  · obtain ⟨rfl, hn, rfl⟩ : g = g' ∧ n = Q.length ∧ cap = cap' := by simpa using hv
    obtain ⟨cur', q1, q2, q3, q4⟩ := setCells_row vs W g (i * 2) cur hg
    have hlt : (Q.take i).length = i := by rw [List.length_take]; omega
    refine ⟨⟨by rw [flatP_len], .inr ⟨g, cap, cur', by rw [hlt], hB, q1, by rw [hlt]; omega, h2, by rw [q2]; exact h3, ?_⟩⟩, q4⟩
    rw [hlt]
    apply List.ext_getElem?
    intro t
    by_cases ht : t < i * 2
    · rw [List.getElem?_take_of_lt ht, Array.getElem?_toList, q3 t ht, ← Array.getElem?_toList, ← List.getElem?_take_of_lt (show t < Q.length * 2 by omega), h4]
      conv => lhs; rw [← List.take_append_drop i Q, flatP_app]
      rw [List.getElem?_append_left (by rw [flatP_len, hlt]; exact ht)]
    · rw [List.getElem?_take_eq_none (by omega), List.getElem?_eq_none (by rw [flatP_len, hlt]; omega)]
theorem run_clearPt (W : World) (g o n c : Nat) (ty : TypeId) (hc : ∀ j, j < n * 2 → (W.cell? ⟨g, o + j, none⟩).isSome = true) (hf : ∀ j, W.frozen? ⟨g, j, none⟩ = false) :
    ∃ vs, (Builtin.clear_ #[56] ty #[.slice (some ⟨g, o, none⟩) n c]).run Try.prog W = .ok (.tuple #[]) (W.setCells g o vs) := by
  cases n with
  | zero =>
    refine ⟨[], ?_⟩
    simp [Builtin.clear_, run_underlying Try.underlying56]
    rfl
  | succ m =>
    have hv : ∀ w, (zeroValue 74).run Try.prog w = .ok (.agg #[.int .u64 0, .int .u64 0]) w := fun w => by kernel_rfl
    refine ⟨(Builtin.zeroCells (Value.agg #[.int .u64 0, .int .u64 0]).cells (m + 1)).toList, ?_⟩
    have hl : (Builtin.zeroCells (Value.agg #[.int .u64 0, .int .u64 0]).cells (m + 1)).toList.length = (m + 1) * 2 := by
      simp [Builtin.zeroCells, Value.cells]
    have hst := run_storeCells_cells (P := Try.prog) g o (Builtin.zeroCells (Value.agg #[.int .u64 0, .int .u64 0]).cells (m + 1)).toList 0 W (by intro j hj; rw [hl] at hj; simpa using hc j hj) (by intro j hj; exact hf _) (by
      intro u hu
      simp [Builtin.zeroCells, Value.cells] at hu
      obtain ⟨t, _, rfl⟩ := hu
      rcases Nat.mod_two_eq_zero_or_one t with e | e
      · simp [e, Value.oneCell']
      · simp [e, Value.oneCell'])
    simp only [Nat.add_zero] at hst
    simp [Builtin.clear_, run_underlying Try.underlying56, hv, hst]
/-- The points that are not the node's. -/
def keepP (x : Int) (P : List (Int × Int)) : List (Int × Int) := P.filter fun p => !(p.2 == x)
set_option maxHeartbeats 4000000 in
theorem uidxf {base : Nat} {W : World} {g n cap gb : Nat} {P : List (Int × Int)} {x : Int} (h : PtAt base W (.slice (some ⟨g, 0, none⟩) n cap) P) (hn : P.length = n) (hn2 : n ≤ 100000) (hx : W.cell? ⟨gb, 0, none⟩ = some (.int .u64 x)) :
    Calls Try.prog 51 #[.slice (some ⟨g, 0, none⟩) n cap, .func (.func 39) #[] #[.pointer (some ⟨gb, 0, none⟩)]] W fun r w' => ∃ q : Int, r = .returned (.int .i64 q) ∧ Hid (((q = -1 ∧ keepP x P = P) ∨ ∃ k : Nat, q = k ∧ k < n ∧ keepP x (P.take (k + 1)) = P.take k) ∧ RowKit.Below W.heap.size W w') := by
  have HP : Hid (∀ W' : World, RowKit.Below W.heap.size W W' → W'.cell? ⟨gb, 0, none⟩ = some (.int .u64 x) ∧ ∀ i p, P[i]? = some p → W'.cell? ⟨g, i * 2, none⟩ = some (.int .u64 p.1) ∧ W'.cell? ⟨g, i * 2 + 1, none⟩ = some (.int .u64 p.2)) := by
    intro W' hb
    refine ⟨(hb.cell (World.block_lt_of_cell? _ _ hx)).trans hx, fun i p hp => ?_⟩
    have h' : PtAt base W' (.slice (some ⟨g, 0, none⟩) n cap) P := h.same fun b hb3 => by
      obtain ⟨cur, hc⟩ := h.blk hb3
      exact hb.block b (lt_of_block hc)
    exact ⟨h'.cell (flatP_get P i p hp).1, h'.cell (flatP_get P i p hp).2⟩
  have HX : Hid (∀ i, i < n → ∃ p, P[i]? = some p) := fun i hi => ⟨P[i]'(by omega), List.getElem?_eq_getElem _⟩
  have HN := hid hn
  have HV0 := hid (RowKit.Below.refl W.heap.size W)
  clear h hx hn
  go_enter Try.func51, Try.ntmps51
  go_wp2_with fail
  go_loopw [8] (fun z W' => ∃ k : Nat, k ≤ n ∧ z = .int .i64 k ∧ Hid (keepP x (P.take k) = P.take k) ∧ Hid (RowKit.Below W.heap.size W W')) (fun z _ => n - (intOf z).toNat)
  case atStart => exact ⟨0, by omega, rfl, by unfold Hid keepP; simp, HV0⟩
  case round =>
  obtain ⟨k, hk, rfl, HKp, HV⟩ := hrel
  rename World => w1
  clear HV0
  by_cases hkn : k < n
  · have g1 : (k : Int) < (n : Int) := by omega
    obtain ⟨p, hp⟩ := HX.out k hkn
    obtain ⟨cx, hc⟩ := HP.out _ HV.out
    obtain ⟨c1, c2⟩ := hc k p hp
    have hQ := uis cx p
    have HS : Hid (keepP x (P.take (k + 1)) = if p.2 == x then P.take k else P.take (k + 1)) := by
      unfold Hid
      rw [List.take_add_one, hp]
      show keepP x (P.take k ++ [p]) = if p.2 == x then P.take k else P.take k ++ [p]
      unfold keepP at *
      rw [List.filter_append, HKp.out]
      cases hpx : p.2 == x <;> simp [hpx]
    obtain ⟨p1, p2⟩ := p
    obtain ⟨c, Hc⟩ : ∃ c, Hid ((p2 == x) = c) := ⟨_, rfl⟩
    simp only at hQ HS
    rw [Hc.out] at hQ HS
    clear hc hp
    go_wp2_with fail
    refine hQ.mono ?_
    rintro r w2 ⟨rfl, H2⟩
    have HV2 : Hid (RowKit.Below W.heap.size W w2) := HV.out.trans (H2.out.mono HV.out.size)
    clear H2 hQ
    cases c with
    | true =>
      go_wp2_with fail
      go_ret
      exact ⟨k, rfl, .inr ⟨k, rfl, hkn, by have := HS.out; simpa using this⟩, HV2.out⟩
    | false =>
      have HS2 : Hid (keepP x (P.take (k + 1)) = P.take (k + 1)) := by
        have := HS.out
        simp at this
        exact this
      go_wp2_with fail
      go_round
      case rel => exact ⟨k + 1, by omega, by go_num, HS2, HV2⟩
      case measure => simp [intOf]; omega
  · have g1 : ¬ (k : Int) < (n : Int) := by omega
    have HE : Hid (keepP x P = P) := by
      have := HKp.out
      rw [List.take_of_length_le (by rw [HN.out]; omega)] at this
      exact this
    go_wp2_with fail
    go_ret
    exact ⟨-1, rfl, .inl ⟨rfl, HE.out⟩, HV.out⟩
/-- The row while points are struck: the head is what is kept of the first j, the tail is as it was. -/
def DlI (x : Int) (P Q : List (Int × Int)) (i j : Nat) : Prop := Q.length = P.length ∧ Q.take i = keepP x (P.take j) ∧ Q.drop j = P.drop j ∧ i ≤ j
theorem DlI.keep {x : Int} {P Q : List (Int × Int)} {i j : Nat} (h : DlI x P Q i j) {p : Int × Int} (hp : P[j]? = some p) (hx : (p.2 == x) = false) : DlI x P (Q.set i p) (i + 1) (j + 1) := by
  obtain ⟨h1, h2, h3, h4⟩ := h
  have hj : j < P.length := by
    rcases Nat.lt_or_ge j P.length with h | h
    · exact h
    · rw [List.getElem?_eq_none h] at hp; cases hp
  refine ⟨by rw [List.length_set]; exact h1, ?_, ?_, by omega⟩
  · rw [List.take_add_one, List.take_set_of_le (Nat.le_refl _), h2, List.getElem?_set_self (by omega), List.take_add_one, hp]
    unfold keepP
    rw [List.filter_append]
    simp [hx]
  · rw [List.drop_set_of_lt (by omega)]
    have := congrArg (List.drop 1) h3
    simpa [List.drop_drop] using this
theorem DlI.skip {x : Int} {P Q : List (Int × Int)} {i j : Nat} (h : DlI x P Q i j) {p : Int × Int} (hp : P[j]? = some p) (hx : (p.2 == x) = true) : DlI x P Q i (j + 1) := by
  obtain ⟨h1, h2, h3, h4⟩ := h
  refine ⟨h1, ?_, ?_, by omega⟩
  · rw [h2, List.take_add_one, hp]
    unfold keepP
    rw [List.filter_append]
    simp [hx]
  · have := congrArg (List.drop 1) h3
    simpa [List.drop_drop] using this
theorem DlI.get {x : Int} {P Q : List (Int × Int)} {i j : Nat} (h : DlI x P Q i j) : Q[j]? = P[j]? := by
  have := congrArg (fun l : List (Int × Int) => l[0]?) h.2.2.1
  simpa using this
end Go.Proofs.Ytaiojhigomdocaa
