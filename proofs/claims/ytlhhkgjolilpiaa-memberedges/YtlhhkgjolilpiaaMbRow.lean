/-
  Rows of replicas, five cells each (flatM), of the program's kind or the document's; All.
-/
import Derived.Test.YtlhhkgjolilpiaaMbAdd
import Derived.Test.YtlhhkgjolilpiaaMbKeys
import Derived.Laws.AppendOwnNone
namespace Go.Proofs.Ytlhhkgjolilpiaa
open Go.RowKit Go.Maps
set_option linter.unusedVariables false
set_option maxRecDepth 1000000

/-- The replica at a place. -/
def atM (L : List Mr) (i : Nat) : Mr := L[i]?.getD Mr.zero
theorem mk_at {L : List Mr} {i : Nat} (h : i < L.length) : atM L i = L[i] := by unfold atM; rw [List.getElem?_eq_getElem h]; rfl
theorem mk_mem {L : List Mr} {i : Nat} (h : i < L.length) : atM L i ∈ L := by rw [mk_at h]; exact List.getElem_mem h
def flatM : List Mr → List Value
  | [] => []
  | r :: L => (MrC r).toList ++ flatM L
theorem MrC_len (r : Mr) : (MrC r).toList.length = 5 := rfl
theorem flatM_len (L : List Mr) : (flatM L).length = L.length * 5 := by
  induction L with
  | nil => rfl
  | cons q L ih => simp only [flatM, List.length_append, MrC_len, ih, List.length_cons]; omega
theorem flatM_app (K L : List Mr) : flatM (K ++ L) = flatM K ++ flatM L := by
  induction K with
  | nil => rfl
  | cons p K ih => simp [flatM, ih]
theorem flatM_get (L : List Mr) (j : Nat) (hj : j < 5) : ∀ k, k < L.length → (flatM L)[k * 5 + j]? = (MrC (atM L k))[j]? := by
  induction L with
  | nil => intro k hk; simp at hk
  | cons q L ih =>
    intro k hk
    cases k with
    | zero =>
      show ((MrC q).toList ++ flatM L)[0 * 5 + j]? = _
      rw [List.getElem?_append_left (by rw [MrC_len]; omega), Nat.zero_mul, Nat.zero_add, Array.getElem?_toList]
      rfl
    | succ k =>
      have := ih k (by simpa using hk)
      show ((MrC q).toList ++ flatM L)[(k + 1) * 5 + j]? = _
      rw [List.getElem?_append_right (by rw [MrC_len]; omega), MrC_len, show (k + 1) * 5 + j - 5 = k * 5 + j by omega, this]
      rfl
theorem flatM_at (L : List Mr) (k : Nat) (hk : k < L.length) : (flatM L)[k * 5]? = some (.int .u64 (atM L k).n) ∧ (flatM L)[k * 5 + 1]? = some (.int .i64 (atM L k).st) ∧ (flatM L)[k * 5 + 2]? = some (.int .u64 (atM L k).inc) ∧ (flatM L)[k * 5 + 3]? = some (.int .i64 (atM L k).bd) ∧ (flatM L)[k * 5 + 4]? = some (.int .i64 (atM L k).si) :=
  ⟨flatM_get L 0 (by decide) k hk, flatM_get L 1 (by decide) k hk, flatM_get L 2 (by decide) k hk, flatM_get L 3 (by decide) k hk, flatM_get L 4 (by decide) k hk⟩
theorem flatM_set (L : List Mr) {r' : Mr} {j : Nat} (hj : j < 5) {u : Value} : ∀ k, k < L.length → (MrC (atM L k)).setIfInBounds j u = MrC r' → flatM (L.set k r') = (flatM L).set (k * 5 + j) u := by
  induction L with
  | nil => intro k hk; simp at hk
  | cons q L ih =>
    intro k hk e
    cases k with
    | zero =>
      have e2 : (MrC q).toList.set j u = (MrC r').toList := by
        have := congrArg Array.toList e
        rw [Array.toList_setIfInBounds] at this
        exact this
      show (MrC r').toList ++ flatM L = ((MrC q).toList ++ flatM L).set (0 * 5 + j) u
      rw [Nat.zero_mul, Nat.zero_add, List.set_append_left _ _ (by rw [MrC_len]; exact hj), e2]
    | succ k =>
      have := ih k (by simpa using hk) e
      show (MrC q).toList ++ flatM (L.set k r') = ((MrC q).toList ++ flatM L).set ((k + 1) * 5 + j) u
      rw [List.set_append_right _ _ (by rw [MrC_len]; omega), MrC_len, show (k + 1) * 5 + j - 5 = k * 5 + j by omega, this]
theorem flatM_one (L : List Mr) : ∀ u ∈ flatM L, u.oneCell' = true := by
  induction L with
  | nil => intro u hu; simp [flatM] at hu
  | cons q L ih =>
    intro u hu
    rcases List.mem_append.1 hu with hu | hu
    · have : u = .int .u64 q.n ∨ u = .int .i64 q.st ∨ u = .int .u64 q.inc ∨ u = .int .i64 q.bd ∨ u = .int .i64 q.si := by simpa [MrC] using hu
      rcases this with rfl | rfl | rfl | rfl | rfl <;> rfl
    · exact ih u hu
theorem flatM_take (L : List Mr) : ∀ k, flatM (L.take k) = (flatM L).take (k * 5) := by
  induction L with
  | nil => intro k; simp [flatM]
  | cons q L ih =>
    intro k
    cases k with
    | zero => simp [flatM]
    | succ k =>
      show (MrC q).toList ++ flatM (L.take k) = ((MrC q).toList ++ flatM L).take ((k + 1) * 5)
      rw [ih k, List.take_append, MrC_len, List.take_of_length_le (l := (MrC q).toList) (by rw [MrC_len]; omega), show (k + 1) * 5 - 5 = k * 5 by omega]
theorem flatM_drop (L : List Mr) : ∀ k, flatM (L.drop k) = (flatM L).drop (k * 5) := by
  induction L with
  | nil => intro k; simp [flatM]
  | cons q L ih =>
    intro k
    cases k with
    | zero => simp [flatM]
    | succ k =>
      show flatM (L.drop k) = ((MrC q).toList ++ flatM L).drop ((k + 1) * 5)
      rw [ih k, List.drop_append, MrC_len, List.drop_of_length_le (l := (MrC q).toList) (by rw [MrC_len]; omega), show (k + 1) * 5 - 5 = k * 5 by omega]
      rfl
/-- A row of replicas, of one kind or the other. -/
def RwM (T : TypeId) (W : World) (base : Nat) (v : Value) (L : List Mr) : Prop := W.ownsRow base T 5 v L.length (flatM L)
section
variable {T : TypeId} {W W' : World} {base base' : Nat} {v : Value} {L : List Mr}
theorem RwM.isSl (h : RwM T W base v L) : ∃ a cap, v = .slice a L.length cap ∧ L.length ≤ cap ∧ cap ≤ 9223372036854775807 ∧ (a = none → L.length = 0 ∧ cap = 0) := by
  rcases id h.2 with ⟨hv, h0⟩ | ⟨g, cap, cur, hv, _, hg, hnc, hm, _⟩
  · exact ⟨.none, 0, by rw [hv, h0], by omega, by omega, fun _ => ⟨h0, rfl⟩⟩
  · exact ⟨_, cap, hv, hnc, by unfold maxLen at hm; omega, fun e => by cases e⟩
theorem RwM.isSome (h : RwM T W base v L) {k : Nat} (hk : k < L.length) :
    ∃ g cap cur, v = .slice (.some ⟨g, 0, .none⟩) L.length cap ∧ W.heap[g]? = .some (.cells cur T (0, 0)) ∧ base ≤ g := by
  rcases id h.2 with ⟨_, h0⟩ | ⟨g, cap, cur, hv, hb, hg, hnc, hm, _⟩
  · omega
  · exact ⟨g, cap, cur, hv, hg, hb⟩
theorem RwM.at {g n cap : Nat} (h : RwM T W base (.slice (.some ⟨g, 0, .none⟩) n cap) L) {k : Nat} (hk : k < L.length) :
    W.cell? ⟨g, k * 5, none⟩ = some (.int .u64 (atM L k).n) ∧ W.cell? ⟨g, k * 5 + 1, none⟩ = some (.int .i64 (atM L k).st) ∧ W.cell? ⟨g, k * 5 + 2, none⟩ = some (.int .u64 (atM L k).inc) ∧ W.cell? ⟨g, k * 5 + 3, none⟩ = some (.int .i64 (atM L k).bd) ∧ W.cell? ⟨g, k * 5 + 4, none⟩ = some (.int .i64 (atM L k).si) := by
  have hn : n = L.length := by
    rcases id h.2 with ⟨hv, _⟩ | ⟨g', c', cur, hv, _⟩
    · cases hv
    · cases hv; rfl
  subst hn
  obtain ⟨f0, f1, f2, f3, f4⟩ := flatM_at L k hk
  exact ⟨by rw [World.ownsRow.cellAt h (k * 5) (by omega), f0], by rw [World.ownsRow.cellAt h (k * 5 + 1) (by omega), f1], by rw [World.ownsRow.cellAt h (k * 5 + 2) (by omega), f2], by rw [World.ownsRow.cellAt h (k * 5 + 3) (by omega), f3], by rw [World.ownsRow.cellAt h (k * 5 + 4) (by omega), f4]⟩
theorem RwM.below (h : RwM T W base v L) (hb : Below W.heap.size W W') : RwM T W' base v L := own_below h hb
theorem RwM.same (h : RwM T W base v L) (hb : ∀ k, v.ownBlock = some k → W'.heap[k]? = W.heap[k]?) : RwM T W' base v L := own_blk h hb
theorem RwM.lts (h : RwM T W base v L) {k : Nat} (hk : v.ownBlock = some k) : base ≤ k ∧ k < W.heap.size := h.lt k hk
theorem RwM.to (h : RwM T W base v L) (hb : base' ≤ base) : RwM T W base' v L := by
  refine ⟨h.1, ?_⟩
  rcases h.2 with h' | ⟨g, c, cur, hv, hB, rest⟩
  · exact .inl h'
  · exact .inr ⟨g, c, cur, hv, Nat.le_trans hb hB, rest⟩
theorem RwM.nil (T : TypeId) (W : World) (base : Nat) : RwM T W base (.slice none 0 0) [] := World.ownsRow_nil _ _ _ _
theorem RwM.news {av : Option Addr} {n cv : Nat} (h : RwM T W base (.slice av n cv) L) : ∀ b, av = some b → ∀ j u, (flatM L)[j]? = some u → W.cell? (b.add j) = some u := by
  rintro b rfl
  rcases id h.2 with ⟨hv, _⟩ | ⟨g, cap, cur, hv, _⟩
  · cases hv
  · cases hv; exact World.ownsRow.cells (g := g) h rfl
/-- A cell of it is stored. -/
theorem RwM.turned {g n cap : Nat} (h : RwM T W base (.slice (.some ⟨g, 0, .none⟩) n cap) L) {k : Nat} (hk : k < L.length) {r' : Mr} {j : Nat} (hj : j < 5) {u : Value} (e : (MrC (atM L k)).setIfInBounds j u = MrC r') :
    RwM T (W.setCell ⟨g, k * 5 + j, none⟩ u) base (.slice (.some ⟨g, 0, .none⟩) n cap) (L.set k r') := by
  have hn : n = L.length := by
    rcases id h.2 with ⟨hv, _⟩ | ⟨g', c', cur, hv, _⟩
    · cases hv
    · cases hv; rfl
  subst hn
  unfold RwM
  rw [List.length_set, flatM_set L hj k hk e]
  exact (World.ownsRow.stored h (k * 5 + j) u).1
end
theorem own_slM {base e size n : Nat} {v : Value} {xs : List Value} {w : World} (h : w.ownsRow base e size v n xs) : ∃ a c, v = .slice a n c := by
  rcases id h.2 with ⟨hv, h0⟩ | ⟨g, cap, cur, hv, _⟩
  · exact ⟨none, 0, by rw [hv, h0]⟩
  · exact ⟨_, cap, hv⟩
theorem Try.infoMr : (Try.prog.info? 55).map (fun i => (i.zero, i.size, i.bytes)) = some (some (.agg #[.int .u64 0, .int .i64 0, .int .u64 0, .int .i64 0, .int .i64 0]), 5, 40) := by kernel_rfl
theorem Try.undMr : Try.prog.underlying 48 = some (.slice 55) := by kernel_rfl
theorem risL_ris {L : List Int} (h : L.Pairwise (· < ·)) : risL L = L := by
  have tr : ∀ a b c : Int, decide (a ≤ b) = true → decide (b ≤ c) = true → decide (a ≤ c) = true := fun a b c h1 h2 => by simp only [decide_eq_true_eq] at *; omega
  have tot : ∀ a b : Int, (decide (a ≤ b) || decide (b ≤ a)) = true := fun a b => by simp only [Bool.or_eq_true, decide_eq_true_eq]; omega
  refine List.Perm.eq_of_pairwise (le := fun a b => decide (a ≤ b) = true) (fun a b _ _ h1 h2 => ?_) (List.pairwise_mergeSort tr tot _) (h.imp fun h => ?_) (List.mergeSort_perm L _)
  · simp only [decide_eq_true_eq] at h1 h2
    omega
  · simp only [decide_eq_true_eq]
    omega
end Go.Proofs.Ytlhhkgjolilpiaa
