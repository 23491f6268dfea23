/-
  The document's table in memory (RtB); appends to rows of bindings; place, New.
-/
import Derived.Test.YtfnbofhppfjmgaaAfKp
import Derived.Deep.QuietTactic
import Derived.BigQuiet
import Derived.Deep.DeepCutAuto
import Derived.Laws.AppendOwnNone
namespace Go.Proofs.Ytfnbofhppfjmgaa
open Go.RowKit
set_option linter.unusedVariables false
set_option maxRecDepth 1000000

/-- The binding at a place. -/
def bk (qs : List Bd) (i : Nat) : Bd := qs[i]?.getD ⟨0, 0, 0⟩
theorem bk_at {qs : List Bd} {i : Nat} (h : i < qs.length) : bk qs i = qs[i] := by unfold bk; rw [List.getElem?_eq_getElem h]; rfl
theorem bk_mem {qs : List Bd} {i : Nat} (h : i < qs.length) : bk qs i ∈ qs := by rw [bk_at h]; exact List.getElem_mem h
def flatB : List Bd → List Value
  | [] => []
  | q :: qs => .int .u64 q.ses :: .int .u64 q.rep :: .int .i64 q.fin :: flatB qs
theorem flatB_len (qs : List Bd) : (flatB qs).length = qs.length * 3 := by
  induction qs with
  | nil => rfl
  | cons q qs ih => simp [flatB, ih]; omega
theorem flatB_app (ps qs : List Bd) : flatB (ps ++ qs) = flatB ps ++ flatB qs := by
  induction ps with
  | nil => rfl
  | cons p ps ih => simp [flatB, ih]
theorem flatB_at (qs : List Bd) : ∀ k, k < qs.length → (flatB qs)[k * 3]? = some (.int .u64 (bk qs k).ses) ∧ (flatB qs)[k * 3 + 1]? = some (.int .u64 (bk qs k).rep) ∧ (flatB qs)[k * 3 + 2]? = some (.int .i64 (bk qs k).fin) := by
  induction qs with
  | nil => intro k hk; simp at hk
  | cons q qs ih =>
    intro k hk
    cases k with
    | zero => simp [flatB, bk]
    | succ k =>
      have := ih k (by simpa using hk)
      rw [show (k + 1) * 3 = k * 3 + 1 + 1 + 1 by omega, show k * 3 + 1 + 1 + 1 + 1 = (k * 3 + 1) + 1 + 1 + 1 by omega, show k * 3 + 1 + 1 + 1 + 2 = (k * 3 + 2) + 1 + 1 + 1 by omega]
      simpa [flatB, bk] using this
theorem flatB_fin (qs : List Bd) (t : Int) : ∀ k, k < qs.length → flatB (qs.set k ⟨(bk qs k).ses, (bk qs k).rep, t⟩) = (flatB qs).set (k * 3 + 2) (.int .i64 t) := by
  induction qs with
  | nil => intro k hk; simp at hk
  | cons q qs ih =>
    intro k hk
    cases k with
    | zero => simp [flatB, bk]
    | succ k =>
      have := ih k (by simpa using hk)
      rw [show (k + 1) * 3 + 2 = (k * 3 + 2) + 1 + 1 + 1 by omega]
      have e : bk (q :: qs) (k + 1) = bk qs k := by simp [bk]
      rw [e]
      simp [flatB, this]
theorem flatB_put (qs : List Bd) (n : Bd) : ∀ k, k < qs.length → flatB (qs.set k n) = (((flatB qs).set (k * 3) (.int .u64 n.ses)).set (k * 3 + 1) (.int .u64 n.rep)).set (k * 3 + 2) (.int .i64 n.fin) := by
  induction qs with
  | nil => intro k hk; simp at hk
  | cons q qs ih =>
    intro k hk
    cases k with
    | zero => simp [flatB]
    | succ k =>
      have := ih k (by simpa using hk)
      rw [show (k + 1) * 3 + 2 = (k * 3 + 2) + 1 + 1 + 1 by omega, show (k + 1) * 3 + 1 = (k * 3 + 1) + 1 + 1 + 1 by omega, show (k + 1) * 3 = k * 3 + 1 + 1 + 1 by omega]
      simp [flatB, this]
theorem flatB_one (qs : List Bd) : ∀ u ∈ flatB qs, u.oneCell' = true := by
  induction qs with
  | nil => intro u hu; simp [flatB] at hu
  | cons q qs ih =>
    intro u hu
    simp only [flatB, List.mem_cons] at hu
    rcases hu with rfl | rfl | rfl | hu
    · rfl
    · rfl
    · rfl
    · exact ih u hu
theorem flatB_take (qs : List Bd) : ∀ k, flatB (qs.take k) = (flatB qs).take (k * 3) := by
  induction qs with
  | nil => intro k; simp [flatB]
  | cons q qs ih =>
    intro k
    cases k with
    | zero => simp [flatB]
    | succ k =>
      rw [show (k + 1) * 3 = k * 3 + 1 + 1 + 1 by omega]
      simp [flatB, ih k]
theorem flatB_drop (qs : List Bd) : ∀ k, flatB (qs.drop k) = (flatB qs).drop (k * 3) := by
  induction qs with
  | nil => intro k; simp [flatB]
  | cons q qs ih =>
    intro k
    cases k with
    | zero => simp [flatB]
    | succ k =>
      rw [show (k + 1) * 3 = k * 3 + 1 + 1 + 1 by omega]
      simp [flatB, ih k]
/-- The document's table in block B. -/
structure RtB (W : World) (B room : Nat) (keep T : Int) (v : Value) (qs : List Bd) : Prop where
  var : W.heap[B]? = some (.cells #[.int .i64 room, .int .i64 keep, .int .i64 T, v] 29 (0, 0))
  own : W.ownsRow 0 62 3 v qs.length (flatB qs)
  few : qs.length ≤ 2000
/-- Its blocks. -/
def rcF (B : Nat) (v : Value) (k : Nat) : Prop := k = B ∨ v.ownBlock = some k
section
variable {W W' : World} {B room : Nat} {keep T : Int} {v : Value} {qs : List Bd}
theorem RtB.below (h : RtB W B room keep T v qs) (hb : Below W.heap.size W W') : RtB W' B room keep T v qs := ⟨block_bel h.var hb, own_below h.own hb, h.few⟩
theorem RtB.same (h : RtB W B room keep T v qs) (hb : ∀ k, rcF B v k → W'.heap[k]? = W.heap[k]?) : RtB W' B room keep T v qs := ⟨(hb B (.inl rfl)).trans h.var, own_blk h.own fun b hv => hb b (.inr hv), h.few⟩
theorem RtB.lts (h : RtB W B room keep T v qs) {k : Nat} (hk : rcF B v k) : k < W.heap.size := by
  rcases hk with rfl | hk
  · exact lt_of_block h.var
  · exact (h.own.lt k hk).2
theorem RtB.cells (h : RtB W B room keep T v qs) : W.cell? ⟨B, 0, none⟩ = some (.int .i64 room) ∧ W.cell? ⟨B, 1, none⟩ = some (.int .i64 keep) ∧ W.cell? ⟨B, 2, none⟩ = some (.int .i64 T) ∧ W.cell? ⟨B, 3, none⟩ = some v := by
  refine ⟨?_, ?_, ?_, ?_⟩ <;> (rw [cell_of_row _ _ _ _ _ _ h.var]; rfl)
theorem RtB.isSome (h : RtB W B room keep T v qs) {k : Nat} (hk : k < qs.length) :
    ∃ g cap cur, v = .slice (.some ⟨g, 0, .none⟩) qs.length cap ∧ W.heap[g]? = .some (.cells cur 62 (0, 0)) ∧ qs.length ≤ cap ∧ cap ≤ 9223372036854775807 := by
  rcases id h.own.2 with ⟨_, h0⟩ | ⟨g, cap, cur, hv, _, hg, hnc, hm, _⟩
  · omega
  · exact ⟨g, cap, cur, hv, hg, hnc, by unfold maxLen at hm; omega⟩
theorem RtB.isSl (h : RtB W B room keep T v qs) : ∃ a cap, v = .slice a qs.length cap ∧ qs.length ≤ cap ∧ cap ≤ 9223372036854775807 := by
  rcases id h.own.2 with ⟨hv, h0⟩ | ⟨g, cap, cur, hv, _, hg, hnc, hm, _⟩
  · exact ⟨.none, 0, by rw [hv, h0], by omega, by omega⟩
  · exact ⟨_, cap, hv, hnc, by unfold maxLen at hm; omega⟩
theorem RtB.at {g n cap : Nat} (h : RtB W B room keep T (.slice (.some ⟨g, 0, .none⟩) n cap) qs) {k : Nat} (hk : k < qs.length) :
    W.cell? ⟨g, k * 3, none⟩ = some (.int .u64 (bk qs k).ses) ∧ W.cell? ⟨g, k * 3 + 1, none⟩ = some (.int .u64 (bk qs k).rep) ∧ W.cell? ⟨g, k * 3 + 2, none⟩ = some (.int .i64 (bk qs k).fin) := by
  have hn : n = qs.length := by
    rcases id h.own.2 with ⟨hv, _⟩ | ⟨g', c', cur, hv, _⟩
    · cases hv
    · cases hv; rfl
  subst hn
  obtain ⟨f0, f1, f2⟩ := flatB_at qs k hk
  exact ⟨by rw [World.ownsRow.cellAt h.own (k * 3) (by omega), f0], by rw [World.ownsRow.cellAt h.own (k * 3 + 1) (by omega), f1], by rw [World.ownsRow.cellAt h.own (k * 3 + 2) (by omega), f2]⟩
theorem RtB.apart (h : RtB W B room keep T v qs) {b : Nat} (hb : v.ownBlock = some b) : b ≠ B := by
  rintro rfl
  rcases id h.own.2 with ⟨hv, _⟩ | ⟨g, cap, cur, hv, _, hg, _⟩
  · rw [hv] at hb; cases hb
  · rw [hv] at hb
    cases hb
    rw [h.var] at hg
    simp at hg
theorem RtB.bare {av : Option Addr} {n cv : Nat} (h : RtB W B room keep T (.slice av n cv) qs) : av = none → n = 0 ∧ cv = 0 := by
  rintro rfl
  rcases id h.own.2 with ⟨hv, _⟩ | ⟨g, cap, cur, hv, _⟩
  · cases hv; exact ⟨rfl, rfl⟩
  · cases hv
theorem RtB.news {av : Option Addr} {n cv : Nat} (h : RtB W B room keep T (.slice av n cv) qs) : ∀ b, av = some b → ∀ j u, (flatB qs)[j]? = some u → W.cell? (b.add j) = some u := by
  rintro b rfl
  rcases id h.own.2 with ⟨hv, _⟩ | ⟨g, cap, cur, hv, _⟩
  · cases hv
  · cases hv; exact h.own.cells (g := g) rfl
end
/-- What a call leaves: its blocks are those that were, or new. -/
def RtO (W : World) (B room : Nat) (keep : Int) (v : Value) (T' : Int) (qs' : List Bd) (W' : World) : Prop := ∃ v', RtB W' B room keep T' v' qs' ∧ Fb (rcF B v) W W' ∧ ∀ b, v'.ownBlock = some b → v.ownBlock = some b ∨ W.heap.size ≤ b
theorem RtO.trans {W W1 W2 : World} {B room : Nat} {keep : Int} {v v1 : Value} {T1 T2 : Int} {q1 q2 : List Bd} (h : RtB W1 B room keep T1 v1 q1) (hf : Fb (rcF B v) W W1) (hv : ∀ b, v1.ownBlock = some b → v.ownBlock = some b ∨ W.heap.size ≤ b) (k : RtO W1 B room keep v1 T2 q2 W2) : RtO W B room keep v T2 q2 W2 := by
  obtain ⟨v2, k1, k2, k3⟩ := k
  refine ⟨v2, k1, hf.trans k2 fun x hx => ?_, fun b hb => ?_⟩
  · rcases hx with rfl | hx
    · exact .inl (.inl rfl)
    · exact (hv x hx).imp .inr id
  · rcases k3 b hb with h1 | h1
    · exact hv b h1
    · exact .inr (Nat.le_trans hf.size h1)
theorem own_low18 {base e size n : Nat} {v : Value} {xs : List Value} {w : World} (h : w.ownsRow base e size v n xs) : w.ownsRow 0 e size v n xs := by
  refine ⟨h.1, ?_⟩
  rcases h.2 with h' | ⟨g, c, cur, hv, hB, rest⟩
  · exact .inl h'
  · exact .inr ⟨g, c, cur, hv, Nat.zero_le _, rest⟩
/-- Its list turned: the new one is a row of the call's own. -/
theorem RtB.list {W W' : World} {B room : Nat} {keep T : Int} {v v' : Value} {qs qs' : List Bd} {base : Nat} (h : RtB W B room keep T v qs) (hb : Below W.heap.size W W') (ho : W'.ownsRow base 62 3 v' qs'.length (flatB qs')) (hbase : W.heap.size ≤ base) (hf : qs'.length ≤ 2000) :
    RtO W B room keep v T qs' (W'.setCell ⟨B, 3, none⟩ v') := by
  have hv' : W'.heap[B]? = _ := block_bel h.var hb
  have hge : ∀ b, v'.ownBlock = some b → W.heap.size ≤ b := fun b hb' => Nat.le_trans hbase (ho.lt b hb').1
  have hB := lt_of_block h.var
  refine ⟨v', ⟨row_set hv', ?_, hf⟩, (Fb.of hb).trans (Fb.set (F := rcF B v) (p := ⟨B, 3, none⟩) (.inl rfl) _) fun x hx => .inl hx, fun b hb => .inr (hge b hb)⟩
  refine own_low18 (own_blk ho fun b hb' => Below.heap_setCell _ _ _ _ ?_)
  have := hge b hb'
  intro e
  have e' : b = B := e
  omega
theorem RtB.time {W : World} {B room : Nat} {keep T : Int} {v : Value} {qs : List Bd} (h : RtB W B room keep T v qs) (t : Int) :
    RtB (W.setCell ⟨B, 2, none⟩ (.int .i64 t)) B room keep t v qs ∧ Fb (rcF B v) W (W.setCell ⟨B, 2, none⟩ (.int .i64 t)) :=
  ⟨⟨row_set h.var, own_blk h.own fun b hb => Below.heap_setCell _ _ _ _ (by exact h.apart hb), h.few⟩, Fb.set (F := rcF B v) (p := ⟨B, 2, none⟩) (.inl rfl) _⟩
theorem Try.infoBi : (Try.prog.info? 62).map (fun i => (i.zero, i.size, i.bytes)) = some (some (.agg #[.int .u64 0, .int .u64 0, .int .i64 0]), 3, 24) := by kernel_rfl
theorem Try.undBi : Try.prog.underlying 27 = some (.slice 62) := by kernel_rfl
/-- An append to a row of the call's own, whatever is appended, at a step of a region that draws its order. -/
theorem step_append18 {P : Program} {w : World} {ops : Array Oper} {o : Oper} {a : Act} {K : Act → World → Prop} {Q : Exit → Act → World → Prop} {E : Prop} (hgd : o.guard = none) (d : Tmp) (hd : o.dst = some d) (s x : Operand) (t : TypeId)
    (ho : o.op = .call { callee := .builtin .append, args := #[s, x], argTypes := #[t, t] })
    (base : Nat) (e : TypeId) (i : TypeInfo) (z : Value) (size bytes : Nat) (ht : P.underlying t = some (.slice e)) (hi : P.info? e = some i) (hz : i.zero = some z) (hsize : i.size = size) (hby : i.bytes = bytes) (hzs : z.cells.size = size) (hsz : 0 < size) (hbt : bytes ≤ 64)
    (v : Value) (n : Nat) (xs : List Value) (hs : a.eval s = v) (hown : w.ownsRow base e size v n xs)
    (ao : Option Addr) (m c : Nat) (news : List Value) (hx : a.eval x = .slice ao m c) (hnone : ao = none → m = 0 ∧ c = 0) (hl : news.length = m * size) (hnews : ∀ b, ao = some b → ∀ j u, news[j]? = some u → w.cell? (b.add j) = some u) (h1 : ∀ u ∈ news, u.oneCell' = true)
    (hnm : n + m ≤ 100000) (hbase : base ≤ w.heap.size)
    (h : ∀ v' w', w'.ownsRow base e size v' (n + m) (xs ++ news) → Below base w w' → K (a.put (some d) v') w') :
    if Region.wanted o (yielded ops a.tmps) = true then Oper.wp P o a w K Q else E := by
  have hw : Region.wanted o (yielded ops a.tmps) = true := by simp [Region.wanted, hgd]
  rw [if_pos hw]
  have hbytes : (n + m) * bytes ≤ 140737488355328 := by have : (n + m) * bytes ≤ (n + m) * 64 := Nat.mul_le_mul_left _ hbt; omega
  have key : ∃ v' w', (Builtin.append_ #[t, t] o.type #[v, .slice ao m c]).run P w = .ok v' w' ∧ w'.ownsRow base e size v' (n + m) (xs ++ news) ∧ Below base w w' := by
    cases ao with
    | some b =>
      obtain ⟨v', w', hrun, r1, r2, _⟩ := run_append_own (P := P) w base t o.type e i z size bytes ht hi hz hsize hby hzs hsz v n xs hown b m c news hl (hnews b rfl) h1 (by unfold maxLen; omega) hbytes hbase
      exact ⟨v', w', hrun, r1, (Below.refl _ _).grown r2 hbase fun g hg => (hown.lt g hg).1⟩
    | none =>
      obtain ⟨rfl, rfl⟩ := hnone rfl
      obtain rfl : news = [] := List.eq_nil_of_length_eq_zero (by simpa using hl)
      exact ⟨v, w, run_append_owned_none (P := P) (w := w) base t o.type e i size ht hi v n xs hown, by simpa using hown, Below.refl _ _⟩
  obtain ⟨v', w', hr, h2, h3⟩ := key
  unfold Oper.wp execOp
  simp only [ho, resolve, invoke, builtin, Sem.run_bind, Sem.run_pure, Result.andThen_ok, List.map_toArray, List.map_cons, List.map_nil, hs, hx, hr]
  show K (a.put o.dst _) w'
  rw [hd]
  exact h v' w' h2 h3
theorem own_some18 {base e size n : Nat} {v : Value} {xs : List Value} {w : World} (h : w.ownsRow base e size v n xs) (hn : 0 < n) : ∃ g c, v = .slice (some ⟨g, 0, none⟩) n c := by
  rcases id h.2 with ⟨_, h0⟩ | ⟨g, cap, cur, hv, _⟩
  · omega
  · exact ⟨g, cap, hv⟩
theorem own_sl18 {base e size n : Nat} {v : Value} {xs : List Value} {w : World} (h : w.ownsRow base e size v n xs) : ∃ a c, v = .slice a n c := by
  rcases id h.2 with ⟨hv, h0⟩ | ⟨g, cap, cur, hv, _⟩
  · exact ⟨none, 0, by rw [hv, h0]⟩
  · exact ⟨_, cap, hv⟩
/-- The bindings' slice cut to its first ones, and to those behind one. -/
theorem cutB_to (g n cap m : Nat) (hm : m ≤ cap) (W : World) :
    (Instr.sliceAt 27 (.slice (some ⟨g, 0, none⟩) n cap) none (some (.int .i64 (m : Int))) none).run Try.prog W = .ok (.slice (some ⟨g, 0, none⟩) m cap) W := by
  obtain ⟨j0, ji, jz0, jz1, jz2⟩ := info_parts Try.infoBi
  have h1 : (Instr.sliceBound (.int .i64 (m : Int)) cap .sliceAcap).run Try.prog W = .ok m W := by
    rw [run_sliceBound W .i64 (m : Int) cap _ (by omega) (by omega)]; simp
  simp [Instr.sliceAt, Instr.slice, run_underlying Try.undBi, Instr.sliceBounds, h1, sizeOf, typeInfo, ji, Addr.add]
theorem cutB_from (g n cap m : Nat) (hm : m + 1 ≤ n) (hc : n ≤ cap) : ∃ A : Addr, (∀ W : World,
    (Instr.sliceAt 27 (.slice (some ⟨g, 0, none⟩) n cap) (some (.int .i64 ((m : Int) + 1))) none none).run Try.prog W = .ok (.slice (some A) (n - (m + 1)) (cap - (m + 1))) W) ∧ (m + 1 < n → A = ⟨g, (m + 1) * 3, none⟩) := by
  obtain ⟨j0, ji, jz0, jz1, jz2⟩ := info_parts Try.infoBi
  have h1 : ∀ W : World, (Instr.sliceBound (.int .i64 ((m : Int) + 1)) n .sliceB).run Try.prog W = .ok (m + 1) W := fun W => by
    rw [run_sliceBound W .i64 ((m : Int) + 1) n _ (by omega) (by omega)]; congr 1
  refine ⟨if cap - (m + 1) = 0 then ⟨g, 0, none⟩ else ⟨g, (m + 1) * 3, none⟩, fun W => ?_, fun h => by rw [if_neg (by omega)]⟩
  simp [Instr.sliceAt, Instr.slice, run_underlying Try.undBi, Instr.sliceBounds, h1, sizeOf, typeInfo, ji, jz1, Addr.add]
  split <;> simp_all <;> omega
end Go.Proofs.Ytfnbofhppfjmgaa
