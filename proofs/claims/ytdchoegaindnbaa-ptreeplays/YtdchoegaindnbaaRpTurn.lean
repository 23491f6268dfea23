/-
  The document's tree with a cell turned, with its list turned; appends to rows of marks.
-/
import Derived.Test.YtdchoegaindnbaaRpOld
import Derived.Deep.DeepCutAuto
import Derived.Laws.AppendOwnNone
namespace Go.Proofs.Ytdchoegaindnbaa
open Go.RowKit
set_option linter.unusedVariables false
set_option maxRecDepth 1000000

theorem RtAt.apart {W : World} {B pg sz : Nat} {tm : Int} {v : Value} {qs : List Rk} (h : RtAt W B pg sz tm v qs) {b : Nat} (hb : v.ownBlock = some b) : b ≠ B := by
  rintro rfl
  rcases id h.own.2 with ⟨hv, _⟩ | ⟨g, cap, cur, hv, _, hg, _⟩
  · rw [hv] at hb; cases hb
  · rw [hv] at hb
    cases hb
    rw [h.var] at hg
    simp at hg
theorem RtAt.time {W : World} {B pg sz : Nat} {tm : Int} {v : Value} {qs : List Rk} (h : RtAt W B pg sz tm v qs) (t : Int) :
    RtAt (W.setCell ⟨B, 2, none⟩ (.int .i64 t)) B pg sz t v qs ∧ KpI W (W.setCell ⟨B, 2, none⟩ (.int .i64 t)) ∧ Fb (rcF B v) W (W.setCell ⟨B, 2, none⟩ (.int .i64 t)) := by
  have hk : KpI W (W.setCell ⟨B, 2, none⟩ (.int .i64 t)) := KpI.set h.var (by decide) _
  exact ⟨⟨row_set h.var, own_blk h.own fun b hb => Below.heap_setCell _ _ _ _ (by exact h.apart hb), fun q hq => (h.ins q hq).kpi hk, h.few⟩, hk, Fb.set (F := rcF B v) (p := ⟨B, 2, none⟩) (.inl rfl) _⟩
theorem mem_set_of {qs : List Rk} {k : Nat} {x q : Rk} (h : q ∈ qs.set k x) : q ∈ qs ∨ q = x := List.mem_or_eq_of_mem_set h
theorem RtAt.use {W : World} {B pg sz : Nat} {tm : Int} {qs : List Rk} {g n cap : Nat} (h : RtAt W B pg sz tm (.slice (some ⟨g, 0, none⟩) n cap) qs) {k : Nat} (hk : k < qs.length) (t : Int) :
    RtAt (W.setCell ⟨g, k * 3 + 2, none⟩ (.int .i64 t)) B pg sz tm (.slice (some ⟨g, 0, none⟩) n cap) (qs.set k ((rk qs k).at t)) ∧ KpI W (W.setCell ⟨g, k * 3 + 2, none⟩ (.int .i64 t)) ∧ Fb (rcF B (.slice (some ⟨g, 0, none⟩) n cap)) W (W.setCell ⟨g, k * 3 + 2, none⟩ (.int .i64 t)) := by
  have hgB : g ≠ B := h.apart (b := g) rfl
  obtain ⟨g', cap', cur, hv, hg, _, _⟩ := h.isSome hk
  have hgg : g' = g ∧ n = qs.length := by cases hv; exact ⟨rfl, rfl⟩
  obtain ⟨rfl, rfl⟩ := hgg
  have hkp : KpI W (W.setCell ⟨g', k * 3 + 2, none⟩ (.int .i64 t)) := KpI.set hg (by decide) _
  refine ⟨⟨?_, ?_, fun q hq => ?_, by rw [List.length_set]; exact h.few⟩, hkp, Fb.set (F := rcF B _) (p := ⟨g', k * 3 + 2, none⟩) (.inr rfl) _⟩
  · rw [Below.heap_setCell _ _ _ _ (by exact fun e => hgB e.symm)]; exact h.var
  · rw [List.length_set, flatM_set qs t k hk]
    exact (World.ownsRow.stored h.own (k * 3 + 2) (.int .i64 t)).1
  · rcases mem_set_of hq with hq | rfl
    · exact (h.ins q hq).kpi hkp
    · have h1 := (h.ins _ (rk_mem hk)).kpi hkp
      exact ⟨h1.rd, h1.ints, h1.is, h1.short, h1.rep⟩
theorem rtF_set {B : Nat} {v : Value} {qs : List Rk} {k : Nat} (hk : k < qs.length) {t : Int} {i : Nat} (h : rtF B v (qs.set k ((rk qs k).at t)) i) : rtF B v qs i := by
  rcases h with h | ⟨q, hq, p, hp, e⟩
  · exact .inl h
  · rcases mem_set_of hq with hq | rfl
    · exact .inr ⟨q, hq, p, hp, e⟩
    · exact .inr ⟨_, rk_mem hk, p, hp, e⟩
theorem own_low17 {base e size n : Nat} {v : Value} {xs : List Value} {w : World} (h : w.ownsRow base e size v n xs) : w.ownsRow 0 e size v n xs := by
  refine ⟨h.1, ?_⟩
  rcases h.2 with h' | ⟨g, c, cur, hv, hB, rest⟩
  · exact .inl h'
  · exact .inr ⟨g, c, cur, hv, Nat.zero_le _, rest⟩
/-- Its list turned: the new one is a row of the call's own. -/
theorem RtAt.list {W W' : World} {B pg sz : Nat} {tm : Int} {v v' : Value} {qs qs' : List Rk} {base : Nat} (h : RtAt W B pg sz tm v qs) (hb : Below W.heap.size W W') (ho : W'.ownsRow base 45 3 v' qs'.length (flatM qs')) (hbase : W.heap.size ≤ base) (hq : ∀ q ∈ qs', RkIn W' q) (hf : qs'.length ≤ 5000) :
    RtAt (W'.setCell ⟨B, 3, none⟩ v') B pg sz tm v' qs' ∧ KpI W (W'.setCell ⟨B, 3, none⟩ v') ∧ Fb (rcF B v) W (W'.setCell ⟨B, 3, none⟩ v') ∧ (∀ b, v'.ownBlock = some b → W.heap.size ≤ b) := by
  have hv' : W'.heap[B]? = _ := block_bel h.var hb
  have hk : KpI W' (W'.setCell ⟨B, 3, none⟩ v') := KpI.set hv' (by decide) _
  have hge : ∀ b, v'.ownBlock = some b → W.heap.size ≤ b := fun b hb' => Nat.le_trans hbase (ho.lt b hb').1
  have hB := lt_of_block h.var
  refine ⟨⟨row_set hv', ?_, fun q hm => (hq q hm).kpi hk, hf⟩, (KpI.of hb).trans hk, (Fb.of hb).trans (Fb.set (F := rcF B v) (p := ⟨B, 3, none⟩) (.inl rfl) _) fun x hx => .inl hx, hge⟩
  refine own_low17 (own_blk ho fun b hb' => Below.heap_setCell _ _ _ _ ?_)
  have := hge b hb'
  intro e
  have e' : b = B := e
  omega
/-- One mark gone. -/
theorem RtAt.gone {W W' : World} {B pg sz : Nat} {tm : Int} {v v' : Value} {qs : List Rk} {base o : Nat} (h : RtAt W B pg sz tm v qs) (hb : Below W.heap.size W W') (hlt : o < qs.length) (ho : W'.ownsRow base 45 3 v' (qs.length - 1) (flatM (qs.take o) ++ flatM (qs.drop (o + 1)))) (hbase : W.heap.size ≤ base) :
    RtAt (W'.setCell ⟨B, 3, none⟩ v') B pg sz tm v' (qs.eraseIdx o) ∧ KpI W (W'.setCell ⟨B, 3, none⟩ v') ∧ Fb (rcF B v) W (W'.setCell ⟨B, 3, none⟩ v') ∧ (∀ b, v'.ownBlock = some b → W.heap.size ≤ b) := by
  have hf := h.few
  have e1 : (qs.eraseIdx o).length = qs.length - 1 := by rw [List.length_eraseIdx, if_pos hlt]
  rw [← flatM_app, ← List.eraseIdx_eq_take_drop_succ] at ho
  exact h.list hb (by rw [e1]; exact ho) hbase (fun q hq => (h.ins q (List.mem_of_mem_eraseIdx hq)).below hb) (by omega)
/-- One mark more. -/
theorem RtAt.more {W W' : World} {B pg sz : Nat} {tm : Int} {v v' : Value} {qs : List Rk} {base : Nat} (h : RtAt W B pg sz tm v qs) (hb : Below W.heap.size W W') {q : Rk} (ho : W'.ownsRow base 45 3 v' (qs.length + 1) (flatM qs ++ [.slice q.ap q.toks.length q.cp, .int .u64 q.rep, .int .i64 q.used])) (hbase : W.heap.size ≤ base) (hq : RkIn W' q) (hf : qs.length + 1 ≤ 5000) :
    RtAt (W'.setCell ⟨B, 3, none⟩ v') B pg sz tm v' (qs ++ [q]) ∧ KpI W (W'.setCell ⟨B, 3, none⟩ v') ∧ Fb (rcF B v) W (W'.setCell ⟨B, 3, none⟩ v') ∧ (∀ b, v'.ownBlock = some b → W.heap.size ≤ b) := by
  have e1 : (qs ++ [q]).length = qs.length + 1 := by simp
  have e2 : flatM qs ++ [.slice q.ap q.toks.length q.cp, .int .u64 q.rep, .int .i64 q.used] = flatM (qs ++ [q]) := by rw [flatM_app]; rfl
  rw [e2] at ho
  refine h.list hb (by rw [e1]; exact ho) hbase (fun y hy => ?_) (by omega)
  rcases List.mem_append.1 hy with hy | hy
  · exact (h.ins y hy).below hb
  · simp at hy; rw [hy]; exact hq
theorem Try.infoMa : (Try.prog.info? 45).map (fun i => (i.zero, i.size, i.bytes)) = some (some (.agg #[.slice none 0 0, .int .u64 0, .int .i64 0]), 3, 40) := by kernel_rfl
theorem Try.undMa : Try.prog.underlying 28 = some (.slice 45) := by kernel_rfl
/-- An append to a row of the call's own, whatever is appended, at a step of a region that draws its order. -/
theorem step_append17 {P : Program} {w : World} {ops : Array Oper} {o : Oper} {a : Act} {K : Act → World → Prop} {Q : Exit → Act → World → Prop} {E : Prop} (hgd : o.guard = none) (d : Tmp) (hd : o.dst = some d) (s x : Operand) (t : TypeId)
    (ho : o.op = .call { callee := .builtin .append, args := #[s, x], argTypes := #[t, t] })
    (base : Nat) (e : TypeId) (i : TypeInfo) (z : Value) (size bytes : Nat) (ht : P.underlying t = some (.slice e)) (hi : P.info? e = some i) (hz : i.zero = some z) (hsize : i.size = size) (hby : i.bytes = bytes) (hzs : z.cells.size = size) (hsz : 0 < size) (hbt : bytes ≤ 64)
    (v : Value) (n : Nat) (xs : List Value) (hs : a.eval s = v) (hown : w.ownsRow base e size v n xs)
    (ao : Option Addr) (m c : Nat) (news : List Value) (hx : a.eval x = .slice ao m c) (hnone : ao = none → m = 0 ∧ c = 0) (hl : news.length = m * size) (hnews : ∀ b, ao = some b → ∀ j u, news[j]? = some u → w.cell? (b.add j) = some u) (h1 : ∀ u ∈ news, u.oneCell' = true)
    (hnm : n + m ≤ 100000) (hbase : base ≤ w.heap.size)
    (h : ∀ v' w', w'.ownsRow base e size v' (n + m) (xs ++ news) → Below base w w' → K (a.put (some d) v') w') :
    if Region.wanted o (yielded ops a.tmps) = true then Oper.wp P o a w K Q else E := by
  have hw : Region.wanted o (yielded ops a.tmps) = true := by simp [Region.wanted, hgd]
  rw [if_pos hw]
  have hbytes : (n + m) * bytes ≤ 140737488355328 := by have : (n + m) * bytes ≤ (n + m) * 64 := Nat.mul_le_mul_left _ hbt; omega
  have key : ∃ v' w', (Builtin.append_ #[t, t] o.type #[v, .slice ao m c]).run P w = .ok v' w' ∧ w'.ownsRow base e size v' (n + m) (xs ++ news) ∧ Below base w w' := by
    cases ao with
    | some b =>
      obtain ⟨v', w', hrun, r1, r2, _⟩ := run_append_own (P := P) w base t o.type e i z size bytes ht hi hz hsize hby hzs hsz v n xs hown b m c news hl (hnews b rfl) h1 (by unfold maxLen; omega) hbytes hbase
      exact ⟨v', w', hrun, r1, (Below.refl _ _).grown r2 hbase fun g hg => (hown.lt g hg).1⟩
    | none =>
      obtain ⟨rfl, rfl⟩ := hnone rfl
      obtain rfl : news = [] := List.eq_nil_of_length_eq_zero (by simpa using hl)
      exact ⟨v, w, run_append_owned_none (P := P) (w := w) base t o.type e i size ht hi v n xs hown, by simpa using hown, Below.refl _ _⟩
  obtain ⟨v', w', hr, h2, h3⟩ := key
  unfold Oper.wp execOp
  simp only [ho, resolve, invoke, builtin, Sem.run_bind, Sem.run_pure, Result.andThen_ok, List.map_toArray, List.map_cons, List.map_nil, hs, hx, hr]
  show K (a.put o.dst _) w'
  rw [hd]
  exact h v' w' h2 h3
theorem own_bln17 {base n : Nat} {v : Value} {w : World} {xs : List Value} (h : w.ownsRow base 3 1 v n xs) : ∀ a l c, v = .slice a l c → ∀ p, a = some p → ∃ cur fz, w.heap[p.block]? = some (.cells cur 3 fz) := by
  rintro a l c rfl p rfl
  rcases id h.2 with ⟨hv, _⟩ | ⟨g, cap, cur, hv, _, hg, _⟩
  · cases hv
  · cases hv; exact ⟨cur, (0, 0), hg⟩
theorem RtAt.bare {W : World} {B pg sz : Nat} {tm : Int} {av : Option Addr} {n cv : Nat} {qs : List Rk} (h : RtAt W B pg sz tm (.slice av n cv) qs) : av = none → n = 0 ∧ cv = 0 := by
  rintro rfl
  rcases id h.own.2 with ⟨hv, _⟩ | ⟨g, cap, cur, hv, _⟩
  · cases hv; exact ⟨rfl, rfl⟩
  · cases hv
theorem RtAt.news {W : World} {B pg sz : Nat} {tm : Int} {av : Option Addr} {n cv : Nat} {qs : List Rk} (h : RtAt W B pg sz tm (.slice av n cv) qs) : ∀ b, av = some b → ∀ j u, (flatM qs)[j]? = some u → W.cell? (b.add j) = some u := by
  rintro b rfl
  rcases id h.own.2 with ⟨hv, _⟩ | ⟨g, cap, cur, hv, _⟩
  · cases hv
  · cases hv; exact h.own.cells (g := g) rfl
theorem own_some17 {base e size n : Nat} {v : Value} {xs : List Value} {w : World} (h : w.ownsRow base e size v n xs) (hn : 0 < n) : ∃ g c, v = .slice (some ⟨g, 0, none⟩) n c := by
  rcases id h.2 with ⟨_, h0⟩ | ⟨g, cap, cur, hv, _⟩
  · omega
  · exact ⟨g, cap, hv⟩
theorem own_sl17 {base e size n : Nat} {v : Value} {xs : List Value} {w : World} (h : w.ownsRow base e size v n xs) : ∃ a c, v = .slice a n c := by
  rcases id h.2 with ⟨hv, h0⟩ | ⟨g, cap, cur, hv, _⟩
  · exact ⟨none, 0, by rw [hv, h0]⟩
  · exact ⟨_, cap, hv⟩
/-- The marks' slice cut to its first ones, and to those behind one. -/
theorem cutM_to (g n cap m : Nat) (hm : m ≤ cap) (W : World) :
    (Instr.sliceAt 28 (.slice (some ⟨g, 0, none⟩) n cap) none (some (.int .i64 (m : Int))) none).run Try.prog W = .ok (.slice (some ⟨g, 0, none⟩) m cap) W := by
  obtain ⟨j0, ji, jz0, jz1, jz2⟩ := info_parts Try.infoMa
  have h1 : (Instr.sliceBound (.int .i64 (m : Int)) cap .sliceAcap).run Try.prog W = .ok m W := by
    rw [run_sliceBound W .i64 (m : Int) cap _ (by omega) (by omega)]; simp
  simp [Instr.sliceAt, Instr.slice, run_underlying Try.undMa, Instr.sliceBounds, h1, sizeOf, typeInfo, ji, Addr.add]
theorem cutM_from (g n cap m : Nat) (hm : m + 1 ≤ n) (hc : n ≤ cap) : ∃ A : Addr, (∀ W : World,
    (Instr.sliceAt 28 (.slice (some ⟨g, 0, none⟩) n cap) (some (.int .i64 ((m : Int) + 1))) none none).run Try.prog W = .ok (.slice (some A) (n - (m + 1)) (cap - (m + 1))) W) ∧ (m + 1 < n → A = ⟨g, (m + 1) * 3, none⟩) := by
  obtain ⟨j0, ji, jz0, jz1, jz2⟩ := info_parts Try.infoMa
  have h1 : ∀ W : World, (Instr.sliceBound (.int .i64 ((m : Int) + 1)) n .sliceB).run Try.prog W = .ok (m + 1) W := fun W => by
    rw [run_sliceBound W .i64 ((m : Int) + 1) n _ (by omega) (by omega)]; congr 1
  refine ⟨if cap - (m + 1) = 0 then ⟨g, 0, none⟩ else ⟨g, (m + 1) * 3, none⟩, fun W => ?_, fun h => by rw [if_neg (by omega)]⟩
  simp [Instr.sliceAt, Instr.slice, run_underlying Try.undMa, Instr.sliceBounds, h1, sizeOf, typeInfo, ji, jz1, Addr.add]
  split <;> simp_all <;> omega
end Go.Proofs.Ytdchoegaindnbaa
