/-
  A memory and a row of slices that grows: an append to the one turns nothing of the other.
-/
import Derived.Test.YtehmdlipacbpfaaGreatAArgs
namespace Go.Proofs.YtehmdlipacbpfaaGreat
open Go.RowKit
set_option linter.unusedVariables false
set_option maxRecDepth 1000000

/-- An append of one slice to a row of slices of the call's own. -/
theorem append_rowO {P : Program} (w : World) {ops : Array Oper} {rest : List Oper} {o : Oper} {a : Act} {Q : Exit → Act → World → Prop} (hgd : o.guard = none) (s x : Operand) (t : TypeId)
    (ho : o.op = .call { callee := .builtin .append, args := #[s, x], argTypes := #[t, t] })
    (base : Nat) (i : TypeInfo) (ht : P.underlying t = some (.slice 25)) (hi : P.info? 25 = some i) (hz : i.zero = some (.slice none 0 0)) (hsize : i.size = 1) (hby : i.bytes = 24)
    (v : Value) (n : Nat) (hs : List Hd) (ls : List (List Int)) (hv : a.eval s = v) (hown : RowsI w base v n hs ls) (hn : n ≤ 100000)
    (B : Nat) (y : Hd) (zs : List Int) (hx : a.eval x = .slice (some ⟨B, 0, none⟩) 1 1) (hc : w.cell? ⟨B, 0, none⟩ = some (.slice y.1 y.2.1 y.2.2)) (hr : Reads .i64 w y.1 y.2.1 y.2.2 zs) (h5 : BlI w y.1) (hy : y.2.1 ≤ 1000)
    (hbase : base ≤ w.heap.size)
    (h : ∀ v' w', RowsI w' base v' (n + 1) (hs ++ [y]) (ls ++ [zs]) → w.grownBy w' v.ownBlock → wpList P ops Q rest (a.put o.dst v') w') : wpList P ops Q (o :: rest) a w := by
  have hlen : hs.length = n := by have := hown.own.1; simpa using this
  refine wpList_append_own w hgd s x t ho base 25 i (.slice none 0 0) 1 24 ht hi hz hsize hby rfl (by decide) v n _ hv hown.own ⟨B, 0, none⟩ 1 1 [hdV y] hx rfl ?_ ?_ (by unfold maxLen; omega) (by omega) hbase ?_
  · intro j u hu
    rcases j with _ | j
    · simp at hu
      rw [Addr.add_lit, Nat.zero_add, hc, ← hu]
      rfl
    · simp at hu
  · intro u hu
    simp at hu
    subst hu
    rfl
  · intro v' w' h1 h2 _
    refine h v' w' ⟨by rw [List.map_append]; exact h1, by simp [hown.size], fun j hj => ?_⟩ h2
    have hsz := hown.size
    rcases Nat.lt_or_ge j n with hj' | hj'
    · obtain ⟨e2, e3, e4⟩ := hown.rows j hj'
      obtain ⟨k1, k2⟩ := Reads.kept hown.own h2 e2 e3
      rw [List.getElem?_append_left (by omega), List.getElem?_append_left (by omega)]
      exact ⟨k1, k2, e4⟩
    · obtain rfl : j = n := by omega
      obtain ⟨k1, k2⟩ := Reads.kept hown.own h2 hr h5
      rw [List.getElem?_append_right (by omega), List.getElem?_append_right (by omega)]
      simp only [hlen, hsz, Nat.sub_self, List.getElem?_cons_zero, Option.getD_some]
      exact ⟨k1, k2, hy⟩
/-- The row's own block is one of slices. -/
theorem own_type {w : World} {base e n : Nat} {v : Value} {vals : List Value} (ho : w.ownsRow base e 1 v n vals) {o : Nat} (h : v.ownBlock = some o) : ∃ cur, w.heap[o]? = some (.cells cur e (0, 0)) := by
  rcases ho.2 with ⟨rfl, _⟩ | ⟨g, cap, cur, rfl, _, hg, _⟩
  · simp [Value.ownBlock] at h
  · simp [Value.ownBlock] at h
    subst h
    exact ⟨cur, hg⟩
theorem TbH.grown {W W' : World} {base n : Nat} {v : Value} {vals : List Value} {h : Hd} {ls : List (List Int)} (k : TbH W h ls) (ho : W.ownsRow base 25 1 v n vals) (hg : W.grownBy W' v.ownBlock) (hf : ∀ o, v.ownBlock = some o → ∀ ad, h.1 = some ad → ad.block ≠ o) : TbH W' h ls := by
  obtain ⟨h1, hs, h2, h3, h4⟩ := k
  have key : ∀ p, h.1 = some p → W'.heap[p.block]? = W.heap[p.block]? := by
    intro p hp
    obtain ⟨cur, fz, hc⟩ := h3 p hp
    exact hg.block p.block (lt_of_block hc) (fun e => hf p.block e.symm p hp rfl)
  refine ⟨h1, hs, ⟨⟨h2.rd.size, h2.rd.room, h2.rd.most, h2.rd.bare, fun i hi => ?_⟩, fun i hi => (Reads.kept ho hg (h2.rows i hi) (h4 i hi)).1, h2.short⟩, fun p hp => ?_, fun i hi => (Reads.kept ho hg (h2.rows i hi) (h4 i hi)).2⟩
  · obtain ⟨b, off, ha, hc⟩ := h2.rd.cell i hi
    exact ⟨b, off, ha, (World.cell?_of_block (a := ⟨b, off + i, none⟩) (key ⟨b, off, none⟩ ha)).trans hc⟩
  · obtain ⟨cur, fz, hc⟩ := h3 p hp
    exact ⟨cur, fz, (key p hp).trans hc⟩
theorem MemB.grown {W W' : World} {B g : Nat} {M : List KV} {ps : List Hp} {base n : Nat} {v : Value} {vals : List Value} (h : MemB W B g M ps) (ho : W.ownsRow base 25 1 v n vals) (hg : W.grownBy W' v.ownBlock)
    (hf : ∀ i, i < M.length → ∀ o, v.ownBlock = some o → (∀ ad, (pk ps i).1.1 = some ad → ad.block ≠ o) ∧ ∀ ad, (pk ps i).2.1 = some ad → ad.block ≠ o) : MemB W' B g M ps := by
  have hB : W'.heap[B]? = W.heap[B]? := by
    refine hg.block B (lt_of_block h.var) (fun e => ?_)
    obtain ⟨cur, hc⟩ := own_type ho e.symm
    rw [h.var] at hc
    simp at hc
  have hG : W'.heap[g]? = W.heap[g]? := by
    obtain ⟨cur', hc'⟩ := h.own.blk
    refine hg.block g (lt_of_block hc') (fun e => ?_)
    obtain ⟨cur, hc⟩ := own_type ho e.symm
    rw [hc'] at hc
    simp at hc
  exact ⟨hB.trans h.var, own_same h.own hG, fun i hi => ⟨(h.rows i hi).1.grown ho hg (fun o e => (hf i hi o e).1), (h.rows i hi).2.grown ho hg (fun o e => (hf i hi o e).2)⟩⟩
/-- What stands between the first rounds of AttnCuts. -/
def CutAt (wS : World) (c : Cf) (L : Nat) (xss : List (List Int)) (k : Nat) (u v : Value) (W : World) : Prop :=
  ∃ (B : Nat) (hs : List Hd), u = .pointer (some ⟨B, 0, none⟩) ∧ MemAt W (some ⟨B, 0, none⟩) (memL c L xss k) ∧ RowsI W wS.heap.size v k hs (tblK (madeL c L xss) k) ∧ Below wS.heap.size wS W
theorem CutAt.step {wS wr w1 w3 : World} {c : Cf} {L : Nat} {xss : List (List Int)} {k : Nat} {v v' : Value} {hs hs' : List Hd} {B g : Nat} {ps : List Hp} {o : Obj}
    (hO : RowsI wr wS.heap.size v k hs (tblK (madeL c L xss) k)) (hW : Below wS.heap.size wS wr) (hM : MemB w1 B g (memL c L xss (k + 1)) ps) (hF : ∀ i, i < (memL c L xss (k + 1)).length → Fr2 wr (pk ps i)) (hb : Below wr.heap.size wr w1)
    (hg : (w1.alloc o).grownBy w3 v.ownBlock) (hO3 : RowsI w3 wS.heap.size v' (k + 1) hs' (tblK (madeL c L xss) k ++ [madeL c L xss k])) : CutAt wS c L xss (k + 1) (.pointer (some ⟨B, 0, none⟩)) v' w3 := by
  have ha : Below w1.heap.size w1 (w1.alloc o) := (Below.refl _ _).alloc (Nat.le_refl _) _
  have hO2 := (hO.below hb).below ha
  refine ⟨B, hs', rfl, .inr ⟨B, g, ps, rfl, (hM.below ha).grown hO2.own hg ?_⟩, by rw [← tblK_snoc]; exact hO3, ?_⟩
  · intro i hi o e
    have h1 := (hO.own.lt o e).2
    refine ⟨fun ad had => ?_, fun ad had => ?_⟩
    · have := (hF i hi).1 ad had; omega
    · have := (hF i hi).2 ad had; omega
  · have h1 : Below wS.heap.size wS w1 := hW.trans (hb.mono hW.size)
    have h2 : Below wS.heap.size wS (w1.alloc o) := h1.trans (ha.mono h1.size)
    exact h2.grown hg h2.size fun g hg => (hO2.own.lt g hg).1
end Go.Proofs.YtehmdlipacbpfaaGreat
