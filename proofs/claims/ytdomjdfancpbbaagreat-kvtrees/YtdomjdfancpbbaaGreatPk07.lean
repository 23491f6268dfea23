/-
  AFars: What the statements of layer 10 lean on: far tells of tables that are not too long; the small configuration; two memories that are not the same; Through along a list of vectors; alive is true.
  AAlive: Contract: alive of layer 10 is true.
  AArgs: The arguments of the statements of layer 10: a list of numbers, a table, as they came in; a slice of one and of two tables; 'same' of like lists.
  ACuts: A memory and a row of slices that grows: an append to the one turns nothing of the other.
  RSteps: The document's contracts in one form; an append of one value to a row of the call's own; contract: the document's Step.
  ROwns: Rows of slices of the call's own, two of one type side by side: an append to the one tells where its row then lies, and turns nothing of the other; a row of pairs of slices.
  RStepY: Contract: the document's Step.
  RThroughs: Contract: the document's Through.
  AThrs: What the places of a text are in the document's way (plK, plV), and how a memory has them; a row of places that grows turns no memory.
  SMath: Mathematics of the weights: they are from 0 to One, and their order is that of what was handed in.
  HMath: Mathematics of the marks: their order, the heap, what a change of two places does to it, and that what goes up, or down, leaves a heap.
  Marks: A row of marks that the call owns (OwnM); contracts of the marks' methods: below, Len, Less, Swap.
  Ups: Contracts: heap.up and heap.down over the marks.
-/
import Derived.Test.YtdomjdfancpbbaaGreatPk06
import Derived.Test.YtdomjdfancpbbaaGreatPk04
import Derived.Deep.Matrix
import Derived.ProofKit
import Derived.Deep.QuietTactic
import Derived.BigQuiet
namespace Go.Proofs.YtdomjdfancpbbaaGreat
open Go.RowKit
set_option linter.unusedVariables false
set_option maxRecDepth 1000000

/-- None of these tables is too long. -/
def NotFar (n : Nat) (hs3 : List Hd) (T : Nat → List Hd) : Prop := n ≤ 40 ∧ ∀ i, i < hs3.length → (hs3[i]?.getD (none, 0, 0)).2.1 ≤ 30 ∧ ∀ j, j < (hs3[i]?.getD (none, 0, 0)).2.1 → ((T i)[j]?.getD (none, 0, 0)).2.1 ≤ 40
/-- What far answers. -/
def FarG (w : World) (n : Nat) (hs3 : List Hd) (T : Nat → List Hd) (e : Ending) (w' : World) : Prop := ∃ b, e = .returned (.bool b) ∧ (b = false → NotFar n hs3 T) ∧ w' = w
theorem may_small : mayB ⟨5, 4, 2, 2, 1, 0⟩ = true := by decide
/-- Through, along a list of vectors. -/
theorem memL_even (c : Cf) (L : Nat) (xs : List (List Int)) (k : Nat) : Even (memL c L xs k) k := fun i hi => memL_at c L xs k (by rw [memL_len] at hi; exact hi)
theorem cf_lay {c : Cf} (h : mayB c = true) : ∃ L : Nat, c = ⟨c.seed, c.vocab, c.dim, (L : Int), c.top, c.heat⟩ ∧ c.layers = L ∧ c.layers.toNat = L ∧ 1 ≤ L ∧ L ≤ 4 := by
  have := may_parts h
  refine ⟨c.layers.toNat, ?_, (Int.toNat_of_nonneg (by omega)).symm, rfl, by omega, by omega⟩
  rw [Int.toNat_of_nonneg (by omega)]
theorem through_any (p : Option Addr) (c : Cf) (qm : Option Addr) (M : List KV) (q0 : Nat) (a : Option Addr) (n cap : Nat) (zs : List Int) (w : World) (hp : MdAt w p c) (hc : mayB c = true) (hm : MemAt w qm M) (hM : M.length ≤ 4) (hE : Even (fromM M c.layers.toNat) q0) (hq : q0 ≤ 900)
    (hx : Reads .i64 w a n cap zs) (hn : n ≤ 1000) :
    Calls Tryz.prog 63 #[.pointer p, .pointer qm, .slice a n cap] w fun e w' => ThrG w (thrX c (fromM M c.layers.toNat) zs c.layers.toNat) (thrM c (fromM M c.layers.toNat) zs c.layers.toNat) e w' := by
  obtain ⟨L, h1, h2, h3, h4, h5⟩ := cf_lay hc
  obtain ⟨s, v, d, l, tt, h⟩ := c
  simp only at h2 h3
  subst h2
  rw [h3] at hE ⊢
  exact through_nat p s v d tt h L qm M q0 a n cap zs w hp hc h5 hm hM hE hq hx hn h4
theorem through_mem (p : Option Addr) (c : Cf) (qm : Option Addr) (xs : List (List Int)) (k : Nat) (a : Option Addr) (n cap : Nat) (w : World) (hp : MdAt w p c) (hc : mayB c = true) (hm : MemAt w qm (memL c c.layers.toNat xs k)) (hk : k ≤ 900)
    (hx : Reads .i64 w a n cap (xs[k]?.getD [])) (hn : n ≤ 1000) :
    Calls Tryz.prog 63 #[.pointer p, .pointer qm, .slice a n cap] w fun e w' => ThrG w (madeL c c.layers.toNat xs k) (memL c c.layers.toNat xs (k + 1)) e w' := by
  have hp4 := may_parts hc
  have hF : fromM (memL c c.layers.toNat xs k) c.layers.toNat = memL c c.layers.toNat xs k := by unfold fromM; rw [if_pos (memL_len _ _ _ _)]
  have := through_any p c qm (memL c c.layers.toNat xs k) k a n cap (xs[k]?.getD []) w hp hc hm (by rw [memL_len]; omega) (by rw [hF]; exact memL_even _ _ _ _) hk hx hn
  rw [hF] at this
  exact this
theorem tabL_dim {c : Cf} {la wh : Int} (l0 : 0 ≤ la) (l1 : la < c.layers) (w0 : 0 ≤ wh) (w1 : wh ≤ 5) : (tabL c la wh).length = c.dim.toNat := by unfold tabL; rw [if_pos ⟨l0, l1, w0, w1⟩, tblK_len]
theorem outL_dim {c : Cf} {la : Int} (l0 : 0 ≤ la) (l1 : la < c.layers) {x : List Int} (hx : x.length = c.dim.toNat) (ks vs : List (List Int)) : (outL c la x ks vs).length = c.dim.toNat := by
  have hh : (hidL c la x ks vs).length = c.dim.toNat := by
    unfold hidL
    rw [addL_len, mulT_len, tabL_dim l0 l1 (by omega) (by omega)]
    omega
  unfold outL fwdL
  rw [addL_len, mulT_len, tabL_dim l0 l1 (by omega) (by omega)]
  omega
theorem thrX_dim {c : Cf} (M : List KV) {x : List Int} (hx : x.length = c.dim.toNat) (k : Nat) (hk : (k : Int) ≤ c.layers) : (thrX c M x k).length = c.dim.toNat := by
  induction k with
  | zero => exact hx
  | succ k ih => simp only [thrX]; exact outL_dim (by omega) (by omega) (ih (by omega)) _ _
end Go.Proofs.YtdomjdfancpbbaaGreat
namespace Go.Proofs.YtdomjdfancpbbaaGreat
open Go.RowKit
set_option linter.unusedVariables false
set_option maxRecDepth 1000000

theorem tokL_dim {c : Cf} {t : Int} (t0 : 0 ≤ t) (t1 : t < c.vocab) : (tokL c t).length = c.dim.toNat := by unfold tokL; rw [if_pos ⟨t0, t1⟩, rowK_len]
theorem madeL_dim {c : Cf} (hc : mayB c = true) (xs : List (List Int)) (k : Nat) (hx : (xs[k]?.getD []).length = c.dim.toNat) : (madeL c c.layers.toNat xs k).length = c.dim.toNat := by
  have := may_parts hc
  exact thrX_dim _ hx _ (by omega)
end Go.Proofs.YtdomjdfancpbbaaGreat
namespace Go.Proofs.YtdomjdfancpbbaaGreat
open Go.RowKit
set_option linter.unusedVariables false
set_option maxRecDepth 1000000

/-- A table that came in. -/
def TblIn (w : World) (a : Option Addr) (len cap : Nat) (hs : List Hd) (xss : List (List Int)) : Prop :=
  Rd2 w a len cap hs ∧ xss.length = len ∧ ∀ i, i < len → Reads .i64 w (hs[i]?.getD (none, 0, 0)).1 (hs[i]?.getD (none, 0, 0)).2.1 (hs[i]?.getD (none, 0, 0)).2.2 (xss[i]?.getD [])
theorem tbl_in {H : Type} {enc : TypeId × Value → H} {w : World} {held : Bool} {fuel : Nat} {a : Option Addr} {len cap : Nat} {x : DataW H × List MemPlace}
    (h : DataW.trod enc Tryz.prog w 0 (fun _ => true) held fuel 83 [.slice a len cap] = some x) : ∃ hs xss, TblIn w a len cap hs xss := by
  rcases Go.Deep.open_int_rows Tryz.underlying83 Tryz.underlying99 Tryz.underlying2 (by kernel_rfl) (by kernel_rfl) h with ⟨hcs, _⟩ | ⟨ad, l, c, A, L, C, Z, hcs, _, hl, hm, _, hx⟩
  · simp at hcs
    obtain ⟨rfl, rfl, rfl⟩ := hcs
    exact ⟨[], [], ⟨rfl, Nat.le_refl _, by omega, fun _ => ⟨rfl, rfl⟩, fun i hi => by omega⟩, rfl, fun i hi => by omega⟩
  · simp at hcs
    obtain ⟨rfl, rfl, rfl⟩ := hcs
    have hrow : ∀ i, i < len → IsRow' .i64 w (A i) (L i) (C i) (Z i) := by
      intro i hi
      obtain ⟨hc, h1, h2, h3, h4, h5, h6⟩ := hx i (by omega)
      cases hA : A i with
      | none =>
        have hC := h5 hA
        exact .inl ⟨rfl, by omega, hC, List.eq_nil_of_length_eq_zero (by omega)⟩
      | some a' => exact .inr ⟨a', rfl, h1, h2, h3, fun c hc' => (h6 a' hA).2 c (by omega), h4⟩
    refine ⟨(List.range len).map fun r => (A r, L r, C r), (List.range len).map fun r => (Z r).take (L r), ⟨by simp, hl, by unfold maxLen at hm; omega, (fun e => by cases e), fun i hi => ?_⟩, by simp, fun i hi => ?_⟩
    · obtain ⟨hc, _⟩ := hx i (by omega)
      obtain ⟨b, off, spot⟩ := ad
      have hspot : spot = none := by simpa [Addr.add] using World.cell?_spot (hx 0 (by omega)).1
      subst hspot
      rw [Go.WideShapes.add_plain] at hc
      refine ⟨b, off, rfl, ?_⟩
      rw [hc]
      simp [hi]
    · have := (Reads.row (hrow i hi)).1
      simpa [hi] using this
section
open Go.ChangeShapes Go.WideShapes Go.ChangeAt
variable {H : Type} {enc : TypeId × Value → H} {W : World}
theorem rows_open {b0 : Nat} {v : Value} {d : DataW H} {ps : List MemPlace} (hv : Value.okWide Tryz.prog W .any b0 83 v) (h : DataW.Trod enc Tryz.prog W 0 (fun _ => true) true 83 v d ps) :
    ∃ a len cap hs xss, v = .slice a len cap ∧ TblIn W a len cap hs xss := by
  obtain ⟨a, len, cap, rfl⟩ := okWide_slice Tryz.underlying83 hv
  obtain ⟨fuel, hf⟩ := h
  obtain ⟨hs, xss, hz⟩ := tbl_in hf
  exact ⟨a, len, cap, hs, xss, rfl, hz⟩
end
theorem rd2_oneT (T : TypeId) (w : World) (a : Option Addr) (la ca : Nat) {B : Nat} (hB : w.heap.size = B) : Rd2 (w.alloc (.cells #[.slice a la ca] T)) (some ⟨B, 0, none⟩) 1 1 [(a, la, ca)] := by
  subst hB
  refine ⟨rfl, Nat.le_refl _, by omega, (fun e => by cases e), fun i hi => ⟨w.heap.size, 0, rfl, ?_⟩⟩
  rw [Nat.zero_add, cell_of_row _ w.heap.size i _ _ _ (heap_alloc_new w _)]
  obtain rfl : i = 0 := by omega
  rfl
theorem rd2_twoT (T : TypeId) (w : World) (a b : Option Addr) (la ca lb cb : Nat) {B : Nat} (hB : w.heap.size = B) : Rd2 (w.alloc (.cells #[.slice a la ca, .slice b lb cb] T)) (some ⟨B, 0, none⟩) 2 2 [(a, la, ca), (b, lb, cb)] := by
  subst hB
  refine ⟨rfl, Nat.le_refl _, by omega, (fun e => by cases e), fun i hi => ⟨w.heap.size, 0, rfl, ?_⟩⟩
  rw [Nat.zero_add, cell_of_row _ w.heap.size i _ _ _ (heap_alloc_new w _)]
  rcases (by omega : i = 0 ∨ i = 1) with rfl | rfl <;> rfl
theorem Rd2.nil (w : World) : Rd2 w none 0 0 [] := ⟨rfl, Nat.le_refl _, by omega, fun _ => ⟨rfl, rfl⟩, fun i hi => by omega⟩
theorem TblIn.tbl {w : World} {a : Option Addr} {len cap : Nat} {hs : List Hd} {xss : List (List Int)} (h : TblIn w a len cap hs xss) (hs40 : ∀ j, j < len → (hs[j]?.getD (none, 0, 0)).2.1 ≤ 40) : Tbl w a len cap hs xss :=
  ⟨h.1, h.2.2, fun i hi => Nat.le_trans (hs40 i hi) (by omega)⟩
end Go.Proofs.YtdomjdfancpbbaaGreat
namespace Go.Proofs.YtdomjdfancpbbaaGreat
open Go.RowKit
set_option linter.unusedVariables false
set_option maxRecDepth 1000000

/-- An append of one slice to a row of slices of the call's own. -/
theorem append_rowO {P : Program} (w : World) {ops : Array Oper} {rest : List Oper} {o : Oper} {a : Act} {Q : Exit → Act → World → Prop} (hgd : o.guard = none) (s x : Operand) (t : TypeId)
    (ho : o.op = .call { callee := .builtin .append, args := #[s, x], argTypes := #[t, t] })
    (base : Nat) (i : TypeInfo) (ht : P.underlying t = some (.slice 99)) (hi : P.info? 99 = some i) (hz : i.zero = some (.slice none 0 0)) (hsize : i.size = 1) (hby : i.bytes = 24)
    (v : Value) (n : Nat) (hs : List Hd) (ls : List (List Int)) (hv : a.eval s = v) (hown : RowsI w base v n hs ls) (hn : n ≤ 100000)
    (B : Nat) (y : Hd) (zs : List Int) (hx : a.eval x = .slice (some ⟨B, 0, none⟩) 1 1) (hc : w.cell? ⟨B, 0, none⟩ = some (.slice y.1 y.2.1 y.2.2)) (hr : Reads .i64 w y.1 y.2.1 y.2.2 zs) (h5 : BlI w y.1) (hy : y.2.1 ≤ 1000)
    (hbase : base ≤ w.heap.size)
    (h : ∀ v' w', RowsI w' base v' (n + 1) (hs ++ [y]) (ls ++ [zs]) → w.grownBy w' v.ownBlock → wpList P ops Q rest (a.put o.dst v') w') : wpList P ops Q (o :: rest) a w := by
  have hlen : hs.length = n := by have := hown.own.1; simpa using this
  refine wpList_append_own w hgd s x t ho base 99 i (.slice none 0 0) 1 24 ht hi hz hsize hby rfl (by decide) v n _ hv hown.own ⟨B, 0, none⟩ 1 1 [hdV y] hx rfl ?_ ?_ (by unfold maxLen; omega) (by omega) hbase ?_
  · intro j u hu
    rcases j with _ | j
    · simp at hu
      rw [Addr.add_lit, Nat.zero_add, hc, ← hu]
      rfl
    · simp at hu
  · intro u hu
    simp at hu
    subst hu
    rfl
  · intro v' w' h1 h2 _
    refine h v' w' ⟨by rw [List.map_append]; exact h1, by simp [hown.size], fun j hj => ?_⟩ h2
    have hsz := hown.size
    rcases Nat.lt_or_ge j n with hj' | hj'
    · obtain ⟨e2, e3, e4⟩ := hown.rows j hj'
      obtain ⟨k1, k2⟩ := Reads.kept hown.own h2 e2 e3
      rw [List.getElem?_append_left (by omega), List.getElem?_append_left (by omega)]
      exact ⟨k1, k2, e4⟩
    · obtain rfl : j = n := by omega
      obtain ⟨k1, k2⟩ := Reads.kept hown.own h2 hr h5
      rw [List.getElem?_append_right (by omega), List.getElem?_append_right (by omega)]
      simp only [hlen, hsz, Nat.sub_self, List.getElem?_cons_zero, Option.getD_some]
      exact ⟨k1, k2, hy⟩
/-- The row's own block is one of slices. -/
theorem own_type {w : World} {base e n : Nat} {v : Value} {vals : List Value} (ho : w.ownsRow base e 1 v n vals) {o : Nat} (h : v.ownBlock = some o) : ∃ cur, w.heap[o]? = some (.cells cur e (0, 0)) := by
  rcases ho.2 with ⟨rfl, _⟩ | ⟨g, cap, cur, rfl, _, hg, _⟩
  · simp [Value.ownBlock] at h
  · simp [Value.ownBlock] at h
    subst h
    exact ⟨cur, hg⟩
theorem TbH.grown {W W' : World} {base n : Nat} {v : Value} {vals : List Value} {h : Hd} {ls : List (List Int)} (k : TbH W h ls) (ho : W.ownsRow base 99 1 v n vals) (hg : W.grownBy W' v.ownBlock) (hf : ∀ o, v.ownBlock = some o → ∀ ad, h.1 = some ad → ad.block ≠ o) : TbH W' h ls := by
  obtain ⟨h1, hs, h2, h3, h4⟩ := k
  have key : ∀ p, h.1 = some p → W'.heap[p.block]? = W.heap[p.block]? := by
    intro p hp
    obtain ⟨cur, fz, hc⟩ := h3 p hp
    exact hg.block p.block (lt_of_block hc) (fun e => hf p.block e.symm p hp rfl)
  refine ⟨h1, hs, ⟨⟨h2.rd.size, h2.rd.room, h2.rd.most, h2.rd.bare, fun i hi => ?_⟩, fun i hi => (Reads.kept ho hg (h2.rows i hi) (h4 i hi)).1, h2.short⟩, fun p hp => ?_, fun i hi => (Reads.kept ho hg (h2.rows i hi) (h4 i hi)).2⟩
  · obtain ⟨b, off, ha, hc⟩ := h2.rd.cell i hi
    exact ⟨b, off, ha, (World.cell?_of_block (a := ⟨b, off + i, none⟩) (key ⟨b, off, none⟩ ha)).trans hc⟩
  · obtain ⟨cur, fz, hc⟩ := h3 p hp
    exact ⟨cur, fz, (key p hp).trans hc⟩
theorem MemB.grown {W W' : World} {B g : Nat} {M : List KV} {ps : List Hp} {base n : Nat} {v : Value} {vals : List Value} (h : MemB W B g M ps) (ho : W.ownsRow base 99 1 v n vals) (hg : W.grownBy W' v.ownBlock)
    (hf : ∀ i, i < M.length → ∀ o, v.ownBlock = some o → (∀ ad, (pk ps i).1.1 = some ad → ad.block ≠ o) ∧ ∀ ad, (pk ps i).2.1 = some ad → ad.block ≠ o) : MemB W' B g M ps := by
  have hB : W'.heap[B]? = W.heap[B]? := by
    refine hg.block B (lt_of_block h.var) (fun e => ?_)
    obtain ⟨cur, hc⟩ := own_type ho e.symm
    rw [h.var] at hc
    simp at hc
  have hG : W'.heap[g]? = W.heap[g]? := by
    obtain ⟨cur', hc'⟩ := h.own.blk
    refine hg.block g (lt_of_block hc') (fun e => ?_)
    obtain ⟨cur, hc⟩ := own_type ho e.symm
    rw [hc'] at hc
    simp at hc
  exact ⟨hB.trans h.var, own_same h.own hG, fun i hi => ⟨(h.rows i hi).1.grown ho hg (fun o e => (hf i hi o e).1), (h.rows i hi).2.grown ho hg (fun o e => (hf i hi o e).2)⟩⟩
/-- What stands between the first rounds of AttnCuts. -/
def CutAt (wS : World) (c : Cf) (L : Nat) (xss : List (List Int)) (k : Nat) (u v : Value) (W : World) : Prop :=
  ∃ (B : Nat) (hs : List Hd), u = .pointer (some ⟨B, 0, none⟩) ∧ MemAt W (some ⟨B, 0, none⟩) (memL c L xss k) ∧ RowsI W wS.heap.size v k hs (tblK (madeL c L xss) k) ∧ Below wS.heap.size wS W
theorem CutAt.step {wS wr w1 w3 : World} {c : Cf} {L : Nat} {xss : List (List Int)} {k : Nat} {v v' : Value} {hs hs' : List Hd} {B g : Nat} {ps : List Hp} {o : Obj}
    (hO : RowsI wr wS.heap.size v k hs (tblK (madeL c L xss) k)) (hW : Below wS.heap.size wS wr) (hM : MemB w1 B g (memL c L xss (k + 1)) ps) (hF : ∀ i, i < (memL c L xss (k + 1)).length → Fr2 wr (pk ps i)) (hb : Below wr.heap.size wr w1)
    (hg : (w1.alloc o).grownBy w3 v.ownBlock) (hO3 : RowsI w3 wS.heap.size v' (k + 1) hs' (tblK (madeL c L xss) k ++ [madeL c L xss k])) : CutAt wS c L xss (k + 1) (.pointer (some ⟨B, 0, none⟩)) v' w3 := by
  have ha : Below w1.heap.size w1 (w1.alloc o) := (Below.refl _ _).alloc (Nat.le_refl _) _
  have hO2 := (hO.below hb).below ha
  refine ⟨B, hs', rfl, .inr ⟨B, g, ps, rfl, (hM.below ha).grown hO2.own hg ?_⟩, by rw [← tblK_snoc]; exact hO3, ?_⟩
  · intro i hi o e
    have h1 := (hO.own.lt o e).2
    refine ⟨fun ad had => ?_, fun ad had => ?_⟩
    · have := (hF i hi).1 ad had; omega
    · have := (hF i hi).2 ad had; omega
  · have h1 : Below wS.heap.size wS w1 := hW.trans (hb.mono hW.size)
    have h2 : Below wS.heap.size wS (w1.alloc o) := h1.trans (ha.mono h1.size)
    exact h2.grown hg h2.size fun g hg => (hO2.own.lt g hg).1
end Go.Proofs.YtdomjdfancpbbaaGreat
namespace Go.Proofs.YtdomjdfancpbbaaGreat
open Go.RowKit
set_option linter.unusedVariables false
set_option maxRecDepth 1000000

theorem dotK_turn (xs ys : List Int) (k : Nat) : dotK ys xs k = dotK xs ys k := by
  induction k with
  | zero => rfl
  | succ k ih => simp only [dotK]; rw [ih, mulZ_comm]
/-- The call hands back a slice that reads as this list. -/
def GR (w : World) (L : List Int) (e : Ending) (w' : World) : Prop := ∃ (a : Option Addr) (n cap : Nat), e = .returned (.slice a n cap) ∧ Reads .i64 w' a n cap L ∧ Below w.heap.size w w'
theorem Gives.gr {w w' : World} {n : Nat} {L : List Int} {e : Ending} (h : Gives w n L e w') : GR w L e w' := by
  obtain ⟨a, cap, rfl, h1, h2⟩ := h
  exact ⟨a, n, cap, rfl, h1, h2⟩
/-- The like, in a block of numbers. -/
def GRI (w : World) (L : List Int) (e : Ending) (w' : World) : Prop := ∃ (a : Option Addr) (n cap : Nat), e = .returned (.slice a n cap) ∧ Reads .i64 w' a n cap L ∧ BlI w' a ∧ Below w.heap.size w w'
theorem OwnG.gri {w w' : World} {n : Nat} {L : List Int} {e : Ending} (h : OwnG w n L e w') : GRI w L e w' := by
  obtain ⟨v, rfl, h1, h2⟩ := h
  obtain ⟨a, cap, rfl, hr⟩ := Reads.own (k := .i64) h1
  exact ⟨a, n, cap, rfl, hr, BlI.own h1, h2⟩
/-- An append of one value to a row of the call's own. -/
theorem append_one {P : Program} (w : World) {ops : Array Oper} {rest : List Oper} {o : Oper} {a : Act} {Q : Exit → Act → World → Prop} (hgd : o.guard = none) (s x : Operand) (t : TypeId)
    (ho : o.op = .call { callee := .builtin .append, args := #[s, x], argTypes := #[t, t] })
    (base : Nat) (e : TypeId) (i : TypeInfo) (z : Value) (bytes : Nat) (ht : P.underlying t = some (.slice e)) (hi : P.info? e = some i) (hz : i.zero = some z) (hsize : i.size = 1) (hby : i.bytes = bytes) (hzs : z.cells.size = 1) (hbt : bytes ≤ 24)
    (v : Value) (n : Nat) (xs : List Value) (hv : a.eval s = v) (hown : w.ownsRow base e 1 v n xs) (hn : n ≤ 100000)
    (B : Nat) (u : Value) (h1 : u.oneCell' = true) (hx : a.eval x = .slice (some ⟨B, 0, none⟩) 1 1) (hc : w.cell? ⟨B, 0, none⟩ = some u)
    (hbase : base ≤ w.heap.size)
    (h : ∀ v' w', w'.ownsRow base e 1 v' (n + 1) (xs ++ [u]) → w.grownBy w' v.ownBlock → wpList P ops Q rest (a.put o.dst v') w') : wpList P ops Q (o :: rest) a w := by
  refine wpList_append_own w hgd s x t ho base e i z 1 bytes ht hi hz hsize hby hzs (by decide) v n _ hv hown ⟨B, 0, none⟩ 1 1 [u] hx rfl ?_ ?_ (by unfold maxLen; omega) (by have : (n + 1) * bytes ≤ (n + 1) * 24 := Nat.mul_le_mul_left _ hbt; omega) hbase ?_
  · intro j y hy
    rcases j with _ | j
    · simp at hy
      rw [Addr.add_lit, Nat.zero_add, hc, hy]
    · simp at hy
  · intro y hy
    simp at hy
    subst hy
    exact h1
  · intro v' w' h1 h2 _
    exact h v' w' h1 h2
/-- A row of another type stays while one grows. -/
theorem own_kept {w w' : World} {b1 b2 e1 e2 n1 n2 : Nat} {v1 v2 : Value} {x1 x2 : List Value} (h1 : w.ownsRow b1 e1 1 v1 n1 x1) (h2 : w.ownsRow b2 e2 1 v2 n2 x2) (hne : e1 ≠ e2) (hg : w.grownBy w' v2.ownBlock) : w'.ownsRow b1 e1 1 v1 n1 x1 := by
  refine h1.kept hg ?_
  cases ho : v1.ownBlock with
  | none => exact .inl rfl
  | some o =>
    refine .inr fun e => ?_
    obtain ⟨c1, hc1⟩ := own_type h1 ho
    obtain ⟨c2, hc2⟩ := own_type h2 e.symm
    rw [hc1] at hc2
    simp at hc2
    exact hne hc2.2
/-- No number lies in a block of other things. -/
theorem Reads.notin {W : World} {a : Option Addr} {n c : Nat} {xs : List Int} (h : Reads .i64 W a n c xs) {R : Nat} {cs : Array Value} {T : TypeId} (hR : W.heap[R]? = some (.cells cs T (0, 0))) (hcs : ∀ (j : Nat) (z : Int), cs[j]? ≠ some (Value.int .i64 z)) : Off [R] a n := by
  intro h0 ad hd hs
  rw [List.mem_singleton] at hs
  obtain ⟨b, off, e, hc⟩ := h.cell 0 h0
  rw [hd] at e
  cases e
  simp only at hs
  subst hs
  rw [cell_of_row _ _ _ _ _ _ hR] at hc
  exact hcs _ _ hc
end Go.Proofs.YtdomjdfancpbbaaGreat
namespace Go.Proofs.YtdomjdfancpbbaaGreat
open Go.RowKit
set_option linter.unusedVariables false
set_option maxRecDepth 1000000

/-- The row lies where it lay, or in a new block. -/
def Moved (w : World) (v v' : Value) : Prop := v'.ownBlock = v.ownBlock ∨ ∃ o, v'.ownBlock = some o ∧ w.heap.size ≤ o
theorem moved_of {w w' : World} {e n : Nat} {v v' : Value} {xs : List Value} (h : w'.ownsRow w.heap.size e 1 v' (n + 1) xs) : Moved w v v' := by
  right
  rcases id h.2 with ⟨_, h0⟩ | ⟨g, cap, cur, rfl, hb, _⟩
  · omega
  · exact ⟨g, rfl, hb⟩
/-- An append of one value to a row of the call's own, with where it then lies. -/
theorem append_one2 {P : Program} (w : World) {ops : Array Oper} {rest : List Oper} {o : Oper} {a : Act} {Q : Exit → Act → World → Prop} (hgd : o.guard = none) (s x : Operand) (t : TypeId)
    (ho : o.op = .call { callee := .builtin .append, args := #[s, x], argTypes := #[t, t] })
    (base : Nat) (e : TypeId) (i : TypeInfo) (z : Value) (bytes : Nat) (ht : P.underlying t = some (.slice e)) (hi : P.info? e = some i) (hz : i.zero = some z) (hsize : i.size = 1) (hby : i.bytes = bytes) (hzs : z.cells.size = 1) (hbt : bytes ≤ 24)
    (v : Value) (n : Nat) (xs : List Value) (hv : a.eval s = v) (hown : w.ownsRow base e 1 v n xs) (hn : n ≤ 100000)
    (B : Nat) (u : Value) (h1 : u.oneCell' = true) (hx : a.eval x = .slice (some ⟨B, 0, none⟩) 1 1) (hc : w.cell? ⟨B, 0, none⟩ = some u)
    (hbase : base ≤ w.heap.size)
    (h : ∀ v' w', w'.ownsRow base e 1 v' (n + 1) (xs ++ [u]) → w.grownBy w' v.ownBlock → Moved w v v' → wpList P ops Q rest (a.put o.dst v') w') : wpList P ops Q (o :: rest) a w := by
  have hnews : ∀ j y, [u][j]? = some y → w.cell? ((⟨B, 0, none⟩ : Addr).add j) = some y := by
    intro j y hy
    rcases j with _ | j
    · simp at hy
      rw [Addr.add_lit, Nat.zero_add, hc, hy]
    · simp at hy
  have hone : ∀ y ∈ [u], y.oneCell' = true := by
    intro y hy
    simp at hy
    subst hy
    exact h1
  have hbytes : (n + 1) * bytes ≤ 140737488355328 := by have : (n + 1) * bytes ≤ (n + 1) * 24 := Nat.mul_le_mul_left _ hbt; omega
  rcases id hown.2 with ⟨rfl, rfl⟩ | ⟨g, cap, cur, rfl, hbg, hg, hnc, hcm, hcs, htake⟩
  · obtain rfl : xs = [] := List.eq_nil_of_length_eq_zero (by simpa using hown.1)
    refine wpList_append_grows w hgd s x t ho e i z 1 bytes ht hi hz hsize hby hzs (by decide) none 0 0 [] hv (fun _ => ⟨rfl, rfl⟩) rfl (fun b hb => by cases hb) ⟨B, 0, none⟩ 1 1 [u] hx rfl hnews hone (by omega) (by unfold maxLen; omega) hbytes ?_
    intro v' w' k1 k2
    exact h v' w' (own_base k1 hbase) k2 (moved_of k1)
  · by_cases hroom : n + 1 ≤ cap
    · refine wpList_append_fits w hgd s x t ho base e i 1 ht hi hsize g n cap xs hv hown ⟨B, 0, none⟩ 1 1 [u] hx rfl hnews hone hroom ?_
      intro w' k1 k2
      exact h _ w' k1 k2 (.inl rfl)
    · refine wpList_append_grows w hgd s x t ho e i z 1 bytes ht hi hz hsize hby hzs (by decide) (some ⟨g, 0, none⟩) n cap xs hv (fun e => by cases e) (by simpa using hown.1) (fun b hb => by cases hb; exact hown.cells (g := g) rfl) ⟨B, 0, none⟩ 1 1 [u] hx rfl hnews hone (by omega) (by unfold maxLen; omega) hbytes ?_
      intro v' w' k1 k2
      exact h v' w' (own_base k1 hbase) ⟨k2.os, k2.tape, k2.output, k2.size, fun k hk _ => k2.block k hk (by simp)⟩ (moved_of k1)
/-- Two rows lie apart. -/
def Apart (u v : Value) : Prop := ∀ o, u.ownBlock = some o → v.ownBlock ≠ some o
theorem Apart.symm {u v : Value} (h : Apart u v) : Apart v u := fun o h1 h2 => h o h2 h1
theorem Apart.nil (v : Value) : Apart (.slice none 0 0) v := fun o h => by simp [Value.ownBlock] at h
theorem Apart.moved {w : World} {base e n : Nat} {u u' v : Value} {xs : List Value} (h : Apart u v) (hm : Moved w u u') (hv : w.ownsRow base e 1 v n xs) : Apart u' v := by
  intro o h1 h2
  rcases hm with hm | ⟨o', hm, hle⟩
  · rw [hm] at h1; exact h o h1 h2
  · rw [hm] at h1
    cases h1
    have := (hv.lt _ h2).2
    omega
theorem RowsI.kept2 {w w' : World} {b1 b2 n1 n2 : Nat} {u v : Value} {xs : List Value} {hs : List Hd} {ls : List (List Int)} (hu : w.ownsRow b1 99 1 u n1 xs) (hv : RowsI w b2 v n2 hs ls) (hap : Apart u v) (hg : w.grownBy w' u.ownBlock) : RowsI w' b2 v n2 hs ls := by
  refine ⟨hv.own.kept hg ?_, hv.size, fun j hj => ?_⟩
  · cases ho : v.ownBlock with
    | none => exact .inl rfl
    | some o => exact .inr fun e => hap o e.symm ho
  · obtain ⟨e2, e3, e4⟩ := hv.rows j hj
    obtain ⟨k1, k2⟩ := Reads.kept hu hg e2 e3
    exact ⟨k1, k2, e4⟩
theorem RowsI.snoc {w w' : World} {base n : Nat} {v v' : Value} {hs : List Hd} {ls : List (List Int)} {y : Hd} {zs : List Int} (hown : RowsI w base v n hs ls) (hr : Reads .i64 w y.1 y.2.1 y.2.2 zs) (h5 : BlI w y.1) (hy : y.2.1 ≤ 1000)
    (ho : w'.ownsRow base 99 1 v' (n + 1) (hs.map hdV ++ [hdV y])) (hg : w.grownBy w' v.ownBlock) : RowsI w' base v' (n + 1) (hs ++ [y]) (ls ++ [zs]) := by
  have hlen : hs.length = n := by have := hown.own.1; simpa using this
  refine ⟨by rw [List.map_append]; exact ho, by simp [hown.size], fun j hj => ?_⟩
  have hsz := hown.size
  rw [at_snoc hs y _ hlen hj, at_snoc ls zs _ hsz hj]
  by_cases e : j < n
  · rw [if_pos e, if_pos e]
    obtain ⟨e2, e3, e4⟩ := hown.rows j e
    obtain ⟨k1, k2⟩ := Reads.kept hown.own hg e2 e3
    exact ⟨k1, k2, e4⟩
  · rw [if_neg e, if_neg e]
    obtain ⟨k1, k2⟩ := Reads.kept hown.own hg hr h5
    exact ⟨k1, k2, hy⟩
theorem own_keep {T : TypeId} {W W' : World} {base e n : Nat} {v : Value} {xs : List Value} (h : W.ownsRow base e 1 v n xs) (hk : Kp T W W') (hT : e ≠ T) : W'.ownsRow base e 1 v n xs := by
  refine ⟨h.1, ?_⟩
  rcases h.2 with h' | ⟨g, c, cur, hv, hB, hg, rest⟩
  · exact .inl h'
  · exact .inr ⟨g, c, cur, hv, hB, hk _ _ _ _ hg hT, rest⟩
theorem RowsI.keep {T : TypeId} {W W' : World} {base n : Nat} {v : Value} {hs : List Hd} {ls : List (List Int)} (h : RowsI W base v n hs ls) (hk : Kp T W W') (hT : 2 ≠ T) (hS : 99 ≠ T) : RowsI W' base v n hs ls :=
  ⟨own_keep h.own hk hS, h.size, fun j hj => by
    obtain ⟨e2, e3, e4⟩ := h.rows j hj
    obtain ⟨k1, k2⟩ := Reads.keep e2 e3 hk hT
    exact ⟨k1, k2, e4⟩⟩
/-- Such a row, as a slice. -/
theorem RowsI.tbh {w : World} {base n : Nat} {v : Value} {hs : List Hd} {ls : List (List Int)} (h : RowsI w base v n hs ls) : ∃ a c, v = .slice a n c ∧ TbH w (a, n, c) ls := by
  obtain ⟨a, c, rfl, ht⟩ := h.tbl
  exact ⟨a, c, rfl, h.size, hs, ht, BlS.own h.own, fun i hi => (h.rows i hi).2.1⟩
/-- A list of places as it is read: each has a table of keys and one of values, a row a layer. -/
structure PlsAt (W : World) (a : Option Addr) (n cap : Nat) (ps : List Hp) (KK VV : Nat → List (List Int)) : Prop where
  room : n ≤ cap
  most : cap ≤ 9223372036854775807
  cell : ∀ i, i < n → ∃ b off, a = some ⟨b, off, none⟩ ∧ W.cell? ⟨b, off + i * 2, none⟩ = some (hdV (pk ps i).1) ∧ W.cell? ⟨b, off + i * 2 + 1, none⟩ = some (hdV (pk ps i).2)
  rows : ∀ i, i < n → TbH W (pk ps i).1 (KK i) ∧ TbH W (pk ps i).2 (VV i)
theorem PlsAt.below {W W' : World} {a : Option Addr} {n cap : Nat} {ps : List Hp} {KK VV : Nat → List (List Int)} (h : PlsAt W a n cap ps KK VV) (hb : Below W.heap.size W W') : PlsAt W' a n cap ps KK VV :=
  ⟨h.room, h.most, fun i hi => by
    obtain ⟨b, off, e, c0, c1⟩ := h.cell i hi
    exact ⟨b, off, e, cell_later_of c0 hb, cell_later_of c1 hb⟩, fun i hi => ⟨(h.rows i hi).1.below hb, (h.rows i hi).2.below hb⟩⟩
end Go.Proofs.YtdomjdfancpbbaaGreat
namespace Go.Proofs.YtdomjdfancpbbaaGreat
open Go.RowKit
set_option linter.unusedVariables false
set_option maxRecDepth 1000000

/-- Two rows of unlike types, of which the one grows behind a new block. -/
theorem own_two {wS w2 w3 : World} {e1 e2 n1 n2 : Nat} {u v : Value} {xs ys : List Value} (h1 : w2.ownsRow wS.heap.size e1 1 u n1 xs) (h2 : w2.ownsRow wS.heap.size e2 1 v n2 ys) (hne : e2 ≠ e1) (hb : Below wS.heap.size wS w2) {o : Obj} (hg : (w2.alloc o).grownBy w3 u.ownBlock) :
    w3.ownsRow wS.heap.size e2 1 v n2 ys ∧ Below wS.heap.size wS w3 := by
  have ha : Below w2.heap.size w2 (w2.alloc o) := (Below.refl _ _).alloc (Nat.le_refl _) _
  have h1' := own_below h1 ha
  have h2' := own_below h2 ha
  have hb2 : Below wS.heap.size wS (w2.alloc o) := hb.trans (ha.mono hb.size)
  exact ⟨own_kept h2' h1' hne hg, hb2.grown hg hb2.size fun g hg => (h1'.lt g hg).1⟩
theorem new_cell (w : World) (u : Value) (T : TypeId) : (w.alloc (.cells #[u] T)).cell? ⟨w.heap.size, 0, none⟩ = some u := by rw [cell_of_row _ _ _ _ _ _ (heap_alloc_new w _)]; rfl
theorem take_hd {vhs : List Hd} {k : Nat} (h : k < vhs.length) : (vhs.take k).map hdV ++ [hdV (vhs[k]?.getD (none, 0, 0))] = (vhs.take (k + 1)).map hdV := by
  rw [List.take_succ_eq_append_getElem h, List.map_append]
  simp [h]
theorem rowK_vals (F : Nat → Int) (k : Nat) : (rowK F k).map (Value.int .i64) ++ [.int .i64 (F k)] = (rowK F (k + 1)).map (Value.int .i64) := by rw [← rowK_snoc, List.map_append]; rfl
/-- What stands between the rounds of the document's Step. -/
def RAt (wS : World) (F : Nat → Int) (vhs : List Hd) (k : Nat) (u v : Value) (W : World) : Prop :=
  W.ownsRow wS.heap.size 2 1 u k ((rowK F k).map (Value.int .i64)) ∧ W.ownsRow wS.heap.size 99 1 v k ((vhs.take k).map hdV) ∧ Below wS.heap.size wS W
/-- What the document's Step hands back. -/
def RStp (w : World) (X K V : List Int) (e : Ending) (w' : World) : Prop := ∃ (a1 a2 a3 : Option Addr) (n1 n2 n3 c1 c2 c3 : Nat), e = .returned (.agg #[.slice a1 n1 c1, .slice a2 n2 c2, .slice a3 n3 c3]) ∧
  Reads .i64 w' a1 n1 c1 X ∧ Reads .i64 w' a2 n2 c2 K ∧ Reads .i64 w' a3 n3 c3 V ∧ BlI w' a1 ∧ BlI w' a2 ∧ BlI w' a3 ∧ Below w.heap.size w w'
theorem snoc_map (F : Nat → Int) (f : List Int → Int) (ks : List (List Int)) (y : List Int) {m : Nat} (hl : ks.length = m) (hF : F = fun k => f (ks[k]?.getD [])) : rowK F m ++ [f y] = (ks ++ [y]).map f := by
  rw [hF, map_rowK [] f ks hl, List.map_append]
  rfl
/-- Three cells of a block are turned. -/
theorem three_set {W : World} {R : Nat} {x0 x1 x2 u0 u1 u2 : Value} {T : TypeId} (h : W.heap[R]? = some (.cells #[x0, x1, x2] T (0, 0))) : (((W.setCell ⟨R, 0, none⟩ u0).setCell ⟨R, 1, none⟩ u1).setCell ⟨R, 2, none⟩ u2).heap[R]? = some (.cells #[u0, u1, u2] T (0, 0)) := row_setCell (row_setCell (row_setCell h))

end Go.Proofs.YtdomjdfancpbbaaGreat
namespace Go.Proofs.YtdomjdfancpbbaaGreat
open Go.RowKit
set_option linter.unusedVariables false
set_option maxRecDepth 1000000

/-- What the document's Through hands back. -/
def RThr (w : World) (X : List Int) (K V : List (List Int)) (e : Ending) (w' : World) : Prop := ∃ (a : Option Addr) (n cap : Nat) (x y : Hd), e = .returned (.tuple #[.slice a n cap, .agg #[.slice x.1 x.2.1 x.2.2, .slice y.1 y.2.1 y.2.2]]) ∧ Reads .i64 w' a n cap X ∧ TbH w' x K ∧ TbH w' y V ∧ Below w.heap.size w w'
/-- The like, and what is made lies in a block of numbers. -/
def RThrB (w : World) (X : List Int) (K V : List (List Int)) (e : Ending) (w' : World) : Prop := ∃ (a : Option Addr) (n cap : Nat) (x y : Hd), e = .returned (.tuple #[.slice a n cap, .agg #[.slice x.1 x.2.1 x.2.2, .slice y.1 y.2.1 y.2.2]]) ∧ Reads .i64 w' a n cap X ∧ BlI w' a ∧ TbH w' x K ∧ TbH w' y V ∧ Below w.heap.size w w'
theorem RThrB.thr {w w' : World} {X : List Int} {K V : List (List Int)} {e : Ending} (h : RThrB w X K V e w') : RThr w X K V e w' := by
  obtain ⟨a, n, cap, x, y, h1, h2, _, h3, h4, h5⟩ := h
  exact ⟨a, n, cap, x, y, h1, h2, h3, h4, h5⟩
/-- What stands between the places of a layer. -/
def RIAt (wI : World) (KK VV : Nat → List (List Int)) (j i : Nat) (u v : Value) (W : World) : Prop :=
  ∃ (hk hv : List Hd), RowsI W wI.heap.size u i hk (tblK (fun x => (KK x)[j]?.getD []) i) ∧ RowsI W wI.heap.size v i hv (tblK (fun x => (VV x)[j]?.getD []) i) ∧ Apart u v ∧ Below wI.heap.size wI W
theorem own_slice {w : World} {b e n : Nat} {v : Value} {xs : List Value} (h : w.ownsRow b e 1 v (n + 1) xs) : ∃ g c, v = .slice (some ⟨g, 0, none⟩) (n + 1) c := by
  rcases id h.2 with ⟨_, h0⟩ | ⟨g, c, cur, rfl, _⟩
  · omega
  · exact ⟨g, c, rfl⟩
theorem new_cellB (w : World) (u : Value) (T : TypeId) {B : Nat} (hB : w.heap.size = B) : (w.alloc (.cells #[u] T)).cell? ⟨B, 0, none⟩ = some u := by subst hB; exact new_cell w u T
theorem size_set (w : World) (p : Addr) (u : Value) : (w.setCell p u).heap.size = w.heap.size := by simp [World.setCell]
theorem three_cells {W : World} {g : Nat} {x y z : Value} {T : TypeId} (h : W.heap[g]? = some (.cells #[x, y, z] T (0, 0))) : W.cell? ⟨g, 0, none⟩ = some x ∧ W.cell? ⟨g, 1, none⟩ = some y ∧ W.cell? ⟨g, 2, none⟩ = some z :=
  ⟨by rw [cell_of_row _ _ _ _ _ _ h]; rfl, by rw [cell_of_row _ _ _ _ _ _ h]; rfl, by rw [cell_of_row _ _ _ _ _ _ h]; rfl⟩
theorem grown_kp {w w' : World} {base e n : Nat} {v : Value} {xs : List Value} (ho : w.ownsRow base e 1 v n xs) (hg : w.grownBy w' v.ownBlock) : Kp e w w' := by
  intro k cur t fz hk ht
  rw [hg.block k (lt_of_block hk) (fun h => ?_)]
  · exact hk
  · obtain ⟨c, hc⟩ := own_type ho h.symm
    rw [hk] at hc
    simp at hc
    exact ht hc.2.1
theorem kp_below {T : TypeId} {W W' : World} (hb : Below W.heap.size W W') : Kp T W W' := fun k cur t fz hk _ => (hb.block k (lt_of_block hk)).trans hk
theorem RIAt.half {S B : Nat} {w0 w2 w3 : World} {i n2 : Nat} {u v u' : Value} {hk hv : List Hd} {ls ls2 : List (List Int)} {zs : List Int} {y : Hd} {o : Obj}
    (hO1 : RowsI w2 S u i hk ls) (hO2 : RowsI w2 S v n2 hv ls2) (hap : Apart u v) (hW : Below B w0 w2) (hBS : B ≤ S) (hS : S ≤ w2.heap.size)
    (hr : Reads .i64 w2 y.1 y.2.1 y.2.2 zs) (h5 : BlI w2 y.1) (hy : y.2.1 ≤ 1000) (ho : w3.ownsRow S 99 1 u' (i + 1) (hk.map hdV ++ [hdV y])) (hg : (w2.alloc o).grownBy w3 u.ownBlock) (hm : Moved (w2.alloc o) u u') :
    RowsI w3 S u' (i + 1) (hk ++ [y]) (ls ++ [zs]) ∧ RowsI w3 S v n2 hv ls2 ∧ Apart u' v ∧ Below B w0 w3 ∧ Kp 99 w2 w3 ∧ ∀ k, k < S → w3.heap[k]? = w2.heap[k]? := by
  have ha : Below w2.heap.size w2 (w2.alloc o) := (Below.refl _ _).alloc (Nat.le_refl _) _
  have h1 := hO1.below ha
  have h2 := hO2.below ha
  have hb2 : Below B w0 (w2.alloc o) := hW.trans (ha.mono (Nat.le_trans hBS hS))
  have hs3 : S ≤ (w2.alloc o).heap.size := Nat.le_trans hS ha.size
  refine ⟨h1.snoc (hr.below ha) (h5.below ha) hy ho hg, RowsI.kept2 h1.own h2 hap hg, hap.moved hm h2.own, hb2.grown hg (Nat.le_trans hBS hs3) fun g hg => Nat.le_trans hBS (h1.own.lt g hg).1, (kp_below ha).trans (grown_kp h1.own hg), fun k hk => ?_⟩
  rw [hg.block k (by omega) (fun h => ?_)]
  · exact ha.block k (by omega)
  · have := (h1.own.lt k h.symm).1
    omega
end Go.Proofs.YtdomjdfancpbbaaGreat
namespace Go.Proofs.YtdomjdfancpbbaaGreat
open Go.RowKit
set_option linter.unusedVariables false
set_option maxRecDepth 1000000

/-- A place's keys, layer by layer. -/
def plK (c : Cf) (L : Nat) (xs : List (List Int)) (i : Nat) : List (List Int) := tblK (fun j => keyL c j (thrX c (memL c L xs i) (xs[i]?.getD []) j)) L
/-- A place's values. -/
def plV (c : Cf) (L : Nat) (xs : List (List Int)) (i : Nat) : List (List Int) := tblK (fun j => valL c j (thrX c (memL c L xs i) (xs[i]?.getD []) j)) L
theorem memL_rows (c : Cf) (L : Nat) (xs : List (List Int)) (k : Nat) {j : Nat} (hj : j < L) : (kv (memL c L xs k) j).1 = tblK (fun i => (plK c L xs i)[j]?.getD []) k ∧ (kv (memL c L xs k) j).2 = tblK (fun i => (plV c L xs i)[j]?.getD []) k := by
  induction k with
  | zero => simp only [memL]; rw [noneM_at]; exact ⟨rfl, rfl⟩
  | succ k ih =>
    simp only [memL]
    rw [thrM_at _ _ _ hj]
    simp only
    rw [ih.1, ih.2, ← tblK_snoc, ← tblK_snoc]
    refine ⟨?_, ?_⟩
    · congr 2
      unfold plK
      rw [tblK_at _ hj]
    · congr 2
      unfold plV
      rw [tblK_at _ hj]
theorem flatP_app (ps : List Hp) (x y : Hd) : flatP ps ++ [hdV x, hdV y] = flatP (ps ++ [(x, y)]) := by
  induction ps with
  | nil => rfl
  | cons p r ih => simp only [flatP, List.cons_append, ih]
theorem own_typeN {w : World} {base e size n : Nat} {v : Value} {vals : List Value} (ho : w.ownsRow base e size v n vals) {o : Nat} (h : v.ownBlock = some o) : ∃ cur, w.heap[o]? = some (.cells cur e (0, 0)) := by
  rcases ho.2 with ⟨rfl, _⟩ | ⟨g, cap, cur, rfl, _, hg, _⟩
  · simp [Value.ownBlock] at h
  · simp [Value.ownBlock] at h
    subst h
    exact ⟨cur, hg⟩
theorem grown_kpN {w w' : World} {base e size n : Nat} {v : Value} {xs : List Value} (ho : w.ownsRow base e size v n xs) (hg : w.grownBy w' v.ownBlock) : Kp e w w' := by
  intro k cur t fz hk ht
  rw [hg.block k (lt_of_block hk) (fun h => ?_)]
  · exact hk
  · obtain ⟨c, hc⟩ := own_typeN ho h.symm
    rw [hk] at hc
    simp at hc
    exact ht hc.2.1
theorem MemB.keep {T : TypeId} {W W' : World} {B g : Nat} {M : List KV} {ps : List Hp} (h : MemB W B g M ps) (hk : Kp T W W') (h1 : 2 ≠ T) (h2 : 99 ≠ T) (h3 : 130 ≠ T) (h4 : 127 ≠ T) : MemB W' B g M ps := by
  obtain ⟨cur, hc⟩ := h.own.blk
  exact ⟨hk _ _ _ _ h.var h3, own_same h.own ((hk _ _ _ _ hc h4).trans hc.symm), fun i hi => ⟨(h.rows i hi).1.keep hk h1 h2, (h.rows i hi).2.keep hk h1 h2⟩⟩
theorem MemAt.keep {T : TypeId} {W W' : World} {p : Option Addr} {M : List KV} (h : MemAt W p M) (hk : Kp T W W') (h1 : 2 ≠ T) (h2 : 99 ≠ T) (h3 : 130 ≠ T) (h4 : 127 ≠ T) : MemAt W' p M := by
  rcases h with h | ⟨B, g, ps, hp, h⟩
  · exact .inl h
  · exact .inr ⟨B, g, ps, hp, h.keep hk h1 h2 h3 h4⟩
end Go.Proofs.YtdomjdfancpbbaaGreat
namespace Go.Proofs.YtdomjdfancpbbaaGreat
open Go.RowKit
set_option linter.unusedVariables false
set_option maxRecDepth 1000000

theorem div_zero : divZ 0 0 = 0 := by decide
theorem div_val {p S : Int} (p0 : 0 ≤ p) (hp : p ≤ S) (hS : S ≤ 2147483647) (h0 : 0 < S) : divZ p S = p * 65536 / S ∧ 0 ≤ p * 65536 / S ∧ p * 65536 / S ≤ 65536 := by
  have e1 : wi S = S := wi_in (by omega) hS
  have e2 : wi p = p := wi_in (by omega) (by omega)
  have b0 : 0 ≤ p * 65536 / S := Int.ediv_nonneg (by omega) (by omega)
  have b1 : p * 65536 / S ≤ 65536 := by
    have h : p * 65536 / S ≤ S * 65536 / S := Int.ediv_le_ediv h0 (by omega)
    rw [Int.mul_comm S 65536, Int.mul_ediv_cancel _ (by omega)] at h
    exact h
  refine ⟨?_, b0, b1⟩
  unfold divZ byZ
  rw [e1, e2, if_neg (by omega), if_neg (by omega), wi_in (by omega) (by omega)]
theorem div_bd {p S : Int} (p0 : 0 ≤ p) (hp : p ≤ S) (hS : S ≤ 2147483647) : 0 ≤ divZ p S ∧ divZ p S ≤ 65536 := by
  by_cases h0 : 0 < S
  · obtain ⟨e, b⟩ := div_val p0 hp hS h0
    rw [e]; exact b
  · obtain rfl : p = 0 := by omega
    obtain rfl : S = 0 := by omega
    rw [div_zero]; omega
theorem div_le {p q S : Int} (p0 : 0 ≤ p) (hpq : p ≤ q) (hq : q ≤ S) (hS : S ≤ 2147483647) : divZ p S ≤ divZ q S := by
  by_cases h0 : 0 < S
  · rw [(div_val p0 (by omega) hS h0).1, (div_val (by omega) hq hS h0).1]
    exact Int.ediv_le_ediv h0 (by omega)
  · obtain rfl : p = 0 := by omega
    obtain rfl : q = 0 := by omega
    exact Int.le_refl _
theorem addZ_pos {s p : Int} (s0 : 0 ≤ s) (s1 : s ≤ 2147483647) (p0 : 0 ≤ p) (p1 : p ≤ 2147483647) : s ≤ addZ s p ∧ p ≤ addZ s p ∧ addZ s p ≤ 2147483647 := by
  unfold addZ
  rw [wi_in (by omega) s1, wi_in (by omega) p1]
  refine ⟨?_, ?_, wi_1 _⟩
  · have := wi_le (show s ≤ s + p by omega)
    rwa [wi_in (n := s) (by omega) s1] at this
  · have := wi_le (show p ≤ s + p by omega)
    rwa [wi_in (n := p) (by omega) p1] at this
/-- Each is from 0 to the upper bound. -/
def Pos (ps : List Int) : Prop := ∀ i : Nat, 0 ≤ ps[i]?.getD 0 ∧ ps[i]?.getD 0 ≤ 2147483647
theorem sumK_bd {ps : List Int} (h : Pos ps) (k : Nat) : 0 ≤ sumK ps k ∧ sumK ps k ≤ 2147483647 := by
  induction k with
  | zero => simp [sumK]
  | succ k ih =>
    have := addZ_pos ih.1 ih.2 (h k).1 (h k).2
    simp only [sumK]
    omega
theorem sumK_ge {ps : List Int} (h : Pos ps) (k : Nat) : ∀ i, i < k → ps[i]?.getD 0 ≤ sumK ps k := by
  induction k with
  | zero => intro i hi; omega
  | succ k ih =>
    intro i hi
    have b := sumK_bd h k
    have := addZ_pos b.1 b.2 (h k).1 (h k).2
    simp only [sumK]
    rcases (by omega : i < k ∨ i = k) with h1 | rfl
    · have := ih i h1; omega
    · omega
theorem powL_pos (zs : List Int) : Pos (powL zs) := by
  intro i
  rcases Nat.lt_or_ge i zs.length with h | h
  · unfold powL
    rw [List.getElem?_map, List.getElem?_eq_getElem h]
    exact expZ_bd _
  · rw [List.getElem?_eq_none (by rw [powL_len]; exact h)]
    simp
theorem softL_at {zs : List Int} {i : Nat} (h : i < zs.length) : (softL zs)[i]?.getD 0 = divZ ((powL zs)[i]?.getD 0) (sumK (powL zs) zs.length) := by
  unfold softL
  rw [List.getElem?_map, List.getElem?_eq_getElem (by rw [powL_len]; exact h)]
  rfl
theorem softL_bd (zs : List Int) (i : Nat) : 0 ≤ (softL zs)[i]?.getD 0 ∧ (softL zs)[i]?.getD 0 ≤ 65536 := by
  rcases Nat.lt_or_ge i zs.length with h | h
  · rw [softL_at h]
    exact div_bd (powL_pos zs i).1 (sumK_ge (powL_pos zs) _ i h) (sumK_bd (powL_pos zs) _).2
  · rw [List.getElem?_eq_none (by unfold softL; rw [List.length_map, powL_len]; exact h)]
    simp
theorem addZ_le {a b c : Int} (h : wi a ≤ wi b) : addZ a c ≤ addZ b c := by unfold addZ; exact wi_le (by omega)
theorem powL_at {zs : List Int} {i : Nat} (h : i < zs.length) : (powL zs)[i]?.getD 0 = expZ (addZ (zs[i]?.getD 0) (-(greatK zs zs.length))) := by
  unfold powL
  rw [List.getElem?_map, List.getElem?_eq_getElem h]
  rfl
theorem softL_le {zs : List Int} {i j : Nat} (hi : i < zs.length) (hj : j < zs.length) (h : wi (zs[i]?.getD 0) ≤ wi (zs[j]?.getD 0)) : (softL zs)[i]?.getD 0 ≤ (softL zs)[j]?.getD 0 := by
  rw [softL_at hi, softL_at hj]
  refine div_le (powL_pos zs i).1 ?_ (sumK_ge (powL_pos zs) _ j hj) (sumK_bd (powL_pos zs) _).2
  rw [powL_at hi, powL_at hj]
  exact expZ_le (addZ_le h)
end Go.Proofs.YtdomjdfancpbbaaGreat
namespace Go.Proofs.YtdomjdfancpbbaaGreat
open Go.RowKit
set_option linter.unusedVariables false
set_option maxRecDepth 1000000

/-- A mark: the place, and the number that stands there. -/
abbrev Mk := Int × Int
/-- The first one is to give way ahead of the second one. -/
def ltM (a b : Mk) : Prop := a.2 < b.2 ∨ (a.2 = b.2 ∧ b.1 < a.1)
def leM (a b : Mk) : Prop := ¬ ltM b a
theorem leM_refl (a : Mk) : leM a a := by unfold leM ltM; omega
theorem leM_trans {a b c : Mk} (h : leM a b) (k : leM b c) : leM a c := by unfold leM ltM at *; omega
theorem leM_of_lt {a b : Mk} (h : ltM a b) : leM a b := by unfold leM; unfold ltM at *; omega
theorem leM_anti {a b : Mk} (h : leM a b) (k : leM b a) : a = b := by
  unfold leM ltM at *
  exact Prod.ext (by omega) (by omega)
theorem leM_total (a b : Mk) : leM a b ∨ leM b a := by unfold leM ltM; omega

/-- What stands at a place. -/
def gx (ms : List Mk) (i : Nat) : Mk := ms[i]?.getD (0, 0)
theorem gx_of {ms : List Mk} {i : Nat} (h : i < ms.length) : gx ms i = ms[i] := by simp [gx, h]
theorem gx_mem {ms : List Mk} {i : Nat} (h : i < ms.length) : gx ms i ∈ ms := by rw [gx_of h]; exact List.getElem_mem h
/-- Two places changed. -/
def swp (ms : List Mk) (i j : Nat) : List Mk := (ms.set i (gx ms j)).set j (gx ms i)
theorem swp_len (ms : List Mk) (i j : Nat) : (swp ms i j).length = ms.length := by simp [swp]
theorem gx_swp {ms : List Mk} {i j : Nat} (hi : i < ms.length) (hj : j < ms.length) (k : Nat) : gx (swp ms i j) k = if k = j then gx ms i else if k = i then gx ms j else gx ms k := by
  unfold gx swp
  rw [List.getElem?_set, List.getElem?_set]
  by_cases h1 : k = j
  · subst h1; simp [hj]; rfl
  · rw [if_neg (fun e => h1 e.symm), if_neg h1]
    by_cases h2 : k = i
    · subst h2; simp [hi]; rfl
    · rw [if_neg (fun e => h2 e.symm), if_neg h2]
theorem swp_perm {ms : List Mk} {i j : Nat} (hi : i < ms.length) (hj : j < ms.length) : (swp ms i j).Perm ms := by
  unfold swp
  rw [gx_of hi, gx_of hj]
  exact List.set_set_perm hi hj

/-- The first n are a heap. -/
def HeapN (ms : List Mk) (n : Nat) : Prop := ∀ i, 0 < i → i < n → leM (gx ms ((i - 1) / 2)) (gx ms i)
/-- A heap, but that what stands at j may have to go up. -/
def UpAt (ms : List Mk) (n j : Nat) : Prop := (∀ i, 0 < i → i < n → i ≠ j → leM (gx ms ((i - 1) / 2)) (gx ms i)) ∧ (0 < j → ∀ i, 0 < i → i < n → (i - 1) / 2 = j → leM (gx ms ((j - 1) / 2)) (gx ms i))
theorem UpAt.done {ms : List Mk} {n j : Nat} (h : UpAt ms n j) (hj : 0 < j → ¬ ltM (gx ms j) (gx ms ((j - 1) / 2))) : HeapN ms n := by
  intro i h0 hn
  by_cases e : i = j
  · subst e; exact hj h0
  · exact h.1 i h0 hn e
theorem UpAt.step {ms : List Mk} {n j : Nat} (h : UpAt ms n j) (h0 : 0 < j) (hj : j < n) (hn : n ≤ ms.length) (hl : ltM (gx ms j) (gx ms ((j - 1) / 2))) : UpAt (swp ms ((j - 1) / 2) j) n ((j - 1) / 2) := by
  obtain ⟨p, hp⟩ : ∃ p, (j - 1) / 2 = p := ⟨_, rfl⟩
  rw [hp] at hl ⊢
  have hG := gx_swp (ms := ms) (i := p) (j := j) (by omega) (by omega)
  have hlj := leM_of_lt hl
  constructor
  · intro i i0 hi hip
    rw [hG, hG]
    by_cases e1 : i = j
    · subst e1
      rw [hp, if_pos rfl, if_neg (by omega), if_pos rfl]
      exact hlj
    · rw [if_neg e1, if_neg hip]
      have hx := h.1 i i0 hi e1
      by_cases e2 : (i - 1) / 2 = j
      · rw [if_pos e2]
        have := h.2 h0 i i0 hi e2
        rwa [hp] at this
      · rw [if_neg e2]
        by_cases e3 : (i - 1) / 2 = p
        · rw [if_pos e3]
          rw [e3] at hx
          exact leM_trans hlj hx
        · rw [if_neg e3]; exact hx
  · intro p0 i i0 hi hip
    have hpp := h.1 p p0 (by omega) (by omega)
    rw [hG, hG, if_neg (by omega), if_neg (by omega)]
    by_cases e1 : i = j
    · rw [if_pos e1]; exact hpp
    · rw [if_neg e1, if_neg (by omega)]
      have hx := h.1 i i0 hi e1
      rw [hip] at hx
      exact leM_trans hpp hx
/-- A heap, but that what stands at c may have to go down. -/
def DownAt (ms : List Mk) (n c : Nat) : Prop := (∀ i, 0 < i → i < n → (i - 1) / 2 ≠ c → leM (gx ms ((i - 1) / 2)) (gx ms i)) ∧ (0 < c → ∀ i, 0 < i → i < n → (i - 1) / 2 = c → leM (gx ms ((c - 1) / 2)) (gx ms i))
theorem DownAt.done {ms : List Mk} {n c : Nat} (h : DownAt ms n c) (hc : ∀ i, 0 < i → i < n → (i - 1) / 2 = c → leM (gx ms c) (gx ms i)) : HeapN ms n := by
  intro i h0 hn
  by_cases e : (i - 1) / 2 = c
  · rw [e]; exact hc i h0 hn e
  · exact h.1 i h0 hn e
theorem DownAt.step {ms : List Mk} {n c j : Nat} (h : DownAt ms n c) (h0 : 0 < j) (hj : j < n) (hn : n ≤ ms.length) (hjc : (j - 1) / 2 = c) (hm : ∀ i, 0 < i → i < n → (i - 1) / 2 = c → leM (gx ms j) (gx ms i)) (hl : ltM (gx ms j) (gx ms c)) : DownAt (swp ms c j) n j := by
  have hG := gx_swp (ms := ms) (i := c) (j := j) (by omega) (by omega)
  have hlj := leM_of_lt hl
  constructor
  · intro i i0 hi hip
    rw [hG, hG, if_neg hip]
    by_cases e1 : i = j
    · subst e1
      rw [if_pos hjc, if_pos rfl]
      exact hlj
    · rw [if_neg e1]
      by_cases e2 : i = c
      · subst e2
        rw [if_neg (by omega), if_pos rfl]
        exact h.2 i0 j h0 hj hjc
      · rw [if_neg e2]
        by_cases e3 : (i - 1) / 2 = c
        · rw [if_pos e3]; exact hm i i0 hi e3
        · rw [if_neg e3]; exact h.1 i i0 hi e3
  · intro _ i i0 hi hij
    rw [hG, hG, hjc, if_neg (by omega), if_pos rfl, if_neg (by omega), if_neg (by omega)]
    have := h.1 i i0 hi (by omega)
    rwa [hij] at this
/-- The first of a heap is the least. -/
theorem HeapN.least {ms : List Mk} {n : Nat} (h : HeapN ms n) : ∀ i, i < n → leM (gx ms 0) (gx ms i) := by
  intro i
  induction i using Nat.strongRecOn with
  | ind i ih =>
    intro hi
    by_cases h0 : i = 0
    · subst h0; exact leM_refl _
    · exact leM_trans (ih ((i - 1) / 2) (by omega) (by omega)) (h i (by omega) hi)
theorem HeapN.cut {ms : List Mk} {n : Nat} (h : HeapN ms n) (hn : n + 1 ≤ ms.length) (h' : HeapN ms (n + 1)) : DownAt (swp ms 0 n) n 0 := by
  have hG := gx_swp (ms := ms) (i := 0) (j := n) (by omega) (by omega)
  refine ⟨fun i i0 hi hp => ?_, fun h => absurd h (by omega)⟩
  rw [hG, hG, if_neg (by omega), if_neg hp, if_neg (by omega), if_neg (by omega)]
  exact h' i i0 (by omega)
theorem gx_app {ms : List Mk} {x : Mk} {i : Nat} (h : i < ms.length) : gx (ms ++ [x]) i = gx ms i := by simp [gx, List.getElem?_append_left h]
theorem HeapN.push {ms : List Mk} (h : HeapN ms ms.length) (x : Mk) : UpAt (ms ++ [x]) (ms.length + 1) ms.length := by
  refine ⟨fun i i0 hi hp => ?_, fun h0 i i0 hi hp => absurd hp (by omega)⟩
  rw [gx_app (by omega), gx_app (by omega)]
  exact h i i0 (by omega)
theorem gx_take {ms : List Mk} {n i : Nat} (h : i < n) : gx (ms.take n) i = gx ms i := by simp [gx, List.getElem?_take_of_lt h]
theorem HeapN.take {ms : List Mk} {n : Nat} (h : HeapN ms n) : HeapN (ms.take n) n := by
  intro i h0 hn
  rw [gx_take (by omega), gx_take hn]
  exact h i h0 hn
end Go.Proofs.YtdomjdfancpbbaaGreat
namespace Go.Proofs.YtdomjdfancpbbaaGreat
open Go.RowKit
set_option linter.unusedVariables false
set_option maxRecDepth 1000000

/-- The cells of marks. -/
def cellsM : List Mk → List Value
  | [] => []
  | m :: ms => .int .i64 m.1 :: .int .i64 m.2 :: cellsM ms
theorem cellsM_len (ms : List Mk) : (cellsM ms).length = ms.length * 2 := by
  induction ms with
  | nil => rfl
  | cons m ms ih => simp [cellsM, ih]; omega
theorem cellsM_app (ms ns : List Mk) : cellsM (ms ++ ns) = cellsM ms ++ cellsM ns := by
  induction ms with
  | nil => rfl
  | cons m ms ih => simp [cellsM, ih]
theorem cellsM_0 (ms : List Mk) : ∀ k, k < ms.length → (cellsM ms)[k * 2]? = some (.int .i64 (gx ms k).1) := by
  induction ms with
  | nil => intro k hk; simp at hk
  | cons m ms ih =>
    intro k hk
    cases k with
    | zero => simp [cellsM, gx]
    | succ k =>
      have := ih k (by simpa using hk)
      rw [show (k + 1) * 2 = k * 2 + 1 + 1 by omega]
      simpa [cellsM, gx] using this
theorem cellsM_1 (ms : List Mk) : ∀ k, k < ms.length → (cellsM ms)[k * 2 + 1]? = some (.int .i64 (gx ms k).2) := by
  induction ms with
  | nil => intro k hk; simp at hk
  | cons m ms ih =>
    intro k hk
    cases k with
    | zero => simp [cellsM, gx]
    | succ k =>
      have := ih k (by simpa using hk)
      rw [show (k + 1) * 2 + 1 = (k * 2 + 1) + 1 + 1 by omega]
      simpa [cellsM, gx] using this
theorem cellsM_set (ms : List Mk) (x : Mk) : ∀ k, k < ms.length → cellsM (ms.set k x) = ((cellsM ms).set (k * 2) (.int .i64 x.1)).set (k * 2 + 1) (.int .i64 x.2) := by
  induction ms with
  | nil => intro k hk; simp at hk
  | cons m ms ih =>
    intro k hk
    cases k with
    | zero => simp [cellsM]
    | succ k =>
      have := ih k (by simpa using hk)
      rw [show (k + 1) * 2 + 1 = (k * 2 + 1) + 1 + 1 by omega, show (k + 1) * 2 = k * 2 + 1 + 1 by omega]
      simp [cellsM, this]

/-- The row in block g, not below base, holds these marks. -/
def OwnM (base g n cap : Nat) (ms : List Mk) (w : World) : Prop := w.ownsRow base 178 2 (.slice (some ⟨g, 0, none⟩) n cap) n (cellsM ms)
theorem OwnM.len {base g n cap : Nat} {ms : List Mk} {w : World} (h : OwnM base g n cap ms w) : ms.length = n := by have := h.1; rw [cellsM_len] at this; omega
theorem OwnM.at0 {base g n cap : Nat} {ms : List Mk} {w : World} (h : OwnM base g n cap ms w) {k : Nat} (hk : k < n) : w.cell? ⟨g, k * 2, none⟩ = some (.int .i64 (gx ms k).1) := by
  have hl := h.len
  rw [World.ownsRow.cellAt h (k * 2) (by omega), cellsM_0 ms k (by omega)]
theorem OwnM.at1 {base g n cap : Nat} {ms : List Mk} {w : World} (h : OwnM base g n cap ms w) {k : Nat} (hk : k < n) : w.cell? ⟨g, k * 2 + 1, none⟩ = some (.int .i64 (gx ms k).2) := by
  have hl := h.len
  rw [World.ownsRow.cellAt h (k * 2 + 1) (by omega), cellsM_1 ms k (by omega)]
theorem OwnM.frozen {base g n cap : Nat} {ms : List Mk} {w : World} (h : OwnM base g n cap ms w) (k : Nat) : w.frozen? ⟨g, k, none⟩ = false := World.ownsRow.frozenAt h k
theorem OwnM.set {base g n cap : Nat} {ms : List Mk} {w : World} (h : OwnM base g n cap ms w) {k : Nat} (hk : k < n) (x : Mk) : OwnM base g n cap (ms.set k x) ((w.setCell ⟨g, k * 2, none⟩ (.int .i64 x.1)).setCell ⟨g, k * 2 + 1, none⟩ (.int .i64 x.2)) := by
  have h1 := (World.ownsRow.stored h (k * 2) (.int .i64 x.1)).1
  have h2 := (World.ownsRow.stored h1 (k * 2 + 1) (.int .i64 x.2)).1
  unfold OwnM
  rw [cellsM_set ms x k (by rw [h.len]; exact hk)]
  exact h2
theorem OwnM.base {base g n cap : Nat} {ms : List Mk} {w : World} (h : OwnM base g n cap ms w) : base ≤ g := (World.ownsRow.lt h g rfl).1
theorem OwnM.lt {base g n cap : Nat} {ms : List Mk} {w : World} (h : OwnM base g n cap ms w) : g < w.heap.size := (World.ownsRow.lt h g rfl).2
theorem OwnM.same {base g n cap : Nat} {ms : List Mk} {w w' : World} (h : OwnM base g n cap ms w) (hb : w'.heap[g]? = w.heap[g]?) : OwnM base g n cap ms w' := by
  refine ⟨h.1, ?_⟩
  rcases h.2 with h' | ⟨g', c, cur, hv, hB, hg, rest⟩
  · exact .inl h'
  · cases hv
    exact .inr ⟨g, cap, cur, rfl, hB, hb.trans hg, rest⟩
theorem OwnM.stays {base g n cap : Nat} {ms : List Mk} {w w' : World} (h : OwnM base g n cap ms w) (hb : Below w.heap.size w w') : OwnM base g n cap ms w' := h.same (hb.block g h.lt)
theorem OwnM.room {base g n cap : Nat} {ms : List Mk} {w : World} (h : OwnM base g n cap ms w) : n ≤ cap := by
  rcases h.2 with ⟨h', _⟩ | ⟨g', c, cur, hv, hB, hg, hnc, rest⟩
  · cases h'
  · cases hv; exact hnc

/-- Whether the first is ahead, as a truth. -/
def belowB (a b : Mk) : Bool := decide (a.2 < b.2) || (decide (a.2 = b.2) && decide (b.1 < a.1))
theorem belowB_yes {a b : Mk} (h : ltM a b) : belowB a b = true := by unfold belowB; unfold ltM at h; simpa using h
theorem belowB_no {a b : Mk} (h : ¬ ltM a b) : belowB a b = false := by
  cases hb : belowB a b with
  | false => rfl
  | true =>
    refine absurd ?_ h
    unfold belowB at hb
    unfold ltM
    simpa using hb
theorem belowB_ne {a b : Mk} (h : a.2 ≠ b.2) : belowB a b = decide (a.2 < b.2) := by unfold belowB; simp [h]
theorem belowB_eq {a b : Mk} (h : a.2 = b.2) : belowB a b = decide (b.1 < a.1) := by unfold belowB; simp [h]
theorem below_any (a b : Mk) (w : World) :
    Calls Tryz.prog 176 #[.agg #[.int .i64 a.1, .int .i64 a.2], .agg #[.int .i64 b.1, .int .i64 b.2]] w fun e w' => e = .returned (.bool (belowB a b)) ∧ Below w.heap.size w w' := by
  obtain ⟨a1, a2⟩ := a
  obtain ⟨b1, b2⟩ := b
  by_cases h : a2 = b2
  · have HE := hid (belowB_eq (a := (a1, a2)) (b := (b1, b2)) h)
    subst h
    go_enter Tryz.func176, Tryz.ntmps176
    go_wp2
    go_ret
    rw [HE.out]
    exact ⟨rfl, by go_grown⟩
  · have HE := hid (belowB_ne (a := (a1, a2)) (b := (b1, b2)) h)
    go_enter Tryz.func176, Tryz.ntmps176
    go_wp2
    go_ret
    rw [HE.out]
    exact ⟨rfl, by go_grown⟩
theorem mlen_any (a : Option Addr) (n cap : Nat) (w : World) : Calls Tryz.prog 173 #[.slice a n cap] w fun e w' => e = .returned (.int .i64 n) ∧ w' = w := by
  go_enter Tryz.func173, Tryz.ntmps173
  go_wp2
  go_ret
  exact ⟨rfl, rfl⟩
set_option maxHeartbeats 2000000 in
theorem less_any (base g n cap i j : Nat) (ms : List Mk) (w : World) (h : OwnM base g n cap ms w) (hi : i < n) (hj : j < n) (hn : n ≤ 1001) :
    Calls Tryz.prog 174 #[.slice (some ⟨g, 0, none⟩) n cap, .int .i64 i, .int .i64 j] w fun e w' => e = .returned (.bool (belowB (gx ms i) (gx ms j))) ∧ Below w.heap.size w w' := by
  have i0 := h.at0 hi
  have i1 := h.at1 hi
  have j0 := h.at0 hj
  have j1 := h.at1 hj
  clear h
  generalize gx ms i = x at *
  generalize gx ms j = y at *
  have HK : Hid (∀ W, Below w.heap.size w W → W.cell? ⟨g, i * 2, none⟩ = some (.int .i64 x.1) ∧ W.cell? ⟨g, i * 2 + 1, none⟩ = some (.int .i64 x.2) ∧ W.cell? ⟨g, j * 2, none⟩ = some (.int .i64 y.1) ∧ W.cell? ⟨g, j * 2 + 1, none⟩ = some (.int .i64 y.2)) :=
    fun W h => ⟨(h.cell (World.block_lt_of_cell? _ _ i0)).trans i0, (h.cell (World.block_lt_of_cell? _ _ i1)).trans i1, (h.cell (World.block_lt_of_cell? _ _ j0)).trans j0, (h.cell (World.block_lt_of_cell? _ _ j1)).trans j1⟩
  go_enter Tryz.func174, Tryz.ntmps174
  go_wp2_with fail
  go_region_held3 (fun W : World => W.cell? ⟨g, i * 2, none⟩ = some (.int .i64 x.1) ∧ W.cell? ⟨g, i * 2 + 1, none⟩ = some (.int .i64 x.2) ∧ W.cell? ⟨g, j * 2, none⟩ = some (.int .i64 y.1) ∧ W.cell? ⟨g, j * 2 + 1, none⟩ = some (.int .i64 y.2)) (first | exact ⟨i0, i1, j0, j1⟩ | assumption | exact HK.out _ hB) (first | (refine (below_any x y w.drew).mono ?_; rintro e w2 ⟨rfl, hB0⟩; have hB : Below w.heap.size w w2 := (Below.refl _ _).drew.trans hB0))
  have HB := hid hB
  clear hB hB0 HK i0 i1 j0 j1
  go_wp2
  go_ret
  exact ⟨rfl, HB.out⟩
theorem swap_any (base g n cap i j : Nat) (ms : List Mk) (w : World) (h : OwnM base g n cap ms w) (hi : i < n) (hj : j < n) (hn : n ≤ 1001) :
    Calls Tryz.prog 175 #[.slice (some ⟨g, 0, none⟩) n cap, .int .i64 i, .int .i64 j] w fun e w' => e = .returned (.tuple #[]) ∧ OwnM base g n cap (swp ms i j) w' ∧ But [g] w w' := by
  have i0 := h.at0 hi
  have i1 := h.at1 hi
  have j0 := h.at0 hj
  have j1 := h.at1 hj
  have fi := h.frozen
  have h2 := h.set hi (gx ms j)
  have c0 := h2.at0 hj
  have c1 := h2.at1 hj
  have f2 := h2.frozen
  have HS : Hid (OwnM base g n cap (swp ms i j) _) := h2.set hj (gx ms i)
  clear h h2
  generalize gx ms i = x at *
  generalize gx ms j = y at *
  generalize gx (ms.set i y) j = z at *
  go_enter Tryz.func175, Tryz.ntmps175
  go_wp2_with fail
  go_region
  go_wp2
  go_end0
  exact ⟨rfl, HS.out, ((((But.refl [g] w).set (p := ⟨g, i * 2, none⟩) (List.mem_singleton.2 rfl) _).set (p := ⟨g, i * 2 + 1, none⟩) (List.mem_singleton.2 rfl) _).set (p := ⟨g, j * 2, none⟩) (List.mem_singleton.2 rfl) _ |>.set (p := ⟨g, j * 2 + 1, none⟩) (List.mem_singleton.2 rfl) _).drew⟩
end Go.Proofs.YtdomjdfancpbbaaGreat
namespace Go.Proofs.YtdomjdfancpbbaaGreat
open Go.RowKit
set_option linter.unusedVariables false
set_option maxRecDepth 1000000

/-- The variable in block B holds these marks, which lie in block g. -/
structure HpAt (base B g cap : Nat) (ms : List Mk) (W : World) : Prop where
  var : W.heap[B]? = some (.cells #[.slice (some ⟨g, 0, none⟩) ms.length cap] 174 (0, 0))
  own : OwnM base g ms.length cap ms W
  ne : B ≠ g
theorem HpAt.below {base B g cap : Nat} {ms : List Mk} {W W' : World} (h : HpAt base B g cap ms W) (hb : Below W.heap.size W W') : HpAt base B g cap ms W' :=
  ⟨(hb.block _ (lt_of_block h.var)).trans h.var, h.own.stays hb, h.ne⟩
/-- The interface value. -/
abbrev hv (B : Nat) : Value := .iface 176 (.pointer (some ⟨B, 0, none⟩))

theorem Tryz.meth (name : String) (f : Nat) (h : (Tryz.prog.info? 176).map (fun i => (i.methods.find? (·.name == name)).map (fun m => (m.path, m.func))) = some (some (#[], some (f, false)))) :
    ∃ i m, Tryz.prog.info? 176 = some i ∧ i.methods.find? (·.name == name) = some m ∧ m.path = #[] ∧ m.func = some (f, false) := by
  cases hi : Tryz.prog.info? 176 with
  | none => rw [hi] at h; simp at h
  | some i =>
    rw [hi] at h
    simp only [Option.map_some, Option.some.injEq] at h
    cases hm : i.methods.find? (·.name == name) with
    | none => rw [hm] at h; simp at h
    | some m =>
      rw [hm] at h
      simp at h
      exact ⟨i, m, rfl, hm, h.1, h.2⟩
theorem wrapnil (x : TypeId) (a : Addr) (s : String) (w : World) : (Builtin.ssaWrapNilChk_ #[x] x #[.pointer (some a), strVal "", strVal s]).run Tryz.prog w = .ok (.pointer (some a)) w := by kernel_rfl
theorem meth_val (name : String) (f : Nat) (h : (Tryz.prog.info? 176).map (fun i => (i.methods.find? (·.name == name)).map (fun m => (m.path, m.func))) = some (some (#[], some (f, false)))) (B : Nat) (w : World) (v : Value) (hc : w.cell? ⟨B, 0, none⟩ = some v) :
    (method 315 176 (.pointer (some ⟨B, 0, none⟩)) name).run Tryz.prog w = .ok (f, v) w := by
  obtain ⟨i, m, hi, hm, hp, hf⟩ := Tryz.meth name f h
  unfold method
  simp [go_sem, typeInfo, hi, hm, hp, hf, follow, receiverAt, Place.get, wrapnil, loadVar, hc]
theorem meth_less (B : Nat) (w : World) (v : Value) (hc : w.cell? ⟨B, 0, none⟩ = some v) : (method 315 176 (.pointer (some ⟨B, 0, none⟩)) "Less").run Tryz.prog w = .ok (174, v) w := meth_val "Less" 174 (by kernel_rfl) B w v hc
theorem meth_swap (B : Nat) (w : World) (v : Value) (hc : w.cell? ⟨B, 0, none⟩ = some v) : (method 315 176 (.pointer (some ⟨B, 0, none⟩)) "Swap").run Tryz.prog w = .ok (175, v) w := meth_val "Swap" 175 (by kernel_rfl) B w v hc
theorem meth_len (B : Nat) (w : World) (v : Value) (hc : w.cell? ⟨B, 0, none⟩ = some v) : (method 315 176 (.pointer (some ⟨B, 0, none⟩)) "Len").run Tryz.prog w = .ok (173, v) w := meth_val "Len" 173 (by kernel_rfl) B w v hc
theorem meth_push (a : Addr) (w : World) : (method 315 176 (.pointer (some a)) "Push").run Tryz.prog w = .ok (178, .pointer (some a)) w := by kernel_rfl
theorem meth_pop (a : Addr) (w : World) : (method 315 176 (.pointer (some a)) "Pop").run Tryz.prog w = .ok (177, .pointer (some a)) w := by kernel_rfl

theorem HpAt.less {base B g cap : Nat} {ms : List Mk} {W : World} (h : HpAt base B g cap ms W) (i j : Nat) (hi : i < ms.length) (hj : j < ms.length) (hn : ms.length ≤ 1001) :
    Calls Tryz.prog 174 #[.slice (some ⟨g, 0, none⟩) ms.length cap, .int .i64 i, .int .i64 j] W fun e w' => e = .returned (.bool (belowB (gx ms i) (gx ms j))) ∧ HpAt base B g cap ms w' ∧ But [B, g] W w' :=
  (less_any base g ms.length cap i j ms W h.own hi hj hn).mono fun e w' ⟨h1, h2⟩ => ⟨h1, h.below h2, But.of h2⟩
theorem HpAt.swap {base B g cap : Nat} {ms : List Mk} {W : World} (h : HpAt base B g cap ms W) (i j : Nat) (hi : i < ms.length) (hj : j < ms.length) (hn : ms.length ≤ 1001) :
    Calls Tryz.prog 175 #[.slice (some ⟨g, 0, none⟩) ms.length cap, .int .i64 i, .int .i64 j] W fun e w' => e = .returned (.tuple #[]) ∧ HpAt base B g cap (swp ms i j) w' ∧ But [B, g] W w' :=
  (swap_any base g ms.length cap i j ms W h.own hi hj hn).mono fun e w' ⟨h1, h2, h3⟩ => ⟨h1, ⟨by rw [swp_len]; exact h3.one h.var (by simpa using h.ne), by rw [swp_len]; exact h2, h.ne⟩, h3.mono (by simp)⟩

set_option maxHeartbeats 1000000 in
theorem up_any (base B g cap : Nat) (ms : List Mk) (j : Nat) (w : World) (h : HpAt base B g cap ms w) (hj : j < ms.length) (hn : ms.length ≤ 1001) (hU : UpAt ms ms.length j) :
    Calls Tryz.prog 72 #[hv B, .int .i64 j] w fun e w' => e = .returned (.tuple #[]) ∧ (∃ ns, ns.Perm ms ∧ HeapN ns ns.length ∧ HpAt base B g cap ns w') ∧ But [B, g] w w' := by
  have H := hid h
  have HU := hid hU
  clear h hU
  go_enter Tryz.func72, Tryz.ntmps72
  go_wp2_with fail
  go_loopw [1] (fun i W => ∃ (k : Nat) (ns : List Mk), i = .int .i64 k ∧ k < ns.length ∧ Hid (ns.Perm ms) ∧ Hid (UpAt ns ns.length k) ∧ Hid (HpAt base B g cap ns W) ∧ Hid (But [B, g] w W)) (fun i _ => (intOf i).toNat)
  case atStart => exact ⟨j, ms, rfl, hj, List.Perm.refl _, HU, H, But.refl _ _⟩
  case round =>
    obtain ⟨k, ns, rfl, hk, HP, HUk, HH, HB⟩ := hrel
    have hl : ns.length ≤ 1001 := by have := HP.out.length_eq; omega
    by_cases h0 : k = 0
    · subst h0
      have HD : Hid (HeapN ns ns.length) := HUk.out.done (fun h => absurd h (by omega))
      go_wp2
      go_end0
      exact ⟨rfl, ⟨ns, HP.out, HD.out, HH.out⟩, HB.out⟩
    · obtain ⟨p, hp⟩ : ∃ p : Nat, ((k : Int) - 1) / 2 = (p : Int) := ⟨(k - 1) / 2, by omega⟩
      have hp' : (k - 1) / 2 = p := by omega
      have hne : ¬ (p : Int) = (k : Int) := by omega
      have hne' : ((p : Int) == (k : Int)) = false := by simpa using hne
      have hml := meth_less B wr _ (cell_of_one HH.out.var)
      have hL := HH.out.less k p hk (by omega) hl
      by_cases hb : ltM (gx ns k) (gx ns p)
      · have hbb : belowB (gx ns k) (gx ns p) = true := belowB_yes hb
        have HS : Hid (UpAt (swp ns p k) (swp ns p k).length p) := by
          have := HUk.out.step (by omega) hk (Nat.le_refl _) (by rw [hp']; exact hb)
          rw [hp'] at this
          rw [swp_len]
          exact this
        have HPS : Hid ((swp ns p k).Perm ms) := (swp_perm (by omega) hk).trans HP.out
        rw [hbb] at hL
        clear hb hbb HH
        go_wp2_with fail
        refine hL.mono ?_
        rintro e w2 ⟨rfl, hH2, hB2⟩
        have hms := meth_swap B w2 _ (cell_of_one hH2.var)
        have hS := hH2.swap p k (by omega) hk hl
        have HB2 := hid (HB.out.trans hB2)
        clear hH2 hB2 hL hml
        go_wp2_with fail
        refine hS.mono ?_
        rintro e w3 ⟨rfl, hH3, hB3⟩
        have HH3 := hid hH3
        have HB3 := hid (HB2.out.trans hB3)
        clear hH3 hB3 hS hms
        go_wp2_with fail
        go_round
        case rel => exact ⟨p, swp ns p k, rfl, by rw [swp_len]; omega, HPS, HS, HH3, HB3⟩
        case measure => simp [intOf]; omega
      · have hbb : belowB (gx ns k) (gx ns p) = false := belowB_no hb
        have HD : Hid (HeapN ns ns.length) := HUk.out.done (fun _ => by rw [hp']; exact hb)
        rw [hbb] at hL
        clear hb hbb HH
        go_wp2_with fail
        refine hL.mono ?_
        rintro e w2 ⟨rfl, hH2, hB2⟩
        have HH2 := hid hH2
        have HB2 := hid (HB.out.trans hB2)
        clear hH2 hB2 hL hml
        go_wp2
        go_end0
        exact ⟨rfl, ⟨ns, HP.out, HD.out, HH2.out⟩, HB2.out⟩
end Go.Proofs.YtdomjdfancpbbaaGreat
