/-
  What the texts of a seat stand on: a frame that says which blocks a callee may have turned (But), rows of numbers that the call owns (OwnK), a slice of slices (Rd2), tables (Tbl), appends, and the statements' own 'same'.
-/
import Derived.Test.YtkkkabgljppilaaReads
import Derived.Handy
import Derived.Laws.OwnMore
import Derived.OwnWalk
import Derived.OneCell
import Derived.Deep.RegionHeld3
import Derived.Shelf.Abstract
import Derived.Deep.AppendLies
import Derived.Deep.RegionLaw
namespace Go.Proofs.Ytkkkabgljppilaa
open Go.RowKit
set_option linter.unusedVariables false
set_option maxRecDepth 1000000
/-- Of the blocks that are there only those of S may have turned. -/
structure But (S : List Nat) (w w' : World) : Prop where
  os : w'.os = w.os
  tape : w'.tape = w.tape
  output : w'.output = w.output
  size : w.heap.size ≤ w'.heap.size
  block : ∀ k, k < w.heap.size → k ∉ S → w'.heap[k]? = w.heap[k]?
theorem But.refl (S : List Nat) (w : World) : But S w w := ⟨rfl, rfl, rfl, Nat.le_refl _, fun _ _ _ => rfl⟩
theorem But.trans {S : List Nat} {a b c : World} (h : But S a b) (k : But S b c) : But S a c :=
  ⟨k.os.trans h.os, k.tape.trans h.tape, k.output.trans h.output, Nat.le_trans h.size k.size, fun i hi hn => (k.block i (Nat.lt_of_lt_of_le hi h.size) hn).trans (h.block i hi hn)⟩
theorem But.mono {S S' : List Nat} {a b : World} (h : But S a b) (hS : ∀ s ∈ S, s ∈ S') : But S' a b := ⟨h.os, h.tape, h.output, h.size, fun i hi hn => h.block i hi fun hs => hn (hS i hs)⟩
theorem But.below {S : List Nat} {a b c : World} (h : But S a b) (k : Below a.heap.size b c) : But S a c :=
  ⟨k.os.trans h.os, k.tape.trans h.tape, k.output.trans h.output, Nat.le_trans h.size k.size, fun i hi hn => (k.block i hi).trans (h.block i hi hn)⟩
theorem But.of {S : List Nat} {a b : World} (k : Below a.heap.size a b) : But S a b := (But.refl S a).below k
theorem But.set {S : List Nat} {a b : World} (h : But S a b) {p : Addr} (hp : p.block ∈ S) (u : Value) : But S a (b.setCell p u) :=
  h.trans ⟨rfl, rfl, rfl, by simp [World.setCell], fun k _ hk => Below.heap_setCell _ _ _ _ (fun e => hk (e ▸ hp))⟩
theorem But.drew {S : List Nat} {a b : World} (h : But S a b) : But S a b.drew := ⟨h.os, h.tape, h.output, h.size, h.block⟩
theorem But.alloc {S : List Nat} {a b : World} (h : But S a b) (o : Obj) : But S a (b.alloc o) := h.below ((Below.refl _ _).alloc h.size o)
theorem But.to {S : List Nat} {a b : World} {B : Nat} (h : But S a b) (hS : ∀ s ∈ S, B ≤ s) (hB : B ≤ a.heap.size) : Below B a b :=
  ⟨h.os, h.tape, h.output, h.size, fun k hk => h.block k (by omega) fun hs => by have := hS k hs; omega⟩
theorem But.cell {S : List Nat} {w w' : World} (h : But S w w') {p : Addr} {v : Value} (hc : w.cell? p = some v) (hp : p.block ∉ S) : w'.cell? p = some v :=
  (World.cell?_of_block (w := w) (h.block p.block (World.block_lt_of_cell? _ _ hc) hp)).trans hc
theorem But.one {S : List Nat} {w w' : World} (h : But S w w') {B : Nat} {o : Obj} (hc : w.heap[B]? = some o) (hp : B ∉ S) : w'.heap[B]? = some o := (h.block B (lt_of_block hc) hp).trans hc
/-- No cell of the slice lies in a block of S. -/
def Off (S : List Nat) (a : Option Addr) (len : Nat) : Prop := 0 < len → ∀ ad, a = some ad → ad.block ∉ S
theorem Reads.cut {k : IntKind} {w : World} {a : Option Addr} {len cap : Nat} {zs : List Int} (h : Reads k w a len cap zs) {m : Nat} (hm : m ≤ len) : Reads k w a m cap (zs.take m) :=
  ⟨by rw [List.length_take, h.size]; omega, by have := h.room; omega, h.most, fun e => by have := h.bare e; omega, fun i hi => by
    obtain ⟨b, off, e, hc⟩ := h.cell i (by omega)
    exact ⟨b, off, e, by rw [hc, List.getElem?_take_of_lt hi]⟩⟩
theorem Reads.but {k : IntKind} {w w' : World} {a : Option Addr} {len cap : Nat} {zs : List Int} {S : List Nat} (h : Reads k w a len cap zs) (hb : But S w w') (hS : Off S a len) : Reads k w' a len cap zs :=
  ⟨h.size, h.room, h.most, h.bare, fun i hi => by
    obtain ⟨b, off, e, hc⟩ := h.cell i hi
    exact ⟨b, off, e, hb.cell hc (show b ∉ S from hS (by omega) ⟨b, off, none⟩ e)⟩⟩
theorem Reads.past {k : IntKind} {w : World} {a : Option Addr} {len cap : Nat} {zs : List Int} (h : Reads k w a len cap zs) {S : List Nat} (hS : ∀ s ∈ S, w.heap.size ≤ s) : Off S a len := by
  intro h0 ad hd hs
  obtain ⟨b, off, e, hc⟩ := h.cell 0 h0
  have h1 : b < w.heap.size := World.block_lt_of_cell? _ _ hc
  have h2 := hS _ hs
  rw [hd] at e
  cases e
  exact absurd h1 (Nat.not_lt.2 h2)
/-- The row in block g, not below base, its elements of type t, holds these numbers. -/
def OwnK (t : TypeId) (base g m cap : Nat) (xs : List Int) (w : World) : Prop := w.ownsRow base t 1 (.slice (some ⟨g, 0, none⟩) m cap) m (xs.map (Value.int .i64))
theorem OwnK.len {t : TypeId} {base g m cap : Nat} {xs : List Int} {w : World} (h : OwnK t base g m cap xs w) : xs.length = m := by have := h.1; simpa using this
theorem OwnK.cell {t : TypeId} {base g m cap : Nat} {xs : List Int} {w : World} (h : OwnK t base g m cap xs w) {k : Nat} (hk : k < m) : w.cell? ⟨g, k, none⟩ = some (.int .i64 (xs[k]?.getD 0)) := by
  have hl := h.len
  have := World.ownsRow.cellAt h k (by omega)
  rw [this]
  simp [(by omega : k < xs.length)]
theorem OwnK.frozen {t : TypeId} {base g m cap : Nat} {xs : List Int} {w : World} (h : OwnK t base g m cap xs w) (k : Nat) : w.frozen? ⟨g, k, none⟩ = false := World.ownsRow.frozenAt h k
theorem OwnK.set {t : TypeId} {base g m cap : Nat} {xs : List Int} {w : World} (h : OwnK t base g m cap xs w) (k : Nat) (v : Int) : OwnK t base g m cap (xs.set k v) (w.setCell ⟨g, k, none⟩ (.int .i64 v)) := by
  have := (World.ownsRow.stored h k (.int .i64 v)).1
  unfold OwnK
  rw [List.map_set]
  exact this
theorem OwnK.base {t : TypeId} {base g m cap : Nat} {xs : List Int} {w : World} (h : OwnK t base g m cap xs w) : base ≤ g := (World.ownsRow.lt h g rfl).1
theorem OwnK.lt {t : TypeId} {base g m cap : Nat} {xs : List Int} {w : World} (h : OwnK t base g m cap xs w) : g < w.heap.size := (World.ownsRow.lt h g rfl).2
theorem OwnK.same {t : TypeId} {base g m cap : Nat} {xs : List Int} {w w' : World} (h : OwnK t base g m cap xs w) (hb : w'.heap[g]? = w.heap[g]?) : OwnK t base g m cap xs w' := by
  refine ⟨h.1, ?_⟩
  rcases h.2 with h' | ⟨g', c, cur, hv, hB, hg, rest⟩
  · exact .inl h'
  · cases hv
    exact .inr ⟨g, cap, cur, rfl, hB, hb.trans hg, rest⟩
theorem OwnK.stays {t : TypeId} {base g m cap : Nat} {xs : List Int} {w w' : World} (h : OwnK t base g m cap xs w) (hb : Below w.heap.size w w') : OwnK t base g m cap xs w' := h.same (hb.block g h.lt)
theorem OwnK.but {t : TypeId} {base g m cap : Nat} {xs : List Int} {w w' : World} {S : List Nat} (h : OwnK t base g m cap xs w) (hb : But S w w') (hg : g ∉ S) : OwnK t base g m cap xs w' := h.same (hb.block g h.lt hg)
theorem OwnK.reads {t : TypeId} {base g m cap : Nat} {xs : List Int} {w : World} (h : OwnK t base g m cap xs w) : Reads .i64 w (some ⟨g, 0, none⟩) m cap xs := by
  obtain ⟨a, c, e, hr⟩ := Reads.own (k := .i64) h
  cases e
  exact hr
theorem OwnK.low {t : TypeId} {base base' g m cap : Nat} {xs : List Int} {w : World} (h : OwnK t base g m cap xs w) (hb : base' ≤ base) : OwnK t base' g m cap xs w := by
  refine ⟨h.1, ?_⟩
  rcases h.2 with h' | ⟨g', c, cur, hv, hB, rest⟩
  · exact .inl h'
  · exact .inr ⟨g', c, cur, hv, Nat.le_trans hb hB, rest⟩
theorem Try.info2 : (Try.prog.info? 2).map (fun i => (i.zero, i.size, i.bytes)) = some (some (.int .i64 0), 1, 8) := by kernel_rfl
theorem Try.info3 : (Try.prog.info? 3).map (fun i => (i.zero, i.size, i.bytes)) = some (some (.int .i64 0), 1, 8) := by kernel_rfl
theorem info_parts {t : TypeId} {z : Value} {a b : Nat} (h : (Try.prog.info? t).map (fun i => (i.zero, i.size, i.bytes)) = some (some z, a, b)) :
    ∃ i, Try.prog.info? t = some i ∧ i.zero = some z ∧ i.size = a ∧ i.bytes = b := by
  cases hi : Try.prog.info? t with
  | none => rw [hi] at h; simp at h
  | some i => rw [hi] at h; simp at h; exact ⟨i, rfl, h.1, h.2.1, h.2.2⟩
theorem own_made (t : TypeId) (w : World) (m : Nat) (hm : m ≤ 1001) : OwnK t w.heap.size w.heap.size m m (List.replicate m 0) (w.alloc (.cells (madeCells #[.int .i64 0] m) t)) := by
  have := World.ownsRow_lit (base := w.heap.size) (e := t) (size := 1) w (madeCells #[.int .i64 0] m) m (Nat.le_refl _) (by unfold maxLen; omega) (by simp [madeCells])
  unfold OwnK
  rw [List.map_replicate, ← toList_madeCells_one]
  exact this
theorem take_snoc {zs : List Int} {k : Nat} (h : k < zs.length) : zs.take (k + 1) = zs.take k ++ [zs[k]?.getD 0] := by
  rw [List.take_succ_eq_append_getElem h]; simp [h]
theorem one_le {w : World} : ∀ s ∈ [w.heap.size], w.heap.size ≤ s := fun s hs => by rw [List.mem_singleton.1 hs]; exact Nat.le_refl _
/-- What a call hands back: a row of its own that holds these numbers. -/
def Made (w : World) (len : Nat) (xs : List Int) (e : Ending) (w' : World) : Prop := ∃ g cap, e = .returned (.slice (some ⟨g, 0, none⟩) len cap) ∧ OwnK 2 w.heap.size g len cap xs w' ∧ Below w.heap.size w w'
/-- What a call hands back: a row that reads as these numbers; nothing that was there has turned. -/
def Gives (w : World) (len : Nat) (xs : List Int) (e : Ending) (w' : World) : Prop := ∃ a cap, e = .returned (.slice a len cap) ∧ Reads .i64 w' a len cap xs ∧ Below w.heap.size w w'
/-- An append, for which there is room, at a step of a region that draws its order. -/
theorem step_append_fits {P : Program} {w : World} {ops : Array Oper} {o : Oper} {a : Act} {K : Act → World → Prop} {Q : Exit → Act → World → Prop} {E : Prop} (hgd : o.guard = none) (d : Tmp) (hd : o.dst = some d) (s x : Operand) (t : TypeId)
    (ho : o.op = .call { callee := .builtin .append, args := #[s, x], argTypes := #[t, t] })
    (base : Nat) (e : TypeId) (i : TypeInfo) (size : Nat) (ht : P.underlying t = some (.slice e)) (hi : P.info? e = some i) (hsize : i.size = size)
    (g n cap : Nat) (xs : List Value) (hs : a.eval s = .slice (some ⟨g, 0, none⟩) n cap) (hown : w.ownsRow base e size (.slice (some ⟨g, 0, none⟩) n cap) n xs)
    (ad : Addr) (m c : Nat) (news : List Value) (hx : a.eval x = .slice (some ad) m c) (hl : news.length = m * size) (hnews : ∀ j u, news[j]? = some u → w.cell? (ad.add j) = some u) (h1 : ∀ u ∈ news, u.oneCell' = true)
    (hroom : n + m ≤ cap)
    (h : ∀ w', w'.ownsRow base e size (.slice (some ⟨g, 0, none⟩) (n + m) cap) (n + m) (xs ++ news) → w.grownBy w' (some g) → K (a.put (some d) (.slice (some ⟨g, 0, none⟩) (n + m) cap)) w') :
    if Region.wanted o (yielded ops a.tmps) = true then Oper.wp P o a w K Q else E := by
  have hw : Region.wanted o (yielded ops a.tmps) = true := by simp [Region.wanted, hgd]
  rw [if_pos hw]
  obtain ⟨w', hr, h2, h3⟩ := run_append_fits (P := P) w base t o.type e i size ht hi hsize g n cap xs hown ad m c news hl hnews h1 hroom
  unfold Oper.wp execOp
  simp only [ho, resolve, invoke, builtin, Sem.run_bind, Sem.run_pure, Result.andThen_ok, List.map_toArray, List.map_cons, List.map_nil, hs, hx, hr]
  show K (a.put o.dst _) w'
  rw [hd]
  exact h w' h2 h3
/-- A call of a function value at a step of a region that draws its order. -/
theorem step_call2 {P : Program} {w : World} {ops : Array Oper} {o : Oper} {a : Act} {K : Act → World → Prop} {Q : Exit → Act → World → Prop} {E : Prop} (hgd : o.guard = none) (d : Tmp) (hd : o.dst = some d) (s x y : Operand) (tx ty : TypeId)
    (ho : o.op = .call { callee := .value s, args := #[x, y], argTypes := #[tx, ty] }) (fn : Nat) (caps : Array Value) (hs : a.eval s = .func (.func fn) #[] caps) (hE : ∀ args w, (callFunc fn args).run P w = .ok (.enter fn args) w)
    (u v : Value) (hx : a.eval x = u) (hy : a.eval y = v) (r : Value) (R : World → Prop) (hC : Calls P fn (#[u, v] ++ caps) w fun e w' => e = .returned r ∧ R w') (h : ∀ w', R w' → K (a.put (some d) r) w') :
    if Region.wanted o (yielded ops a.tmps) = true then Oper.wp P o a w K Q else E := by
  have hw : Region.wanted o (yielded ops a.tmps) = true := by simp [Region.wanted, hgd]
  rw [if_pos hw]
  unfold Oper.wp execOp
  simp [ho, resolve, invoke, Deferred.ofValue, hs, hx, hy]
  have hr := hE (#[u, v] ++ caps) w
  rw [hr]
  show Calls P fn (#[u, v] ++ caps) w _
  rw [hd]
  refine hC.mono ?_
  rintro e w' ⟨rfl, hR⟩
  exact h w' hR
theorem but_grown {S : List Nat} {a b c : World} {g : Nat} (h : But S a b) (hg : b.grownBy c (some g)) (hs : g ∈ S) : But S a c :=
  h.trans ⟨hg.os, hg.tape, hg.output, hg.size, fun k hk hn => hg.block k hk (fun e => hn (by cases e; exact hs))⟩
theorem one_cell (k : IntKind) (x : Int) : ∀ u ∈ [Value.int k x], u.oneCell' = true := by intro u hu; simp at hu; subst hu; rfl
theorem news_one (k : IntKind) (x : Int) (w : World) (t : TypeId) : ∀ j u, [Value.int k x][j]? = some u → (w.alloc (.cells #[.int k x] t)).cell? ((⟨w.heap.size, 0, none⟩ : Addr).add j) = some u :=
  World.news_of_block (heap_alloc_new w (.cells #[.int k x] t))
theorem own_room (t : TypeId) (w : World) (m : Nat) (hm : m ≤ 1001) : OwnK t w.heap.size w.heap.size 0 m [] (w.alloc (.cells (madeCells #[.int .i64 0] m) t)) :=
  World.ownsRow_made (base := w.heap.size) (e := t) (size := 1) w (madeCells #[.int .i64 0] m) m (Nat.le_refl _) (by unfold maxLen; omega) (by simp [madeCells])
/-- An append at a step of a region that draws its order. -/
theorem step_append_reads {P : Program} {w : World} {ops : Array Oper} {o : Oper} {a : Act} {K : Act → World → Prop} {Q : Exit → Act → World → Prop} {E : Prop} (hgd : o.guard = none) (d : Tmp) (hd : o.dst = some d) (s x : Operand) (t : TypeId)
    (ho : o.op = .call { callee := .builtin .append, args := #[s, x], argTypes := #[t, t] })
    (base : Nat) (e : TypeId) (i : TypeInfo) (z : Value) (bytes : Nat) (ht : P.underlying t = some (.slice e)) (hi : P.info? e = some i) (hz : i.zero = some z)
    (hsize : i.size = 1) (hby : i.bytes = bytes) (hzs : z.cells.size = 1) (k : IntKind)
    (v : Value) (n : Nat) (xs : List Int) (hs : a.eval s = v) (hown : w.ownsRow base e 1 v n (xs.map (Value.int k)))
    (ad : Addr) (m c : Nat) (news : List Int) (hx : a.eval x = .slice (some ad) m c) (hr : Reads k w (some ad) m c news) (hm : 0 < m)
    (h63 : n + m ≤ 9223372036854775807) (hbytes : (n + m) * bytes ≤ 140737488355328) (hbase : base ≤ w.heap.size)
    (h : ∀ v' w', w'.ownsRow base e 1 v' (n + m) ((xs ++ news).map (Value.int k)) → Below base w w' → K (a.put (some d) v') w') :
    if Region.wanted o (yielded ops a.tmps) = true then Oper.wp P o a w K Q else E := by
  refine step_append_lies w hgd s x t ho base e i z 1 bytes ht hi hz hsize hby hzs (by decide) v n _ hs hown ad m c (news.map (Value.int k)) hx (by simpa using hr.size) hr.news (ints_oneCell k news) hm (by unfold maxLen; omega) hbytes hbase _ rfl ?_
  intro g cap w' h1 h2 _ _
  rw [hd]
  refine h _ w' (by rw [List.map_append]; exact h1) ((Below.refl _ _).grown h2 hbase fun g hg => (hown.lt g hg).1)
/-- One number in a new block, as an append of one element lays it. -/
theorem Reads.one {k : IntKind} (w : World) (x : Int) (t : TypeId) : Reads k (w.alloc (.cells #[.int k x] t)) (some ⟨w.heap.size, 0, none⟩) 1 1 [x] :=
  ⟨rfl, Nat.le_refl _, by omega, (fun e => by cases e), fun i hi => ⟨w.heap.size, 0, rfl, (by
    have h0 : i = 0 := by omega
    subst h0
    simp)⟩⟩
/-- The like behind a draw. -/
theorem Reads.oned {k : IntKind} (w : World) (x : Int) (t : TypeId) : Reads k (w.alloc (.cells #[.int k x] t)).drew (some ⟨w.heap.size, 0, none⟩) 1 1 [x] :=
  (Reads.one w x t).below ((Below.refl _ _).drew)
theorem ret_bool {a b : Bool} (h : a = b) : Ending.returned (.bool a) = .returned (.bool b) := by rw [h]
/-- A slice of a table: where it lies, its length, its room. -/
abbrev Hd := Option Addr × Nat × Nat
/-- The slice reads as these slices. -/
structure Rd2 (w : World) (a : Option Addr) (len cap : Nat) (hs : List Hd) : Prop where
  size : hs.length = len
  room : len ≤ cap
  most : cap ≤ 9223372036854775807
  bare : a = none → len = 0 ∧ cap = 0
  cell : ∀ i, i < len → ∃ b off, a = some ⟨b, off, none⟩ ∧ w.cell? ⟨b, off + i, none⟩ = some (.slice (hs[i]?.getD (none, 0, 0)).1 (hs[i]?.getD (none, 0, 0)).2.1 (hs[i]?.getD (none, 0, 0)).2.2)
theorem Rd2.below {w w' : World} {a : Option Addr} {len cap : Nat} {hs : List Hd} (h : Rd2 w a len cap hs) (hb : Below w.heap.size w w') : Rd2 w' a len cap hs :=
  ⟨h.size, h.room, h.most, h.bare, fun i hi => by
    obtain ⟨b, off, ha, hc⟩ := h.cell i hi
    exact ⟨b, off, ha, (hb.cell (World.block_lt_of_cell? _ _ hc)).trans hc⟩⟩
/-- A literal in a new block. -/
theorem Reads.lit (w : World) (xs : List Int) (t : TypeId) (n : Nat) (h : xs.length = n) (hn : n ≤ 1000) : Reads .i64 (w.alloc (.cells (xs.map (Value.int .i64)).toArray t)) (some ⟨w.heap.size, 0, none⟩) n n xs := by
  refine ⟨h, Nat.le_refl _, by omega, (fun e => by cases e), fun i hi => ⟨w.heap.size, 0, rfl, ?_⟩⟩
  rw [Nat.zero_add, cell_of_row _ w.heap.size i _ _ _ (heap_alloc_new w _)]
  simp [(by omega : i < xs.length)]
/-- The slice reads as a table: these are its rows' slices, and their numbers. -/
structure Tbl (w : World) (a : Option Addr) (len cap : Nat) (hs : List Hd) (xss : List (List Int)) : Prop where
  rd : Rd2 w a len cap hs
  rows : ∀ i, i < len → Reads .i64 w (hs[i]?.getD (none, 0, 0)).1 (hs[i]?.getD (none, 0, 0)).2.1 (hs[i]?.getD (none, 0, 0)).2.2 (xss[i]?.getD [])
  short : ∀ i, i < len → (hs[i]?.getD (none, 0, 0)).2.1 ≤ 1000
theorem Tbl.below {w w' : World} {a : Option Addr} {len cap : Nat} {hs : List Hd} {xss : List (List Int)} (h : Tbl w a len cap hs xss) (hb : Below w.heap.size w w') : Tbl w' a len cap hs xss :=
  ⟨h.rd.below hb, fun i hi => (h.rows i hi).below hb, h.short⟩
/-- The numbers f 0, f 1 .. of the first k places. -/
def rowK (f : Nat → Int) (k : Nat) : List Int := (List.range k).map f
theorem rowK_len (f : Nat → Int) (k : Nat) : (rowK f k).length = k := by simp [rowK]
theorem rowK_snoc (f : Nat → Int) (k : Nat) : rowK f k ++ [f k] = rowK f (k + 1) := by unfold rowK; rw [List.range_succ, List.map_append]; rfl
theorem rowK_set (f : Nat → Int) {len k : Nat} (h : k < len) : (rowK f k ++ List.replicate (len - k) 0).set k (f k) = rowK f (k + 1) ++ List.replicate (len - (k + 1)) 0 := by
  rw [List.set_append_right _ _ (by rw [rowK_len]; omega), rowK_len, Nat.sub_self, ← rowK_snoc, List.append_assoc]
  congr 1
  rw [show len - k = len - (k + 1) + 1 by omega, List.replicate_succ]
  rfl
theorem own_below {base e size n : Nat} {v : Value} {xs : List Value} {w w' : World} (h : w.ownsRow base e size v n xs) (hb : Below w.heap.size w w') : w'.ownsRow base e size v n xs := by
  refine ⟨h.1, ?_⟩
  rcases h.2 with h' | ⟨g, c, cur, hv, hB, hg, rest⟩
  · exact .inl h'
  · exact .inr ⟨g, c, cur, hv, hB, (hb.block g (lt_of_block hg)).trans hg, rest⟩
theorem gives_own {w w' : World} {n : Nat} {v : Value} {xs : List Int} (h : w'.ownsRow w.heap.size 2 1 v n (xs.map (Value.int .i64))) (hb : Below w.heap.size w w') : Gives w n xs (.returned v) w' := by
  obtain ⟨a, cap, rfl, hr⟩ := Reads.own (k := .i64) h
  exact ⟨a, cap, rfl, hr, hb⟩
theorem Reads.oneB {k : IntKind} (w : World) (x : Int) (t : TypeId) {B : Nat} (h : w.heap.size = B) : Reads k (w.alloc (.cells #[.int k x] t)) (some ⟨B, 0, none⟩) 1 1 [x] := by subst h; exact Reads.one _ _ _
theorem Made.gives {w : World} {len : Nat} {xs : List Int} {e : Ending} {w' : World} (h : Made w len xs e w') : Gives w len xs e w' := by
  obtain ⟨g, cap, rfl, hO, hb⟩ := h
  exact ⟨_, _, rfl, hO.reads, hb⟩
/-- Whether a place was met. -/
def mt (bs : List Bool) (i : Nat) : Bool := bs[i]?.getD false
theorem mt_same {bs : List Bool} {B : Nat} (h : B < bs.length) : mt (bs.set B true) B = true := by unfold mt; simp [h]
theorem mt_other {bs : List Bool} {B i : Nat} (h : i ≠ B) : mt (bs.set B true) i = mt bs i := by
  unfold mt
  rw [List.getElem?_set, if_neg (fun e => h e.symm)]
/-- The row in block g holds these truths. -/
def OwnB (g m : Nat) (bs : List Bool) (w : World) : Prop := w.ownsRow g 4 1 (.slice (some ⟨g, 0, none⟩) m m) m (bs.map Value.bool)
theorem OwnB.len {g m : Nat} {bs : List Bool} {w : World} (h : OwnB g m bs w) : bs.length = m := by have := h.1; simpa using this
theorem OwnB.cell {g m : Nat} {bs : List Bool} {w : World} (h : OwnB g m bs w) {k : Nat} (hk : k < m) : w.cell? ⟨g, k, none⟩ = some (.bool (mt bs k)) := by
  have hl : bs.length = m := by have := h.1; simpa using this
  rw [World.ownsRow.cellAt h k (by omega)]
  unfold mt
  simp [(by omega : k < bs.length)]
theorem OwnB.frozen {g m : Nat} {bs : List Bool} {w : World} (h : OwnB g m bs w) (k : Nat) : w.frozen? ⟨g, k, none⟩ = false := World.ownsRow.frozenAt h k
theorem OwnB.set {g m : Nat} {bs : List Bool} {w : World} (h : OwnB g m bs w) (k : Nat) (v : Bool) : OwnB g m (bs.set k v) (w.setCell ⟨g, k, none⟩ (.bool v)) := by
  have := (World.ownsRow.stored h k (.bool v)).1
  unfold OwnB
  rw [List.map_set]
  exact this
theorem OwnB.below {g m B : Nat} {bs : List Bool} {w w' : World} (h : OwnB g m bs w) (hb : Below B w w') (hg : g < B) : OwnB g m bs w' := by
  refine ⟨h.1, ?_⟩
  rcases h.2 with h' | ⟨g', c, cur, hv, hB, hg', rest⟩
  · exact .inl h'
  · cases hv
    exact .inr ⟨g, m, cur, rfl, hB, (hb.block g hg).trans hg', rest⟩
theorem Try.info4 : (Try.prog.info? 4).map (fun i => (i.zero, i.size, i.bytes)) = some (some (.bool false), 1, 1) := by kernel_rfl
theorem own_bools (w : World) (m : Nat) (hm : m ≤ 1001) : OwnB w.heap.size m (List.replicate m false) (w.alloc (.cells (madeCells #[.bool false] m) 4)) := by
  have := World.ownsRow_lit (base := w.heap.size) (e := 4) (size := 1) w (madeCells #[.bool false] m) m (Nat.le_refl _) (by unfold maxLen; omega) (by simp [madeCells])
  unfold OwnB
  rw [List.map_replicate, ← toList_madeCells_one]
  exact this
theorem Reads.at {k : IntKind} {w : World} {b o len cap : Nat} {zs : List Int} (h : Reads k w (some ⟨b, o, none⟩) len cap zs) {i : Nat} (hi : i < len) : w.cell? ⟨b, o + i, none⟩ = some (.int k (zs[i]?.getD 0)) := by
  obtain ⟨b', o', e, c⟩ := h.cell i hi
  cases e
  exact c
end Go.Proofs.Ytkkkabgljppilaa
