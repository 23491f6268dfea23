/-
  Rows that may be written over (Rok), a frame that says of which blocks cells may have been written (Fr), Rows' table as such rows, an append of slices to slices.
-/
import Derived.Test.YtecaklehaioohaaAsks
namespace Go.Proofs.Ytecaklehaioohaa
open Go.RowKit
set_option linter.unusedVariables false
set_option maxRecDepth 1000000

/-- Within -One to One. -/
def InOne (xs : List Int) : Prop := ∀ x ∈ xs, -65536 ≤ x ∧ x ≤ 65536
theorem InOne.nil : InOne [] := fun x h => by simp at h
theorem InOne.row {f : Nat → Int} (h : ∀ k, -65536 ≤ f k ∧ f k ≤ 65536) (n : Nat) : InOne (rowK f n) := by
  intro x hx
  unfold rowK at hx
  obtain ⟨k, _, rfl⟩ := List.mem_map.1 hx
  exact h k
theorem InOne.set {xs : List Int} (h : InOne xs) (i : Nat) : InOne (xs.set i 9) := by
  intro x hx
  rcases List.mem_or_eq_of_mem_set hx with hx | rfl
  · exact h x hx
  · omega
theorem InOne.at {xs : List Int} (h : InOne xs) (i : Nat) : -65536 ≤ xs[i]?.getD 0 ∧ xs[i]?.getD 0 ≤ 65536 := by
  rcases Nat.lt_or_ge i xs.length with hi | hi
  · rw [List.getElem?_eq_getElem hi]; exact h _ (List.getElem_mem hi)
  · rw [List.getElem?_eq_none hi]; simp
theorem place_bd (s t r c : Int) : -65536 ≤ mulZ (weightZ s t r c) 16384 ∧ mulZ (weightZ s t r c) 16384 ≤ 65536 := by
  have h := weightZ_bd s t r c
  unfold mulZ
  rw [wi_in (n := weightZ s t r c) (by omega) (by omega), show wi 16384 = 16384 from rfl]
  rw [wi_in (by omega) (by omega)]
  omega
theorem tokL_bd (c : Cf) (t : Int) : InOne (tokL c t) := by
  unfold tokL
  split
  · exact InOne.row (fun k => weightZ_bd _ _ _ _) _
  · exact InOne.nil
theorem plL_bd (c : Cf) (t : Int) : InOne (plL c t) := by
  unfold plL
  split
  · exact InOne.row (fun k => place_bd _ _ _ _) _
  · exact InOne.nil

/-- A row that may be written over: none, or one in a block of its own that P holds of, its numbers within -One to One. -/
def Rok (W : World) (P : Nat → Prop) (h : Hd) : Prop :=
  h = (none, 0, 0) ∨ ∃ g c n xs, h = (some ⟨g, 0, none⟩, n, c) ∧ P g ∧ OwnK 2 0 g n c xs W ∧ InOne xs ∧ n ≤ 1000
theorem Rok.below {W W' : World} {P : Nat → Prop} {h : Hd} (hr : Rok W P h) (hb : Below W.heap.size W W') : Rok W' P h := by
  rcases hr with h0 | ⟨g, c, n, xs, h1, h2, h3, h4⟩
  · exact .inl h0
  · exact .inr ⟨g, c, n, xs, h1, h2, h3.stays hb, h4⟩
theorem Rok.mono {W : World} {P P' : Nat → Prop} {h : Hd} (hr : Rok W P h) (hp : ∀ g, P g → P' g) : Rok W P' h := by
  rcases hr with h0 | ⟨g, c, n, xs, h1, h2, h3, h4⟩
  · exact .inl h0
  · exact .inr ⟨g, c, n, xs, h1, hp g h2, h3, h4⟩
theorem Rok.set {W : World} {P : Nat → Prop} {h : Hd} (hr : Rok W P h) (g i : Nat) : Rok (W.setCell ⟨g, i, none⟩ (.int .i64 9)) P h := by
  rcases hr with h0 | ⟨g', c, n, xs, h1, h2, h3, h4, h5⟩
  · exact .inl h0
  · by_cases e : g = g'
    · subst e
      exact .inr ⟨g, c, n, _, h1, h2, h3.set i 9, h4.set i, h5⟩
    · exact .inr ⟨g', c, n, xs, h1, h2, h3.same (Below.heap_setCell _ _ _ _ (fun e' => e e'.symm)), h4, h5⟩
theorem Rok.at {W : World} {P : Nat → Prop} {a : Option Addr} {n c : Nat} (hr : Rok W P (a, n, c)) {i : Nat} (hi : i < n) :
    ∃ g x, a = some ⟨g, 0, none⟩ ∧ P g ∧ W.cell? ⟨g, i, none⟩ = some (.int .i64 x) ∧ -65536 ≤ x ∧ x ≤ 65536 ∧ W.frozen? ⟨g, i, none⟩ = false := by
  rcases hr with h0 | ⟨g, c', n', xs, h1, h2, h3, h4, h5⟩
  · simp only [Prod.mk.injEq] at h0; omega
  · simp only [Prod.mk.injEq] at h1
    obtain ⟨rfl, rfl, rfl⟩ := h1
    exact ⟨g, _, rfl, h2, h3.cell hi, (h4.at i).1, (h4.at i).2, h3.frozen i⟩
theorem Rok.len {W : World} {P : Nat → Prop} {a : Option Addr} {n c : Nat} (hr : Rok W P (a, n, c)) : n ≤ 1000 := by
  rcases hr with h0 | ⟨g, c', n', xs, h1, h2, h3, h4, h5⟩
  · simp only [Prod.mk.injEq] at h0; omega
  · simp only [Prod.mk.injEq] at h1
    obtain ⟨rfl, rfl, rfl⟩ := h1
    exact h5
theorem rok_own {W : World} {base n : Nat} {v : Value} {xs : List Int} {P : Nat → Prop} (h : W.ownsRow base 2 1 v n (xs.map (Value.int .i64))) (hx : InOne xs) (hn : n ≤ 1000) (hP : ∀ g, base ≤ g → g < W.heap.size → P g) :
    ∃ a c, v = .slice a n c ∧ Rok W P (a, n, c) ∧ Reads .i64 W a n c xs := by
  obtain ⟨a, c, rfl, hr⟩ := Reads.own (k := .i64) h
  refine ⟨a, c, rfl, ?_, hr⟩
  rcases id h.2 with ⟨h', rfl⟩ | ⟨g, cap, cur, h', hb, hg, rest⟩
  · cases h'; exact .inl rfl
  · cases h'
    have hO : OwnK 2 base g n c xs W := h
    exact .inr ⟨g, c, n, xs, rfl, hP g hb (lt_of_block hg), hO.low (Nat.zero_le _), hx, hn⟩

/-- Of the blocks that are there only those that P holds of may have turned. -/
structure Fr (P : Nat → Prop) (w w' : World) : Prop where
  os : w'.os = w.os
  tape : w'.tape = w.tape
  output : w'.output = w.output
  size : w.heap.size ≤ w'.heap.size
  block : ∀ k, k < w.heap.size → ¬ P k → w'.heap[k]? = w.heap[k]?
theorem Fr.refl (P : Nat → Prop) (w : World) : Fr P w w := ⟨rfl, rfl, rfl, Nat.le_refl _, fun _ _ _ => rfl⟩
theorem Fr.set {P : Nat → Prop} {a b : World} (h : Fr P a b) {g : Nat} (hp : P g) (i : Nat) (u : Value) : Fr P a (b.setCell ⟨g, i, none⟩ u) :=
  ⟨h.os, h.tape, h.output, Nat.le_trans h.size (by simp [World.setCell]), fun k hk hn => (Below.heap_setCell _ _ _ _ (fun e => hn (by subst e; exact hp))).trans (h.block k hk hn)⟩
theorem Fr.to {P : Nat → Prop} {a b : World} {B : Nat} (h : Fr P a b) (hS : ∀ s, P s → B ≤ s) (hB : B ≤ a.heap.size) : Below B a b :=
  ⟨h.os, h.tape, h.output, h.size, fun k hk => h.block k (by omega) fun hs => by have := hS k hs; omega⟩
theorem Fr.one {P : Nat → Prop} {w w' : World} (h : Fr P w w') {B : Nat} {o : Obj} (hc : w.heap[B]? = some o) (hp : ¬ P B) : w'.heap[B]? = some o := (h.block B (lt_of_block hc) hp).trans hc
theorem Fr.own {P : Nat → Prop} {w w' : World} (h : Fr P w w') {base e size n : Nat} {v : Value} {xs : List Value} (ho : w.ownsRow base e size v n xs) (hp : ∀ g, base ≤ g → v.ownBlock = some g → ¬ P g) : w'.ownsRow base e size v n xs := by
  refine ⟨ho.1, ?_⟩
  rcases ho.2 with h' | ⟨g, c, cur, rfl, hB, hg, rest⟩
  · exact .inl h'
  · exact .inr ⟨g, c, cur, rfl, hB, h.one hg (hp g hB rfl), rest⟩

/-- Rows hands back slices, none of which is any other's. -/
def GivesR (w : World) (e : Ending) (w' : World) : Prop := ∃ a n c hs, e = .returned (.slice a n c) ∧ n ≤ 16 ∧ Rd2 w' a n c hs ∧ (∀ h ∈ hs, Rok w' (fun g => w.heap.size ≤ g ∧ g < w'.heap.size) h) ∧ Below w.heap.size w w'
theorem rows_o (p : Option Addr) (c : Cf) (la wh : Int) (w : World) (hp : MdAt w p c) (hc : mayB c = true) :
    Calls Try.prog 17 #[.pointer p, .int .i64 la, .int .i64 wh] w fun e w' => GivesR w e w' := by
  have hm := may_parts hc
  obtain ⟨D, hD, hD2, h1, h16⟩ := cf_dim hc
  by_cases h : 0 ≤ la ∧ la < c.layers ∧ 0 ≤ wh ∧ wh ≤ 5
  · rw [hD] at hp
    refine (rows_yes p _ _ _ _ _ la wh D w hp h.1 h.2.1 hm.2.2.2.2.2 h.2.2.1 h.2.2.2 h16).mono fun e w' h => ?_
    obtain ⟨G, hs, rfl, hU⟩ := h
    refine ⟨_, _, _, hs, rfl, h16, hU.own.rd, fun hd hh => ?_, hU.old⟩
    obtain ⟨j, hj, rfl⟩ := List.mem_iff_getElem.1 hh
    have hl := hU.own.len
    obtain ⟨g, cc, e1, e2, e3⟩ := hU.rows j (by omega)
    rw [List.getElem?_eq_getElem hj, Option.getD_some] at e1
    exact .inr ⟨g, cc, D, _, e1, ⟨e3.base, e3.lt⟩, e3.low (Nat.zero_le _), InOne.row (fun k => weightZ_bd _ _ _ _) _, by omega⟩
  · refine (rows_no p c la wh w hp (by omega) (by omega) (by omega)).mono fun e w' h => ?_
    exact ⟨none, 0, 0, [], h.1, by omega, ⟨rfl, Nat.le_refl _, by omega, fun _ => ⟨rfl, rfl⟩, fun i hi => by omega⟩, (fun hd hh => by simp at hh), h.2⟩

/-- An append of slices to a row of slices of the call's own. -/
theorem append_hds {P : Program} (w : World) {ops : Array Oper} {rest : List Oper} {o : Oper} {a : Act} {Q : Exit → Act → World → Prop} (hgd : o.guard = none) (s x : Operand) (t : TypeId)
    (ho : o.op = .call { callee := .builtin .append, args := #[s, x], argTypes := #[t, t] })
    (base : Nat) (i : TypeInfo) (ht : P.underlying t = some (.slice 34)) (hi : P.info? 34 = some i) (hz : i.zero = some (.slice none 0 0)) (hsize : i.size = 1) (hby : i.bytes = 24)
    (v : Value) (n : Nat) (hs : List Hd) (hv : a.eval s = v) (hown : w.ownsRow base 34 1 v n (hs.map hdV))
    (ao : Option Addr) (m c : Nat) (hs2 : List Hd) (hx : a.eval x = .slice ao m c) (hr : Rd2 w ao m c hs2) (hnm : n + m ≤ 100000) (hbase : base ≤ w.heap.size)
    (h : ∀ v' w', w'.ownsRow base 34 1 v' (n + m) ((hs ++ hs2).map hdV) → Below base w w' → wpList P ops Q rest (a.put o.dst v') w') : wpList P ops Q (o :: rest) a w := by
  have hsz := hr.size
  cases ao with
  | none =>
    obtain ⟨rfl, rfl⟩ := hr.bare rfl
    have hn : hs2 = [] := List.eq_nil_of_length_eq_zero hsz
    subst hn
    exact wpList_append_own_none hgd s x t ho base 34 i 1 ht hi v n _ hv hown hx (h v w (by simpa using hown) (Below.refl _ _))
  | some ad =>
    refine wpList_append_own w hgd s x t ho base 34 i (.slice none 0 0) 1 24 ht hi hz hsize hby rfl (by decide) v n _ hv hown ad m c (hs2.map hdV) hx (by simpa using hsz) ?_ ?_ (by unfold maxLen; omega) (by omega) hbase ?_
    · intro j u hu
      have hj : j < hs2.length := by
        have := (List.getElem?_eq_some_iff.1 hu).1
        simpa using this
      obtain ⟨b, off, ha, hc⟩ := hr.cell j (by omega)
      obtain rfl := Option.some.inj ha
      rw [Addr.add_lit, hc]
      simp [hj] at hu ⊢
      exact hu
    · intro u hu
      obtain ⟨hd, _, rfl⟩ := List.mem_map.1 hu
      rfl
    · intro v' w' h1 h2 _
      refine h v' w' (by rw [List.map_append]; exact h1) ((Below.refl _ _).grown h2 hbase fun g hg => (hown.lt g hg).1)
theorem ownS_of {base n : Nat} {v : Value} {hs : List Hd} {w : World} (h : w.ownsRow base 34 1 v n (hs.map hdV)) (hn : 1 ≤ n) : ∃ g c, v = .slice (some ⟨g, 0, none⟩) n c ∧ OwnS base g n c hs w := by
  rcases id h.2 with ⟨rfl, rfl⟩ | ⟨g, cap, cur, rfl, rest⟩
  · omega
  · exact ⟨g, cap, rfl, h⟩
theorem own_two (w : World) (x y : Hd) : (w.alloc (.cells #[.slice x.1 x.2.1 x.2.2, .slice y.1 y.2.1 y.2.2] 34)).ownsRow w.heap.size 34 1 (.slice (some ⟨w.heap.size, 0, none⟩) 2 2) 2 ([x, y].map hdV) :=
  World.ownsRow_lit (base := w.heap.size) (e := 34) (size := 1) w #[hdV x, hdV y] 2 (Nat.le_refl _) (by unfold maxLen; omega) rfl
/-- What stands between the writes: all rows may be written over, and nothing else was turned. -/
structure WrAt (P : Nat → Prop) (Wx : World) (G n cap : Nat) (hs : List Hd) (W : World) : Prop where
  tab : OwnS 0 G n cap hs W
  fr : Fr P Wx W
  rows : ∀ h ∈ hs, Rok W P h
theorem WrAt.set {P : Nat → Prop} {Wx W : World} {G n cap : Nat} {hs : List Hd} (h : WrAt P Wx G n cap hs W) (hG : ¬ P G) {g : Nat} (hg : P g) (i : Nat) : WrAt P Wx G n cap hs (W.setCell ⟨g, i, none⟩ (.int .i64 9)) := by
  refine ⟨?_, h.fr.set hg i _, fun hd hh => (h.rows hd hh).set g i⟩
  refine ownsRow_setCell_other h.tab (fun e => hG ?_) _
  simp [Value.ownBlock] at e
  rw [e]
  exact hg
end Go.Proofs.Ytecaklehaioohaa
