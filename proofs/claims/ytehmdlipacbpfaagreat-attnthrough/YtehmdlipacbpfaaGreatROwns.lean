/-
  Rows of slices of the call's own, two of one type side by side: an append to the one tells where its row then lies, and turns nothing of the other; a row of pairs of slices.
-/
import Derived.Test.YtehmdlipacbpfaaGreatRSteps
namespace Go.Proofs.YtehmdlipacbpfaaGreat
open Go.RowKit
set_option linter.unusedVariables false
set_option maxRecDepth 1000000

/-- The row lies where it lay, or in a new block. -/
def Moved (w : World) (v v' : Value) : Prop := v'.ownBlock = v.ownBlock ∨ ∃ o, v'.ownBlock = some o ∧ w.heap.size ≤ o
theorem moved_of {w w' : World} {e n : Nat} {v v' : Value} {xs : List Value} (h : w'.ownsRow w.heap.size e 1 v' (n + 1) xs) : Moved w v v' := by
  right
  rcases id h.2 with ⟨_, h0⟩ | ⟨g, cap, cur, rfl, hb, _⟩
  · omega
  · exact ⟨g, rfl, hb⟩
/-- An append of one value to a row of the call's own, with where it then lies. -/
theorem append_one2 {P : Program} (w : World) {ops : Array Oper} {rest : List Oper} {o : Oper} {a : Act} {Q : Exit → Act → World → Prop} (hgd : o.guard = none) (s x : Operand) (t : TypeId)
    (ho : o.op = .call { callee := .builtin .append, args := #[s, x], argTypes := #[t, t] })
    (base : Nat) (e : TypeId) (i : TypeInfo) (z : Value) (bytes : Nat) (ht : P.underlying t = some (.slice e)) (hi : P.info? e = some i) (hz : i.zero = some z) (hsize : i.size = 1) (hby : i.bytes = bytes) (hzs : z.cells.size = 1) (hbt : bytes ≤ 24)
    (v : Value) (n : Nat) (xs : List Value) (hv : a.eval s = v) (hown : w.ownsRow base e 1 v n xs) (hn : n ≤ 100000)
    (B : Nat) (u : Value) (h1 : u.oneCell' = true) (hx : a.eval x = .slice (some ⟨B, 0, none⟩) 1 1) (hc : w.cell? ⟨B, 0, none⟩ = some u)
    (hbase : base ≤ w.heap.size)
    (h : ∀ v' w', w'.ownsRow base e 1 v' (n + 1) (xs ++ [u]) → w.grownBy w' v.ownBlock → Moved w v v' → wpList P ops Q rest (a.put o.dst v') w') : wpList P ops Q (o :: rest) a w := by
  have hnews : ∀ j y, [u][j]? = some y → w.cell? ((⟨B, 0, none⟩ : Addr).add j) = some y := by
    intro j y hy
    rcases j with _ | j
    · simp at hy
      rw [Addr.add_lit, Nat.zero_add, hc, hy]
    · simp at hy
  have hone : ∀ y ∈ [u], y.oneCell' = true := by
    intro y hy
    simp at hy
    subst hy
    exact h1
  have hbytes : (n + 1) * bytes ≤ 140737488355328 := by have : (n + 1) * bytes ≤ (n + 1) * 24 := Nat.mul_le_mul_left _ hbt; omega
  rcases id hown.2 with ⟨rfl, rfl⟩ | ⟨g, cap, cur, rfl, hbg, hg, hnc, hcm, hcs, htake⟩
  · obtain rfl : xs = [] := List.eq_nil_of_length_eq_zero (by simpa using hown.1)
    refine wpList_append_grows w hgd s x t ho e i z 1 bytes ht hi hz hsize hby hzs (by decide) none 0 0 [] hv (fun _ => ⟨rfl, rfl⟩) rfl (fun b hb => by cases hb) ⟨B, 0, none⟩ 1 1 [u] hx rfl hnews hone (by omega) (by unfold maxLen; omega) hbytes ?_
    intro v' w' k1 k2
    exact h v' w' (own_base k1 hbase) k2 (moved_of k1)
  · by_cases hroom : n + 1 ≤ cap
    · refine wpList_append_fits w hgd s x t ho base e i 1 ht hi hsize g n cap xs hv hown ⟨B, 0, none⟩ 1 1 [u] hx rfl hnews hone hroom ?_
      intro w' k1 k2
      exact h _ w' k1 k2 (.inl rfl)
    · refine wpList_append_grows w hgd s x t ho e i z 1 bytes ht hi hz hsize hby hzs (by decide) (some ⟨g, 0, none⟩) n cap xs hv (fun e => by cases e) (by simpa using hown.1) (fun b hb => by cases hb; exact hown.cells (g := g) rfl) ⟨B, 0, none⟩ 1 1 [u] hx rfl hnews hone (by omega) (by unfold maxLen; omega) hbytes ?_
      intro v' w' k1 k2
      exact h v' w' (own_base k1 hbase) ⟨k2.os, k2.tape, k2.output, k2.size, fun k hk _ => k2.block k hk (by simp)⟩ (moved_of k1)
/-- Two rows lie apart. -/
def Apart (u v : Value) : Prop := ∀ o, u.ownBlock = some o → v.ownBlock ≠ some o
theorem Apart.symm {u v : Value} (h : Apart u v) : Apart v u := fun o h1 h2 => h o h2 h1
theorem Apart.nil (v : Value) : Apart (.slice none 0 0) v := fun o h => by simp [Value.ownBlock] at h
theorem Apart.moved {w : World} {base e n : Nat} {u u' v : Value} {xs : List Value} (h : Apart u v) (hm : Moved w u u') (hv : w.ownsRow base e 1 v n xs) : Apart u' v := by
  intro o h1 h2
  rcases hm with hm | ⟨o', hm, hle⟩
  · rw [hm] at h1; exact h o h1 h2
  · rw [hm] at h1
    cases h1
    have := (hv.lt _ h2).2
    omega
theorem RowsI.kept2 {w w' : World} {b1 b2 n1 n2 : Nat} {u v : Value} {xs : List Value} {hs : List Hd} {ls : List (List Int)} (hu : w.ownsRow b1 25 1 u n1 xs) (hv : RowsI w b2 v n2 hs ls) (hap : Apart u v) (hg : w.grownBy w' u.ownBlock) : RowsI w' b2 v n2 hs ls := by
  refine ⟨hv.own.kept hg ?_, hv.size, fun j hj => ?_⟩
  · cases ho : v.ownBlock with
    | none => exact .inl rfl
    | some o => exact .inr fun e => hap o e.symm ho
  · obtain ⟨e2, e3, e4⟩ := hv.rows j hj
    obtain ⟨k1, k2⟩ := Reads.kept hu hg e2 e3
    exact ⟨k1, k2, e4⟩
theorem RowsI.snoc {w w' : World} {base n : Nat} {v v' : Value} {hs : List Hd} {ls : List (List Int)} {y : Hd} {zs : List Int} (hown : RowsI w base v n hs ls) (hr : Reads .i64 w y.1 y.2.1 y.2.2 zs) (h5 : BlI w y.1) (hy : y.2.1 ≤ 1000)
    (ho : w'.ownsRow base 25 1 v' (n + 1) (hs.map hdV ++ [hdV y])) (hg : w.grownBy w' v.ownBlock) : RowsI w' base v' (n + 1) (hs ++ [y]) (ls ++ [zs]) := by
  have hlen : hs.length = n := by have := hown.own.1; simpa using this
  refine ⟨by rw [List.map_append]; exact ho, by simp [hown.size], fun j hj => ?_⟩
  have hsz := hown.size
  rw [at_snoc hs y _ hlen hj, at_snoc ls zs _ hsz hj]
  by_cases e : j < n
  · rw [if_pos e, if_pos e]
    obtain ⟨e2, e3, e4⟩ := hown.rows j e
    obtain ⟨k1, k2⟩ := Reads.kept hown.own hg e2 e3
    exact ⟨k1, k2, e4⟩
  · rw [if_neg e, if_neg e]
    obtain ⟨k1, k2⟩ := Reads.kept hown.own hg hr h5
    exact ⟨k1, k2, hy⟩
theorem own_keep {T : TypeId} {W W' : World} {base e n : Nat} {v : Value} {xs : List Value} (h : W.ownsRow base e 1 v n xs) (hk : Kp T W W') (hT : e ≠ T) : W'.ownsRow base e 1 v n xs := by
  refine ⟨h.1, ?_⟩
  rcases h.2 with h' | ⟨g, c, cur, hv, hB, hg, rest⟩
  · exact .inl h'
  · exact .inr ⟨g, c, cur, hv, hB, hk _ _ _ _ hg hT, rest⟩
theorem RowsI.keep {T : TypeId} {W W' : World} {base n : Nat} {v : Value} {hs : List Hd} {ls : List (List Int)} (h : RowsI W base v n hs ls) (hk : Kp T W W') (hT : 2 ≠ T) (hS : 25 ≠ T) : RowsI W' base v n hs ls :=
  ⟨own_keep h.own hk hS, h.size, fun j hj => by
    obtain ⟨e2, e3, e4⟩ := h.rows j hj
    obtain ⟨k1, k2⟩ := Reads.keep e2 e3 hk hT
    exact ⟨k1, k2, e4⟩⟩
/-- Such a row, as a slice. -/
theorem RowsI.tbh {w : World} {base n : Nat} {v : Value} {hs : List Hd} {ls : List (List Int)} (h : RowsI w base v n hs ls) : ∃ a c, v = .slice a n c ∧ TbH w (a, n, c) ls := by
  obtain ⟨a, c, rfl, ht⟩ := h.tbl
  exact ⟨a, c, rfl, h.size, hs, ht, BlS.own h.own, fun i hi => (h.rows i hi).2.1⟩
/-- A list of places as it is read: each has a table of keys and one of values, a row a layer. -/
structure PlsAt (W : World) (a : Option Addr) (n cap : Nat) (ps : List Hp) (KK VV : Nat → List (List Int)) : Prop where
  room : n ≤ cap
  most : cap ≤ 9223372036854775807
  cell : ∀ i, i < n → ∃ b off, a = some ⟨b, off, none⟩ ∧ W.cell? ⟨b, off + i * 2, none⟩ = some (hdV (pk ps i).1) ∧ W.cell? ⟨b, off + i * 2 + 1, none⟩ = some (hdV (pk ps i).2)
  rows : ∀ i, i < n → TbH W (pk ps i).1 (KK i) ∧ TbH W (pk ps i).2 (VV i)
theorem PlsAt.below {W W' : World} {a : Option Addr} {n cap : Nat} {ps : List Hp} {KK VV : Nat → List (List Int)} (h : PlsAt W a n cap ps KK VV) (hb : Below W.heap.size W W') : PlsAt W' a n cap ps KK VV :=
  ⟨h.room, h.most, fun i hi => by
    obtain ⟨b, off, e, c0, c1⟩ := h.cell i hi
    exact ⟨b, off, e, cell_later_of c0 hb, cell_later_of c1 hb⟩, fun i hi => ⟨(h.rows i hi).1.below hb, (h.rows i hi).2.below hb⟩⟩
end Go.Proofs.YtehmdlipacbpfaaGreat
