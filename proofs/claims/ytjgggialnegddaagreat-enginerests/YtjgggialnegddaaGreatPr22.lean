/-
  The texts ACuts, RSteps, ROwns of this proof.
-/
import Derived.Test.YtjgggialnegddaaGreatPr21
import Derived.Test.YtjgggialnegddaaGreatPr01
import Derived.Deep.Matrix
import Derived.ProofKit
import Derived.Test.YtjgggialnegddaaGreatPr18
import Derived.Test.YtjgggialnegddaaGreatPr14
set_option linter.unusedVariables false
set_option maxRecDepth 1000000
namespace Go.Proofs.YtjgggialnegddaaGreat
open Go.RowKit
theorem own_type {w : World} {base e n : Nat} {v : Value} {vals : List Value} (ho : w.ownsRow base e 1 v n vals) {o : Nat} (h : v.ownBlock = some o) : ∃ cur, w.heap[o]? = some (.cells cur e (0, 0)) := by
 rcases ho.2 with ⟨rfl, _⟩ | ⟨g, cap, cur, rfl, _, hg, _⟩
 ·simp [Value.ownBlock] at h
 ·simp [Value.ownBlock] at h
  subst h
  exact ⟨cur, hg⟩
end Go.Proofs.YtjgggialnegddaaGreat
namespace Go.Proofs.YtjgggialnegddaaGreat
open Go.RowKit
theorem dotK_turn (xs ys : List Int) (k : Nat) : dotK ys xs k = dotK xs ys k := by
 induction k with
 | zero => rfl
 | succ k ih => simp only [dotK]; rw [ih, mulZ_comm]
def GR (w : World) (L : List Int) (e : Ending) (w' : World) : Prop := ∃ (a : Option Addr) (n cap : Nat), e = .returned (.slice a n cap) ∧ Reads .i64 w' a n cap L ∧ Below w.heap.size w w'
theorem Gives.gr {w w' : World} {n : Nat} {L : List Int} {e : Ending} (h : Gives w n L e w') : GR w L e w' := by
 obtain ⟨a, cap, rfl, h1, h2⟩ := h
 exact ⟨a, n, cap, rfl, h1, h2⟩
def GRI (w : World) (L : List Int) (e : Ending) (w' : World) : Prop := ∃ (a : Option Addr) (n cap : Nat), e = .returned (.slice a n cap) ∧ Reads .i64 w' a n cap L ∧ BlI w' a ∧ Below w.heap.size w w'
theorem OwnG.gri {w w' : World} {n : Nat} {L : List Int} {e : Ending} (h : OwnG w n L e w') : GRI w L e w' := by
 obtain ⟨v, rfl, h1, h2⟩ := h
 obtain ⟨a, cap, rfl, hr⟩ := Reads.own (k := .i64) h1
 exact ⟨a, n, cap, rfl, hr, BlI.own h1, h2⟩
theorem rnorm_h (a : Option Addr) (n cap : Nat) (zs : List Int) (w : World) (ha : Reads .i64 w a n cap zs) (hn : n ≤ 1000) :
  Calls Tryz.prog 130 #[.slice a n cap] w fun e w' => GR w (normL zs) e w' := (rvnorm_any a n cap zs w ha hn).mono fun e w' h => h.gr
theorem rsoft_h (a : Option Addr) (n cap : Nat) (zs : List Int) (w : World) (ha : Reads .i64 w a n cap zs) (hn : n ≤ 1000) :
  Calls Tryz.prog 138 #[.slice a n cap] w fun e w' => GR w (softL zs) e w' := (rvsoft_any a n cap zs w ha hn).mono fun e w' h => h.gr
theorem rrelu_h (a : Option Addr) (n cap : Nat) (zs : List Int) (w : World) (ha : Reads .i64 w a n cap zs) (hn : n ≤ 1000) :
  Calls Tryz.prog 139 #[.slice a n cap] w fun e w' => GR w (reluL zs) e w' := (rvrelu_any a n cap zs w ha hn).mono fun e w' h => h.gr
theorem radd_h (a b : Option Addr) (la ca lb cb : Nat) (xs ys : List Int) (w : World) (ha : Reads .i64 w a la ca xs) (hb : Reads .i64 w b lb cb ys) (hla : la ≤ 1000) (hlb : lb ≤ 1000) :
  Calls Tryz.prog 71 #[.slice a la ca, .slice b lb cb] w fun e w' => GRI w (addL xs ys) e w' := by
 unfold addL
 rw [ha.size, hb.size]
 exact (rvadd_own a b la ca lb cb xs ys w ha hb hla hlb).mono fun e w' h => h.gri
theorem rmul_h (a b : Option Addr) (la ca lb cb : Nat) (hs : List Hd) (t : List (List Int)) (ys : List Int) (w : World) (ha : Tbl w a la ca hs t) (hl : t.length = la) (hb : Reads .i64 w b lb cb ys) (hla : la ≤ 1000) (hlb : lb ≤ 1000) :
  Calls Tryz.prog 131 #[.slice a la ca, .slice b lb cb] w fun e w' => GRI w (mulT t ys) e w' := by
 unfold mulT
 rw [hl]
 exact (rvmul_own a b la ca lb cb hs t ys w ha hb hla hlb).mono fun e w' h => h.gri
theorem rmix_h (a b : Option Addr) (la ca lb cb : Nat) (hs : List Hd) (t : List (List Int)) (ws : List Int) (w : World) (ha : Tbl w a la ca hs t) (hl : t.length = la) (hb : Reads .i64 w b lb cb ws) (hla : la ≤ 1000) (hlb : lb ≤ 1000) (h0 : 0 < la) :
  Calls Tryz.prog 137 #[.slice b lb cb, .slice a la ca] w fun e w' => GR w (mixL ws t) e w' := by
 unfold mixL
 rw [hl, hb.size]
 exact (rvmix_any a b la ca lb cb hs t ws w ha hb hla hlb h0).mono fun e w' h => h.gr
theorem rrows_h (c : Cf) (la wh : Int) (w : World) (hc : mayB c = true) :
  Calls Tryz.prog 132 #[.agg (CfV c), .int .i64 la, .int .i64 wh] w fun e w' => GT w (tabL c la wh) e w' := (rrows_g c la wh w hc).mono fun e w' ⟨a, cap, hs, h1, h2, h3⟩ => ⟨a, _, cap, hs, h1, h2, rfl, h3⟩
theorem rmark_h (c : Cf) (a b : Option Addr) (la ca lb cb : Nat) (q y : List Int) (w : World) (ha : Reads .i64 w a la ca q) (hb : Reads .i64 w b lb cb y) (hla : la ≤ 1000) (hlb : lb ≤ 1000) :
  Calls Tryz.prog 136 #[.slice a la ca, .slice b lb cb] w fun e w' => e = .returned (.int .i64 (dotK y q (min y.length q.length))) ∧ Below w.heap.size w w' := by
 have := rvdot_any a b la ca lb cb q y w ha hb hla hlb
 rw [ha.size, hb.size, dotK_turn, Nat.min_comm]
 exact this
theorem append_one {P : Program} (w : World) {ops : Array Oper} {rest : List Oper} {o : Oper} {a : Act} {Q : Exit → Act → World → Prop} (hgd : o.guard = none) (s x : Operand) (t : TypeId)
  (ho : o.op = .call { callee := .builtin .append, args := #[s, x], argTypes := #[t, t] })
  (base : Nat) (e : TypeId) (i : TypeInfo) (z : Value) (bytes : Nat) (ht : P.underlying t = some (.slice e)) (hi : P.info? e = some i) (hz : i.zero = some z) (hsize : i.size = 1) (hby : i.bytes = bytes) (hzs : z.cells.size = 1) (hbt : bytes ≤ 24)
  (v : Value) (n : Nat) (xs : List Value) (hv : a.eval s = v) (hown : w.ownsRow base e 1 v n xs) (hn : n ≤ 100000)
  (B : Nat) (u : Value) (h1 : u.oneCell' = true) (hx : a.eval x = .slice (some ⟨B, 0, none⟩) 1 1) (hc : w.cell? ⟨B, 0, none⟩ = some u)
  (hbase : base ≤ w.heap.size)
  (h : ∀ v' w', w'.ownsRow base e 1 v' (n + 1) (xs ++ [u]) → w.grownBy w' v.ownBlock → wpList P ops Q rest (a.put o.dst v') w') : wpList P ops Q (o :: rest) a w := by
 refine wpList_append_own w hgd s x t ho base e i z 1 bytes ht hi hz hsize hby hzs (by decide) v n _ hv hown ⟨B, 0, none⟩ 1 1 [u] hx rfl ?_ ?_ (by unfold maxLen; omega) (by have : (n + 1) * bytes ≤ (n + 1) * 24 := Nat.mul_le_mul_left _ hbt; omega) hbase ?_
 ·intro j y hy
  rcases j with _ | j
  ·simp at hy
   rw [Addr.add_lit, Nat.zero_add, hc, hy]
  ·simp at hy
 ·intro y hy
  simp at hy
  subst hy
  exact h1
 ·intro v' w' h1 h2 _
  exact h v' w' h1 h2
theorem own_kept {w w' : World} {b1 b2 e1 e2 n1 n2 : Nat} {v1 v2 : Value} {x1 x2 : List Value} (h1 : w.ownsRow b1 e1 1 v1 n1 x1) (h2 : w.ownsRow b2 e2 1 v2 n2 x2) (hne : e1 ≠ e2) (hg : w.grownBy w' v2.ownBlock) : w'.ownsRow b1 e1 1 v1 n1 x1 := by
 refine h1.kept hg ?_
 cases ho : v1.ownBlock with
 | none => exact .inl rfl
 | some o =>
  refine .inr fun e => ?_
  obtain ⟨c1, hc1⟩ := own_type h1 ho
  obtain ⟨c2, hc2⟩ := own_type h2 e.symm
  rw [hc1] at hc2
  simp at hc2
  exact hne hc2.2
end Go.Proofs.YtjgggialnegddaaGreat
namespace Go.Proofs.YtjgggialnegddaaGreat
open Go.RowKit
def Moved (w : World) (v v' : Value) : Prop := v'.ownBlock = v.ownBlock ∨ ∃ o, v'.ownBlock = some o ∧ w.heap.size ≤ o
theorem moved_of {w w' : World} {e n : Nat} {v v' : Value} {xs : List Value} (h : w'.ownsRow w.heap.size e 1 v' (n + 1) xs) : Moved w v v' := by
 right
 rcases id h.2 with ⟨_, h0⟩ | ⟨g, cap, cur, rfl, hb, _⟩
 ·omega
 ·exact ⟨g, rfl, hb⟩
theorem append_one2 {P : Program} (w : World) {ops : Array Oper} {rest : List Oper} {o : Oper} {a : Act} {Q : Exit → Act → World → Prop} (hgd : o.guard = none) (s x : Operand) (t : TypeId)
  (ho : o.op = .call { callee := .builtin .append, args := #[s, x], argTypes := #[t, t] })
  (base : Nat) (e : TypeId) (i : TypeInfo) (z : Value) (bytes : Nat) (ht : P.underlying t = some (.slice e)) (hi : P.info? e = some i) (hz : i.zero = some z) (hsize : i.size = 1) (hby : i.bytes = bytes) (hzs : z.cells.size = 1) (hbt : bytes ≤ 24)
  (v : Value) (n : Nat) (xs : List Value) (hv : a.eval s = v) (hown : w.ownsRow base e 1 v n xs) (hn : n ≤ 100000)
  (B : Nat) (u : Value) (h1 : u.oneCell' = true) (hx : a.eval x = .slice (some ⟨B, 0, none⟩) 1 1) (hc : w.cell? ⟨B, 0, none⟩ = some u)
  (hbase : base ≤ w.heap.size)
  (h : ∀ v' w', w'.ownsRow base e 1 v' (n + 1) (xs ++ [u]) → w.grownBy w' v.ownBlock → Moved w v v' → wpList P ops Q rest (a.put o.dst v') w') : wpList P ops Q (o :: rest) a w := by
 have hnews : ∀ j y, [u][j]? = some y → w.cell? ((⟨B, 0, none⟩ : Addr).add j) = some y := by
  intro j y hy
  rcases j with _ | j
  ·simp at hy
   rw [Addr.add_lit, Nat.zero_add, hc, hy]
  ·simp at hy
 have hone : ∀ y ∈ [u], y.oneCell' = true := by
  intro y hy
  simp at hy
  subst hy
  exact h1
 have hbytes : (n + 1) * bytes ≤ 140737488355328 := by have : (n + 1) * bytes ≤ (n + 1) * 24 := Nat.mul_le_mul_left _ hbt; omega
 rcases id hown.2 with ⟨rfl, rfl⟩ | ⟨g, cap, cur, rfl, hbg, hg, hnc, hcm, hcs, htake⟩
 ·obtain rfl : xs = [] := List.eq_nil_of_length_eq_zero (by simpa using hown.1)
  refine wpList_append_grows w hgd s x t ho e i z 1 bytes ht hi hz hsize hby hzs (by decide) none 0 0 [] hv (fun _ => ⟨rfl, rfl⟩) rfl (fun b hb => by cases hb) ⟨B, 0, none⟩ 1 1 [u] hx rfl hnews hone (by omega) (by unfold maxLen; omega) hbytes ?_
  intro v' w' k1 k2
  exact h v' w' (own_base k1 hbase) k2 (moved_of k1)
 ·by_cases hroom : n + 1 ≤ cap
  ·refine wpList_append_fits w hgd s x t ho base e i 1 ht hi hsize g n cap xs hv hown ⟨B, 0, none⟩ 1 1 [u] hx rfl hnews hone hroom ?_
   intro w' k1 k2
   exact h _ w' k1 k2 (.inl rfl)
  ·refine wpList_append_grows w hgd s x t ho e i z 1 bytes ht hi hz hsize hby hzs (by decide) (some ⟨g, 0, none⟩) n cap xs hv (fun e => by cases e) (by simpa using hown.1) (fun b hb => by cases hb; exact hown.cells (g := g) rfl) ⟨B, 0, none⟩ 1 1 [u] hx rfl hnews hone (by omega) (by unfold maxLen; omega) hbytes ?_
   intro v' w' k1 k2
   exact h v' w' (own_base k1 hbase) ⟨k2.os, k2.tape, k2.output, k2.size, fun k hk _ => k2.block k hk (by simp)⟩ (moved_of k1)
def Apart (u v : Value) : Prop := ∀ o, u.ownBlock = some o → v.ownBlock ≠ some o
theorem Apart.symm {u v : Value} (h : Apart u v) : Apart v u := fun o h1 h2 => h o h2 h1
theorem Apart.nil (v : Value) : Apart (.slice none 0 0) v := fun o h => by simp [Value.ownBlock] at h
theorem Apart.moved {w : World} {base e n : Nat} {u u' v : Value} {xs : List Value} (h : Apart u v) (hm : Moved w u u') (hv : w.ownsRow base e 1 v n xs) : Apart u' v := by
 intro o h1 h2
 rcases hm with hm | ⟨o', hm, hle⟩
 ·rw [hm] at h1; exact h o h1 h2
 ·rw [hm] at h1
  cases h1
  have := (hv.lt _ h2).2
  omega
theorem RowsI.kept2 {w w' : World} {b1 b2 n1 n2 : Nat} {u v : Value} {xs : List Value} {hs : List Hd} {ls : List (List Int)} (hu : w.ownsRow b1 131 1 u n1 xs) (hv : RowsI w b2 v n2 hs ls) (hap : Apart u v) (hg : w.grownBy w' u.ownBlock) : RowsI w' b2 v n2 hs ls := by
 refine ⟨hv.own.kept hg ?_, hv.size, fun j hj => ?_⟩
 ·cases ho : v.ownBlock with
  | none => exact .inl rfl
  | some o => exact .inr fun e => hap o e.symm ho
 ·obtain ⟨e2, e3, e4⟩ := hv.rows j hj
  obtain ⟨k1, k2⟩ := Reads.kept hu hg e2 e3
  exact ⟨k1, k2, e4⟩
theorem RowsI.snoc {w w' : World} {base n : Nat} {v v' : Value} {hs : List Hd} {ls : List (List Int)} {y : Hd} {zs : List Int} (hown : RowsI w base v n hs ls) (hr : Reads .i64 w y.1 y.2.1 y.2.2 zs) (h5 : BlI w y.1) (hy : y.2.1 ≤ 1000)
  (ho : w'.ownsRow base 131 1 v' (n + 1) (hs.map hdV ++ [hdV y])) (hg : w.grownBy w' v.ownBlock) : RowsI w' base v' (n + 1) (hs ++ [y]) (ls ++ [zs]) := by
 have hlen : hs.length = n := by have := hown.own.1; simpa using this
 refine ⟨by rw [List.map_append]; exact ho, by simp [hown.size], fun j hj => ?_⟩
 have hsz := hown.size
 rw [at_snoc hs y _ hlen hj, at_snoc ls zs _ hsz hj]
 by_cases e : j < n
 ·rw [if_pos e, if_pos e]
  obtain ⟨e2, e3, e4⟩ := hown.rows j e
  obtain ⟨k1, k2⟩ := Reads.kept hown.own hg e2 e3
  exact ⟨k1, k2, e4⟩
 ·rw [if_neg e, if_neg e]
  obtain ⟨k1, k2⟩ := Reads.kept hown.own hg hr h5
  exact ⟨k1, k2, hy⟩
theorem own_keep {T : TypeId} {W W' : World} {base e n : Nat} {v : Value} {xs : List Value} (h : W.ownsRow base e 1 v n xs) (hk : Kp T W W') (hT : e ≠ T) : W'.ownsRow base e 1 v n xs := by
 refine ⟨h.1, ?_⟩
 rcases h.2 with h' | ⟨g, c, cur, hv, hB, hg, rest⟩
 ·exact .inl h'
 ·exact .inr ⟨g, c, cur, hv, hB, hk _ _ _ _ hg hT, rest⟩
theorem RowsI.keep {T : TypeId} {W W' : World} {base n : Nat} {v : Value} {hs : List Hd} {ls : List (List Int)} (h : RowsI W base v n hs ls) (hk : Kp T W W') (hT : 2 ≠ T) (hS : 131 ≠ T) : RowsI W' base v n hs ls :=
 ⟨own_keep h.own hk hS, h.size, fun j hj => by
  obtain ⟨e2, e3, e4⟩ := h.rows j hj
  obtain ⟨k1, k2⟩ := Reads.keep e2 e3 hk hT
  exact ⟨k1, k2, e4⟩⟩
theorem RowsI.tbh {w : World} {base n : Nat} {v : Value} {hs : List Hd} {ls : List (List Int)} (h : RowsI w base v n hs ls) : ∃ a c, v = .slice a n c ∧ TbH w (a, n, c) ls := by
 obtain ⟨a, c, rfl, ht⟩ := h.tbl
 exact ⟨a, c, rfl, h.size, hs, ht, BlS.own h.own, fun i hi => (h.rows i hi).2.1⟩
structure PlsAt (W : World) (a : Option Addr) (n cap : Nat) (ps : List Hp) (KK VV : Nat → List (List Int)) : Prop where
 room : n ≤ cap
 most : cap ≤ 9223372036854775807
 cell : ∀ i, i < n → ∃ b off, a = some ⟨b, off, none⟩ ∧ W.cell? ⟨b, off + i * 2, none⟩ = some (hdV (pk ps i).1) ∧ W.cell? ⟨b, off + i * 2 + 1, none⟩ = some (hdV (pk ps i).2)
 rows : ∀ i, i < n → TbH W (pk ps i).1 (KK i) ∧ TbH W (pk ps i).2 (VV i)
theorem PlsAt.below {W W' : World} {a : Option Addr} {n cap : Nat} {ps : List Hp} {KK VV : Nat → List (List Int)} (h : PlsAt W a n cap ps KK VV) (hb : Below W.heap.size W W') : PlsAt W' a n cap ps KK VV :=
 ⟨h.room, h.most, fun i hi => by
  obtain ⟨b, off, e, c0, c1⟩ := h.cell i hi
  exact ⟨b, off, e, cell_later_of c0 hb, cell_later_of c1 hb⟩, fun i hi => ⟨(h.rows i hi).1.below hb, (h.rows i hi).2.below hb⟩⟩
end Go.Proofs.YtjgggialnegddaaGreat
