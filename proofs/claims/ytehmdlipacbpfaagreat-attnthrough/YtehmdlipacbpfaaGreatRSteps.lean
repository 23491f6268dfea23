/-
  The document's contracts in one form; an append of one value to a row of the call's own; contract: the document's Step.
-/
import Derived.Test.YtehmdlipacbpfaaGreatRTables
import Derived.Test.YtehmdlipacbpfaaGreatRSofts
import Derived.Test.YtehmdlipacbpfaaGreatACuts
namespace Go.Proofs.YtehmdlipacbpfaaGreat
open Go.RowKit
set_option linter.unusedVariables false
set_option maxRecDepth 1000000

theorem dotK_turn (xs ys : List Int) (k : Nat) : dotK ys xs k = dotK xs ys k := by
  induction k with
  | zero => rfl
  | succ k ih => simp only [dotK]; rw [ih, mulZ_comm]
/-- The call hands back a slice that reads as this list. -/
def GR (w : World) (L : List Int) (e : Ending) (w' : World) : Prop := ∃ (a : Option Addr) (n cap : Nat), e = .returned (.slice a n cap) ∧ Reads .i64 w' a n cap L ∧ Below w.heap.size w w'
theorem Gives.gr {w w' : World} {n : Nat} {L : List Int} {e : Ending} (h : Gives w n L e w') : GR w L e w' := by
  obtain ⟨a, cap, rfl, h1, h2⟩ := h
  exact ⟨a, n, cap, rfl, h1, h2⟩
/-- The like, in a block of numbers. -/
def GRI (w : World) (L : List Int) (e : Ending) (w' : World) : Prop := ∃ (a : Option Addr) (n cap : Nat), e = .returned (.slice a n cap) ∧ Reads .i64 w' a n cap L ∧ BlI w' a ∧ Below w.heap.size w w'
theorem OwnG.gri {w w' : World} {n : Nat} {L : List Int} {e : Ending} (h : OwnG w n L e w') : GRI w L e w' := by
  obtain ⟨v, rfl, h1, h2⟩ := h
  obtain ⟨a, cap, rfl, hr⟩ := Reads.own (k := .i64) h1
  exact ⟨a, n, cap, rfl, hr, BlI.own h1, h2⟩
theorem rnorm_h (a : Option Addr) (n cap : Nat) (zs : List Int) (w : World) (ha : Reads .i64 w a n cap zs) (hn : n ≤ 1000) :
    Calls Tryz.prog 32 #[.slice a n cap] w fun e w' => GR w (normL zs) e w' := (rvnorm_any a n cap zs w ha hn).mono fun e w' h => h.gr
theorem rsoft_h (a : Option Addr) (n cap : Nat) (zs : List Int) (w : World) (ha : Reads .i64 w a n cap zs) (hn : n ≤ 1000) :
    Calls Tryz.prog 41 #[.slice a n cap] w fun e w' => GR w (softL zs) e w' := (rvsoft_any a n cap zs w ha hn).mono fun e w' h => h.gr
theorem rrelu_h (a : Option Addr) (n cap : Nat) (zs : List Int) (w : World) (ha : Reads .i64 w a n cap zs) (hn : n ≤ 1000) :
    Calls Tryz.prog 42 #[.slice a n cap] w fun e w' => GR w (reluL zs) e w' := (rvrelu_any a n cap zs w ha hn).mono fun e w' h => h.gr
theorem radd_h (a b : Option Addr) (la ca lb cb : Nat) (xs ys : List Int) (w : World) (ha : Reads .i64 w a la ca xs) (hb : Reads .i64 w b lb cb ys) (hla : la ≤ 1000) (hlb : lb ≤ 1000) :
    Calls Tryz.prog 39 #[.slice a la ca, .slice b lb cb] w fun e w' => GRI w (addL xs ys) e w' := by
  unfold addL
  rw [ha.size, hb.size]
  exact (rvadd_own a b la ca lb cb xs ys w ha hb hla hlb).mono fun e w' h => h.gri
theorem rmul_h (a b : Option Addr) (la ca lb cb : Nat) (hs : List Hd) (t : List (List Int)) (ys : List Int) (w : World) (ha : Tbl w a la ca hs t) (hl : t.length = la) (hb : Reads .i64 w b lb cb ys) (hla : la ≤ 1000) (hlb : lb ≤ 1000) :
    Calls Tryz.prog 33 #[.slice a la ca, .slice b lb cb] w fun e w' => GRI w (mulT t ys) e w' := by
  unfold mulT
  rw [hl]
  exact (rvmul_own a b la ca lb cb hs t ys w ha hb hla hlb).mono fun e w' h => h.gri
theorem rmix_h (a b : Option Addr) (la ca lb cb : Nat) (hs : List Hd) (t : List (List Int)) (ws : List Int) (w : World) (ha : Tbl w a la ca hs t) (hl : t.length = la) (hb : Reads .i64 w b lb cb ws) (hla : la ≤ 1000) (hlb : lb ≤ 1000) (h0 : 0 < la) :
    Calls Tryz.prog 40 #[.slice b lb cb, .slice a la ca] w fun e w' => GR w (mixL ws t) e w' := by
  unfold mixL
  rw [hl, hb.size]
  exact (rvmix_any a b la ca lb cb hs t ws w ha hb hla hlb h0).mono fun e w' h => h.gr
theorem rrows_h (c : Cf) (la wh : Int) (w : World) (hc : mayB c = true) :
    Calls Tryz.prog 34 #[.agg (CfV c), .int .i64 la, .int .i64 wh] w fun e w' => GT w (tabL c la wh) e w' := (rrows_g c la wh w hc).mono fun e w' ⟨a, cap, hs, h1, h2, h3⟩ => ⟨a, _, cap, hs, h1, h2, rfl, h3⟩
theorem rmark_h (c : Cf) (a b : Option Addr) (la ca lb cb : Nat) (q y : List Int) (w : World) (ha : Reads .i64 w a la ca q) (hb : Reads .i64 w b lb cb y) (hla : la ≤ 1000) (hlb : lb ≤ 1000) :
    Calls Tryz.prog 38 #[.slice a la ca, .slice b lb cb] w fun e w' => e = .returned (.int .i64 (dotK y q (min y.length q.length))) ∧ Below w.heap.size w w' := by
  have := rvdot_any a b la ca lb cb q y w ha hb hla hlb
  rw [ha.size, hb.size, dotK_turn, Nat.min_comm]
  exact this
/-- An append of one value to a row of the call's own. -/
theorem append_one {P : Program} (w : World) {ops : Array Oper} {rest : List Oper} {o : Oper} {a : Act} {Q : Exit → Act → World → Prop} (hgd : o.guard = none) (s x : Operand) (t : TypeId)
    (ho : o.op = .call { callee := .builtin .append, args := #[s, x], argTypes := #[t, t] })
    (base : Nat) (e : TypeId) (i : TypeInfo) (z : Value) (bytes : Nat) (ht : P.underlying t = some (.slice e)) (hi : P.info? e = some i) (hz : i.zero = some z) (hsize : i.size = 1) (hby : i.bytes = bytes) (hzs : z.cells.size = 1) (hbt : bytes ≤ 24)
    (v : Value) (n : Nat) (xs : List Value) (hv : a.eval s = v) (hown : w.ownsRow base e 1 v n xs) (hn : n ≤ 100000)
    (B : Nat) (u : Value) (h1 : u.oneCell' = true) (hx : a.eval x = .slice (some ⟨B, 0, none⟩) 1 1) (hc : w.cell? ⟨B, 0, none⟩ = some u)
    (hbase : base ≤ w.heap.size)
    (h : ∀ v' w', w'.ownsRow base e 1 v' (n + 1) (xs ++ [u]) → w.grownBy w' v.ownBlock → wpList P ops Q rest (a.put o.dst v') w') : wpList P ops Q (o :: rest) a w := by
  refine wpList_append_own w hgd s x t ho base e i z 1 bytes ht hi hz hsize hby hzs (by decide) v n _ hv hown ⟨B, 0, none⟩ 1 1 [u] hx rfl ?_ ?_ (by unfold maxLen; omega) (by have : (n + 1) * bytes ≤ (n + 1) * 24 := Nat.mul_le_mul_left _ hbt; omega) hbase ?_
  · intro j y hy
    rcases j with _ | j
    · simp at hy
      rw [Addr.add_lit, Nat.zero_add, hc, hy]
    · simp at hy
  · intro y hy
    simp at hy
    subst hy
    exact h1
  · intro v' w' h1 h2 _
    exact h v' w' h1 h2
/-- A row of another type stays while one grows. -/
theorem own_kept {w w' : World} {b1 b2 e1 e2 n1 n2 : Nat} {v1 v2 : Value} {x1 x2 : List Value} (h1 : w.ownsRow b1 e1 1 v1 n1 x1) (h2 : w.ownsRow b2 e2 1 v2 n2 x2) (hne : e1 ≠ e2) (hg : w.grownBy w' v2.ownBlock) : w'.ownsRow b1 e1 1 v1 n1 x1 := by
  refine h1.kept hg ?_
  cases ho : v1.ownBlock with
  | none => exact .inl rfl
  | some o =>
    refine .inr fun e => ?_
    obtain ⟨c1, hc1⟩ := own_type h1 ho
    obtain ⟨c2, hc2⟩ := own_type h2 e.symm
    rw [hc1] at hc2
    simp at hc2
    exact hne hc2.2
/-- No number lies in a block of other things. -/
theorem Reads.notin {W : World} {a : Option Addr} {n c : Nat} {xs : List Int} (h : Reads .i64 W a n c xs) {R : Nat} {cs : Array Value} {T : TypeId} (hR : W.heap[R]? = some (.cells cs T (0, 0))) (hcs : ∀ (j : Nat) (z : Int), cs[j]? ≠ some (Value.int .i64 z)) : Off [R] a n := by
  intro h0 ad hd hs
  rw [List.mem_singleton] at hs
  obtain ⟨b, off, e, hc⟩ := h.cell 0 h0
  rw [hd] at e
  cases e
  simp only at hs
  subst hs
  rw [cell_of_row _ _ _ _ _ _ hR] at hc
  exact hcs _ _ hc
end Go.Proofs.YtehmdlipacbpfaaGreat
