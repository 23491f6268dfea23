/-
  SMath: Mathematics of the weights: they are from 0 to One, and their order is that of what was handed in.
  HMath: Mathematics of the marks: their order, the heap, what a change of two places does to it, and that what goes up, or down, leaves a heap.
  JArgs: Arguments of statements that are jobs (Jb) or lists of ints, as they came in.
  Apps: An append of a list of numbers to a row of the call's own, with where the row then lies (Moved); what else lies in memory stays (own_apart, two_app).
  KvRef: The document's side of layer 14: its cache in memory (RcAtP P); contracts of Begins, place, Has, leaf, Find.
  PgMath: Mathematics of layer 13: how often each page of a pool is held (hs); what is taken, held, dropped; which are held.
  HiMath: Mathematics of a heap of ints: the heap, what a change of two places does to it, and that what goes up, or down, leaves a heap.
-/
import Derived.Test.YtjgggialnegddaaGreatPk02
import Derived.Deep.QuietTactic
import Derived.BigQuiet
import Derived.Test.YtjgggialnegddaaGreatPk04
import Derived.Test.YtjgggialnegddaaGreatPk05
import Derived.ProofKit
import Derived.Test.YtjgggialnegddaaGreatPk01
namespace Go.Proofs.YtjgggialnegddaaGreat
open Go.RowKit
set_option linter.unusedVariables false
set_option maxRecDepth 1000000

theorem div_zero : divZ 0 0 = 0 := by decide
theorem div_val {p S : Int} (p0 : 0 ≤ p) (hp : p ≤ S) (hS : S ≤ 2147483647) (h0 : 0 < S) : divZ p S = p * 65536 / S ∧ 0 ≤ p * 65536 / S ∧ p * 65536 / S ≤ 65536 := by
  have e1 : wi S = S := wi_in (by omega) hS
  have e2 : wi p = p := wi_in (by omega) (by omega)
  have b0 : 0 ≤ p * 65536 / S := Int.ediv_nonneg (by omega) (by omega)
  have b1 : p * 65536 / S ≤ 65536 := by
    have h : p * 65536 / S ≤ S * 65536 / S := Int.ediv_le_ediv h0 (by omega)
    rw [Int.mul_comm S 65536, Int.mul_ediv_cancel _ (by omega)] at h
    exact h
  refine ⟨?_, b0, b1⟩
  unfold divZ byZ
  rw [e1, e2, if_neg (by omega), if_neg (by omega), wi_in (by omega) (by omega)]
theorem div_bd {p S : Int} (p0 : 0 ≤ p) (hp : p ≤ S) (hS : S ≤ 2147483647) : 0 ≤ divZ p S ∧ divZ p S ≤ 65536 := by
  by_cases h0 : 0 < S
  · obtain ⟨e, b⟩ := div_val p0 hp hS h0
    rw [e]; exact b
  · obtain rfl : p = 0 := by omega
    obtain rfl : S = 0 := by omega
    rw [div_zero]; omega
theorem div_le {p q S : Int} (p0 : 0 ≤ p) (hpq : p ≤ q) (hq : q ≤ S) (hS : S ≤ 2147483647) : divZ p S ≤ divZ q S := by
  by_cases h0 : 0 < S
  · rw [(div_val p0 (by omega) hS h0).1, (div_val (by omega) hq hS h0).1]
    exact Int.ediv_le_ediv h0 (by omega)
  · obtain rfl : p = 0 := by omega
    obtain rfl : q = 0 := by omega
    exact Int.le_refl _
theorem addZ_pos {s p : Int} (s0 : 0 ≤ s) (s1 : s ≤ 2147483647) (p0 : 0 ≤ p) (p1 : p ≤ 2147483647) : s ≤ addZ s p ∧ p ≤ addZ s p ∧ addZ s p ≤ 2147483647 := by
  unfold addZ
  rw [wi_in (by omega) s1, wi_in (by omega) p1]
  refine ⟨?_, ?_, wi_1 _⟩
  · have := wi_le (show s ≤ s + p by omega)
    rwa [wi_in (n := s) (by omega) s1] at this
  · have := wi_le (show p ≤ s + p by omega)
    rwa [wi_in (n := p) (by omega) p1] at this
/-- Each is from 0 to the upper bound. -/
def Pos (ps : List Int) : Prop := ∀ i : Nat, 0 ≤ ps[i]?.getD 0 ∧ ps[i]?.getD 0 ≤ 2147483647
theorem sumK_bd {ps : List Int} (h : Pos ps) (k : Nat) : 0 ≤ sumK ps k ∧ sumK ps k ≤ 2147483647 := by
  induction k with
  | zero => simp [sumK]
  | succ k ih =>
    have := addZ_pos ih.1 ih.2 (h k).1 (h k).2
    simp only [sumK]
    omega
theorem sumK_ge {ps : List Int} (h : Pos ps) (k : Nat) : ∀ i, i < k → ps[i]?.getD 0 ≤ sumK ps k := by
  induction k with
  | zero => intro i hi; omega
  | succ k ih =>
    intro i hi
    have b := sumK_bd h k
    have := addZ_pos b.1 b.2 (h k).1 (h k).2
    simp only [sumK]
    rcases (by omega : i < k ∨ i = k) with h1 | rfl
    · have := ih i h1; omega
    · omega
theorem powL_pos (zs : List Int) : Pos (powL zs) := by
  intro i
  rcases Nat.lt_or_ge i zs.length with h | h
  · unfold powL
    rw [List.getElem?_map, List.getElem?_eq_getElem h]
    exact expZ_bd _
  · rw [List.getElem?_eq_none (by rw [powL_len]; exact h)]
    simp
theorem softL_at {zs : List Int} {i : Nat} (h : i < zs.length) : (softL zs)[i]?.getD 0 = divZ ((powL zs)[i]?.getD 0) (sumK (powL zs) zs.length) := by
  unfold softL
  rw [List.getElem?_map, List.getElem?_eq_getElem (by rw [powL_len]; exact h)]
  rfl
theorem softL_bd (zs : List Int) (i : Nat) : 0 ≤ (softL zs)[i]?.getD 0 ∧ (softL zs)[i]?.getD 0 ≤ 65536 := by
  rcases Nat.lt_or_ge i zs.length with h | h
  · rw [softL_at h]
    exact div_bd (powL_pos zs i).1 (sumK_ge (powL_pos zs) _ i h) (sumK_bd (powL_pos zs) _).2
  · rw [List.getElem?_eq_none (by unfold softL; rw [List.length_map, powL_len]; exact h)]
    simp
theorem addZ_le {a b c : Int} (h : wi a ≤ wi b) : addZ a c ≤ addZ b c := by unfold addZ; exact wi_le (by omega)
theorem powL_at {zs : List Int} {i : Nat} (h : i < zs.length) : (powL zs)[i]?.getD 0 = expZ (addZ (zs[i]?.getD 0) (-(greatK zs zs.length))) := by
  unfold powL
  rw [List.getElem?_map, List.getElem?_eq_getElem h]
  rfl
theorem softL_le {zs : List Int} {i j : Nat} (hi : i < zs.length) (hj : j < zs.length) (h : wi (zs[i]?.getD 0) ≤ wi (zs[j]?.getD 0)) : (softL zs)[i]?.getD 0 ≤ (softL zs)[j]?.getD 0 := by
  rw [softL_at hi, softL_at hj]
  refine div_le (powL_pos zs i).1 ?_ (sumK_ge (powL_pos zs) _ j hj) (sumK_bd (powL_pos zs) _).2
  rw [powL_at hi, powL_at hj]
  exact expZ_le (addZ_le h)
end Go.Proofs.YtjgggialnegddaaGreat
namespace Go.Proofs.YtjgggialnegddaaGreat
open Go.RowKit
set_option linter.unusedVariables false
set_option maxRecDepth 1000000

/-- A mark: the place, and the number that stands there. -/
abbrev Mk := Int × Int
/-- The first one is to give way ahead of the second one. -/
def ltM (a b : Mk) : Prop := a.2 < b.2 ∨ (a.2 = b.2 ∧ b.1 < a.1)
def leM (a b : Mk) : Prop := ¬ ltM b a
theorem leM_refl (a : Mk) : leM a a := by unfold leM ltM; omega
theorem leM_trans {a b c : Mk} (h : leM a b) (k : leM b c) : leM a c := by unfold leM ltM at *; omega
theorem leM_of_lt {a b : Mk} (h : ltM a b) : leM a b := by unfold leM; unfold ltM at *; omega
theorem leM_anti {a b : Mk} (h : leM a b) (k : leM b a) : a = b := by
  unfold leM ltM at *
  exact Prod.ext (by omega) (by omega)
theorem leM_total (a b : Mk) : leM a b ∨ leM b a := by unfold leM ltM; omega

/-- What stands at a place. -/
def gx (ms : List Mk) (i : Nat) : Mk := ms[i]?.getD (0, 0)
theorem gx_of {ms : List Mk} {i : Nat} (h : i < ms.length) : gx ms i = ms[i] := by simp [gx, h]
theorem gx_mem {ms : List Mk} {i : Nat} (h : i < ms.length) : gx ms i ∈ ms := by rw [gx_of h]; exact List.getElem_mem h
/-- Two places changed. -/
def swp (ms : List Mk) (i j : Nat) : List Mk := (ms.set i (gx ms j)).set j (gx ms i)
theorem swp_len (ms : List Mk) (i j : Nat) : (swp ms i j).length = ms.length := by simp [swp]
theorem gx_swp {ms : List Mk} {i j : Nat} (hi : i < ms.length) (hj : j < ms.length) (k : Nat) : gx (swp ms i j) k = if k = j then gx ms i else if k = i then gx ms j else gx ms k := by
  unfold gx swp
  rw [List.getElem?_set, List.getElem?_set]
  by_cases h1 : k = j
  · subst h1; simp [hj]; rfl
  · rw [if_neg (fun e => h1 e.symm), if_neg h1]
    by_cases h2 : k = i
    · subst h2; simp [hi]; rfl
    · rw [if_neg (fun e => h2 e.symm), if_neg h2]
theorem swp_perm {ms : List Mk} {i j : Nat} (hi : i < ms.length) (hj : j < ms.length) : (swp ms i j).Perm ms := by
  unfold swp
  rw [gx_of hi, gx_of hj]
  exact List.set_set_perm hi hj

/-- The first n are a heap. -/
def HeapN (ms : List Mk) (n : Nat) : Prop := ∀ i, 0 < i → i < n → leM (gx ms ((i - 1) / 2)) (gx ms i)
/-- A heap, but that what stands at j may have to go up. -/
def UpAt (ms : List Mk) (n j : Nat) : Prop := (∀ i, 0 < i → i < n → i ≠ j → leM (gx ms ((i - 1) / 2)) (gx ms i)) ∧ (0 < j → ∀ i, 0 < i → i < n → (i - 1) / 2 = j → leM (gx ms ((j - 1) / 2)) (gx ms i))
theorem UpAt.done {ms : List Mk} {n j : Nat} (h : UpAt ms n j) (hj : 0 < j → ¬ ltM (gx ms j) (gx ms ((j - 1) / 2))) : HeapN ms n := by
  intro i h0 hn
  by_cases e : i = j
  · subst e; exact hj h0
  · exact h.1 i h0 hn e
theorem UpAt.step {ms : List Mk} {n j : Nat} (h : UpAt ms n j) (h0 : 0 < j) (hj : j < n) (hn : n ≤ ms.length) (hl : ltM (gx ms j) (gx ms ((j - 1) / 2))) : UpAt (swp ms ((j - 1) / 2) j) n ((j - 1) / 2) := by
  obtain ⟨p, hp⟩ : ∃ p, (j - 1) / 2 = p := ⟨_, rfl⟩
  rw [hp] at hl ⊢
  have hG := gx_swp (ms := ms) (i := p) (j := j) (by omega) (by omega)
  have hlj := leM_of_lt hl
  constructor
  · intro i i0 hi hip
    rw [hG, hG]
    by_cases e1 : i = j
    · subst e1
      rw [hp, if_pos rfl, if_neg (by omega), if_pos rfl]
      exact hlj
    · rw [if_neg e1, if_neg hip]
      have hx := h.1 i i0 hi e1
      by_cases e2 : (i - 1) / 2 = j
      · rw [if_pos e2]
        have := h.2 h0 i i0 hi e2
        rwa [hp] at this
      · rw [if_neg e2]
        by_cases e3 : (i - 1) / 2 = p
        · rw [if_pos e3]
          rw [e3] at hx
          exact leM_trans hlj hx
        · rw [if_neg e3]; exact hx
  · intro p0 i i0 hi hip
    have hpp := h.1 p p0 (by omega) (by omega)
    rw [hG, hG, if_neg (by omega), if_neg (by omega)]
    by_cases e1 : i = j
    · rw [if_pos e1]; exact hpp
    · rw [if_neg e1, if_neg (by omega)]
      have hx := h.1 i i0 hi e1
      rw [hip] at hx
      exact leM_trans hpp hx
/-- A heap, but that what stands at c may have to go down. -/
def DownAt (ms : List Mk) (n c : Nat) : Prop := (∀ i, 0 < i → i < n → (i - 1) / 2 ≠ c → leM (gx ms ((i - 1) / 2)) (gx ms i)) ∧ (0 < c → ∀ i, 0 < i → i < n → (i - 1) / 2 = c → leM (gx ms ((c - 1) / 2)) (gx ms i))
theorem DownAt.done {ms : List Mk} {n c : Nat} (h : DownAt ms n c) (hc : ∀ i, 0 < i → i < n → (i - 1) / 2 = c → leM (gx ms c) (gx ms i)) : HeapN ms n := by
  intro i h0 hn
  by_cases e : (i - 1) / 2 = c
  · rw [e]; exact hc i h0 hn e
  · exact h.1 i h0 hn e
theorem DownAt.step {ms : List Mk} {n c j : Nat} (h : DownAt ms n c) (h0 : 0 < j) (hj : j < n) (hn : n ≤ ms.length) (hjc : (j - 1) / 2 = c) (hm : ∀ i, 0 < i → i < n → (i - 1) / 2 = c → leM (gx ms j) (gx ms i)) (hl : ltM (gx ms j) (gx ms c)) : DownAt (swp ms c j) n j := by
  have hG := gx_swp (ms := ms) (i := c) (j := j) (by omega) (by omega)
  have hlj := leM_of_lt hl
  constructor
  · intro i i0 hi hip
    rw [hG, hG, if_neg hip]
    by_cases e1 : i = j
    · subst e1
      rw [if_pos hjc, if_pos rfl]
      exact hlj
    · rw [if_neg e1]
      by_cases e2 : i = c
      · subst e2
        rw [if_neg (by omega), if_pos rfl]
        exact h.2 i0 j h0 hj hjc
      · rw [if_neg e2]
        by_cases e3 : (i - 1) / 2 = c
        · rw [if_pos e3]; exact hm i i0 hi e3
        · rw [if_neg e3]; exact h.1 i i0 hi e3
  · intro _ i i0 hi hij
    rw [hG, hG, hjc, if_neg (by omega), if_pos rfl, if_neg (by omega), if_neg (by omega)]
    have := h.1 i i0 hi (by omega)
    rwa [hij] at this
/-- The first of a heap is the least. -/
theorem HeapN.least {ms : List Mk} {n : Nat} (h : HeapN ms n) : ∀ i, i < n → leM (gx ms 0) (gx ms i) := by
  intro i
  induction i using Nat.strongRecOn with
  | ind i ih =>
    intro hi
    by_cases h0 : i = 0
    · subst h0; exact leM_refl _
    · exact leM_trans (ih ((i - 1) / 2) (by omega) (by omega)) (h i (by omega) hi)
theorem HeapN.cut {ms : List Mk} {n : Nat} (h : HeapN ms n) (hn : n + 1 ≤ ms.length) (h' : HeapN ms (n + 1)) : DownAt (swp ms 0 n) n 0 := by
  have hG := gx_swp (ms := ms) (i := 0) (j := n) (by omega) (by omega)
  refine ⟨fun i i0 hi hp => ?_, fun h => absurd h (by omega)⟩
  rw [hG, hG, if_neg (by omega), if_neg hp, if_neg (by omega), if_neg (by omega)]
  exact h' i i0 (by omega)
theorem gx_app {ms : List Mk} {x : Mk} {i : Nat} (h : i < ms.length) : gx (ms ++ [x]) i = gx ms i := by simp [gx, List.getElem?_append_left h]
theorem HeapN.push {ms : List Mk} (h : HeapN ms ms.length) (x : Mk) : UpAt (ms ++ [x]) (ms.length + 1) ms.length := by
  refine ⟨fun i i0 hi hp => ?_, fun h0 i i0 hi hp => absurd hp (by omega)⟩
  rw [gx_app (by omega), gx_app (by omega)]
  exact h i i0 (by omega)
theorem gx_take {ms : List Mk} {n i : Nat} (h : i < n) : gx (ms.take n) i = gx ms i := by simp [gx, List.getElem?_take_of_lt h]
theorem HeapN.take {ms : List Mk} {n : Nat} (h : HeapN ms n) : HeapN (ms.take n) n := by
  intro i h0 hn
  rw [gx_take (by omega), gx_take hn]
  exact h i h0 hn
end Go.Proofs.YtjgggialnegddaaGreat
namespace Go.Proofs.YtjgggialnegddaaGreat
open Go.RowKit
set_option linter.unusedVariables false
set_option maxRecDepth 1000000

theorem nums_at {H : Type} {enc : TypeId × Value → H} {w : World} {held : Bool} {fuel : Nat} {c : Value} {x : DataW H × List MemPlace}
    (h : DataW.trod enc Tryz.prog w 0 (fun _ => true) held fuel 41 [c] = some x) : ∃ a len cap zs, c = .slice a len cap ∧ Reads .i64 w a len cap zs := by
  rcases Go.ChangeShapes.open_ints Tryz.underlying41 Tryz.underlying3 (by kernel_rfl) h with ⟨hcs, _⟩ | ⟨ad, l, k, zs, hcs, _, hl, hm, hz, _, hx, hw⟩
  · simp at hcs
    subst hcs
    exact ⟨none, 0, 0, [], rfl, Reads.nil _ _⟩
  · simp at hcs
    subst hcs
    exact ⟨_, _, _, _, rfl, (Reads.row (zs := zs) (.inr ⟨ad, rfl, hl, hm, by simpa using hz, hx, hw⟩)).1⟩
/-- A job. -/
structure Jb where
  seed : Int
  ap : Option Addr
  lp : Nat
  cp : Nat
  ts : List Int
  most : Int
/-- Its cells. -/
def JbV (j : Jb) : Array Value := #[.int .u64 j.seed, .slice j.ap j.lp j.cp, .int .i64 j.most]
/-- What its prompt reads as. -/
def JbIn (w : World) (j : Jb) : Prop := Reads .i64 w j.ap j.lp j.cp j.ts
theorem Jb_cells {W : World} {g : Nat} {j : Jb} {T : TypeId} (h : W.heap[g]? = some (.cells (JbV j) T (0, 0))) :
    W.cell? ⟨g, 0, none⟩ = some (.int .u64 j.seed) ∧ W.cell? ⟨g, 1, none⟩ = some (.slice j.ap j.lp j.cp) ∧ W.cell? ⟨g, 2, none⟩ = some (.int .i64 j.most) := by
  refine ⟨?_, ?_, ?_⟩ <;> (rw [cell_of_row _ _ _ _ _ _ h]; rfl)
theorem Tryz.cellsJb : Tryz.prog.cellsOf 43 = 3 := by kernel_rfl
theorem Tryz.cellsNs : Tryz.prog.cellsOf 41 = 1 := by kernel_rfl
theorem array3 {α : Type} {cs : Array α} (h : cs.size = 3) : ∃ c0 c1 c2, cs = #[c0, c1, c2] := by
  obtain ⟨l⟩ := cs
  match l, h with
  | [c0, c1, c2], _ => exact ⟨c0, c1, c2, rfl⟩
section
open Go.ChangeShapes Go.WideShapes Go.ChangeAt
variable {H : Type} {enc : TypeId × Value → H} {W : World}
theorem nums_open {b0 : Nat} {v : Value} {d : DataW H} {ps : List MemPlace} (hv : Value.okWide Tryz.prog W .any b0 41 v) (h : DataW.Trod enc Tryz.prog W 0 (fun _ => true) true 41 v d ps) :
    ∃ a len cap zs, v = .slice a len cap ∧ Reads .i64 W a len cap zs := by
  obtain ⟨a, len, cap, rfl⟩ := okWide_slice Tryz.underlying41 hv
  obtain ⟨fuel, hf⟩ := h
  exact nums_at hf
theorem unum_open {b0 : Nat} {v : Value} {d : DataW H} {ps : List MemPlace} (hv : Value.okWide Tryz.prog W .any b0 22 v) (h : DataW.Trod enc Tryz.prog W 0 (fun _ => true) true 22 v d ps) :
    ∃ a : Int, v = .int .u64 a := by
  obtain ⟨a, h1, _, _, _⟩ := open_int Tryz.underlying22 hv h
  exact ⟨a, h1⟩
theorem job_open {b0 : Nat} {v : Value} {d : DataW H} {ps : List MemPlace} (hv : Value.okWide Tryz.prog W .any b0 43 v) (h : DataW.Trod enc Tryz.prog W 0 (fun _ => true) true 43 v d ps) :
    ∃ j : Jb, v = .agg (JbV j) ∧ JbIn W j := by
  obtain ⟨cs, rfl, hsz⟩ := okWide_struct Tryz.underlying43 hv
  rw [Tryz.cellsJb] at hsz
  obtain ⟨c0, c1, c2, rfl⟩ := array3 hsz
  obtain ⟨fuel, hf⟩ := h
  obtain ⟨xs, n, _, _, _, hl, hF⟩ := DataW.trod_struct Tryz.underlying43 hf
  have hl : xs.length = 3 := hl
  obtain ⟨y0, e0⟩ := at_some hl (i := 0) (by omega)
  obtain ⟨y1, e1⟩ := at_some hl (i := 1) (by omega)
  obtain ⟨y2, e2⟩ := at_some hl (i := 2) (by omega)
  have g0 : DataW.trod enc Tryz.prog W 0 (fun _ => true) true n 22 [c0] = some y0 := by
    have g := hF 0 _ rfl
    change DataW.trod enc Tryz.prog W 0 (fun _ => true) true n 22 (List.take (Tryz.prog.cellsOf 22) (List.drop 0 [c0, c1, c2])) = xs[0]? at g
    rw [Tryz.cellsU, e0] at g
    exact g
  have g1 : DataW.trod enc Tryz.prog W 0 (fun _ => true) true n 41 [c1] = some y1 := by
    have g := hF 1 _ rfl
    change DataW.trod enc Tryz.prog W 0 (fun _ => true) true n 41 (List.take (Tryz.prog.cellsOf 41) (List.drop 1 [c0, c1, c2])) = xs[1]? at g
    rw [Tryz.cellsNs, e1] at g
    exact g
  have g2 : DataW.trod enc Tryz.prog W 0 (fun _ => true) true n 3 [c2] = some y2 := by
    have g := hF 2 _ rfl
    change DataW.trod enc Tryz.prog W 0 (fun _ => true) true n 3 (List.take (Tryz.prog.cellsOf 3) (List.drop 2 [c0, c1, c2])) = xs[2]? at g
    rw [Tryz.cellsI, e2] at g
    exact g
  clear hF hv
  obtain ⟨n0, rfl⟩ := u64_open g0
  obtain ⟨ap, lp, cp, ts, rfl, rp⟩ := nums_at g1
  obtain ⟨n2, rfl⟩ := int_open g2
  exact ⟨⟨n0, ap, lp, cp, ts, n2⟩, rfl, rp⟩
end
end Go.Proofs.YtjgggialnegddaaGreat
namespace Go.Proofs.YtjgggialnegddaaGreat
open Go.RowKit
set_option linter.unusedVariables false
set_option maxRecDepth 1000000

theorem moved_pos {w w' : World} {e n : Nat} {v v' : Value} {xs : List Value} (h : w'.ownsRow w.heap.size e 1 v' n xs) (hn : 0 < n) : Moved w v v' := by
  right
  rcases id h.2 with ⟨_, h0⟩ | ⟨g, cap, cur, rfl, hb, _⟩
  · omega
  · exact ⟨g, rfl, hb⟩
theorem append_ints2 {P : Program} (w : World) {ops : Array Oper} {rest : List Oper} {o : Oper} {a : Act} {Q : Exit → Act → World → Prop} (hgd : o.guard = none) (s x : Operand) (t : TypeId)
    (ho : o.op = .call { callee := .builtin .append, args := #[s, x], argTypes := #[t, t] })
    (base : Nat) (e : TypeId) (i : TypeInfo) (z : Value) (bytes : Nat) (ht : P.underlying t = some (.slice e)) (hi : P.info? e = some i) (hz : i.zero = some z) (hsize : i.size = 1) (hby : i.bytes = bytes) (hzs : z.cells.size = 1) (hbt : bytes ≤ 24) (k : IntKind)
    (v : Value) (n : Nat) (xs : List Int) (hv : a.eval s = v) (hown : w.ownsRow base e 1 v n (xs.map (Value.int k)))
    (ao : Option Addr) (m c : Nat) (news : List Int) (hx : a.eval x = .slice ao m c) (hr : Reads k w ao m c news) (hnm : n + m ≤ 100000) (hbase : base ≤ w.heap.size)
    (h : ∀ v' w', w'.ownsRow base e 1 v' (n + m) ((xs ++ news).map (Value.int k)) → w.grownBy w' v.ownBlock → Moved w v v' → wpList P ops Q rest (a.put o.dst v') w') : wpList P ops Q (o :: rest) a w := by
  have hbytes : (n + m) * bytes ≤ 140737488355328 := by have : (n + m) * bytes ≤ (n + m) * 24 := Nat.mul_le_mul_left _ hbt; omega
  cases ao with
  | none =>
    obtain ⟨rfl, rfl⟩ := hr.bare rfl
    have hn : news = [] := List.eq_nil_of_length_eq_zero hr.size
    subst hn
    exact wpList_append_own_none hgd s x t ho base e i 1 ht hi v n _ hv hown hx (h v w (by simpa using hown) ⟨rfl, rfl, rfl, Nat.le_refl _, fun _ _ _ => rfl⟩ (.inl rfl))
  | some ad =>
    have hnl : (news.map (Value.int k)).length = m * 1 := by simpa using hr.size
    rcases id hown.2 with ⟨rfl, rfl⟩ | ⟨g, cap, cur, rfl, hbg, hg, hnc, hcm, hcs, htake⟩
    · obtain rfl : xs = [] := List.eq_nil_of_length_eq_zero (by simpa using hown.1)
      refine wpList_append_own w hgd s x t ho w.heap.size e i z 1 bytes ht hi hz hsize hby hzs (by decide) _ 0 [] hv (World.ownsRow_nil _ _ _ _) ad m c (news.map (Value.int k)) hx hnl hr.news (ints_oneCell k news) (by unfold maxLen; omega) hbytes (Nat.le_refl _) ?_
      intro v' w' h1 h2 h3
      refine h v' w' (own_base (by simpa using h1) hbase) h2 ?_
      by_cases hm : m = 0
      · left; rw [(h3.2 ⟨rfl, hm⟩)]
      · exact moved_pos h1 (by omega)
    · by_cases hroom : n + m ≤ cap
      · refine wpList_append_fits w hgd s x t ho base e i 1 ht hi hsize g n cap _ hv hown ad m c (news.map (Value.int k)) hx hnl hr.news (ints_oneCell k news) hroom ?_
        intro w' k1 k2
        exact h _ w' (by rw [List.map_append]; exact k1) k2 (.inl rfl)
      · refine wpList_append_grows w hgd s x t ho e i z 1 bytes ht hi hz hsize hby hzs (by decide) (some ⟨g, 0, none⟩) n cap (xs.map (Value.int k)) hv (fun e => by cases e) (by simpa using hown.1) (fun b hb => by cases hb; exact hown.cells (g := g) rfl) ad m c (news.map (Value.int k)) hx hnl hr.news (ints_oneCell k news) (by omega) (by unfold maxLen; omega) hbytes ?_
        intro v' w' k1 k2
        exact h v' w' (own_base (by rw [List.map_append]; exact k1) hbase) ⟨k2.os, k2.tape, k2.output, k2.size, fun k hk _ => k2.block k hk (by simp)⟩ (moved_pos k1 (by omega))
end Go.Proofs.YtjgggialnegddaaGreat
namespace Go.Proofs.YtjgggialnegddaaGreat
open Go.RowKit
set_option linter.unusedVariables false
set_option maxRecDepth 1000000
variable {P : Nat → Prop}

/-- An entry's slice, and when it was used. -/
abbrev Hu := Hd × Int
def qe (qs : List Hu) (i : Nat) : Hu := qs[i]?.getD ((none, 0, 0), 0)
def flatE : List Hu → List Value
  | [] => []
  | q :: qs => .slice q.1.1 q.1.2.1 q.1.2.2 :: .int .i64 q.2 :: flatE qs
theorem flatE_len (qs : List Hu) : (flatE qs).length = qs.length * 2 := by
  induction qs with
  | nil => rfl
  | cons q qs ih => simp [flatE, ih]; omega
theorem flatE_app (ps qs : List Hu) : flatE (ps ++ qs) = flatE ps ++ flatE qs := by
  induction ps with
  | nil => rfl
  | cons p ps ih => simp [flatE, ih]
theorem flatE_0 (qs : List Hu) : ∀ k, k < qs.length → (flatE qs)[k * 2]? = some (.slice (qe qs k).1.1 (qe qs k).1.2.1 (qe qs k).1.2.2) := by
  induction qs with
  | nil => intro k hk; simp at hk
  | cons q qs ih =>
    intro k hk
    cases k with
    | zero => simp [flatE, qe]
    | succ k =>
      have := ih k (by simpa using hk)
      rw [show (k + 1) * 2 = k * 2 + 1 + 1 by omega]
      simpa [flatE, qe] using this
theorem flatE_1 (qs : List Hu) : ∀ k, k < qs.length → (flatE qs)[k * 2 + 1]? = some (.int .i64 (qe qs k).2) := by
  induction qs with
  | nil => intro k hk; simp at hk
  | cons q qs ih =>
    intro k hk
    cases k with
    | zero => simp [flatE, qe]
    | succ k =>
      have := ih k (by simpa using hk)
      rw [show (k + 1) * 2 + 1 = (k * 2 + 1) + 1 + 1 by omega]
      simpa [flatE, qe] using this
theorem flatE_set (qs : List Hu) (t : Int) : ∀ k, k < qs.length → flatE (qs.set k ((qe qs k).1, t)) = (flatE qs).set (k * 2 + 1) (.int .i64 t) := by
  induction qs with
  | nil => intro k hk; simp at hk
  | cons q qs ih =>
    intro k hk
    cases k with
    | zero => simp [flatE, qe]
    | succ k =>
      have := ih k (by simpa using hk)
      rw [show (k + 1) * 2 + 1 = (k * 2 + 1) + 1 + 1 by omega]
      have e : (qe (q :: qs) (k + 1)).1 = (qe qs k).1 := by simp [qe]
      rw [e]
      simp [flatE, this]
/-- The slice's block is one of ints. -/
def BlN (w : World) (a : Option Addr) : Prop := ∀ p, a = some p → ∃ cur fz, w.heap[p.block]? = some (.cells cur 3 fz)
theorem BlN.below {w w' : World} {a : Option Addr} (h : BlN w a) (hb : Below w.heap.size w w') : BlN w' a := fun p hp => by
  obtain ⟨cur, fz, hc⟩ := h p hp
  exact ⟨cur, fz, (hb.block _ (lt_of_block hc)).trans hc⟩
theorem Reads.blk {k : IntKind} {W W' : World} {a : Option Addr} {l c : Nat} {zs : List Int} (hr : Reads k W a l c zs) (hb : ∀ p, a = some p → W'.heap[p.block]? = W.heap[p.block]?) : Reads k W' a l c zs :=
  ⟨hr.size, hr.room, hr.most, hr.bare, fun i hi => by
    obtain ⟨b, off, ha, hc⟩ := hr.cell i hi
    exact ⟨b, off, ha, (World.cell?_of_block (a := ⟨b, off + i, none⟩) (hb ⟨b, off, none⟩ ha)).trans hc⟩⟩
/-- The blocks that its calls may turn. -/
def rcF (B : Nat) (v : Value) (k : Nat) : Prop := k = B ∨ v.ownBlock = some k
end Go.Proofs.YtjgggialnegddaaGreat
namespace Go.Proofs.YtjgggialnegddaaGreat
open Go.RowKit
set_option linter.unusedVariables false
set_option maxRecDepth 1000000

/-- How often a page is held: 0 of none. -/
def heldZ (hs : List Int) (n : Int) : Int := if 0 ≤ n ∧ n < hs.length then hs[n.toNat]?.getD 0 else 0
/-- The first free page, or how many there are. -/
def takeI (hs : List Int) : Nat := hs.findIdx (· == 0)
def takeN (hs : List Int) : Int := if takeI hs < hs.length then (takeI hs : Int) else 0
def takeE (hs : List Int) : Int := if takeI hs < hs.length then 0 else 9
def takeH (hs : List Int) : List Int := if takeI hs < hs.length then hs.set (takeI hs) 1 else hs
def holdE (hs : List Int) (n : Int) : Int := if heldZ hs n = 0 then 1 else if 2147483647 ≤ heldZ hs n then 5 else 0
def holdH (hs : List Int) (n : Int) : List Int := if heldZ hs n = 0 ∨ 2147483647 ≤ heldZ hs n then hs else hs.set n.toNat (heldZ hs n + 1)
def dropE (hs : List Int) (n : Int) : Int := if heldZ hs n = 0 then 1 else 0
def dropH (hs : List Int) (n : Int) : List Int := if heldZ hs n = 0 then hs else hs.set n.toNat (heldZ hs n - 1)
def dropB (hs : List Int) (n : Int) : Bool := decide (heldZ hs n = 1)
/-- Of the first k pages those that are held. -/
def usedK (hs : List Int) : Nat → List Int
  | 0 => []
  | k + 1 => if 0 < hs[k]?.getD 0 then usedK hs k ++ [(k : Int)] else usedK hs k
def usedL (hs : List Int) : List Int := usedK hs hs.length
/-- Each is held from 0 to 2^31 - 1 times. -/
def OkP (hs : List Int) : Prop := 1 ≤ hs.length ∧ hs.length ≤ 256 ∧ ∀ i, i < hs.length → 0 ≤ hs[i]?.getD 0 ∧ hs[i]?.getD 0 ≤ 2147483647

theorem usedK_len (hs : List Int) (k : Nat) : (usedK hs k).length ≤ k := by
  induction k with
  | zero => simp [usedK]
  | succ k ih =>
    simp only [usedK]
    split
    · simp; exact ih
    · omega
theorem takeI_le (hs : List Int) : takeI hs ≤ hs.length := List.findIdx_le_length
theorem takeI_at {hs : List Int} {i : Nat} (hi : i < hs.length) (h0 : hs[i]?.getD 0 = 0) (hn : ∀ j, j < i → hs[j]?.getD 0 ≠ 0) : takeI hs = i := by
  unfold takeI
  rw [List.findIdx_eq hi]
  rw [List.getElem?_eq_getElem hi] at h0
  refine ⟨by simpa using h0, fun j hj => ?_⟩
  have := hn j hj
  rw [List.getElem?_eq_getElem (by omega)] at this
  simpa using this
theorem takeI_none {hs : List Int} (hn : ∀ j, j < hs.length → hs[j]?.getD 0 ≠ 0) : takeI hs = hs.length := by
  unfold takeI
  rw [List.findIdx_eq_length]
  intro x hx
  obtain ⟨j, hj, rfl⟩ := List.getElem_of_mem hx
  have := hn j hj
  rw [List.getElem?_eq_getElem hj] at this
  simpa using this
theorem takeI_free {hs : List Int} (h : takeI hs < hs.length) : hs[takeI hs]?.getD 0 = 0 := by
  rw [List.getElem?_eq_getElem h]
  exact eq_of_beq (List.findIdx_getElem (p := fun x : Int => x == 0) (xs := hs) (w := h))
theorem takeH_len (hs : List Int) : (takeH hs).length = hs.length := by unfold takeH; split <;> simp
theorem holdH_len (hs : List Int) (n : Int) : (holdH hs n).length = hs.length := by unfold holdH; split <;> simp
theorem dropH_len (hs : List Int) (n : Int) : (dropH hs n).length = hs.length := by unfold dropH; split <;> simp
theorem heldZ_in {hs : List Int} {n : Int} (h : heldZ hs n ≠ 0) : 0 ≤ n ∧ n < hs.length := by
  unfold heldZ at h
  split at h
  · assumption
  · exact absurd rfl h
theorem heldZ_at {hs : List Int} {n : Int} (h0 : 0 ≤ n) (h1 : n < hs.length) : heldZ hs n = hs[n.toNat]?.getD 0 := by unfold heldZ; rw [if_pos ⟨h0, h1⟩]
theorem heldZ_out {hs : List Int} {n : Int} (h : n < 0 ∨ (hs.length : Int) ≤ n) : heldZ hs n = 0 := by unfold heldZ; rw [if_neg (by omega)]
theorem OkP.held {hs : List Int} (h : OkP hs) (n : Int) : 0 ≤ heldZ hs n ∧ heldZ hs n ≤ 2147483647 := by
  by_cases hn : 0 ≤ n ∧ n < hs.length
  · rw [heldZ_at hn.1 hn.2]; exact h.2.2 _ (by omega)
  · rw [heldZ_out (by omega)]; omega
theorem set_bd {hs : List Int} {k : Nat} {v lo hi : Int} (h : ∀ i, i < hs.length → lo ≤ hs[i]?.getD 0 ∧ hs[i]?.getD 0 ≤ hi) (h0 : lo ≤ v) (h1 : v ≤ hi) : ∀ i, i < (hs.set k v).length → lo ≤ (hs.set k v)[i]?.getD 0 ∧ (hs.set k v)[i]?.getD 0 ≤ hi := by
  intro i hi'
  rw [List.length_set] at hi'
  rw [List.getElem?_set]
  by_cases e : k = i
  · subst e
    rw [if_pos rfl, if_pos hi']
    exact ⟨h0, h1⟩
  · rw [if_neg e]
    exact h i hi'
theorem OkP.take {hs : List Int} (h : OkP hs) : OkP (takeH hs) := by
  refine ⟨by rw [takeH_len]; exact h.1, by rw [takeH_len]; exact h.2.1, ?_⟩
  unfold takeH
  split
  · exact set_bd h.2.2 (by omega) (by omega)
  · exact h.2.2
theorem OkP.hold {hs : List Int} (h : OkP hs) (n : Int) : OkP (holdH hs n) := by
  refine ⟨by rw [holdH_len]; exact h.1, by rw [holdH_len]; exact h.2.1, ?_⟩
  have := h.held n
  unfold holdH
  split
  · exact h.2.2
  · exact set_bd h.2.2 (by omega) (by omega)
theorem OkP.drop {hs : List Int} (h : OkP hs) (n : Int) : OkP (dropH hs n) := by
  refine ⟨by rw [dropH_len]; exact h.1, by rw [dropH_len]; exact h.2.1, ?_⟩
  have := h.held n
  unfold dropH
  split
  · exact h.2.2
  · exact set_bd h.2.2 (by omega) (by omega)
theorem okp_new {n : Nat} (h0 : 1 ≤ n) (h1 : n ≤ 256) : OkP (List.replicate n 0) := by
  refine ⟨by simpa using h0, by simpa using h1, fun i hi => ?_⟩
  rw [List.length_replicate] at hi
  rw [List.getElem?_replicate, if_pos hi]
  simp
end Go.Proofs.YtjgggialnegddaaGreat
namespace Go.Proofs.YtjgggialnegddaaGreat
open Go.RowKit
set_option linter.unusedVariables false
set_option maxRecDepth 1000000

/-- The first one is to give way ahead of the second one. -/
def ltI (a b : Int) : Prop := a < b
def leI (a b : Int) : Prop := ¬ ltI b a
theorem leI_refl (a : Int) : leI a a := by unfold leI ltI; omega
theorem leI_trans {a b c : Int} (h : leI a b) (k : leI b c) : leI a c := by unfold leI ltI at *; omega
theorem leI_of_lt {a b : Int} (h : ltI a b) : leI a b := by unfold leI; unfold ltI at *; omega
theorem leI_anti {a b : Int} (h : leI a b) (k : leI b a) : a = b := by unfold leI ltI at *; omega
theorem leI_total (a b : Int) : leI a b ∨ leI b a := by unfold leI ltI; omega

/-- What stands at a place. -/
def gi (ms : List Int) (i : Nat) : Int := ms[i]?.getD 0
theorem gi_of {ms : List Int} {i : Nat} (h : i < ms.length) : gi ms i = ms[i] := by simp [gi, h]
theorem gi_mem {ms : List Int} {i : Nat} (h : i < ms.length) : gi ms i ∈ ms := by rw [gi_of h]; exact List.getElem_mem h
/-- Two places changed. -/
def swi (ms : List Int) (i j : Nat) : List Int := (ms.set i (gi ms j)).set j (gi ms i)
theorem swi_len (ms : List Int) (i j : Nat) : (swi ms i j).length = ms.length := by simp [swi]
theorem gi_swi {ms : List Int} {i j : Nat} (hi : i < ms.length) (hj : j < ms.length) (k : Nat) : gi (swi ms i j) k = if k = j then gi ms i else if k = i then gi ms j else gi ms k := by
  unfold gi swi
  rw [List.getElem?_set, List.getElem?_set]
  by_cases h1 : k = j
  · subst h1; simp [hj]; rfl
  · rw [if_neg (fun e => h1 e.symm), if_neg h1]
    by_cases h2 : k = i
    · subst h2; simp [hi]; rfl
    · rw [if_neg (fun e => h2 e.symm), if_neg h2]
theorem swi_perm {ms : List Int} {i j : Nat} (hi : i < ms.length) (hj : j < ms.length) : (swi ms i j).Perm ms := by
  unfold swi
  rw [gi_of hi, gi_of hj]
  exact List.set_set_perm hi hj

/-- The first n are a heap. -/
def HeapI (ms : List Int) (n : Nat) : Prop := ∀ i, 0 < i → i < n → leI (gi ms ((i - 1) / 2)) (gi ms i)
/-- A heap, but that what stands at j may have to go up. -/
def UpI (ms : List Int) (n j : Nat) : Prop := (∀ i, 0 < i → i < n → i ≠ j → leI (gi ms ((i - 1) / 2)) (gi ms i)) ∧ (0 < j → ∀ i, 0 < i → i < n → (i - 1) / 2 = j → leI (gi ms ((j - 1) / 2)) (gi ms i))
theorem UpI.done {ms : List Int} {n j : Nat} (h : UpI ms n j) (hj : 0 < j → ¬ ltI (gi ms j) (gi ms ((j - 1) / 2))) : HeapI ms n := by
  intro i h0 hn
  by_cases e : i = j
  · subst e; exact hj h0
  · exact h.1 i h0 hn e
theorem UpI.step {ms : List Int} {n j : Nat} (h : UpI ms n j) (h0 : 0 < j) (hj : j < n) (hn : n ≤ ms.length) (hl : ltI (gi ms j) (gi ms ((j - 1) / 2))) : UpI (swi ms ((j - 1) / 2) j) n ((j - 1) / 2) := by
  obtain ⟨p, hp⟩ : ∃ p, (j - 1) / 2 = p := ⟨_, rfl⟩
  rw [hp] at hl ⊢
  have hG := gi_swi (ms := ms) (i := p) (j := j) (by omega) (by omega)
  have hlj := leI_of_lt hl
  constructor
  · intro i i0 hi hip
    rw [hG, hG]
    by_cases e1 : i = j
    · subst e1
      rw [hp, if_pos rfl, if_neg (by omega), if_pos rfl]
      exact hlj
    · rw [if_neg e1, if_neg hip]
      have hx := h.1 i i0 hi e1
      by_cases e2 : (i - 1) / 2 = j
      · rw [if_pos e2]
        have := h.2 h0 i i0 hi e2
        rwa [hp] at this
      · rw [if_neg e2]
        by_cases e3 : (i - 1) / 2 = p
        · rw [if_pos e3]
          rw [e3] at hx
          exact leI_trans hlj hx
        · rw [if_neg e3]; exact hx
  · intro p0 i i0 hi hip
    have hpp := h.1 p p0 (by omega) (by omega)
    rw [hG, hG, if_neg (by omega), if_neg (by omega)]
    by_cases e1 : i = j
    · rw [if_pos e1]; exact hpp
    · rw [if_neg e1, if_neg (by omega)]
      have hx := h.1 i i0 hi e1
      rw [hip] at hx
      exact leI_trans hpp hx
/-- A heap, but that what stands at c may have to go down. -/
def DownI (ms : List Int) (n c : Nat) : Prop := (∀ i, 0 < i → i < n → (i - 1) / 2 ≠ c → leI (gi ms ((i - 1) / 2)) (gi ms i)) ∧ (0 < c → ∀ i, 0 < i → i < n → (i - 1) / 2 = c → leI (gi ms ((c - 1) / 2)) (gi ms i))
theorem DownI.done {ms : List Int} {n c : Nat} (h : DownI ms n c) (hc : ∀ i, 0 < i → i < n → (i - 1) / 2 = c → leI (gi ms c) (gi ms i)) : HeapI ms n := by
  intro i h0 hn
  by_cases e : (i - 1) / 2 = c
  · rw [e]; exact hc i h0 hn e
  · exact h.1 i h0 hn e
theorem DownI.step {ms : List Int} {n c j : Nat} (h : DownI ms n c) (h0 : 0 < j) (hj : j < n) (hn : n ≤ ms.length) (hjc : (j - 1) / 2 = c) (hm : ∀ i, 0 < i → i < n → (i - 1) / 2 = c → leI (gi ms j) (gi ms i)) (hl : ltI (gi ms j) (gi ms c)) : DownI (swi ms c j) n j := by
  have hG := gi_swi (ms := ms) (i := c) (j := j) (by omega) (by omega)
  have hlj := leI_of_lt hl
  constructor
  · intro i i0 hi hip
    rw [hG, hG, if_neg hip]
    by_cases e1 : i = j
    · subst e1
      rw [if_pos hjc, if_pos rfl]
      exact hlj
    · rw [if_neg e1]
      by_cases e2 : i = c
      · subst e2
        rw [if_neg (by omega), if_pos rfl]
        exact h.2 i0 j h0 hj hjc
      · rw [if_neg e2]
        by_cases e3 : (i - 1) / 2 = c
        · rw [if_pos e3]; exact hm i i0 hi e3
        · rw [if_neg e3]; exact h.1 i i0 hi e3
  · intro _ i i0 hi hij
    rw [hG, hG, hjc, if_neg (by omega), if_pos rfl, if_neg (by omega), if_neg (by omega)]
    have := h.1 i i0 hi (by omega)
    rwa [hij] at this
/-- The first of a heap is the least. -/
theorem HeapI.least {ms : List Int} {n : Nat} (h : HeapI ms n) : ∀ i, i < n → leI (gi ms 0) (gi ms i) := by
  intro i
  induction i using Nat.strongRecOn with
  | ind i ih =>
    intro hi
    by_cases h0 : i = 0
    · subst h0; exact leI_refl _
    · exact leI_trans (ih ((i - 1) / 2) (by omega) (by omega)) (h i (by omega) hi)
theorem HeapI.cut {ms : List Int} {n : Nat} (h : HeapI ms n) (hn : n + 1 ≤ ms.length) (h' : HeapI ms (n + 1)) : DownI (swi ms 0 n) n 0 := by
  have hG := gi_swi (ms := ms) (i := 0) (j := n) (by omega) (by omega)
  refine ⟨fun i i0 hi hp => ?_, fun h => absurd h (by omega)⟩
  rw [hG, hG, if_neg (by omega), if_neg hp, if_neg (by omega), if_neg (by omega)]
  exact h' i i0 (by omega)
theorem gi_app {ms : List Int} {x : Int} {i : Nat} (h : i < ms.length) : gi (ms ++ [x]) i = gi ms i := by simp [gi, List.getElem?_append_left h]
theorem HeapI.push {ms : List Int} (h : HeapI ms ms.length) (x : Int) : UpI (ms ++ [x]) (ms.length + 1) ms.length := by
  refine ⟨fun i i0 hi hp => ?_, fun h0 i i0 hi hp => absurd hp (by omega)⟩
  rw [gi_app (by omega), gi_app (by omega)]
  exact h i i0 (by omega)
theorem gi_take {ms : List Int} {n i : Nat} (h : i < n) : gi (ms.take n) i = gi ms i := by simp [gi, List.getElem?_take_of_lt h]
theorem HeapI.take {ms : List Int} {n : Nat} (h : HeapI ms n) : HeapI (ms.take n) n := by
  intro i h0 hn
  rw [gi_take (by omega), gi_take hn]
  exact h i h0 hn
end Go.Proofs.YtjgggialnegddaaGreat
