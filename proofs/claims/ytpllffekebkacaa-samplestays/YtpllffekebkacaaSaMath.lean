/-
  Mathematics of the draws of layer 11: the first place up to which weights, added, are above a number (FirstAt), the likeliest (BestOf, bestZ), what is drawn (DrawOf, drawZ); the weights' sum is above 0; the marks of a vector (markL).
-/
import Derived.Test.YtpllffekebkacaaSMath
import Derived.Test.YtpllffekebkacaaTMath
import Derived.Test.YtpllffekebkacaaDMath
import Derived.Test.YtpllffekebkacaaTops
namespace Go.Proofs.Ytpllffekebkacaa
open Go.RowKit
set_option linter.unusedVariables false
set_option maxRecDepth 1000000

/-- The one number of which it is true. -/
noncomputable def the (P : Int → Prop) : Int := open Classical in if h : ∃ t, P t then h.choose else 0
theorem the_eq {P : Int → Prop} {t : Int} (h : P t) (one : ∀ a b, P a → P b → a = b) : the P = t := by
  unfold the
  rw [dif_pos ⟨t, h⟩]
  exact one _ _ (Exists.choose_spec ⟨t, h⟩) h

/-- The first place up to which the first n weights, added, are above d. -/
structure FirstAt (ws : List Int) (n : Nat) (d : Int) (k : Nat) : Prop where
  lt : k < n
  up : d < sumK ws (k + 1)
  low : ∀ j, j < k → sumK ws (j + 1) ≤ d
theorem FirstAt.one {ws : List Int} {n : Nat} {d : Int} {k k' : Nat} (h : FirstAt ws n d k) (h' : FirstAt ws n d k') : k = k' := by
  rcases Nat.lt_trichotomy k k' with hl | rfl | hl
  · have := h'.low k hl; have := h.up; omega
  · rfl
  · have := h.low k' hl; have := h'.up; omega
theorem first_no {ws : List Int} {n : Nat} {d : Int} (d0 : 0 ≤ d) (hd : d < sumK ws n) (h : ∀ j, j < n → sumK ws (j + 1) ≤ d) : False := by
  rcases n with _ | n
  · simp only [sumK] at hd; omega
  · have := h n (by omega); omega

/-- How much a mark counts. -/
def cntZ (zs : List Int) (heat p : Int) : Int := divZ (mulZ (zs[p.toNat]?.getD 0) (fromZ 4)) (fromZ heat)
def cntL (zs : List Int) (heat : Int) (ps : List Int) : List Int := ps.map (cntZ zs heat)
/-- The weights. -/
def wtL (zs : List Int) (heat : Int) (ps : List Int) : List Int := softL (cntL zs heat ps)
theorem cntL_len (zs : List Int) (heat : Int) (ps : List Int) : (cntL zs heat ps).length = ps.length := by simp [cntL]

/-- The likeliest. -/
def BestOf (zs : List Int) (t : Int) : Prop := (zs = [] ∧ t = -1) ∨ (0 < zs.length ∧ TopOf zs zs.length 1 [t])
theorem BestOf.one {zs : List Int} : ∀ a b, BestOf zs a → BestOf zs b → a = b := by
  intro a b h h'
  rcases h with ⟨h1, h2⟩ | ⟨h1, h2⟩ <;> rcases h' with ⟨k1, k2⟩ | ⟨k1, k2⟩
  · omega
  · rw [h1] at k1; simp at k1
  · rw [k1] at h1; simp at h1
  · have := h2.one k2; simpa using this
noncomputable def bestZ (zs : List Int) : Int := the (BestOf zs)
theorem BestOf.eq {zs : List Int} {t : Int} (h : BestOf zs t) : bestZ zs = t := the_eq h BestOf.one
/-- At least 1. -/
def mx1 (t : Int) : Int := max t 1
/-- The drawn one. -/
def DrawOf (zs : List Int) (top heat s p t : Int) : Prop :=
  ((zs = [] ∨ heat < 1) ∧ BestOf zs t) ∨
  (0 < zs.length ∧ 1 ≤ heat ∧ ∃ (K k : Nat) (ps : List Int), Kof (mx1 top) zs.length K ∧ TopOf zs zs.length K ps ∧ FirstAt (wtL zs heat ps) K (belowZ s p (sumK (wtL zs heat ps) K)) k ∧ t = ps[k]?.getD 0)
theorem Kof.one {k : Int} {len K K' : Nat} (h : Kof k len K) (h' : Kof k len K') : K = K' := by unfold Kof at *; omega
theorem DrawOf.one {zs : List Int} {top heat s p : Int} : ∀ a b, DrawOf zs top heat s p a → DrawOf zs top heat s p b → a = b := by
  intro a b h h'
  rcases h with ⟨h1, h2⟩ | ⟨h1, h2, K, k, ps, h3, h4, h5, h6⟩ <;> rcases h' with ⟨k1, k2⟩ | ⟨k1, k2, K', k', ps', k3, k4, k5, k6⟩
  · exact h2.one _ _ k2
  · rcases h1 with rfl | h1
    · simp at k1
    · omega
  · rcases k1 with rfl | k1
    · simp at h1
    · omega
  · obtain rfl := h3.one k3
    obtain rfl := h4.one k4
    obtain rfl := h5.one k5
    rw [h6, k6]
noncomputable def drawZ (zs : List Int) (top heat s p : Int) : Int := the (DrawOf zs top heat s p)
theorem DrawOf.eq {zs : List Int} {top heat s p t : Int} (h : DrawOf zs top heat s p t) : drawZ zs top heat s p = t := the_eq h DrawOf.one

/-- The places of the greatest are places. -/
theorem TopOf.at {zs : List Int} {n K : Nat} {ps : List Int} (h : TopOf zs n K ps) {i : Nat} (hi : i < K) : ∃ m : Nat, ps[i]?.getD 0 = m ∧ m < n := by
  obtain ⟨qs, rest, rfl, hl, hf, hp, hr⟩ := h
  have hq : i < qs.length := by omega
  have hm : qs[i] ∈ marksK zs n := hp.subset (List.mem_append_left _ (List.getElem_mem hq))
  obtain ⟨m, h1, h2⟩ := marksK_mem.1 hm
  refine ⟨m, ?_, h1⟩
  simp [hq, h2]
/-- Some place has the greatest number. -/
theorem great_at (zs : List Int) (k : Nat) : 0 < k → ∃ i, i < k ∧ wi (zs[i]?.getD 0) = greatK zs k := by
  induction k with
  | zero => intro h; omega
  | succ k ih =>
    intro _
    by_cases h : k = 0 ∨ greatK zs k < wi (zs[k]?.getD 0)
    · exact ⟨k, by omega, by rw [greatK, if_pos h]⟩
    · obtain ⟨i, h1, h2⟩ := ih (by omega)
      exact ⟨i, by omega, by rw [greatK, if_neg h, h2]⟩
theorem exp_m1 : 32768 ≤ expZ (-1) := by decide +kernel
/-- The sum of weights is above 0. -/
theorem soft_sum {zs : List Int} (h : 0 < zs.length) : 0 < sumK (softL zs) zs.length ∧ sumK (softL zs) zs.length ≤ 2147483647 := by
  have hP : Pos (softL zs) := fun i => ⟨(softL_bd zs i).1, by have := (softL_bd zs i).2; omega⟩
  refine ⟨?_, (sumK_bd hP _).2⟩
  obtain ⟨i, h1, h2⟩ := great_at zs zs.length h
  have hge := sumK_ge hP zs.length i h1
  have hp : 32768 ≤ (powL zs)[i]?.getD 0 := by
    rw [powL_at h1]
    refine Int.le_trans exp_m1 (expZ_le ?_)
    unfold addZ
    rw [h2]
    have hb := greatK_bd zs zs.length
    generalize greatK zs zs.length = g at *
    have : -1 ≤ g + wi (-g) := by unfold wi; split <;> (try split) <;> omega
    have := wi_le this
    rwa [show wi (-1) = -1 from rfl] at this
  have hs := sumK_ge (powL_pos zs) zs.length i h1
  have hb := sumK_bd (powL_pos zs) zs.length
  rw [softL_at h1] at hge
  have hv := div_val (powL_pos zs i).1 hs hb.2 (by omega)
  rw [hv.1] at hge
  have : 1 ≤ (powL zs)[i]?.getD 0 * 65536 / sumK (powL zs) zs.length := by
    refine (Int.le_ediv_iff_mul_le (by omega)).2 ?_
    omega
  omega
theorem wt_sum {zs : List Int} {heat : Int} {ps : List Int} {K : Nat} (h : ps.length = K) (hK : 0 < K) : 0 < sumK (wtL zs heat ps) K ∧ sumK (wtL zs heat ps) K ≤ 2147483647 := by
  have hl := cntL_len zs heat ps
  have := soft_sum (zs := cntL zs heat ps) (by omega)
  rw [hl, h] at this
  exact this
theorem below_sum {zs : List Int} {heat : Int} {ps : List Int} {K : Nat} (s p : Int) (h : ps.length = K) (hK : 0 < K) : 0 ≤ belowZ s p (sumK (wtL zs heat ps) K) ∧ belowZ s p (sumK (wtL zs heat ps) K) < sumK (wtL zs heat ps) K := below_bd s p (wt_sum h hK).1
theorem kof_pos {t : Int} {len K : Nat} (h : Kof (mx1 t) len K) (hl : 0 < len) : 0 < K := by unfold Kof mx1 at h; omega

/-- Drawn of one, it is the likeliest. -/
theorem DrawOf.best {zs : List Int} {top heat s p t : Int} (h : DrawOf zs top heat s p t) (hc : top ≤ 1 ∨ heat < 1) : BestOf zs t := by
  rcases h with ⟨_, h⟩ | ⟨h1, h2, K, k, ps, h3, h4, h5, h6⟩
  · exact h
  · have hK : K = 1 := by unfold Kof mx1 at h3; omega
    subst hK
    have hk := h5.lt
    obtain rfl : k = 0 := by omega
    have hl := h4.len
    match ps, hl with
    | [x], _ =>
      simp at h6
      subst h6
      exact .inr ⟨h1, h4⟩
theorem DrawOf.nil {top heat s p t : Int} (h : DrawOf [] top heat s p t) : t = -1 := by
  rcases h with ⟨_, h⟩ | ⟨h, _⟩
  · rcases h with ⟨_, h⟩ | ⟨h, _⟩
    · exact h
    · simp at h
  · simp at h
/-- What is drawn, with heat, is one of the greatest. -/
theorem DrawOf.mem {zs : List Int} {top heat s p t : Int} (h : DrawOf zs top heat s p t) (h0 : 0 < zs.length) (hc : 1 ≤ heat) {K : Nat} {ps : List Int} (hK : Kof (mx1 top) zs.length K) (hp : TopOf zs zs.length K ps) : ∃ k, k < K ∧ t = ps[k]?.getD 0 := by
  rcases h with ⟨h1 | h1, _⟩ | ⟨h1, h2, K', k, ps', h3, h4, h5, h6⟩
  · rw [h1] at h0; simp at h0
  · omega
  · obtain rfl := h3.one hK
    obtain rfl := h4.one hp
    exact ⟨k, h5.lt, h6⟩

/-- The likeliest of 3, 9, 9. -/
theorem best_399 : BestOf [3, 9, 9] 1 := by
  refine .inr ⟨by simp, [(1, 9)], [(0, 3), (2, 9)], rfl, rfl, ?_, ?_, ?_⟩
  · exact List.pairwise_singleton _ _
  · have : marksK [3, 9, 9] ([3, 9, 9] : List Int).length = [((0 : Int), (3 : Int)), (1, 9), (2, 9)] := by decide +kernel
    rw [this]
    exact List.Perm.swap _ _ _
  · intro r hr q hq
    simp at hr hq
    subst hq
    rcases hr with rfl | rfl <;> (unfold leM ltM; simp)
theorem best_nil : BestOf [] (-1) := .inl ⟨rfl, rfl⟩
end Go.Proofs.Ytpllffekebkacaa
