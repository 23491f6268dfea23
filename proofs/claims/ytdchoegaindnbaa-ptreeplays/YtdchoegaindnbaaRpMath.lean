/-
  What goes one at a time is what goes at once.
-/
import Derived.Test.YtdchoegaindnbaaRpOrd
namespace Go.Proofs.Ytdchoegaindnbaa
open Go.RowKit
set_option linter.unusedVariables false
set_option maxRecDepth 1000000

theorem cmpM_tr {a b c d : Mk} (h1 : a.tr = b.tr) (h2 : c.tr = d.tr) : cmpM a c = cmpM b d := by
  obtain ⟨ar, at', au, ab⟩ := a
  obtain ⟨br, bt, bu, bb⟩ := b
  obtain ⟨cr, ct, cu, cb⟩ := c
  obtain ⟨dr, dt, du, db⟩ := d
  simp only [Mk.tr, Prod.mk.injEq] at h1 h2
  obtain ⟨rfl, rfl, rfl⟩ := h1
  obtain ⟨rfl, rfl, rfl⟩ := h2
  rfl
theorem toM_tr (q : Rk) : q.toM.tr = q.em := rfl
/-- The mark that goes is one of those that were not used now, and no other one comes ahead of it. -/
theorem oldM_go (qs : List Rk) (T : Int) : ∀ k, (oldM qs T k < 0 ∧ ∀ i, i < k → ¬ (rk qs i).used < T) ∨ ∃ o : Nat, oldM qs T k = o ∧ o < k ∧ (rk qs o).used < T ∧ ∀ i, i < k → (rk qs i).used < T → ¬ cmpM (rk qs i).toM (rk qs o).toM < 0
  | 0 => .inl ⟨by simp [oldM], fun i hi => by omega⟩
  | k + 1 => by
    have ih := oldM_go qs T k
    have hself : ∀ m : Mk, ¬ cmpM m m < 0 := fun m => by rw [cmpM_zero.2 ⟨rfl, rfl, rfl⟩]; omega
    by_cases hu : (rk qs k).used < T
    · rcases ih with ⟨h1, h2⟩ | ⟨o, h1, h2, h3, h4⟩
      · refine .inr ⟨k, by simp [oldM, hu, h1], by omega, hu, fun i hi hiu => ?_⟩
        rcases (by omega : i < k ∨ i = k) with h | rfl
        · exact absurd hiu (h2 i h)
        · exact hself _
      · have e : oldM qs T (k + 1) = if oldB (rk qs k) (rk qs o) = true then (k : Int) else (o : Int) := by
          have ho0 : ¬ (o : Int) < 0 := by omega
          rw [oldM, h1]
          simp only [hu, ho0, decide_true, decide_false, Bool.true_and, Bool.false_or, Int.toNat_natCast]
        rw [e]
        by_cases hb : oldB (rk qs k) (rk qs o) = true
        · refine .inr ⟨k, by rw [if_pos hb], by omega, hu, fun i hi hiu => ?_⟩
          have hlt := (old_cmp _ _).1 hb
          rcases (by omega : i < k ∨ i = k) with h | rfl
          · exact fun hc => h4 i h hiu (cmpM_trans hc hlt)
          · exact hself _
        · refine .inr ⟨o, by rw [if_neg hb], by omega, h3, fun i hi hiu => ?_⟩
          rcases (by omega : i < k ∨ i = k) with h | rfl
          · exact h4 i h hiu
          · exact fun hc => hb ((old_cmp _ _).2 hc)
    · have e : oldM qs T (k + 1) = oldM qs T k := by simp [oldM, hu]
      rw [e]
      rcases ih with ⟨h1, h2⟩ | ⟨o, h1, h2, h3, h4⟩
      · refine .inl ⟨h1, fun i hi => ?_⟩
        rcases (by omega : i < k ∨ i = k) with h | rfl
        · exact h2 i h
        · exact hu
      · refine .inr ⟨o, h1, by omega, h3, fun i hi hiu => ?_⟩
        rcases (by omega : i < k ∨ i = k) with h | rfl
        · exact h4 i h hiu
        · exact absurd hiu hu
theorem mem_rk {qs : List Rk} {q : Rk} (h : q ∈ qs) : ∃ i, i < qs.length ∧ rk qs i = q := by
  obtain ⟨i, hi, e⟩ := List.getElem_of_mem h
  exact ⟨i, hi, by rw [rk_at hi, e]⟩
theorem erase_perm {qs : List Rk} {o : Nat} (h : o < qs.length) : qs.Perm (rk qs o :: qs.eraseIdx o) := by
  rw [rk_at h, List.eraseIdx_eq_take_drop_succ]
  have e : qs = qs.take o ++ qs[o] :: qs.drop (o + 1) := by rw [← List.drop_eq_getElem_cons h, List.take_append_drop]
  conv => lhs; rw [e]
  exact List.perm_middle
theorem butN_perm {L : List Mk} (hn : (L.map Mk.nm).Nodup) {m : Mk} (h : m ∈ L) : L.Perm (m :: butN L m.nm) := by
  have hL : L.Nodup := hn.of_map _ fun a b hab e => hab (by rw [e])
  have h1 : butN L m.nm = butS L [m] := rfl
  have hnot : m ∉ butN L m.nm := fun hm => by
    rw [h1] at hm
    exact ((butS_mem L [m] m).1 hm).2 m (by simp) rfl
  refine (List.perm_ext_iff_of_nodup hL (List.nodup_cons.2 ⟨hnot, by rw [h1]; exact (butS_sub L [m]).nodup hL⟩)).2 fun y => ?_
  rw [List.mem_cons, h1, butS_mem]
  constructor
  · intro hy
    by_cases e : y = m
    · exact .inl e
    · exact .inr ⟨hy, fun z hz e2 => e (nm_one hn hy h (by simp at hz; rw [e2, hz]))⟩
  · rintro (rfl | hy)
    · exact h
    · exact hy.1
/-- One goes on both sides: it is the same one. -/
theorem gone_same {qs : List Rk} {U N : List Mk} {R : List Mk} {T : Int} {e o : Nat} (hn : (U.map Mk.nm).Nodup) (hR : R.Perm (U.filter fun m => decide (m.used < T))) (hs : R.Pairwise (fun x y => cmpM x y < 0)) (he : e < R.length)
    (hN : ∀ m ∈ N, m.used = T) (hp : (qs.map Rk.em).Perm ((butS U (R.take e) ++ N).map Mk.tr)) (ho : oldM qs T qs.length = o) : o < qs.length ∧ ((qs.eraseIdx o).map Rk.em).Perm ((butS U (R.take (e + 1)) ++ N).map Mk.tr) := by
  rcases oldM_go qs T qs.length with ⟨h1, _⟩ | ⟨o', h1, h2, h3, h4⟩
  · omega
  obtain rfl : o = o' := by omega
  refine ⟨h2, ?_⟩
  have hRm : ∀ m, m ∈ R ↔ m ∈ U ∧ m.used < T := fun m => by rw [hR.mem_iff, List.mem_filter]; simp
  have hRn : (R.map Mk.nm).Nodup := (hR.map _).nodup_iff.2 ((List.filter_sublist.map _).nodup hn)
  have hnB : ((butS U (R.take e)).map Mk.nm).Nodup := ((butS_sub U _).map _).nodup hn
  have hre : R[e] ∈ butS U (R.take e) := by
    refine (butS_mem _ _ _).2 ⟨((hRm _).1 (List.getElem_mem he)).1, fun y hy e2 => ?_⟩
    obtain ⟨i, hi, rfl⟩ := List.getElem_of_mem hy
    rw [List.length_take] at hi
    rw [List.getElem_take] at e2
    have hiR : i < R.length := by omega
    have h6 := nm_one hn ((hRm _).1 (List.getElem_mem he)).1 ((hRm _).1 (List.getElem_mem hiR)).1 e2
    have h7 := List.pairwise_iff_getElem.1 hs i e hiR he (by omega)
    rw [← h6, cmpM_zero.2 ⟨rfl, rfl, rfl⟩] at h7
    omega
  -- the document's
  have hmo : (rk qs o).em ∈ (butS U (R.take e) ++ N).map Mk.tr := hp.mem_iff.1 (List.mem_map_of_mem (rk_mem h2))
  obtain ⟨m, hm, hme⟩ := List.mem_map.1 hmo
  have hmu : m.used = (rk qs o).used := congrArg (fun t => t.2.2) hme
  have hmB : m ∈ butS U (R.take e) := by
    rcases List.mem_append.1 hm with h | h
    · exact h
    · have := hN m h
      omega
  -- the program's
  have hq : (R[e]).tr ∈ qs.map Rk.em := hp.mem_iff.2 (List.mem_map_of_mem (List.mem_append_left _ hre))
  obtain ⟨q, hqm, hqe⟩ := List.mem_map.1 hq
  obtain ⟨i, hi, rfl⟩ := mem_rk hqm
  have hiu : (rk qs i).used < T := by
    have : (rk qs i).used = (R[e]).used := congrArg (fun t => t.2.2) hqe
    rw [this]
    exact ((hRm _).1 (List.getElem_mem he)).2
  have h7 := h4 i hi hiu
  rw [cmpM_tr (a := (rk qs i).toM) (b := R[e]) (c := (rk qs o).toM) (d := m) hqe hme.symm] at h7
  have hmR : m ∈ R := (hRm m).2 ⟨((butS_mem _ _ _).1 hmB).1, by rw [hmu]; exact h3⟩
  obtain ⟨j, hj, hje⟩ := List.getElem_of_mem hmR
  have hme2 : m = R[e] := by
    rcases Nat.lt_trichotomy j e with h | h | h
    · exfalso
      exact ((butS_mem _ _ _).1 hmB).2 m (by rw [← hje]; exact List.mem_take_iff_getElem.2 ⟨j, by omega, rfl⟩) rfl
    · subst h; exact hje.symm
    · exfalso
      exact h7 (by rw [← hje]; exact List.pairwise_iff_getElem.1 hs e j he hj h)
  rw [butS_take he]
  have p1 := (erase_perm h2).map Rk.em
  have p2 := ((butN_perm hnB hre).append_right N).map Mk.tr
  rw [List.map_cons] at p1
  rw [List.cons_append, List.map_cons] at p2
  rw [← hme, hme2] at p1
  exact (List.perm_cons _).1 (p1.symm.trans (hp.trans p2))
end Go.Proofs.Ytdchoegaindnbaa
