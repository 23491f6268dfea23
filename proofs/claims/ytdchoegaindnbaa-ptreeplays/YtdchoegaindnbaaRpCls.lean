/-
  Each mark's shorter beginnings stay, whatever is called.
-/
import Derived.Test.YtdchoegaindnbaaRpMath5
namespace Go.Proofs.Ytdchoegaindnbaa
open Go.RowKit
set_option linter.unusedVariables false
set_option maxRecDepth 1000000

theorem Cls.nil (sz : Nat) : Cls sz [] := fun m hm => by simp at hm
theorem Cls.forget {sz : Nat} {L : List Mk} (h : Cls sz L) (x : Int) : Cls sz (forL L x) := fun m hm i hl => by
  obtain ⟨h1, h2⟩ := List.mem_filter.1 hm
  obtain ⟨m', hm', a1, a2, a3⟩ := h m h1 i hl
  exact ⟨m', List.mem_filter.2 ⟨hm', by rw [a1]; exact h2⟩, a1, a2, a3⟩
theorem Cls.use {sz : Nat} {L : List Mk} (h : Cls sz L) {ts : List Int} {T : Int} (ho : ∀ m ∈ L, m.used ≤ T) : Cls sz (useL L ts T) := fun m hm i hl => by
  obtain ⟨y, hy, rfl⟩ := List.mem_map.1 hm
  have e1 : ∀ z : Mk, (if z.toks <+: ts then z.at T else z).rep = z.rep ∧ (if z.toks <+: ts then z.at T else z).toks = z.toks := fun z => by split <;> exact ⟨rfl, rfl⟩
  rw [(e1 y).2] at hl
  obtain ⟨y', hy', a1, a2, a3⟩ := h y hy i hl
  refine ⟨_, List.mem_map.2 ⟨y', hy', rfl⟩, by rw [(e1 y').1, (e1 y).1, a1], by rw [(e1 y').2, (e1 y).2, a2], ?_⟩
  by_cases hp : y.toks <+: ts
  · have hp' : y'.toks <+: ts := by rw [a2]; exact (List.take_prefix _ _).trans hp
    rw [if_pos hp, if_pos hp']
    exact Int.le_refl _
  · rw [if_neg hp]
    split
    · exact ho y hy
    · exact a3
theorem cmpM_short {a b : Mk} (hu : a.used ≤ b.used) (hl : b.toks.length < a.toks.length) : cmpM a b < 0 := by
  have z2 : cmpZ (b.toks.length : Int) (a.toks.length : Int) < 0 := cmpZ_lt.2 (by omega)
  unfold cmpM or3
  by_cases h : a.used = b.used
  · have z1 := cmpZ_eq.2 h
    have z3 : ¬ cmpZ (b.toks.length : Int) (a.toks.length : Int) = 0 := by omega
    simp only [z1, z3, ne_eq, not_true_eq_false, not_false_eq_true, if_false, if_true]
    exact z2
  · have z1 : cmpZ a.used b.used < 0 := cmpZ_lt.2 (by omega)
    have z3 : ¬ cmpZ a.used b.used = 0 := by omega
    simp only [z3, ne_eq, not_false_eq_true, if_true]
    exact z1
theorem Cls.put {sz room : Nat} {L L' : List Mk} (h : Cls sz L) (hs : 1 ≤ sz) (hn : (L.map Mk.nm).Nodup) (hok : ∀ m ∈ L, m.ok) {x : Int} {ts : List Int} (hx : isU x) (hi : isIs ts) {T : Int} (hold : ∀ m ∈ L, m.used < T) {c : Nat} (hp : PutS L x ts room sz T c L') : Cls sz L' := fun m hm i hl => by
  have hall := fun j hj => put_all hn hok hx hi hp (j := j) hj
  obtain ⟨L2, Fr, h1, h2, h3, rfl⟩ := hp
  obtain ⟨K, hK⟩ : ∃ K, min ts.length (room * sz) / sz = K := ⟨_, rfl⟩
  obtain ⟨tt, htt⟩ : ∃ tt, ts.take (room * sz) = tt := ⟨_, rfl⟩
  have hKl : K * sz ≤ tt.length := by rw [← hK, ← htt]; exact put_K
  rw [hK, htt] at h1 h3 hall
  -- one of the beginnings
  have beg : ∀ j, j < K → m.rep = x → m.toks = bgT tt sz j → m.used ≤ T → ∃ m' ∈ L2 ++ Fr, m'.rep = m.rep ∧ m'.toks = m.toks.take ((i + 1) * sz) ∧ m.used ≤ m'.used := fun j hj r1 r2 r3 => by
    rw [r2, bgT_len hKl hj] at hl
    have := Nat.eq_of_mul_eq_mul_right (by omega) hl
    obtain ⟨m', hm', b1, b2, b3⟩ := hall i (by omega)
    refine ⟨m', hm', by rw [b1, r1], ?_, by rw [b3]; exact r3⟩
    rw [b2, r2]
    unfold bgT
    rw [List.take_take, Nat.min_eq_left (Nat.mul_le_mul_right _ (by omega))]
  rcases List.mem_append.1 hm with hm2 | hm2
  · have hmU := h3.sub m hm2
    obtain ⟨y, hy, hye⟩ := List.mem_map.1 hmU
    by_cases hu : usd x tt sz K y = true
    · rw [if_pos hu] at hye
      have hu' := hu
      unfold usd at hu'
      simp only [Bool.and_eq_true, List.any_eq_true, List.mem_range, decide_eq_true_eq] at hu'
      obtain ⟨a1, j, a2, a3⟩ := hu'
      refine beg j a2 (by rw [← hye]; exact a1) (by rw [← hye]; exact a3) (by rw [← hye]; exact Int.le_refl _)
    · rw [if_neg hu] at hye
      subst hye
      obtain ⟨y', hy', a1, a2, a3⟩ := h y hy i hl
      have hyT := hold y hy
      have hU' : (if usd x tt sz K y' then y'.at T else y') ∈ useK L x tt sz K T := List.mem_map.2 ⟨y', hy', rfl⟩
      refine ⟨if usd x tt sz K y' then y'.at T else y', List.mem_append_left _ ?_, ?_, ?_, ?_⟩
      · rcases h3 with ⟨_, e⟩ | ⟨R, r1, r2, e⟩
        · rw [e]; exact hU'
        · rw [e] at hm2 ⊢
          have hnU : ((useK L x tt sz K T).map Mk.nm).Nodup := by rw [useK_nm]; exact hn
          refine (butS_mem _ _ _).2 ⟨hU', fun z hz e2 => ?_⟩
          have hzR := List.mem_of_mem_take hz
          have hzm := List.mem_filter.1 (r1.mem_iff.1 hzR)
          have hzu : z.used < T := by simpa using hzm.2
          have hz' := nm_one hnU hU' hzm.1 e2
          have hyR : y ∈ R := r1.mem_iff.2 (List.mem_filter.2 ⟨hmU, by simpa using hyT⟩)
          have hlt : cmpM y z < 0 := by
            refine cmpM_short ?_ ?_
            · rw [← hz']
              split
              · exact Int.le_of_lt hyT
              · exact a3
            · have e3 : z.toks = y'.toks := by rw [← hz']; split <;> rfl
              rw [e3, a2, List.length_take, hl]
              have : (i + 1) * sz < (i + 1 + 1) * sz := Nat.mul_lt_mul_of_pos_right (by omega) (by omega)
              omega
          obtain ⟨ia, hia, rfl⟩ := List.getElem_of_mem hz
          rw [List.length_take] at hia
          rw [List.getElem_take] at hlt
          obtain ⟨ib, hib, rfl⟩ := List.getElem_of_mem hyR
          have hiaR : ia < R.length := by omega
          rcases Nat.lt_trichotomy ib ia with h5 | h5 | h5
          · exact ((butS_mem _ _ _).1 hm2).2 R[ib] (List.mem_take_iff_getElem.2 ⟨ib, by omega, rfl⟩) rfl
          · subst h5
            rw [cmpM_zero.2 ⟨rfl, rfl, rfl⟩] at hlt
            omega
          · have h6 := List.pairwise_iff_getElem.1 r2 ia ib hiaR hib h5
            rw [cmpM_anti] at h6
            omega
      · split <;> exact a1
      · split <;> exact a2
      · split
        · exact Int.le_of_lt hyT
        · exact a3
  · obtain ⟨j, hj, _, e⟩ := h1.mem hm2
    exact beg j hj (h1.rep m hm2) e (by rw [h1.used m hm2]; exact Int.le_refl _)
end Go.Proofs.Ytdchoegaindnbaa
