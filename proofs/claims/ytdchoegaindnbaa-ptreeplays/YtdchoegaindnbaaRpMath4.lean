/-
  The document's Put is the program's.
-/
import Derived.Test.YtdchoegaindnbaaRpMath3
namespace Go.Proofs.Ytdchoegaindnbaa
open Go.RowKit
set_option linter.unusedVariables false
set_option maxRecDepth 1000000

theorem first_run {P : Nat → Prop} : ∀ K, (∀ i, i + 1 < K → P (i + 1) → P i) → ∃ p, p ≤ K ∧ (∀ i, i < p → P i) ∧ ∀ i, p ≤ i → i < K → ¬ P i
  | 0, _ => ⟨0, Nat.le_refl _, fun i hi => by omega, fun i _ hi => by omega⟩
  | K + 1, h => by
    obtain ⟨p, h1, h2, h3⟩ := first_run K fun i hi => h i (by omega)
    by_cases hp : p = K ∧ P K
    · obtain ⟨rfl, hP⟩ := hp
      refine ⟨p + 1, Nat.le_refl _, fun i hi => ?_, fun i hi hi2 => by omega⟩
      rcases (by omega : i < p ∨ i = p) with h | rfl
      · exact h2 i h
      · exact hP
    · refine ⟨p, by omega, h2, fun i hi hi2 => ?_⟩
      rcases (by omega : i < K ∨ i = K) with h4 | rfl
      · exact h3 i hi h4
      · intro hP
        by_cases e : p = i
        · exact hp ⟨e, hP⟩
        · obtain ⟨k, rfl⟩ : ∃ k, i = k + 1 := ⟨i - 1, by omega⟩
          exact h3 k (by omega) (by omega) (h k (by omega) hP)
theorem min_div (a b s : Nat) (hs : 1 ≤ s) : min a (b * s) / s = min (a / s) b := by
  rcases Nat.le_total a (b * s) with h | h
  · rw [Nat.min_eq_left h, Nat.min_eq_left]
    exact Nat.div_le_of_le_mul (by rw [Nat.mul_comm]; exact h)
  · rw [Nat.min_eq_right h, Nat.mul_div_cancel _ (by omega), Nat.min_eq_right]
    rw [Nat.le_div_iff_mul_le (by omega)]
    exact h
theorem key_has {L : List Mk} (hok : ∀ m ∈ L, m.ok) {x : Int} {t : List Int} (hx : isU x) (ht : isIs t) : hasM L x t = true ↔ (x, t) ∈ (L.map Mk.tr).map keyE := by
  rw [hasM_iff hok hx ht, List.map_map, List.mem_map]
  constructor
  · rintro ⟨m, hm, h1, h2⟩; exact ⟨m, hm, by simp [Mk.tr, keyE, h1, h2]⟩
  · rintro ⟨m, hm, h⟩
    simp [Mk.tr, keyE] at h
    exact ⟨m, hm, h.1, h.2⟩
theorem RunP.prefix {room : Nat} {T x : Int} {ts : List Int} {sz : Nat} {qs : List Rk} {j : Nat} : ∀ {n : Nat}, j < n → ∀ {q : List Rk} {c : Nat}, RunP room T x ts sz n qs q c → ∃ q1 c1 q2 c2, RunP room T x ts sz j qs q1 c1 ∧ StepP room T x (ts.take ((j + 1) * sz)) q1 c1 q2 c2
  | 0, h, _, _, _ => by omega
  | n + 1, h, q, c, ⟨q', c', h1, h2⟩ => by
    rcases (by omega : j < n ∨ j = n) with h3 | rfl
    · exact RunP.prefix h3 h1
    · exact ⟨q', c', q, c, h1, h2⟩
/-- All that are there, and those used now. -/
theorem there_le {L : List Mk} {x : Int} {ts : List Int} {sz p K : Nat} (hs : 1 ≤ sz) (hK : ∀ i, i < p → (i + 1) * sz ≤ ts.length) {V : List Mk} (hy : ∀ i, i < p → (x, ts.take ((i + 1) * sz)) ∈ (V.map Mk.tr).map keyE) : p ≤ V.length := by
  have h1 : ((List.range p).map fun i => (x, ts.take ((i + 1) * sz))).length ≤ ((V.map Mk.tr).map keyE).length := by
    refine List.Nodup.length_le_of_subset (nodup_on List.nodup_range fun a ha b hb e => ?_) fun y hy2 => ?_
    · rw [List.mem_range] at ha hb
      have h2 := congrArg (fun z => z.2.length) e
      simp only [List.length_take] at h2
      rw [Nat.min_eq_left (hK a ha), Nat.min_eq_left (hK b hb)] at h2
      have := Nat.eq_of_mul_eq_mul_right (by omega) h2
      omega
    · obtain ⟨i, hi, rfl⟩ := List.mem_map.1 hy2
      exact hy i (List.mem_range.1 hi)
  simpa using h1
/-- The mark that comes next is not there. -/
theorem next_not {L : List Mk} {q : List Rk} {sz : Nat} {T x : Int} {ts : List Int} {p d : Nat} (hs : 1 ≤ sz) (hno : (x, ts.take ((p + d + 1) * sz)) ∉ (L.map Mk.tr).map keyE) (hK : ∀ i, i ≤ p + d → (i + 1) * sz ≤ ts.length) {pre : List Mk}
    (ih : (q.map Rk.em).Perm ((butS (useK L x ts sz p T) pre ++ Nw x ts sz T p d).map Mk.tr)) : plcM q x (ts.take ((p + d + 1) * sz)) < 0 := by
  rcases Int.lt_or_le (plcM q x (ts.take ((p + d + 1) * sz))) 0 with h | h
  · exact h
  exfalso
  have h5 := (ih.map keyE).mem_iff.1 (plc_has.1 h)
  rw [List.map_append, List.map_append] at h5
  rcases List.mem_append.1 h5 with h6 | h6
  · have h7 := (((butS_sub (useK L x ts sz p T) pre).map Mk.tr).map keyE).mem h6
    rw [useK_key] at h7
    exact hno h7
  · rw [List.map_map] at h6
    obtain ⟨m, hm, hme⟩ := List.mem_map.1 h6
    obtain ⟨i, hi, rfl⟩ := List.mem_map.1 hm
    rw [List.mem_range] at hi
    have h8 : ts.take ((p + i + 1) * sz) = ts.take ((p + d + 1) * sz) := congrArg Prod.snd hme
    have h9 := congrArg List.length h8
    rw [List.length_take, List.length_take, Nat.min_eq_left (hK (p + i) (by omega)), Nat.min_eq_left (hK (p + d) (by omega))] at h9
    have := Nat.eq_of_mul_eq_mul_right (by omega) h9
    omega
/-- The old ones are as many as the others. -/
theorem old_count {L : List Mk} {x : Int} {ts : List Int} {sz p : Nat} {T : Int} (hs : 1 ≤ sz) (hK : ∀ i, i < p → (i + 1) * sz ≤ ts.length) (hy : ∀ i, i < p → (x, ts.take ((i + 1) * sz)) ∈ (L.map Mk.tr).map keyE) : ((useK L x ts sz p T).filter fun m => decide (m.used < T)).length + p ≤ L.length := by
  have h1 := filt_two (fun m : Mk => decide (m.used < T)) (useK L x ts sz p T)
  rw [useK_len] at h1
  have h2 : p ≤ ((useK L x ts sz p T).filter fun m => !decide (m.used < T)).length := there_le (K := 0) (L := L) hs hK fun i hi => by
    have h3 := hy i hi
    rw [List.map_map] at h3
    obtain ⟨m, hm, hme⟩ := List.mem_map.1 h3
    have hme' : (m.rep, m.toks) = (x, ts.take ((i + 1) * sz)) := hme
    rw [Prod.mk.injEq] at hme'
    have hu : usd x ts sz p m = true := by
      unfold usd
      simp only [hme'.1, decide_true, Bool.true_and, List.any_eq_true, List.mem_range]
      exact ⟨i, hi, decide_eq_true hme'.2⟩
    rw [List.map_map]
    refine List.mem_map.2 ⟨m.at T, List.mem_filter.2 ⟨List.mem_map.2 ⟨m, hm, by rw [if_pos hu]⟩, ?_⟩, hme⟩
    simp [Mk.at]
  omega
end Go.Proofs.Ytdchoegaindnbaa
