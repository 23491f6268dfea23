/-
  The document's Put is the program's: put_same.
-/
import Derived.Test.YtdchoegaindnbaaRpMath4
namespace Go.Proofs.Ytdchoegaindnbaa
open Go.RowKit
set_option linter.unusedVariables false
set_option maxRecDepth 1000000

/-- Each mark's shorter beginnings are there, used no earlier than it. -/
def Cls (sz : Nat) (L : List Mk) : Prop := ∀ m ∈ L, ∀ i, m.toks.length = (i + 1 + 1) * sz → ∃ m' ∈ L, m'.rep = m.rep ∧ m'.toks = m.toks.take ((i + 1) * sz) ∧ m.used ≤ m'.used
theorem range_from {K p : Nat} (h : p ≤ K) : ((List.range K).filter fun j => !decide (j < p)) = (List.range (K - p)).map (p + ·) := by
  obtain ⟨d, rfl⟩ : ∃ d, K = p + d := ⟨K - p, by omega⟩
  rw [Nat.add_sub_cancel_left, List.range_add, List.filter_append]
  have e1 : (List.range p).filter (fun j => !decide (j < p)) = [] := by
    rw [List.filter_eq_nil_iff]
    intro a ha
    rw [List.mem_range] at ha
    simp [ha]
  have e2 : ((List.range d).map (p + ·)).filter (fun j => !decide (j < p)) = (List.range d).map (p + ·) := by
    rw [List.filter_eq_self]
    intro a ha
    obtain ⟨i, _, rfl⟩ := List.mem_map.1 ha
    simp
  rw [e1, e2, List.nil_append]
theorem put_same {L L' : List Mk} {qs qs' : List Rk} {room sz : Nat} {T x : Int} {ts : List Int} {c c' : Nat} (hn : (L.map Mk.nm).Nodup) (hok : ∀ m ∈ L, m.ok) (hx : isU x) (hi : isIs ts) (hs : 1 ≤ sz) (hold : ∀ m ∈ L, m.used < T) (hlr : L.length ≤ room) (hcl : Cls sz L)
    (hp : (qs.map Rk.em).Perm (L.map Mk.tr)) (h1 : PutS L x ts room sz T c L') (h2 : PutP room T x ts sz qs qs' c') : c' = c ∧ (qs'.map Rk.em).Perm (L'.map Mk.tr) := by
  have hit : ∀ n, isIs (ts.take n) := fun n y hy => hi y (List.mem_of_mem_take hy)
  obtain ⟨K', hK'⟩ : ∃ K', ts.length / sz = K' := ⟨_, rfl⟩
  have hlen : ∀ i, i < K' → (i + 1) * sz ≤ ts.length := fun i h => by
    rw [← Nat.le_div_iff_mul_le (by omega), hK']
    exact h
  obtain ⟨p, hpK, hy, hno⟩ := first_run (P := fun i => (x, ts.take ((i + 1) * sz)) ∈ (L.map Mk.tr).map keyE) K' fun i hi2 hP => by
    rw [List.map_map] at hP ⊢
    obtain ⟨m, hm, hme⟩ := List.mem_map.1 hP
    have hme' : (m.rep, m.toks) = (x, ts.take ((i + 1 + 1) * sz)) := hme
    rw [Prod.mk.injEq] at hme'
    have hl := hlen (i + 1) hi2
    obtain ⟨m', hm', a1, a2, _⟩ := hcl m hm i (by rw [hme'.2, List.length_take, Nat.min_eq_left hl])
    refine List.mem_map.2 ⟨m', hm', ?_⟩
    change (m'.rep, m'.toks) = _
    rw [a1, a2, hme'.1, hme'.2, List.take_take, Nat.min_eq_left (Nat.mul_le_mul_right _ (by omega))]
  have hpL : p ≤ L.length := there_le (K := 0) (L := L) hs (fun i h => hlen i (by omega)) hy
  obtain ⟨K, hK⟩ : ∃ K, min K' room = K := ⟨_, rfl⟩
  have hKK : K ≤ K' ∧ K ≤ room ∧ p ≤ K := by omega
  have eK : min ts.length (room * sz) / sz = K := by rw [min_div _ _ _ hs, hK', hK]
  obtain ⟨L2, Fr, f1, f2, f3, rfl⟩ := h1
  rw [eK] at f1 f3
  have hbg : ∀ i, i < K → bgT (ts.take (room * sz)) sz i = ts.take ((i + 1) * sz) := fun i h => by
    unfold bgT
    rw [List.take_take, Nat.min_eq_left (Nat.mul_le_mul_right _ (by omega))]
  have hhas : ∀ i, i < K → (hasM L x (bgT (ts.take (room * sz)) sz i) = true ↔ i < p) := fun i h => by
    rw [hbg i h, key_has hok hx (hit _)]
    constructor
    · intro h3
      rcases Nat.lt_or_ge i p with h4 | h4
      · exact h4
      · exact absurd h3 (hno i h4 (by omega))
    · exact hy i
  have eU : useK L x (ts.take (room * sz)) sz K T = useK L x ts sz p T := by
    unfold useK
    refine List.map_congr_left fun m hm => ?_
    have : usd x (ts.take (room * sz)) sz K m = usd x ts sz p m := by
      rw [Bool.eq_iff_iff]
      unfold usd
      simp only [Bool.and_eq_true, List.any_eq_true, List.mem_range, decide_eq_true_eq]
      constructor
      · rintro ⟨a1, j, a2, a3⟩
        rw [hbg j a2] at a3
        refine ⟨a1, j, ?_, a3⟩
        rcases Nat.lt_or_ge j p with h4 | h4
        · exact h4
        · exact absurd (by rw [List.map_map]; exact List.mem_map.2 ⟨m, hm, by simp [Mk.tr, keyE, a1, a3]⟩) (hno j h4 (by omega))
      · rintro ⟨a1, j, a2, a3⟩
        exact ⟨a1, j, by omega, by rw [hbg j (by omega)]; exact a3⟩
    rw [this]
  have eF : frJ L x (ts.take (room * sz)) sz K = (List.range (K - p)).map (p + ·) := by
    rw [← range_from hKK.2.2]
    unfold frJ
    refine List.filter_congr fun j hj => ?_
    rw [List.mem_range] at hj
    have := hhas j hj
    cases h : hasM L x (bgT (ts.take (room * sz)) sz j) with
    | true => simp [this.1 h]
    | false =>
      have : ¬ j < p := fun h3 => by rw [this.2 h3] at h; cases h
      simp [this]
  have ec : c = K - p := by
    rw [← f2, f1.len, eF]
    simp
  have eT : Fr.map Mk.tr = (Nw x ts sz T p (K - p)).map Mk.tr := by
    have e1 : Fr.map Mk.tr = (Fr.map Mk.toks).map fun t => (x, t, T) := by
      rw [List.map_map]
      exact List.map_congr_left fun m hm => by simp [Mk.tr, f1.rep m hm, f1.used m hm]
    rw [e1, f1.tks, eF, List.map_map, List.map_map]
    unfold Nw
    rw [List.map_map]
    refine List.map_congr_left fun i hi2 => ?_
    rw [List.mem_range] at hi2
    simp only [Function.comp, Mk.tr]
    rw [hbg (p + i) (by omega)]
  have hcount := old_count (T := T) hs (fun i h => hlen i (by omega)) hy
  have hho := hold_ok hn (x := x) (ts := ts.take (room * sz)) (size := sz) (K := K) (room := room) (T := T) hold hKK.2.1 (c := c) (by rw [← f2, f1.len])
  rw [eU] at f3 hho
  rw [ec] at f3 hho ⊢
  have hnU : ((useK L x ts sz p T).map Mk.nm).Nodup := by rw [useK_nm]; exact hn
  -- the marks that go
  obtain ⟨R, hR, hL2⟩ : ∃ R : List Mk, ((R.Perm ((useK L x ts sz p T).filter fun m => decide (m.used < T)) ∧ R.Pairwise (fun x y => cmpM x y < 0)) ∨ L.length + (K - p) ≤ room) ∧ L2 = butS (useK L x ts sz p T) (R.take (L.length + (K - p) - room)) := by
    rcases f3 with ⟨h3, rfl⟩ | ⟨R, a1, a2, rfl⟩
    · exact ⟨[], .inr (by omega), by rw [h3]; rfl⟩
    · exact ⟨R, .inl ⟨a1, a2⟩, rfl⟩
  have run := run_more hn hp hs hy (fun i a b => hno i a (by omega)) (fun i h => hlen i (by omega)) hlr hR (K := K)
  have fin : ∀ q cq, RunP room T x ts sz (p + (K - p)) qs q cq → cq = K - p ∧ (q.map Rk.em).Perm ((L2 ++ Fr).map Mk.tr) := fun q cq h => by
    obtain ⟨a1, _, a3⟩ := run (K - p) (by omega) q cq h
    rw [List.map_append] at a3
    rw [List.map_append, eT, hL2]
    exact ⟨a1, a3⟩
  have ql : ∀ d, p + d ≤ K → ∀ q cq, RunP room T x ts sz (p + d) qs q cq → q.length + (L.length + d - room) = L.length + d := fun d hd q cq h => by
    obtain ⟨a1, a2, a3⟩ := run d hd q cq h
    have b1 := butT_len hnU (hR.imp (fun h => h.1) (fun h => (by omega : L.length + d - room = 0))) a2
    rw [useK_len] at b1
    have b2 := a3.length_eq
    simp [Nw] at b2
    omega
  have past : ∀ n, room < n → n ≤ K' → ∀ q cq, RunP room T x ts sz n qs q cq → False := fun n hn1 hn2 q cq h => by
    obtain ⟨q1, c1, q2, c2, r1, r2⟩ := RunP.prefix hn1 h
    have er : p + (K - p) = room := by omega
    replace r1 : RunP room T x ts sz (p + (K - p)) qs q1 c1 := by rw [er]; exact r1
    have len1 := ql (K - p) (by omega) q1 c1 r1
    obtain ⟨a1, a2, a3⟩ := run (K - p) (by omega) q1 c1 r1
    have hneg := next_not (L := L) hs (hno (p + (K - p)) (by omega) (by omega)) (fun i h => hlen i (by omega)) a3
    rw [er] at hneg
    rcases r2 with ⟨p', e1, _, _⟩ | ⟨_, _, ⟨hlt, _⟩ | ⟨hge, o, y, ho, _⟩⟩
    · omega
    · omega
    · rcases oldM_go q1 T q1.length with ⟨h4, _⟩ | ⟨o', h4, h5, h6, _⟩
      · omega
      · rcases hR with hR | hR
        · have := old_left hR.1 Nw_used a3 h5 h6
          have := hR.1.length_eq
          omega
        · obtain ⟨m, hm, hme⟩ := List.mem_map.1 (a3.mem_iff.1 (List.mem_map_of_mem (rk_mem h5)))
          have hmu : m.used = (rk q1 o').used := congrArg (fun t => t.2.2) hme
          rcases List.mem_append.1 hm with h7 | h7
          · have h8 : m ∈ (useK L x ts sz p T).filter fun m => decide (m.used < T) := List.mem_filter.2 ⟨((butS_mem _ _ _).1 h7).1, by simp; omega⟩
            have := List.length_pos_of_mem h8
            omega
          · have := Nw_used m h7
            omega
  rcases h2 with h2 | ⟨j, hj, r, hneg, hge, hol⟩
  · rw [hK'] at h2
    rcases Nat.lt_or_ge room K' with h3 | h3
    · exact (past K' h3 (Nat.le_refl _) _ _ h2).elim
    · have e : K' = p + (K - p) := by omega
      rw [e] at h2
      exact fin _ _ h2
  · rw [hK'] at hj
    have hjp : p ≤ j := by
      rcases Nat.lt_or_ge j p with h3 | h3
      · exfalso
        obtain ⟨_, b⟩ := run_there hn hp hy j (by omega) _ _ r
        have h4 := (b.map keyE).mem_iff.2 (by rw [useK_key]; exact hy j h3)
        have := plc_has.2 h4
        omega
      · exact h3
    rcases Nat.lt_or_ge room j with h3 | h3
    · exact (past j h3 (by omega) _ _ r).elim
    · obtain ⟨d, rfl⟩ : ∃ d, j = p + d := ⟨j - p, by omega⟩
      by_cases hjr : p + d = room
      · have e : d = K - p := by omega
        rw [e] at r
        exact fin _ _ r
      · exfalso
        have len1 := ql d (by omega) _ _ r
        obtain ⟨a1, a2, a3⟩ := run d (by omega) _ _ r
        rcases oldM_go qs' T qs'.length with ⟨_, h5⟩ | ⟨o', h4, _⟩
        · rcases hR with hR | hR
          · have hlt : L.length + d - room < R.length := by
              have := hR.1.length_eq
              omega
            have hre := List.getElem_mem hlt
            have hrm := (List.mem_filter.1 (hR.1.mem_iff.1 hre))
            have hin : R[L.length + d - room] ∈ butS (useK L x ts sz p T) (R.take (L.length + d - room)) := by
              refine (butS_mem _ _ _).2 ⟨hrm.1, fun y hy2 e2 => ?_⟩
              obtain ⟨i, hi2, rfl⟩ := List.getElem_of_mem hy2
              rw [List.length_take] at hi2
              rw [List.getElem_take] at e2
              have hiR : i < R.length := by omega
              have h6 := nm_one hnU hrm.1 (List.mem_filter.1 (hR.1.mem_iff.1 (List.getElem_mem hiR))).1 e2
              have h7 := List.pairwise_iff_getElem.1 hR.2 i _ hiR hlt (by omega)
              rw [← h6, cmpM_zero.2 ⟨rfl, rfl, rfl⟩] at h7
              omega
            obtain ⟨y, hy2, hye⟩ := List.mem_map.1 (a3.mem_iff.2 (List.mem_map_of_mem (List.mem_append_left _ hin)))
            obtain ⟨i, hi2, rfl⟩ := mem_rk hy2
            have hu : (rk qs' i).used = (R[L.length + d - room]).used := congrArg (fun t => t.2.2) hye
            refine h5 i hi2 ?_
            rw [hu]
            simpa using hrm.2
          · omega
        · omega
end Go.Proofs.Ytdchoegaindnbaa
