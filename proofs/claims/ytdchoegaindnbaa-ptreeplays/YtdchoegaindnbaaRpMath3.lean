/-
  The document's Put, behind the beginnings that are there.
-/
import Derived.Test.YtdchoegaindnbaaRpMath2
namespace Go.Proofs.Ytdchoegaindnbaa
open Go.RowKit
set_option linter.unusedVariables false
set_option maxRecDepth 1000000

/-- The new marks. -/
def Nw (x : Int) (ts : List Int) (sz : Nat) (T : Int) (p d : Nat) : List Mk := (List.range d).map fun i => ⟨x, ts.take ((p + i + 1) * sz), T, 0⟩
theorem Nw_succ (x : Int) (ts : List Int) (sz : Nat) (T : Int) (p d : Nat) : Nw x ts sz T p (d + 1) = Nw x ts sz T p d ++ [⟨x, ts.take ((p + d + 1) * sz), T, 0⟩] := by
  unfold Nw
  rw [List.range_succ, List.map_append]
  rfl
theorem Nw_used {x : Int} {ts : List Int} {sz : Nat} {T : Int} {p d : Nat} : ∀ m ∈ Nw x ts sz T p d, m.used = T := fun m hm => by
  obtain ⟨i, _, rfl⟩ := List.mem_map.1 hm
  rfl
theorem butT_len {U R : List Mk} {T : Int} {e : Nat} (hn : (U.map Mk.nm).Nodup) (h : R.Perm (U.filter fun m => decide (m.used < T)) ∨ e = 0) (he : e ≤ R.length) : (butS U (R.take e)).length + e = U.length := by
  rcases h with h | rfl
  · have hRn : (R.map Mk.nm).Nodup := (h.map _).nodup_iff.2 ((List.filter_sublist.map _).nodup hn)
    have := butS_len (pre := R.take e) hn (((List.take_sublist e R).map Mk.nm).nodup hRn) (fun m hm => (List.mem_filter.1 (h.mem_iff.1 (List.mem_of_mem_take hm))).1)
    rw [List.length_take, Nat.min_eq_left he] at this
    exact this
  · rfl
/-- Where one goes, there is one left. -/
theorem old_left {qs : List Rk} {U N R : List Mk} {T : Int} {e : Nat} (hR : R.Perm (U.filter fun m => decide (m.used < T))) (hN : ∀ m ∈ N, m.used = T) (hp : (qs.map Rk.em).Perm ((butS U (R.take e) ++ N).map Mk.tr)) {i : Nat} (hi : i < qs.length) (hu : (rk qs i).used < T) : e < R.length := by
  rcases Nat.lt_or_ge e R.length with h | h
  · exact h
  exfalso
  rw [List.take_of_length_le h] at hp
  obtain ⟨m, hm, hme⟩ := List.mem_map.1 (hp.mem_iff.1 (List.mem_map_of_mem (rk_mem hi)))
  have hmu : m.used = (rk qs i).used := congrArg (fun t => t.2.2) hme
  rcases List.mem_append.1 hm with h1 | h1
  · have h2 := (butS_mem _ _ _).1 h1
    exact h2.2 m (hR.mem_iff.2 (List.mem_filter.2 ⟨h2.1, by simp; omega⟩)) rfl
  · have := hN m h1
    omega
theorem run_more {L : List Mk} {qs : List Rk} {room sz : Nat} {T x : Int} {ts : List Int} (hn : (L.map Mk.nm).Nodup) (hp : (qs.map Rk.em).Perm (L.map Mk.tr)) {p K : Nat} (hs : 1 ≤ sz) (hy : ∀ i, i < p → (x, ts.take ((i + 1) * sz)) ∈ (L.map Mk.tr).map keyE) (hno : ∀ i, p ≤ i → i < K → (x, ts.take ((i + 1) * sz)) ∉ (L.map Mk.tr).map keyE) (hK : ∀ i, i < K → (i + 1) * sz ≤ ts.length) (hlr : L.length ≤ room) {R : List Mk}
    (hR : (R.Perm ((useK L x ts sz p T).filter fun m => decide (m.used < T)) ∧ R.Pairwise (fun x y => cmpM x y < 0)) ∨ L.length + (K - p) ≤ room) :
    ∀ d, p + d ≤ K → ∀ q c, RunP room T x ts sz (p + d) qs q c → c = d ∧ L.length + d - room ≤ R.length ∧ (q.map Rk.em).Perm ((butS (useK L x ts sz p T) (R.take (L.length + d - room)) ++ Nw x ts sz T p d).map Mk.tr)
  | 0, _, q, c, h => by
    obtain ⟨rfl, h1⟩ := run_there hn hp hy p (Nat.le_refl _) q c h
    have e0 : L.length + 0 - room = 0 := by omega
    rw [e0]
    refine ⟨rfl, Nat.zero_le _, ?_⟩
    have e1 : butS (useK L x ts sz p T) (R.take 0) ++ Nw x ts sz T p 0 = useK L x ts sz p T := by
      rw [List.take_zero]
      simp [Nw, butS]
    rw [e1]
    exact h1
  | d + 1, hd, q, c, ⟨q', c', h1, h2⟩ => by
    obtain ⟨rfl, hle, ih⟩ := run_more hn hp hs hy hno hK hlr hR d (by omega) q' c' h1
    replace h2 : StepP room T x (ts.take ((p + c' + 1) * sz)) q' c' q c := h2
    have hnU : ((useK L x ts sz p T).map Mk.nm).Nodup := by rw [useK_nm]; exact hn
    have hR2 : R.Perm ((useK L x ts sz p T).filter fun m => decide (m.used < T)) ∨ L.length + c' - room = 0 := hR.imp (fun h => h.1) (fun h => by omega)
    have hlen := butT_len hnU hR2 hle
    rw [useK_len] at hlen
    have hql : q'.length = (butS (useK L x ts sz p T) (R.take (L.length + c' - room))).length + c' := by
      have := ih.length_eq
      simpa [Nw] using this
    have hfresh : ∀ (y : Rk), y.toks = ts.take ((p + c' + 1) * sz) → y.rep = x → y.used = T → y.em = (⟨x, ts.take ((p + c' + 1) * sz), T, 0⟩ : Mk).tr := fun y a b d => by
      simp [Rk.em, Mk.tr, a, b, d]
    have hadd : ∀ (r : List Rk) (V : List Mk) (y : Rk), (r.map Rk.em).Perm ((V ++ Nw x ts sz T p c').map Mk.tr) → y.em = (⟨x, ts.take ((p + c' + 1) * sz), T, 0⟩ : Mk).tr → ((r ++ [y]).map Rk.em).Perm ((V ++ Nw x ts sz T p (c' + 1)).map Mk.tr) := fun r V y hr he => by
      rw [Nw_succ, ← List.append_assoc, List.map_append, List.map_append (l₁ := V ++ _)]
      refine hr.append ?_
      rw [List.map_cons, List.map_nil, he]
      exact List.Perm.refl _
    rcases h2 with ⟨p', e1, _, _⟩ | ⟨_, rfl, h3⟩
    · exfalso
      have h4 : (x, ts.take ((p + c' + 1) * sz)) ∈ (q'.map Rk.em).map keyE := plc_has.1 (by omega)
      have h5 := (ih.map keyE).mem_iff.1 h4
      rw [List.map_append, List.map_append] at h5
      rcases List.mem_append.1 h5 with h6 | h6
      · have h7 := (((butS_sub (useK L x ts sz p T) (R.take (L.length + c' - room))).map Mk.tr).map keyE).mem h6
        rw [useK_key] at h7
        exact hno (p + c') (by omega) (by omega) h7
      · rw [List.map_map] at h6
        obtain ⟨m, hm, hme⟩ := List.mem_map.1 h6
        obtain ⟨i, hi, rfl⟩ := List.mem_map.1 hm
        rw [List.mem_range] at hi
        have h8 : ts.take ((p + i + 1) * sz) = ts.take ((p + c' + 1) * sz) := congrArg Prod.snd hme
        have h9 := congrArg List.length h8
        rw [List.length_take, List.length_take, Nat.min_eq_left (hK (p + i) (by omega)), Nat.min_eq_left (hK (p + c') (by omega))] at h9
        have := Nat.eq_of_mul_eq_mul_right (by omega) h9
        omega
    · rcases h3 with ⟨hlt, y, a1, a2, a3, rfl⟩ | ⟨hge, o, y, ho, a1, a2, a3, rfl⟩
      · have e0 : L.length + c' - room = 0 := by omega
        have e1 : L.length + (c' + 1) - room = 0 := by omega
        rw [e0] at ih
        rw [e1]
        exact ⟨rfl, Nat.zero_le _, hadd _ _ _ ih (hfresh y a1 a2 a3)⟩
      · rcases hR with hR1 | hR1
        · rcases oldM_go q' T q'.length with ⟨h4, _⟩ | ⟨o', h4, h5, h6, _⟩
          · omega
          · have he := old_left hR1.1 Nw_used ih h5 h6
            obtain ⟨_, hg⟩ := gone_same hnU hR1.1 hR1.2 he Nw_used ih ho
            have e1 : L.length + (c' + 1) - room = L.length + c' - room + 1 := by omega
            rw [e1]
            exact ⟨rfl, he, hadd _ _ _ hg (hfresh y a1 a2 a3)⟩
        · exfalso
          omega
end Go.Proofs.Ytdchoegaindnbaa
