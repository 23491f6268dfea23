/-
  The document's Put, as far as the beginnings are there.
-/
import Derived.Test.YtdchoegaindnbaaRpMath
namespace Go.Proofs.Ytdchoegaindnbaa
open Go.RowKit
set_option linter.unusedVariables false
set_option maxRecDepth 1000000

/-- This mark used now. -/
def gT (x : Int) (t : List Int) (T : Int) (e : Int × List Int × Int) : Int × List Int × Int := if e.1 = x ∧ e.2.1 = t then (e.1, e.2.1, T) else e
def keyE (e : Int × List Int × Int) : Int × List Int := (e.1, e.2.1)
theorem set_map {qs : List Rk} {x T : Int} {t : List Int} {p : Nat} (hn : ((qs.map Rk.em).map keyE).Nodup) (hp : plcM qs x t = p) : (qs.set p ((rk qs p).at T)).map Rk.em = (qs.map Rk.em).map (gT x t T) := by
  obtain ⟨h1, h2, h3⟩ := plcM_ok hp
  refine List.ext_getElem (by simp) fun i hi hj => ?_
  rw [List.getElem_map, List.getElem_map, List.getElem_map, List.getElem_set]
  have hil : i < qs.length := by simpa using hj
  by_cases e : p = i
  · subst e
    rw [if_pos rfl]
    rw [rk_at h1] at h2 h3 ⊢
    unfold gT
    rw [if_pos ⟨h2, h3⟩]
    rfl
  · rw [if_neg e]
    unfold gT
    rw [if_neg]
    rintro ⟨h4, h5⟩
    rw [List.map_map, List.nodup_iff_pairwise_ne, List.pairwise_iff_getElem] at hn
    have hk : ∀ a b (ha : a < qs.length) (hb : b < qs.length), a < b → (keyE ∘ Rk.em) qs[a] ≠ (keyE ∘ Rk.em) qs[b] := fun a b ha hb hab => by
      have := hn a b (by simpa using ha) (by simpa using hb) hab
      simpa using this
    rw [rk_at h1] at h2 h3
    have heq : (keyE ∘ Rk.em) qs[p] = (keyE ∘ Rk.em) qs[i] := by
      change ((qs[p]).rep, (qs[p]).toks) = ((qs[i]).rep, (qs[i]).toks)
      rw [h2, h3, show (qs[i]).rep = x from h4, show (qs[i]).toks = t from h5]
    rcases Nat.lt_trichotomy p i with h | h | h
    · exact hk p i h1 hil h heq
    · exact e h
    · exact hk i p hil h1 h heq.symm
theorem useK_tr (L : List Mk) (x : Int) (ts : List Int) (sz k : Nat) (T : Int) : (useK L x ts sz (k + 1) T).map Mk.tr = ((useK L x ts sz k T).map Mk.tr).map (gT x (ts.take ((k + 1) * sz)) T) := by
  unfold useK
  rw [List.map_map, List.map_map, List.map_map]
  refine List.map_congr_left fun m hm => ?_
  simp only [Function.comp, usd_succ]
  have hb : bgT ts sz k = ts.take ((k + 1) * sz) := rfl
  by_cases h1 : usd x ts sz k m = true
  · rw [h1, Bool.true_or, if_pos rfl]
    unfold gT
    split <;> rfl
  · rw [Bool.eq_false_iff.2 h1, Bool.false_or, if_neg (by simp : ¬ (false : Bool) = true), hb]
    unfold gT
    by_cases h2 : m.rep = x ∧ m.toks = ts.take ((k + 1) * sz)
    · rw [if_pos (by simpa using h2), if_pos (show m.tr.fst = x ∧ m.tr.snd.fst = _ from h2)]
      rfl
    · rw [if_neg (by simpa using h2), if_neg (show ¬ (m.tr.fst = x ∧ m.tr.snd.fst = _) from h2)]
theorem useK_key (L : List Mk) (x : Int) (ts : List Int) (sz k : Nat) (T : Int) : ((useK L x ts sz k T).map Mk.tr).map keyE = (L.map Mk.tr).map keyE := by
  unfold useK
  rw [List.map_map, List.map_map, List.map_map]
  refine List.map_congr_left fun m hm => ?_
  simp only [Function.comp]
  split <;> rfl
theorem key_nodup {L : List Mk} (h : (L.map Mk.nm).Nodup) : ((L.map Mk.tr).map keyE).Nodup := by
  have h2 : (((L.map Mk.tr).map keyE).map fun k => nmZ k.1 k.2).Nodup := by
    rw [List.map_map, List.map_map]
    exact h
  exact h2.of_map _ fun a b hab e => hab (by rw [e])
theorem plc_has {qs : List Rk} {x : Int} {t : List Int} : 0 ≤ plcM qs x t ↔ (x, t) ∈ (qs.map Rk.em).map keyE := by
  rw [plcM_iff, List.map_map, List.mem_map]
  constructor
  · rintro ⟨q, hq, h1, h2⟩; exact ⟨q, hq, by simp [Rk.em, keyE, h1, h2]⟩
  · rintro ⟨q, hq, h⟩
    simp [Rk.em, keyE] at h
    exact ⟨q, hq, h.1, h.2⟩
/-- As far as the beginnings are there, they are used. -/
theorem run_there {L : List Mk} {qs : List Rk} {room sz : Nat} {T x : Int} {ts : List Int} (hn : (L.map Mk.nm).Nodup) (hp : (qs.map Rk.em).Perm (L.map Mk.tr)) {p : Nat} (hy : ∀ i, i < p → (x, ts.take ((i + 1) * sz)) ∈ (L.map Mk.tr).map keyE) :
    ∀ j, j ≤ p → ∀ q c, RunP room T x ts sz j qs q c → c = 0 ∧ (q.map Rk.em).Perm ((useK L x ts sz j T).map Mk.tr)
  | 0, _, q, c, h => by
    obtain ⟨rfl, rfl⟩ := h
    refine ⟨rfl, hp.trans ?_⟩
    have : useK L x ts sz 0 T = L := by
      unfold useK usd
      simp
    rw [this]
  | j + 1, hj, q, c, ⟨q', c', h1, h2⟩ => by
    obtain ⟨rfl, ih⟩ := run_there hn hp hy j (by omega) q' c' h1
    have hkey : ((q'.map Rk.em).map keyE).Perm ((L.map Mk.tr).map keyE) := by
      have := ih.map keyE
      rw [useK_key] at this
      exact this
    have hkn : ((q'.map Rk.em).map keyE).Nodup := hkey.nodup_iff.2 (key_nodup hn)
    rcases h2 with ⟨p', e1, rfl, rfl⟩ | ⟨hneg, _⟩
    · refine ⟨rfl, ?_⟩
      rw [set_map hkn e1, useK_tr]
      exact ih.map _
    · have := plc_has.2 (hkey.mem_iff.2 (hy j (by omega)))
      omega
end Go.Proofs.Ytdchoegaindnbaa
