/-
  RankLess: the place of a number; all cells of a slice of candidates.
-/
import Derived.Test.YtmhpgkkaolcncaaRkLaw
namespace Go.Proofs.Ytmhpgkkaolcncaa
open Go.RowKit
set_option linter.unusedVariables false
set_option maxRecDepth 1000000

theorem flatC_get : ∀ (l : List Cd) (j : Nat) (u : Value), (flatC l)[j]? = some u → ∃ i t, j = i * 6 + t ∧ i < l.length ∧ t < 6 ∧ (CdV (ck l i))[t]? = some u
  | [], j, u, h => by simp [flatC] at h
  | c :: l, j, u, h => by
    by_cases hj : j < 6
    · refine ⟨0, j, by omega, by simp, hj, ?_⟩
      have e : ck (c :: l) 0 = c := by simp [ck]
      rw [e]
      obtain rfl | rfl | rfl | rfl | rfl | rfl : j = 0 ∨ j = 1 ∨ j = 2 ∨ j = 3 ∨ j = 4 ∨ j = 5 := by omega
      all_goals simpa [flatC, CdV] using h
    · obtain ⟨j', rfl⟩ : ∃ j', j = j' + 6 := ⟨j - 6, by omega⟩
      have h' : (flatC l)[j']? = some u := by simpa [flatC] using h
      obtain ⟨i, t, e, h1, h2, h3⟩ := flatC_get l j' u h'
      refine ⟨i + 1, t, by omega, by simpa using h1, h2, ?_⟩
      have e : ck (c :: l) (i + 1) = ck l i := by simp [ck]
      rw [e]; exact h3
theorem CsAt.news {W : World} {ad : Addr} {len cap : Nat} {l : List Cd} (h : CsAt W (some ad) len cap l) : ∀ j u, (flatC l)[j]? = some u → W.cell? (ad.add j) = some u := by
  intro j u hu
  obtain ⟨i, t, rfl, hi, ht, hv⟩ := flatC_get l j u hu
  obtain ⟨b, off, e, hc⟩ := h.cell i (by rw [← h.size]; exact hi)
  cases e
  rw [Addr.add_lit]
  obtain ⟨e0, e1, e2, e3, e4, e5⟩ := hc
  obtain rfl | rfl | rfl | rfl | rfl | rfl : t = 0 ∨ t = 1 ∨ t = 2 ∨ t = 3 ∨ t = 4 ∨ t = 5 := by omega
  · rw [show off + (i * 6 + 0) = off + i * 6 by omega, e0]; simpa [CdV] using hv
  · rw [show off + (i * 6 + 1) = off + i * 6 + 1 by omega, e1]; simpa [CdV] using hv
  · rw [show off + (i * 6 + 2) = off + i * 6 + 2 by omega, e2]; simpa [CdV] using hv
  · rw [show off + (i * 6 + 3) = off + i * 6 + 3 by omega, e3]; simpa [CdV] using hv
  · rw [show off + (i * 6 + 4) = off + i * 6 + 4 by omega, e4]; simpa [CdV] using hv
  · rw [show off + (i * 6 + 5) = off + i * 6 + 5 by omega, e5]; simpa [CdV] using hv
theorem flatC_oneCell : ∀ l : List Cd, ∀ u ∈ flatC l, u.oneCell' = true
  | [], u, hu => by simp [flatC] at hu
  | c :: l, u, hu => by
    simp only [flatC, List.mem_cons] at hu
    rcases hu with rfl | rfl | rfl | rfl | rfl | rfl | hu
    · rfl
    · rfl
    · rfl
    · rfl
    · rfl
    · rfl
    · exact flatC_oneCell l u hu
theorem flatC_turn (l : List Cd) (x y : Int) : ∀ k, k < l.length → ((flatC l).set (k * 6 + 2) (.int .i64 x)).set (k * 6 + 1) (.int .i64 y) = flatC (l.set k ⟨(ck l k).rep, y, x, (ck l k).bnd, (ck l k).place, (ck l k).opn⟩) := by
  induction l with
  | nil => intro k hk; simp at hk
  | cons c l ih =>
    intro k hk
    cases k with
    | zero => simp [flatC, ck]
    | succ k =>
      have := ih k (by simpa using hk)
      have e : ck (c :: l) (k + 1) = ck l k := by simp [ck]
      rw [e, show (k + 1) * 6 + 2 = (k * 6 + 2) + 6 by omega, show (k + 1) * 6 + 1 = (k * 6 + 1) + 6 by omega]
      simp [flatC, this]
set_option maxHeartbeats 2000000 in
theorem place_any {W : World} {ao : Option Addr} {n co : Nat} {os : List Int} (h : Reads .u64 W ao n co os) (hn : n ≤ 100) {gl gk : Nat} {a : Option Addr} {len cap k : Nat} {l : List Cd} (hl : W.cell? ⟨gl, 0, none⟩ = some (.slice a len cap)) (hk : W.cell? ⟨gk, 0, none⟩ = some (.int .i64 (k : Int))) (hc : CsAt W a len cap l) (hkl : k < len) :
    Calls Try.prog 18 #[.slice ao n co, .pointer (some ⟨gl, 0, none⟩), .pointer (some ⟨gk, 0, none⟩)] W fun e w' => e = .returned (.int .i64 (plZ os (ck l k).rep)) ∧ w' = W := by
  obtain ⟨b, off, rfl, hc0⟩ := hc.cell k hkl
  have e0 := hc0.c0
  have g0 : (k : Int) < (len : Int) := by omega
  have hrm := hc.room
  have hms := hc.most
  have HR := hid h
  have Hos := hid h.size
  obtain ⟨r, Hr⟩ : ∃ r, Hid (plZ os (ck l k).rep = r) := ⟨_, rfl⟩
  rw [Hr.out]
  generalize (ck l k).rep = x at *
  clear h hc hc0
  go_enter Try.func18, Try.ntmps18
  go_wp2_with fail
  go_loopw [9] (fun z W' => ∃ j : Nat, j ≤ n ∧ z = .int .i64 j ∧ W' = W ∧ Hid (x ∉ os.take j)) (fun z _ => n - (intOf z).toNat)
  case atStart => exact ⟨0, by omega, rfl, rfl, by unfold Hid; simp⟩
  case round =>
  obtain ⟨j, hj, rfl, rfl, HN⟩ := hrel
  by_cases hjn : j < n
  · have g1 : (j : Int) < (n : Int) := by omega
    obtain ⟨b2, o2, rfl, hc2⟩ := HR.out.cell j hjn
    obtain ⟨y, Hy⟩ : ∃ y, Hid (os[j]? = some y) := ⟨os[j]'(by rw [Hos.out]; exact hjn), List.getElem?_eq_getElem _⟩
    rw [Hy.out] at hc2
    have hc3 : wr.cell? ⟨b2, o2 + j, none⟩ = some (.int .u64 y) := hc2
    clear hc2
    by_cases hy : y = x
    · have hy2 : (y == x) = true := by simp [hy]
      have HZ : Hid ((j : Int) = r) := by
        rw [Hid, ← Hr.out]
        have hjo : j < os.length := by rw [Hos.out]; exact hjn
        have e : os = os.take j ++ x :: os.drop (j + 1) := by
          have h1 := Hy.out
          rw [List.getElem?_eq_getElem hjo, hy] at h1
          rw [← Option.some.inj h1, ← List.drop_eq_getElem_cons hjo, List.take_append_drop]
        conv => rhs; rw [e]
        rw [plZ_at HN.out, List.length_take]
        omega
      clear hy HN Hy
      go_wp2_with fail
      go_ret
      exact ⟨by rw [← HZ.out]; rfl, rfl⟩
    · have hy2 : (y == x) = false := by simp [hy]
      have HN2 : Hid (x ∉ os.take (j + 1)) := by
        unfold Hid
        rw [List.take_add_one, Hy.out]
        intro h
        rcases List.mem_append.1 h with h | h
        · exact HN.out h
        · exact hy (List.mem_singleton.1 h).symm
      clear hy HN Hy
      go_wp2_with fail
      go_round
      case rel => exact ⟨j + 1, by omega, by go_num, by first | rfl | trivial, HN2.out⟩
      case measure => simp [intOf]; omega
  · have g1 : ¬ (j : Int) < (n : Int) := by omega
    have HZ : Hid (-1 = r) := by
      rw [Hid, ← Hr.out, plZ_no]
      have := HN.out
      rwa [List.take_of_length_le (by rw [Hos.out]; omega)] at this
    clear HN
    go_wp2_with fail
    go_ret
    exact ⟨by rw [← HZ.out]; rfl, rfl⟩
end Go.Proofs.Ytmhpgkkaolcncaa
