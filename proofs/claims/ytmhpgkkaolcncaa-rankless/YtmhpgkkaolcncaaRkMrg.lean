/-
  Merging in place: what an exchange of two inner runs leaves to be merged.
-/
import Derived.Test.YtmhpgkkaolcncaaRkIns
namespace Go.Proofs.Ytmhpgkkaolcncaa
open Go.RowKit Go.Shelf Go.Sort Go.Lib
set_option linter.unusedVariables false
set_option maxRecDepth 1000000

theorem swp_rot' {d : Array Cd} {i : Nat} (h : i + 1 < d.size) : RotR d i (i + 1) (i + 2) (swp d i (i + 1)) := by
  refine ⟨by rw [size_swp], fun x h1 h2 => ?_, fun x h1 h2 => ?_, fun x h1 => ?_⟩
  all_goals
    rw [swp_get d (by omega) (by omega)]
    repeat' split
    all_goals first | (exfalso; omega) | rfl | (congr 1; omega) | (congr 1)
/-- One element is carried up. -/
theorem RotR.up {d D : Array Cd} {a j : Nat} (h : RotR d a (a + 1) (j + 1) D) (ha : a ≤ j) (hj : j + 1 < d.size) : RotR d a (a + 1) (j + 2) (swp D j (j + 1)) := by
  have hz := h.size
  have g := swp_get D (i := j) (j := j + 1) (by omega) (by omega)
  refine ⟨by rw [size_swp, hz], fun x h1 h2 => ?_, fun x h1 h2 => ?_, fun x h1 => ?_⟩
  · rw [g]
    by_cases h3 : x = j
    · rw [if_neg (by omega), if_pos h3, h.out _ (by omega)]
      (try (congr 1; omega))
    · rw [if_neg (by omega), if_neg h3, h.lo x h1 (by omega)]
  · obtain rfl : x = j + 1 := by omega
    rw [g, if_pos rfl, h.hi j (by omega) (by omega)]
    (try (congr 1; omega))
  · rw [g]
    by_cases h3 : x = j + 1
    · omega
    · rw [if_neg h3, if_neg (by omega), h.out x (by omega)]
/-- One element is carried down. -/
theorem RotR.down {d D : Array Cd} {m j : Nat} (h : RotR d (j + 1) m (m + 1) D) (hj : j + 1 ≤ m) (hm : m < d.size) : RotR d j m (m + 1) (swp D (j + 1) j) := by
  have hz := h.size
  have g := swp_get D (i := j + 1) (j := j) (by omega) (by omega)
  refine ⟨by rw [size_swp, hz], fun x h1 h2 => ?_, fun x h1 h2 => ?_, fun x h1 => ?_⟩
  · obtain rfl : x = j := by omega
    rw [g, if_pos rfl, h.lo (x + 1) (by omega) (by omega)]
    (try (congr 1; omega))
  · rw [g, if_neg (by omega)]
    by_cases h3 : x = j + 1
    · rw [if_pos h3, h.out j (by omega)]
      (try (congr 1; omega))
    · rw [if_neg h3, h.hi x (by omega) (by omega)]
      (try (congr 1; omega))
  · rw [g]
    by_cases h3 : x = j
    · omega
    · rw [if_neg h3, if_neg (by omega), h.out x (by omega)]
theorem sr_join {q : Wt} {d : Array Cd} {a m b : Nat} (h1 : SrI q d a m) (h2 : SrI q d m b) (h3 : ∀ i j, a ≤ i → i < m → m ≤ j → j < b → bet q d[j]! d[i]! = false) : SrI q d a b := fun i j q1 q2 q3 => by
  by_cases hj : j < m
  · exact h1 i j q1 q2 hj
  · by_cases hi : i < m
    · exact h3 i j q1 hi (by omega) q3
    · exact h2 i j (by omega) q2 q3
/-- What the exchange of two inner runs leaves. -/
structure MrS (q : Wt) (d : Array Cd) (a s c e b : Nat) (D : Array Cd) : Prop where
  kp : Kp q d D a b
  s1 : SrI q D a s
  s2 : SrI q D s c
  s3 : SrI q D c e
  s4 : SrI q D e b
  le : ∀ i j, a ≤ i → i < c → c ≤ j → j < b → bet q D[j]! D[i]! = false
theorem mrg_rot {q : Wt} {d D : Array Cd} {a s m e b c : Nat} (h1 : SrI q d a m) (h2 : SrI q d m b) (h : RotR d s m e D) (has : a ≤ s) (hsm : s ≤ m) (hme : m ≤ e) (heb : e ≤ b) (hb : b ≤ d.size) (hc : c = s + (e - m))
    (c1 : s = m ∨ m = e ∨ bet q d[e - 1]! d[s]! = true) (c2 : s = a ∨ e = b ∨ bet q d[e]! d[s - 1]! = false) : MrS q d a s c e b D := by
  subst hc
  have st : ∀ i j, s ≤ i → i < m → m ≤ j → j < e → bet q d[j]! d[i]! = true := fun i j q1 q2 q3 q4 => by
    rcases c1 with c1 | c1 | c1
    · omega
    · omega
    · have e1 : bet q d[e - 1]! d[i]! = true := by
        by_cases hi : i = s
        · rw [hi]; exact c1
        · exact bet_tn c1 (h1 s i has (by omega) q2)
      by_cases hj : j = e - 1
      · rw [hj]; exact e1
      · exact bet_nt (h2 j (e - 1) q3 (by omega) (by omega)) e1
  refine ⟨(h.kp hsm hme (by omega) st).wide has heb, ?_, ?_, ?_, ?_, ?_⟩
  · intro i j q1 q2 q3
    rw [h.out i (by omega), h.out j (by omega)]
    exact h1 i j q1 q2 (by omega)
  · intro i j q1 q2 q3
    rw [h.lo i (by omega) (by omega), h.lo j (by omega) (by omega)]
    exact h2 _ _ (by omega) (by omega) (by omega)
  · intro i j q1 q2 q3
    rw [h.hi i (by omega) (by omega), h.hi j (by omega) (by omega)]
    exact h1 _ _ (by omega) (by omega) (by omega)
  · intro i j q1 q2 q3
    rw [h.out i (by omega), h.out j (by omega)]
    exact h2 i j (by omega) q2 (by omega)
  · intro i j q1 q2 q3 q4
    have far : ∀ x y, a ≤ x → x < s → e ≤ y → y < b → bet q d[y]! d[x]! = false := fun x y r1 r2 r3 r4 => by
      rcases c2 with c2 | c2 | c2
      · omega
      · omega
      · have f1 : bet q d[y]! d[s - 1]! = false := by
          by_cases hy : y = e
          · rw [hy]; exact c2
          · exact bet_nn c2 (h2 e y (by omega) (by omega) r4)
        by_cases hx : x = s - 1
        · rw [hx]; exact f1
        · exact bet_nn (h1 x (s - 1) r1 (by omega) (by omega)) f1
    by_cases hi : i < s
    · rw [h.out i (by omega)]
      by_cases hj : j < e
      · rw [h.hi j (by omega) hj]
        exact h1 _ _ q1 (by omega) (by omega)
      · rw [h.out j (by omega)]
        exact far i j q1 hi (by omega) q4
    · rw [h.lo i (by omega) (by omega)]
      by_cases hj : j < e
      · rw [h.hi j (by omega) hj]
        exact bet_anti (st _ _ (by omega) (by omega) (by omega) (by omega))
      · rw [h.out j (by omega)]
        exact h2 _ _ (by omega) (by omega) q4
theorem MrS.join {q : Wt} {d D D2 D3 : Array Cd} {a s c e b : Nat} (h : MrS q d a s c e b D) (hac : a ≤ c) (hcb : c ≤ b) (k1 : Kp q D D2 a c) (r1 : SrI q D2 a c) (k2 : Kp q D2 D3 c b) (r2 : SrI q D3 c b) : Kp q d D3 a b ∧ SrI q D3 a b := by
  refine ⟨h.kp.trans ((k1.wide (Nat.le_refl _) hcb).trans (k2.wide hac (Nat.le_refl _))), sr_join (k2.sr r1 (.inl (Nat.le_refl _))) r2 fun i j q1 q2 q3 q4 => ?_⟩
  obtain ⟨j', p1, p2, e1⟩ := k2.from' j q3 q4
  obtain ⟨i', p3, p4, e2⟩ := k1.from' i q1 q2
  rw [k2.out i (.inl q2), e2, e1, k1.out j' (.inr p1)]
  exact h.le i' j' p3 p4 p1 p2
theorem sr_one {q : Wt} {d : Array Cd} {a b : Nat} (h : b ≤ a + 1) : SrI q d a b := fun i j h1 h2 h3 => by omega
/-- The first run is one element. -/
theorem mrg_up {q : Wt} {d D : Array Cd} {a i b : Nat} (h2 : SrI q d (a + 1) b) (h : RotR d a (a + 1) i D) (hi : a + 1 ≤ i) (hib : i ≤ b) (hb : b ≤ d.size) (c1 : i = a + 1 ∨ bet q d[i - 1]! d[a]! = true) (c2 : i = b ∨ bet q d[i]! d[a]! = false) : Kp q d D a b ∧ SrI q D a b := by
  have hm := mrg_rot (q := q) (a := a) (b := b) (c := a + (i - (a + 1))) (sr_one (by omega)) h2 h (Nat.le_refl _) (by omega) hi hib hb rfl (c1.elim (fun e => .inr (.inl e.symm)) fun e => .inr (.inr e)) (.inl rfl)
  refine ⟨hm.kp, sr_join hm.s2 (m := a + (i - (a + 1))) ?_ hm.le⟩
  refine sr_join hm.s3 hm.s4 fun x y p1 p2 p3 p4 => ?_
  obtain rfl : x = a + (i - (a + 1)) := by omega
  rw [h.hi (a + (i - (a + 1))) (by omega) (by omega), h.out y (by omega)]
  rw [show a + (i - (a + 1)) - (i - (a + 1)) = a by omega]
  rcases c2 with c2 | c2
  · omega
  · by_cases hy : y = i
    · rw [hy]; exact c2
    · exact bet_nn c2 (h2 i y hi (by omega) p4)
/-- The second run is one element. -/
theorem mrg_down {q : Wt} {d D : Array Cd} {a i m : Nat} (h1 : SrI q d a m) (h : RotR d i m (m + 1) D) (hi : a ≤ i) (him : i ≤ m) (hb : m + 1 ≤ d.size) (c1 : i = a ∨ bet q d[m]! d[i - 1]! = false) (c2 : i = m ∨ bet q d[m]! d[i]! = true) : Kp q d D a (m + 1) ∧ SrI q D a (m + 1) := by
  have hm := mrg_rot (q := q) (a := a) (b := m + 1) (c := i + 1) h1 (sr_one (by omega)) h hi him (by omega) (Nat.le_refl _) hb (by omega) (by
    rcases c2 with c2 | c2
    · exact .inl c2
    · exact .inr (.inr (by rw [show m + 1 - 1 = m by omega]; exact c2))) (.inr (.inl rfl))
  refine ⟨hm.kp, sr_join (m := i + 1) (sr_join hm.s1 hm.s2 fun x y p1 p2 p3 p4 => ?_) hm.s3 hm.le⟩
  obtain rfl : y = i := by omega
  rw [h.lo _ (by omega) (by omega), h.out x (by omega), show y + (m - y) = m by omega]
  rcases c1 with c1 | c1
  · omega
  · by_cases hx : x = y - 1
    · rw [hx]; exact c1
    · exact bet_nn (h1 x (y - 1) p1 (by omega) (by omega)) c1
theorem RotR.up' {d D : Array Cd} {a j m : Nat} (hm : (m : Int) - (a : Int) = 1) (h : RotR d a m (j + 1) D) (ha : a ≤ j) (hj : j + 1 < d.size) : RotR d a m (j + 2) (swp D j (j + 1)) := by
  obtain rfl : m = a + 1 := by omega
  exact h.up ha hj
theorem mrg_up' {q : Wt} {d D : Array Cd} {a i b m : Nat} (hm : (m : Int) - (a : Int) = 1) (h2 : SrI q d m b) (h : RotR d a m i D) (hi : m ≤ i) (hib : i ≤ b) (hb : b ≤ d.size) (c1 : i = m ∨ bet q d[i - 1]! d[a]! = true) (c2 : i = b ∨ bet q d[i]! d[a]! = false) : Kp q d D a b ∧ SrI q D a b := by
  obtain rfl : m = a + 1 := by omega
  exact mrg_up h2 h hi hib hb c1 c2
theorem RotR.down' {d D : Array Cd} {m j b : Nat} (hm : (b : Int) - (m : Int) = 1) (h : RotR d (j + 1) m b D) (hj : j + 1 ≤ m) (hs : b ≤ d.size) : RotR d j m b (swp D (j + 1) j) := by
  obtain rfl : b = m + 1 := by omega
  exact h.down hj (by omega)
theorem mrg_down' {q : Wt} {d D : Array Cd} {a i m b : Nat} (hm : (b : Int) - (m : Int) = 1) (h1 : SrI q d a m) (h : RotR d i m b D) (hi : a ≤ i) (him : i ≤ m) (hb : b ≤ d.size) (c1 : i = a ∨ bet q d[m]! d[i - 1]! = false) (c2 : i = m ∨ bet q d[m]! d[i]! = true) : Kp q d D a b ∧ SrI q D a b := by
  obtain rfl : b = m + 1 := by omega
  exact mrg_down h1 h hi him hb c1 c2
end Go.Proofs.Ytmhpgkkaolcncaa
