/-
  Stable sorting of candidates in place: what an exchange of two neighbouring runs keeps, merging by halves.
-/
import Derived.Test.YtmhpgkkaolcncaaRkMath
import Derived.Sort.LotA
namespace Go.Proofs.Ytmhpgkkaolcncaa
open Go.RowKit Go.Sort
set_option linter.unusedVariables false
set_option maxRecDepth 1000000

instance : Inhabited Cd := ⟨⟨0, 0, 0, false, 0, false⟩⟩
theorem bet_nn {w : Wt} {a b c : Cd} (h1 : bet w b a = false) (h2 : bet w c b = false) : bet w c a = false := by rw [bet_iff'] at *; omega
theorem bet_nt {w : Wt} {a b c : Cd} (h1 : bet w b a = false) (h2 : bet w b c = true) : bet w a c = true := by rw [bet_iff'] at h1; rw [bet_iff] at *; omega
theorem bet_tn {w : Wt} {a b c : Cd} (h1 : bet w a b = true) (h2 : bet w c b = false) : bet w a c = true := bet_neg h1 h2
theorem insC_comm {w : Wt} {x y : Cd} (h : bet w y x = true) : ∀ t : List Cd, insC w x (insC w y t) = insC w y (insC w x t)
  | [] => by
    show insC w x [y] = insC w y [x]
    unfold insC
    rw [if_pos h, if_neg (by rw [bet_anti h]; simp)]
    rfl
  | z :: ts => by
    have ih := insC_comm h ts
    by_cases h1 : bet w z y = true
    · have h2 : bet w z x = true := bet_trans h1 h
      have e1 : insC w y (z :: ts) = z :: insC w y ts := by conv => lhs; unfold insC
                                                            rw [if_pos h1]
      have e2 : insC w x (z :: ts) = z :: insC w x ts := by conv => lhs; unfold insC
                                                            rw [if_pos h2]
      have e3 : ∀ l, insC w x (z :: l) = z :: insC w x l := fun l => by conv => lhs; unfold insC
                                                                        rw [if_pos h2]
      have e4 : ∀ l, insC w y (z :: l) = z :: insC w y l := fun l => by conv => lhs; unfold insC
                                                                        rw [if_pos h1]
      rw [e1, e2, e3, e4, ih]
    · have e1 : ∀ l, insC w y (z :: l) = y :: z :: l := fun l => by conv => lhs; unfold insC
                                                                    rw [if_neg h1]
      have e2 : ∀ l, insC w x (y :: l) = y :: insC w x l := fun l => by conv => lhs; unfold insC
                                                                        rw [if_pos h]
      rw [e1, e2]
      by_cases h2 : bet w z x = true
      · have e3 : insC w x (z :: ts) = z :: insC w x ts := by conv => lhs; unfold insC
                                                              rw [if_pos h2]
        rw [e3, e1]
      · have e3 : insC w x (z :: ts) = x :: z :: ts := by conv => lhs; unfold insC
                                                          rw [if_neg h2]
        rw [e3]
        conv => rhs; unfold insC
        rw [if_neg (by rw [bet_anti h]; simp)]
theorem srtC_app (w : Wt) (u s : List Cd) : srtC w (u ++ s) = u.foldr (insC w) (srtC w s) := by
  induction u with
  | nil => rfl
  | cons x u ih => show insC w x (srtC w (u ++ s)) = _; rw [ih]; rfl
theorem foldr_insC {w : Wt} {x : Cd} : ∀ {v : List Cd}, (∀ y ∈ v, bet w y x = true) → ∀ t, insC w x (v.foldr (insC w) t) = v.foldr (insC w) (insC w x t)
  | [], _, t => rfl
  | y :: v, h, t => by
    show insC w x (insC w y (v.foldr (insC w) t)) = insC w y (v.foldr (insC w) (insC w x t))
    rw [insC_comm (h y (by simp)), foldr_insC fun z hz => h z (by simp [hz])]
/-- Two runs that stand side by side, each of the second ahead of each of the first: exchanged, they have the same order. -/
theorem srtC_block {w : Wt} (p u v s : List Cd) (h : ∀ x ∈ u, ∀ y ∈ v, bet w y x = true) : srtC w (p ++ (v ++ (u ++ s))) = srtC w (p ++ (u ++ (v ++ s))) := by
  rw [srtC_app, srtC_app w p]
  congr 1
  rw [srtC_app, srtC_app, srtC_app, srtC_app]
  induction u with
  | nil => rfl
  | cons x u ih =>
    show v.foldr (insC w) (insC w x (u.foldr (insC w) _)) = insC w x (u.foldr (insC w) _)
    rw [← foldr_insC (h x (by simp)), ih fun z hz => h z (by simp [hz])]
theorem srtC_id {w : Wt} : ∀ {l : List Cd}, l.Pairwise (fun a b => bet w b a = false) → srtC w l = l
  | [], _ => rfl
  | x :: l, h => by
    rw [List.pairwise_cons] at h
    show insC w x (srtC w l) = _
    rw [srtC_id h.2, insC_first h.1]

/-- In order between two places. -/
def SrI (w : Wt) (d : Array Cd) (a b : Nat) : Prop := ∀ i j, a ≤ i → i < j → j < b → bet w d[j]! d[i]! = false
/-- A step of the sort between two places. -/
structure Kp (w : Wt) (d d' : Array Cd) (a b : Nat) : Prop where
  size : d'.size = d.size
  same : srtC w d'.toList = srtC w d.toList
  out : ∀ i, i < a ∨ b ≤ i → d'[i]! = d[i]!
  from' : ∀ i, a ≤ i → i < b → ∃ j, a ≤ j ∧ j < b ∧ d'[i]! = d[j]!
theorem Kp.refl (w : Wt) (d : Array Cd) (a b : Nat) : Kp w d d a b := ⟨rfl, rfl, fun _ _ => rfl, fun i h1 h2 => ⟨i, h1, h2, rfl⟩⟩
theorem Kp.trans {w : Wt} {d d' d'' : Array Cd} {a b : Nat} (h1 : Kp w d d' a b) (h2 : Kp w d' d'' a b) : Kp w d d'' a b :=
  ⟨h2.size.trans h1.size, h2.same.trans h1.same, fun i hi => (h2.out i hi).trans (h1.out i hi), fun i q1 q2 => by
    obtain ⟨j, j1, j2, e⟩ := h2.from' i q1 q2
    obtain ⟨k, k1, k2, e'⟩ := h1.from' j j1 j2
    exact ⟨k, k1, k2, e.trans e'⟩⟩
theorem Kp.wide {w : Wt} {d d' : Array Cd} {a b a' b' : Nat} (h : Kp w d d' a b) (ha : a' ≤ a) (hb : b ≤ b') : Kp w d d' a' b' :=
  ⟨h.size, h.same, fun i hi => h.out i (by omega), fun i q1 q2 => by
    by_cases hi : a ≤ i ∧ i < b
    · obtain ⟨j, j1, j2, e⟩ := h.from' i hi.1 hi.2
      exact ⟨j, by omega, by omega, e⟩
    · exact ⟨i, q1, q2, h.out i (by omega)⟩⟩
theorem Kp.sr {w : Wt} {d d' : Array Cd} {a b x y : Nat} (h : Kp w d d' a b) (hs : SrI w d x y) (ho : y ≤ a ∨ b ≤ x) : SrI w d' x y := fun i j h1 h2 h3 => by
  rw [h.out i (by omega), h.out j (by omega)]
  exact hs i j h1 h2 h3
/-- The runs from a to m and from m to b exchanged. -/
structure RotR (d : Array Cd) (a m b : Nat) (d' : Array Cd) : Prop where
  size : d'.size = d.size
  lo : ∀ x, a ≤ x → x < a + (b - m) → d'[x]! = d[x + (m - a)]!
  hi : ∀ x, a + (b - m) ≤ x → x < b → d'[x]! = d[x - (b - m)]!
  out : ∀ x, x < a ∨ b ≤ x → d'[x]! = d[x]!
theorem RotR.nil (d : Array Cd) {a m b : Nat} (h : a = m ∨ m = b) (ha : a ≤ m) (hb : m ≤ b) : RotR d a m b d :=
  ⟨rfl, fun x h1 h2 => by
    rcases h with rfl | rfl
    · rw [show x + (a - a) = x by omega]
    · omega, fun x h1 h2 => by
    rcases h with rfl | rfl
    · omega
    · rw [show x - (m - m) = x by omega], fun x h => rfl⟩
theorem toList_get (d : Array Cd) {i : Nat} (h : i < d.size) : d.toList[i]? = some d[i]! := by
  rw [Array.getElem?_toList, Array.getElem?_eq_getElem h, getElem!_pos d i h]
theorem list_parts {d : Array Cd} {a m b : Nat} (ha : a ≤ m) (hb : m ≤ b) (hs : b ≤ d.size) : d.toList = d.toList.take a ++ ((d.toList.drop a).take (m - a) ++ ((d.toList.drop m).take (b - m) ++ d.toList.drop b)) := by
  have e1 : (d.toList.drop m).take (b - m) ++ d.toList.drop b = d.toList.drop m := by
    have := List.take_append_drop (b - m) (d.toList.drop m)
    rwa [List.drop_drop, show m + (b - m) = b by omega] at this
  have e2 : (d.toList.drop a).take (m - a) ++ d.toList.drop m = d.toList.drop a := by
    have := List.take_append_drop (m - a) (d.toList.drop a)
    rwa [List.drop_drop, show a + (m - a) = m by omega] at this
  rw [e1, e2, List.take_append_drop]
theorem seg_eq {d d' : Array Cd} {a a' n : Nat} (h1 : a + n ≤ d.size) (h2 : a' + n ≤ d'.size) (h : ∀ x, x < n → d'[a' + x]! = d[a + x]!) : (d'.toList.drop a').take n = (d.toList.drop a).take n := by
  apply List.ext_getElem?
  intro x
  by_cases hx : x < n
  · rw [List.getElem?_take_of_lt hx, List.getElem?_take_of_lt hx, List.getElem?_drop, List.getElem?_drop, toList_get d' (by omega), toList_get d (by omega), h x hx]
  · rw [List.getElem?_take_eq_none (by omega), List.getElem?_take_eq_none (by omega)]
theorem RotR.kp {w : Wt} {d d' : Array Cd} {a m b : Nat} (h : RotR d a m b d') (ha : a ≤ m) (hb : m ≤ b) (hs : b ≤ d.size) (hbt : ∀ i j, a ≤ i → i < m → m ≤ j → j < b → bet w d[j]! d[i]! = true) : Kp w d d' a b := by
  refine ⟨h.size, ?_, h.out, fun i q1 q2 => ?_⟩
  · have e := list_parts ha hb hs
    have e' := list_parts (d := d') (a := a) (m := a + (b - m)) (b := b) (by omega) (by omega) (by rw [h.size]; exact hs)
    have s0 : d'.toList.take a = d.toList.take a := by
      have := seg_eq (d := d) (d' := d') (a := 0) (a' := 0) (n := a) (by omega) (by rw [h.size]; omega) (fun x hx => by simpa using h.out x (.inl hx))
      simpa using this
    have s1 : (d'.toList.drop a).take (a + (b - m) - a) = (d.toList.drop m).take (b - m) := by
      rw [show a + (b - m) - a = b - m by omega]
      exact seg_eq (by omega) (by rw [h.size]; omega) (fun x hx => by rw [h.lo (a + x) (by omega) (by omega)]; congr 1; omega)
    have s2 : (d'.toList.drop (a + (b - m))).take (b - (a + (b - m))) = (d.toList.drop a).take (m - a) := by
      rw [show b - (a + (b - m)) = m - a by omega]
      exact seg_eq (by omega) (by rw [h.size]; omega) (fun x hx => by rw [h.hi (a + (b - m) + x) (by omega) (by omega)]; congr 1; omega)
    have s3 : d'.toList.drop b = d.toList.drop b := by
      have := seg_eq (d := d) (d' := d') (a := b) (a' := b) (n := d.size - b) (by omega) (by rw [h.size]; omega) (fun x hx => h.out (b + x) (.inr (by omega)))
      have l1 : (d.toList.drop b).length = d.size - b := by simp
      have l2 : (d'.toList.drop b).length = d.size - b := by simp [h.size]
      rwa [List.take_of_length_le (by omega), List.take_of_length_le (by omega)] at this
    rw [s0, s1, s2, s3] at e'
    refine ((congrArg (srtC w) e').trans (srtC_block _ _ _ _ fun x hx y hy => ?_)).trans (congrArg (srtC w) e.symm)
    obtain ⟨i, hi, rfl⟩ := List.getElem_of_mem hx
    obtain ⟨j, hj, rfl⟩ := List.getElem_of_mem hy
    have hi' := hi
    have hj' := hj
    simp only [List.length_take, List.length_drop] at hi' hj'
    have gx : ((d.toList.drop a).take (m - a))[i]? = some d[a + i]! := by rw [List.getElem?_take_of_lt (by omega), List.getElem?_drop, toList_get d (by omega)]
    have gy : ((d.toList.drop m).take (b - m))[j]? = some d[m + j]! := by rw [List.getElem?_take_of_lt (by omega), List.getElem?_drop, toList_get d (by omega)]
    rw [List.getElem?_eq_getElem hi] at gx
    rw [List.getElem?_eq_getElem hj] at gy
    injection gx with gx
    injection gy with gy
    rw [gx, gy]
    exact hbt (a + i) (m + j) (by omega) (by omega) (by omega) (by omega)
  · by_cases hx : i < a + (b - m)
    · exact ⟨i + (m - a), by omega, by omega, h.lo i q1 hx⟩
    · exact ⟨i - (b - m), by omega, by omega, h.hi i (by omega) q2⟩
end Go.Proofs.Ytmhpgkkaolcncaa
