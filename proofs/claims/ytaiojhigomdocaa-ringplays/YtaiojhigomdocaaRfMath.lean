/-
  The document's order: the nearest of those that are left, one by one; that the program's order is the same.
-/
import Derived.Test.YtaiojhigomdocaaRfHas
namespace Go.Proofs.Ytaiojhigomdocaa
open Go.RowKit Go.Maps Go.Shelf Go.Sort
set_option linter.unusedVariables false
set_option maxRecDepth 1000000

/-- Nearer, of like ones the lesser. -/
def nlt (nr : Int → Int) (y z : Int) : Prop := nr y < nr z ∨ nr y = nr z ∧ y < z
/-- What is chosen so far. -/
structure Sel (l : List Int) (nr : Int → Int) (j : Nat) (out : List Int) (bs : List Bool) : Prop where
  len : out.length = j
  pw : out.Pairwise (nlt nr)
  sub : ∀ y ∈ out, y ∈ l
  met : ∀ i y, l[i]? = some y → (mt bs i = true ↔ y ∈ out)
  fst : ∀ y ∈ out, ∀ z ∈ l, z ∉ out → nlt nr y z
  bl : bs.length = l.length
theorem Sel.zero (l : List Int) (nr : Int → Int) : Sel l nr 0 [] (List.replicate l.length false) :=
  ⟨rfl, List.Pairwise.nil, by simp, fun i y h => by simp [mt, List.getElem?_replicate]; split <;> simp, by simp, by simp⟩
/-- The best of the first i. -/
def Bst (l : List Int) (nr : Int → Int) (bs : List Bool) (i : Nat) (best far : Int) : Prop :=
  (best = -1 ∧ ∀ i' z, i' < i → l[i']? = some z → mt bs i' = true) ∨ ∃ (b : Nat) (y : Int), best = b ∧ b < i ∧ mt bs b = false ∧ l[b]? = some y ∧ far = nr y ∧ ∀ i' z, i' < i → l[i']? = some z → mt bs i' = false → i' ≠ b → nlt nr y z
theorem Bst.zero (l : List Int) (nr : Int → Int) (bs : List Bool) : Bst l nr bs 0 (-1) 0 := .inl ⟨rfl, fun i' z h => by omega⟩
theorem Bst.skip {l : List Int} {nr : Int → Int} {bs : List Bool} {i : Nat} {best far : Int} (h : Bst l nr bs i best far) (hm : mt bs i = true) : Bst l nr bs (i + 1) best far := by
  rcases h with ⟨e, h⟩ | ⟨b, y, e, hb, h1, h2, h3, h4⟩
  · refine .inl ⟨e, fun i' z hi hz => ?_⟩
    by_cases e2 : i' = i
    · rw [e2]; exact hm
    · exact h i' z (by omega) hz
  · refine .inr ⟨b, y, e, by omega, h1, h2, h3, fun i' z hi hz hf hne => ?_⟩
    by_cases e2 : i' = i
    · rw [e2, hm] at hf; cases hf
    · exact h4 i' z (by omega) hz hf hne
theorem Bst.first {l : List Int} {nr : Int → Int} {bs : List Bool} {i : Nat} {far : Int} (h : Bst l nr bs i (-1) far) {y : Int} (hy : l[i]? = some y) (hm : mt bs i = false) : Bst l nr bs (i + 1) i (nr y) := by
  rcases h with ⟨e, h⟩ | ⟨b, y, e, _⟩
  · refine .inr ⟨i, y, rfl, by omega, hm, hy, rfl, fun i' z hi hz hf hne => ?_⟩
    rw [h i' z (by omega) hz] at hf
    cases hf
  · omega
theorem Bst.less {l : List Int} {nr : Int → Int} {bs : List Bool} {i b : Nat} {far : Int} (h : Bst l nr bs i (b : Int) far) {y : Int} (hy : l[i]? = some y) (hm : mt bs i = false) (hd : nr y < far) : Bst l nr bs (i + 1) i (nr y) := by
  rcases h with ⟨e, h⟩ | ⟨b', y', e, hb, h1, h2, h3, h4⟩
  · omega
  · refine .inr ⟨i, y, rfl, by omega, hm, hy, rfl, fun i' z hi hz hf hne => ?_⟩
    by_cases e2 : i' = b'
    · subst e2
      rw [h2] at hz
      obtain rfl : y' = z := by simpa using hz
      left; omega
    · have := h4 i' z (by omega) hz hf e2
      unfold nlt at this ⊢
      omega
theorem Bst.keep {l : List Int} {nr : Int → Int} {bs : List Bool} {i b : Nat} {far : Int} (hl : l.Pairwise (· < ·)) (h : Bst l nr bs i (b : Int) far) {y : Int} (hy : l[i]? = some y) (hd : ¬ nr y < far) : Bst l nr bs (i + 1) b far := by
  rcases h with ⟨e, h⟩ | ⟨b', y', e, hb, h1, h2, h3, h4⟩
  · omega
  · refine .inr ⟨b', y', e, by omega, h1, h2, h3, fun i' z hi hz hf hne => ?_⟩
    by_cases e2 : i' = i
    · subst e2
      rw [hy] at hz
      obtain rfl : y = z := by simpa using hz
      have hlt : y' < y := by
        obtain ⟨q1, q2⟩ := List.getElem?_eq_some_iff.1 h2
        obtain ⟨q3, q4⟩ := List.getElem?_eq_some_iff.1 hy
        have := List.pairwise_iff_getElem.1 hl b' i' q1 q3 hb
        rw [q2, q4] at this
        exact this
      unfold nlt
      omega
    · exact h4 i' z (by omega) hz hf hne
theorem rise_inj {l : List Int} (hl : l.Pairwise (· < ·)) {i j : Nat} {y : Int} (h1 : l[i]? = some y) (h2 : l[j]? = some y) : i = j := by
  obtain ⟨q1, q2⟩ := List.getElem?_eq_some_iff.1 h1
  obtain ⟨q3, q4⟩ := List.getElem?_eq_some_iff.1 h2
  rcases Nat.lt_trichotomy i j with h | h | h
  · have := List.pairwise_iff_getElem.1 hl i j q1 q3 h
    rw [q2, q4] at this; omega
  · exact h
  · have := List.pairwise_iff_getElem.1 hl j i q3 q1 h
    rw [q2, q4] at this; omega
theorem nlt_irr (nr : Int → Int) (y : Int) : ¬ nlt nr y y := by unfold nlt; omega
theorem nlt_nodup {nr : Int → Int} {out : List Int} (h : out.Pairwise (nlt nr)) : out.Nodup := by
  unfold List.Nodup
  refine h.imp fun {a b} hab e => ?_
  subst e
  exact nlt_irr nr a hab
theorem rise_nodup {l : List Int} (h : l.Pairwise (· < ·)) : l.Nodup := by
  unfold List.Nodup
  refine h.imp fun {a b} hab e => ?_
  omega
/-- There is one that is left. -/
theorem Sel.found {l : List Int} {nr : Int → Int} {j : Nat} {out : List Int} {bs : List Bool} (h : Sel l nr j out bs) (hl : l.Pairwise (· < ·)) (hj : j < l.length) {best far : Int} (hb : Bst l nr bs l.length best far) :
    ∃ (b : Nat) (y : Int), best = b ∧ b < l.length ∧ l[b]? = some y ∧ Sel l nr (j + 1) (out ++ [y]) (bs.set b true) := by
  rcases hb with ⟨e, hb⟩ | ⟨b, y, e, hb, h1, h2, h3, h4⟩
  · exfalso
    have hsub : ∀ x ∈ l, x ∈ out := fun x hx => by
      obtain ⟨i, hi⟩ := List.getElem?_of_mem hx
      exact (h.met i x hi).1 (hb i x (List.getElem?_eq_some_iff.1 hi).1 hi)
    have := nodup_len l out (rise_nodup hl) hsub
    have := h.len
    omega
  · have hy : y ∉ out := fun hh => by
      have := (h.met b y h2).2 hh
      rw [h1] at this
      cases this
    refine ⟨b, y, e, hb, h2, by rw [List.length_append, h.len]; rfl, ?_, ?_, ?_, ?_, by simp [h.bl]⟩
    · refine List.pairwise_append.2 ⟨h.pw, by simp, fun a ha c hc => ?_⟩
      simp at hc
      subst hc
      exact h.fst a ha c (List.mem_of_getElem? h2) hy
    · intro z hz
      simp at hz
      rcases hz with hz | rfl
      · exact h.sub z hz
      · exact List.mem_of_getElem? h2
    · intro i z hz
      by_cases ei : i = b
      · subst ei
        rw [h2] at hz
        obtain rfl : y = z := by simpa using hz
        have hlt : i < bs.length := by rw [h.bl]; exact hb
        simp [mt, hlt]
      · have hne : z ≠ y := fun ez => ei (rise_inj hl (ez ▸ hz) h2)
        have hm : mt (bs.set b true) i = mt bs i := by
          unfold mt
          rw [List.getElem?_set_ne (fun h => ei h.symm)]
        rw [hm, h.met i z hz]
        simp [hne]
    · intro a ha z hz hno
      simp at ha hno
      rcases ha with ha | rfl
      · exact h.fst a ha z hz hno.1
      · obtain ⟨i, hi⟩ := List.getElem?_of_mem hz
        have hf : mt bs i = false := by
          cases hb3 : mt bs i with
          | false => rfl
          | true => exact absurd ((h.met i z hi).1 hb3) hno.1
        refine h4 i z (List.getElem?_eq_some_iff.1 hi).1 hi hf fun e2 => ?_
        rw [e2, h2] at hi
        exact hno.2 (by simpa using hi.symm)
theorem nlt_anti {nr : Int → Int} {a b : Int} (h1 : nlt nr a b) (h2 : nlt nr b a) : a = b := by unfold nlt at *; omega
/-- All chosen: the one list that is so. -/
theorem Sel.all {l : List Int} {nr : Int → Int} {out : List Int} {bs : List Bool} (h : Sel l nr l.length out bs) (hl : l.Pairwise (· < ·)) {R : List Int} (hR : R.Pairwise (nlt nr)) (hp : R.Perm l) : out = R := by
  have hnd := nlt_nodup h.pw
  have hp2 : out.Perm l := (List.perm_ext_iff_of_nodup hnd (rise_nodup hl)).2 fun y => ⟨h.sub y, sub_all out l hnd h.sub (by rw [h.len]; exact Nat.le_refl _) y⟩
  exact List.Perm.eq_of_pairwise (fun a b _ _ q1 q2 => nlt_anti q1 q2) h.pw hR (hp2.trans hp.symm)
/-- The program's order is the same. -/
def dlt (q : Int) (p r : Int × Int) : Prop := dstZ q p.1 < dstZ q r.1 ∨ dstZ q p.1 = dstZ q r.1 ∧ p.2 < r.2
theorem snoc_ind2 {α : Type} {p : List α → Prop} (h0 : p []) (h1 : ∀ ys y, p ys → p (ys ++ [y])) (ys : List α) : p ys := by
  have h : ∀ zs : List α, p zs.reverse := by
    intro zs
    induction zs with
    | nil => exact h0
    | cons z zs ih => rw [List.reverse_cons]; exact h1 _ _ ih
  have := h ys.reverse
  rwa [List.reverse_reverse] at this
theorem frs_first (q : Int) (R : List (Int × Int)) : R.Pairwise (fun x y => ¬ dlt q y x) → (frs (R.map (·.2))).Pairwise fun a b => ∃ p ∈ R, p.2 = a ∧ ∀ r ∈ R, r.2 = b → ¬ dlt q r p := by
  refine snoc_ind2 (p := fun R => R.Pairwise (fun x y => ¬ dlt q y x) → (frs (R.map (·.2))).Pairwise fun a b => ∃ p ∈ R, p.2 = a ∧ ∀ r ∈ R, r.2 = b → ¬ dlt q r p) ?_ ?_ R
  · intro _
    simp [frs]
  · intro R z ih h
    rw [List.pairwise_append] at h
    have ih := ih h.1
    have hz : ∀ p ∈ R, ¬ dlt q z p := fun p hp => h.2.2 p hp z (by simp)
    have old : (frs (R.map (·.2))).Pairwise fun a b => ∃ p ∈ R ++ [z], p.2 = a ∧ ∀ r ∈ R ++ [z], r.2 = b → ¬ dlt q r p := by
      refine ih.imp fun {a b} hh => ?_
      obtain ⟨p, hp, e, hr⟩ := hh
      refine ⟨p, by simp [hp], e, fun r hr2 er => ?_⟩
      simp at hr2
      rcases hr2 with hr2 | rfl
      · exact hr r hr2 er
      · exact hz p hp
    rw [List.map_append]
    show (frs (R.map (·.2) ++ [z.2])).Pairwise _
    rw [frs_snoc]
    split
    · exact old
    · rename_i hno
      refine List.pairwise_append.2 ⟨old, by simp, fun a ha b hb => ?_⟩
      simp at hb
      subst hb
      rw [frs_mem, List.mem_map] at ha
      obtain ⟨p, hp, rfl⟩ := ha
      refine ⟨p, by simp [hp], rfl, fun r hr er => ?_⟩
      simp at hr
      rcases hr with hr | rfl
      · exact absurd ((frs_mem _ _).2 (List.mem_map.2 ⟨r, hr, er⟩)) hno
      · exact hz p hp
theorem dst_u (q a : Int) : dstZ q a = (a - q) % 18446744073709551616 := by unfold dstZ; rw [IntKind.wrap_u64]
theorem rot_srt {P : List (Int × Int)} (h : P.Pairwise fun x y => ¬ ptlt y x) {q : Int} (hq : isU q) (hP : ∀ p ∈ P, isU p.1 ∧ isU p.2) : (rotP P (cntP P (q, 0))).Pairwise fun x y => ¬ dlt q y x := by
  unfold rotP
  rw [(take_cnt h).1, (take_cnt h).2]
  unfold isU at hq hP
  refine List.pairwise_append.2 ⟨?_, ?_, ?_⟩
  · refine List.Pairwise.imp_of_mem (fun {a b} ha hb hab => ?_) (h.filter _)
    simp only [List.mem_filter, decide_eq_true_eq] at ha hb
    have h1 := hP a ha.1
    have h2 := hP b hb.1
    have h3 := ha.2
    have h4 := hb.2
    unfold dlt
    rw [dst_u, dst_u]
    unfold ptlt at *
    simp only at *
    omega
  · refine List.Pairwise.imp_of_mem (fun {a b} ha hb hab => ?_) (h.filter _)
    simp only [List.mem_filter, decide_eq_true_eq] at ha hb
    have h1 := hP a ha.1
    have h2 := hP b hb.1
    have h3 := ha.2
    have h4 := hb.2
    unfold dlt
    rw [dst_u, dst_u]
    unfold ptlt at *
    simp only at *
    omega
  · intro a ha b hb
    simp only [List.mem_filter, decide_eq_true_eq] at ha hb
    have h1 := hP a ha.1
    have h2 := hP b hb.1
    have h3 := ha.2
    have h4 := hb.2
    unfold dlt
    rw [dst_u, dst_u]
    unfold ptlt at *
    simp only at *
    omega
theorem nearK_le (sd q : Int) : ∀ (m k : Nat), k ≤ m → nearK sd q m ≤ dstZ q (atZ sd (k : Int))
  | 0, k, h => by
    obtain rfl : k = 0 := by omega
    exact Int.le_refl _
  | m + 1, k, h => by
    by_cases e : k = m + 1
    · subst e
      exact Int.min_le_right _ _
    · exact Int.le_trans (Int.min_le_left _ _) (nearK_le sd q m k (by omega))
theorem nearK_at (sd q : Int) : ∀ m : Nat, ∃ k : Nat, k ≤ m ∧ nearK sd q m = dstZ q (atZ sd (k : Int))
  | 0 => ⟨0, Nat.le_refl _, rfl⟩
  | m + 1 => by
    obtain ⟨k, hk, e⟩ := nearK_at sd q m
    rcases Int.le_total (nearK sd q m) (dstZ q (atZ sd ((m + 1 : Nat) : Int))) with h | h
    · exact ⟨k, by omega, by rw [← e]; exact Int.min_eq_left h⟩
    · exact ⟨m + 1, Nat.le_refl _, Int.min_eq_right h⟩
theorem near_le {s : Int} {e : Nat} {x q : Int} (he : 1 ≤ e) {p : Int × Int} (hp : p ∈ ptsOf s e x) : nearZ s e x q ≤ dstZ q p.1 := by
  simp [ptsOf] at hp
  obtain ⟨k, hk, rfl⟩ := hp
  exact nearK_le _ _ _ k (by omega)
theorem near_at {s : Int} {e : Nat} {x q : Int} (he : 1 ≤ e) : ∃ p ∈ ptsOf s e x, nearZ s e x q = dstZ q p.1 := by
  obtain ⟨k, hk, h⟩ := nearK_at (deriveZ s [x]) q (e - 1)
  exact ⟨(atZ (deriveZ s [x]) (k : Int), x), by simp [ptsOf]; exact ⟨k, by omega, rfl⟩, h⟩
/-- The program's order is by what is nearest. -/
theorem ordL_near {W : World} {B : Nat} {s : Int} {e M : Nat} {v : Value} {L : List Int} {P : List (Int × Int)} (h : RnAt W B s e M v L P) (x : Int) : (ordL s P x).Pairwise (nlt fun y => nearZ s e y (atZ s x)) := by
  have hq : isU (atZ s x) := at_bd s x
  have hP : ∀ p ∈ P, isU p.1 ∧ isU p.2 := fun p hp => by
    refine ⟨?_, h.us _ (nodes_in h hp)⟩
    have := h.perm.mem_iff.1 hp
    rw [List.mem_flatMap] at this
    obtain ⟨y, _, hy⟩ := this
    simp [ptsOf] at hy
    obtain ⟨k, _, rfl⟩ := hy
    exact at_bd _ _
  have hmem : ∀ p, p ∈ rotP P (cntP P (atZ s x, 0)) → p ∈ ptsOf s e p.2 := fun p hp => by
    have := h.perm.mem_iff.1 (rot_mem.1 hp)
    rw [List.mem_flatMap] at this
    obtain ⟨y, _, hy⟩ := this
    rw [ptsOf_snd hy]
    exact hy
  have hf := frs_first (atZ s x) _ (rot_srt h.srt hq hP)
  have hnd : (ordL s P x).Nodup := frs_nodup _
  refine List.Pairwise.imp_of_mem (S := nlt fun y => nearZ s e y (atZ s x)) (fun {a b} ha hb hab => ?_) (hf.and hnd)
  obtain ⟨⟨p, hp, rfl, hr⟩, hne⟩ := hab
  have h1 := near_le (q := atZ s x) h.each.1 (hmem p hp)
  obtain ⟨r, hr1, hr2⟩ := near_at (s := s) (e := e) (x := b) (q := atZ s x) h.each.1
  have hbL : b ∈ L := (ordL_all h).1 hb
  have hrR : r ∈ rotP P (cntP P (atZ s x, 0)) := rot_mem.2 (h.perm.mem_iff.2 (List.mem_flatMap.2 ⟨b, hbL, hr1⟩))
  have h2 := hr r hrR (ptsOf_snd hr1)
  have h3 := ptsOf_snd hr1
  unfold dlt at h2
  unfold nlt
  simp only
  rw [hr2]
  rw [h3] at h2
  have hne' : p.2 ≠ b := hne
  omega
end Go.Proofs.Ytaiojhigomdocaa
