/-
  The mathematics of messages: which may be, as the program and as the document tell it; a message's load; the message of a load; that each leads back to the other.
-/
import Derived.Test.YtlcfjhlchpeedaaFrames
import Derived.Test.YtlcfjhlchpeedaaNumsOf
import Derived.Test.YtlcfjhlchpeedaaWiths
namespace Go.Proofs.Ytlcfjhlchpeedaa
open M
set_option linter.unusedVariables false

/-- The message of a kind whose fields are 0. -/
def zeroM (k : Int) : Mg := ⟨k, 0, 0, 0, 0, 0, 0, 0, 0, 0, [], []⟩
/-- A message with the field of a letter of another one. -/
def keepC (m out : Mg) (c : Int) : Mg :=
  if c = 115 then { out with st := m.st } else if c = 101 then { out with se := m.se } else if c = 97 then { out with ate := m.ate } else if c = 105 then { out with inc := m.inc } else if c = 110 then { out with n := m.n }
  else if c = 99 then { out with cnt := m.cnt } else if c = 119 then { out with why := m.why } else if c = 106 then { out with seed := m.seed, most := m.most, pr := m.pr } else if c = 108 then { out with li := m.li } else out

/-- May a message be, as the program tells it. -/
def mayA (m : Mg) : Bool := !(lettersF m.kind).isEmpty && ((lettersF m.kind).all (mayC m) && sameB ((lettersF m.kind).foldl wo m) (zeroM m.kind))
/-- May a message be, as the document tells it. -/
def mayR (m : Mg) : Bool :=
  decide ((1 ≤ m.kind ∧ m.kind ≤ 12) ∧ (0 ≤ m.why ∧ m.why ≤ 255) ∧ (0 ≤ m.most ∧ m.most ≤ 256) ∧ toksB m.pr = true ∧ toksB m.li = true) && sameB ((lettersF m.kind).foldl (keepC m) (zeroM m.kind)) m
theorem toksB_nil : toksB [] = true := rfl

theorem may_eq (m : Mg) : mayA m = mayR m := by
  rw [Bool.eq_iff_iff]
  obtain ⟨k, st, se, ate, inc, n, cnt, why, seed, most, pr, li⟩ := m
  unfold mayA mayR
  rcases kind_cases k with h1 | h1 | rfl | rfl | rfl | rfl | rfl | rfl | rfl | rfl | rfl | rfl | rfl | rfl
  · simp [lettersF_none (.inl h1)]; omega
  · simp [lettersF_none (.inr h1)]; omega
  all_goals
    simp [lettersF, wo, keepC, mayC, sameB, zeroM]
    try constructor
    all_goals
      intro h
      first
        | (simp_all [toksB_nil]; done)
        | (simp_all; omega)

/-- The numbers of 64 bits without a sign fit. -/
structure Fits (m : Mg) : Prop where
  st : 0 ≤ m.st ∧ m.st ≤ 18446744073709551615
  se : 0 ≤ m.se ∧ m.se ≤ 18446744073709551615
  ate : 0 ≤ m.ate ∧ m.ate ≤ 18446744073709551615
  inc : 0 ≤ m.inc ∧ m.inc ≤ 18446744073709551615
  n : 0 ≤ m.n ∧ m.n ≤ 18446744073709551615
  cnt : 0 ≤ m.cnt ∧ m.cnt ≤ 18446744073709551615
  seed : 0 ≤ m.seed ∧ m.seed ≤ 18446744073709551615
theorem zeroM_fits (k : Int) : Fits (zeroM k) := by constructor <;> simp [zeroM]

/-- A load's numbers, and the load. -/
def loadN (m : Mg) : List Int := m.kind :: (lettersF m.kind).flatMap (numsC m)
def loadF (m : Mg) : List Int := encsZ (loadN m)

/-- The next number that is at most so great, what is behind it, and the first error. -/
def numF (zs : List Int) (e most : Int) : Int × List Int × Int :=
  if e ≠ 0 then (0, zs, e) else if (getF zs 0 0).2.2 ≠ 0 then (0, zs, (getF zs 0 0).2.2) else if most < (getF zs 0 0).1 then (0, zs, 1) else ((getF zs 0 0).1, zs.drop (getF zs 0 0).2.1.toNat, 0)
def toksF : Nat → List Int → Int → List Int × List Int × Int
  | 0, zs, e => ([], zs, e)
  | k + 1, zs, e => ((numF zs e 63).1 :: (toksF k (numF zs e 63).2.1 (numF zs e 63).2.2).1, (toksF k (numF zs e 63).2.1 (numF zs e 63).2.2).2)
def listF (zs : List Int) (e : Int) : List Int × List Int × Int := toksF (numF zs e 256).1.toNat (numF zs e 256).2.1 (numF zs e 256).2.2
/-- The field of a letter, read. -/
def fieldF (m : Mg) (zs : List Int) (e c : Int) : Mg × List Int × Int :=
  if c = 115 then ({ m with st := (numF zs e 18446744073709551615).1 }, (numF zs e 18446744073709551615).2)
  else if c = 101 then ({ m with se := (numF zs e 18446744073709551615).1 }, (numF zs e 18446744073709551615).2)
  else if c = 97 then ({ m with ate := (numF zs e 18446744073709551615).1 }, (numF zs e 18446744073709551615).2)
  else if c = 105 then ({ m with inc := (numF zs e 18446744073709551615).1 }, (numF zs e 18446744073709551615).2)
  else if c = 110 then ({ m with n := (numF zs e 18446744073709551615).1 }, (numF zs e 18446744073709551615).2)
  else if c = 99 then ({ m with cnt := (numF zs e 18446744073709551615).1 }, (numF zs e 18446744073709551615).2)
  else if c = 119 then ({ m with why := (numF zs e 255).1 }, (numF zs e 255).2)
  else if c = 106 then
    ({ m with seed := (numF zs e 18446744073709551615).1, most := (numF (numF zs e 18446744073709551615).2.1 (numF zs e 18446744073709551615).2.2 256).1, pr := (listF (numF (numF zs e 18446744073709551615).2.1 (numF zs e 18446744073709551615).2.2 256).2.1 (numF (numF zs e 18446744073709551615).2.1 (numF zs e 18446744073709551615).2.2 256).2.2).1 },
      (listF (numF (numF zs e 18446744073709551615).2.1 (numF zs e 18446744073709551615).2.2 256).2.1 (numF (numF zs e 18446744073709551615).2.1 (numF zs e 18446744073709551615).2.2 256).2.2).2)
  else if c = 108 then ({ m with li := (listF zs e).1 }, (listF zs e).2) else (m, zs, e)
def fieldsF : List Int → Mg → List Int → Int → Mg × List Int × Int
  | [], m, zs, e => (m, zs, e)
  | c :: L, m, zs, e => fieldsF L (fieldF m zs e c).1 (fieldF m zs e c).2.1 (fieldF m zs e c).2.2
def kindF (zs : List Int) : Int × List Int × Int :=
  if (numF zs 0 18446744073709551615).2.2 ≠ 0 then (0, (numF zs 0 18446744073709551615).2)
  else if (numF zs 0 18446744073709551615).1 < 1 ∨ 12 < (numF zs 0 18446744073709551615).1 then (0, (numF zs 0 18446744073709551615).2.1, 11) else numF zs 0 18446744073709551615
def fieldsOfF (zs : List Int) : Mg × List Int × Int := fieldsF (lettersF (kindF zs).1) (zeroM (kindF zs).1) (kindF zs).2.1 (kindF zs).2.2
/-- The message of a load, and the error. -/
def readF (zs : List Int) : Mg × Int := if (fieldsOfF zs).2.2 ≠ 0 then (zeroM 0, (fieldsOfF zs).2.2) else if (fieldsOfF zs).2.1 ≠ [] then (zeroM 0, 3) else ((fieldsOfF zs).1, 0)

theorem encsZ_append (a b : List Int) : encsZ (a ++ b) = encsZ a ++ encsZ b := by simp [encsZ]
theorem encsZ_cons (x : Int) (b : List Int) : encsZ (x :: b) = encZ x ++ encsZ b := by simp [encsZ]

theorem numF_back (rest : List Int) {n most : Int} (h0 : 0 ≤ n) (h1 : n ≤ most) (h2 : most ≤ 18446744073709551615) : numF (encZ n ++ rest) 0 most = (n, rest, 0) := by
  unfold numF
  rw [got_back rest h0 (by omega)]
  simp
  omega

theorem numF_bd {zs : List Int} (hz : IsBytes zs) (e : Int) {most : Int} (hm : 0 ≤ most ∧ most ≤ 18446744073709551615) : (0 ≤ (numF zs e most).1 ∧ (numF zs e most).1 ≤ most) ∧ IsBytes (numF zs e most).2.1 ∧ (numF zs e most).2.1.length ≤ zs.length := by
  have hb := getF_bd zs 0 0 (by omega) (by omega) (by simp) hz
  unfold numF
  split
  · exact ⟨⟨by simp, hm.1⟩, hz, Nat.le_refl _⟩
  · split
    · exact ⟨⟨by simp, hm.1⟩, hz, Nat.le_refl _⟩
    · split
      · exact ⟨⟨by simp, hm.1⟩, hz, Nat.le_refl _⟩
      · exact ⟨⟨by simp; omega, by simp; omega⟩, hz.drop _, by simp⟩

theorem numF_ok {zs : List Int} (hz : IsBytes zs) {e most : Int} (h : (numF zs e most).2.2 = 0) :
    e = 0 ∧ zs = encZ (numF zs e most).1 ++ (numF zs e most).2.1 ∧ 0 ≤ (numF zs e most).1 ∧ (numF zs e most).1 ≤ most := by
  by_cases he : e = 0
  · subst he
    by_cases hg : (getF zs 0 0).2.2 = 0
    · obtain ⟨q, hq, ht, hb⟩ := got_nat hz hg
      by_cases hm : most < (q : Int)
      · unfold numF at h
        rw [hq] at h
        simp [hm] at h
      · have hn : numF zs 0 most = ((q : Int), zs.drop (encZ q).length, 0) := by
          unfold numF; rw [hq]; simp; omega
        rw [hn]
        refine ⟨rfl, ?_, by simp, by simp; omega⟩
        simp only
        rw [← ht, List.length_take, Nat.min_eq_left (by have := congrArg List.length ht; simp at this; omega), List.take_append_drop]
    · unfold numF at h
      simp [hg] at h
  · unfold numF at h
    simp [he] at h

theorem toksF_back (rest : List Int) : ∀ l : List Int, (∀ x ∈ l, 0 ≤ x ∧ x ≤ 63) → toksF l.length (encsZ l ++ rest) 0 = (l, rest, 0)
  | [], _ => by simp [toksF, encsZ]
  | x :: l, h => by
    have hx := h x (by simp)
    rw [encsZ_cons, List.append_assoc, List.length_cons, toksF, numF_back _ hx.1 hx.2 (by omega), toksF_back rest l fun y hy => h y (by simp [hy])]
theorem listF_back (rest : List Int) {l : List Int} (h : toksB l = true) : listF (encZ l.length ++ (encsZ l ++ rest)) 0 = (l, rest, 0) := by
  have hl := toksB_len h
  unfold listF
  rw [numF_back _ (by omega) (by omega) (by omega)]
  simp only [Int.toNat_natCast]
  exact toksF_back rest l fun x hx => toksB_at h x hx

theorem toksF_ok : ∀ (k : Nat) (zs : List Int) (e : Int), IsBytes zs → (toksF k zs e).2.2 = 0 →
    e = 0 ∧ (toksF k zs e).1.length = k ∧ (∀ x ∈ (toksF k zs e).1, 0 ≤ x ∧ x ≤ 63) ∧ zs = encsZ (toksF k zs e).1 ++ (toksF k zs e).2.1
  | 0, zs, e, hz, h => by simp [toksF] at h ⊢; exact ⟨h, by simp [encsZ]⟩
  | k + 1, zs, e, hz, h => by
    rw [toksF] at h ⊢
    obtain ⟨h1, h2, h3, h4⟩ := toksF_ok k _ _ (numF_bd hz e (by omega)).2.1 h
    obtain ⟨g1, g2, g3, g4⟩ := numF_ok hz h1
    refine ⟨g1, by simp [h2], ?_, ?_⟩
    · intro x hx
      rcases List.mem_cons.1 hx with rfl | hx
      · exact ⟨g3, g4⟩
      · exact h3 x hx
    · simp only [encsZ_cons, List.append_assoc]
      rw [← h4]
      exact g2
theorem toksF_bytes : ∀ (k : Nat) (zs : List Int) (e : Int), IsBytes zs → IsBytes (toksF k zs e).2.1 ∧ (toksF k zs e).2.1.length ≤ zs.length
  | 0, zs, e, hz => by simp [toksF]; exact hz
  | k + 1, zs, e, hz => by
    rw [toksF]
    have h1 := (numF_bd hz e (most := 63) (by omega)).2
    have h2 := toksF_bytes k _ (numF zs e 63).2.2 h1.1
    exact ⟨h2.1, Nat.le_trans h2.2 h1.2⟩
theorem listF_ok {zs : List Int} (hz : IsBytes zs) {e : Int} (h : (listF zs e).2.2 = 0) :
    e = 0 ∧ toksB (listF zs e).1 = true ∧ zs = encZ (listF zs e).1.length ++ (encsZ (listF zs e).1 ++ (listF zs e).2.1) := by
  unfold listF at h ⊢
  obtain ⟨h1, h2, h3, h4⟩ := toksF_ok _ _ _ (numF_bd hz e (by omega)).2.1 h
  obtain ⟨g1, g2, g3, g4⟩ := numF_ok hz h1
  refine ⟨g1, ?_, ?_⟩
  · unfold toksB
    rw [h2]
    simp only [Bool.and_eq_true, List.all_eq_true]
    refine ⟨by simp; omega, fun x hx => ?_⟩
    unfold tokB
    exact decide_eq_true (h3 x hx)
  · rw [h2, ← h4, Int.toNat_of_nonneg g3]
    exact g2
theorem listF_bytes {zs : List Int} (hz : IsBytes zs) (e : Int) : IsBytes (listF zs e).2.1 ∧ (listF zs e).2.1.length ≤ zs.length := by
  unfold listF
  have h1 := (numF_bd hz e (most := 256) (by omega)).2
  have h2 := toksF_bytes (numF zs e 256).1.toNat _ (numF zs e 256).2.2 h1.1
  exact ⟨h2.1, Nat.le_trans h2.2 h1.2⟩

end Go.Proofs.Ytlcfjhlchpeedaa
