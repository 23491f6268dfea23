/-
  Mathematics: a load's frame (layL), what frame.Parse tells of bytes (parseF) and frame.All (allF); what is laid is parsed, whatever stands behind; what is parsed is laid as the same bytes; a frame that is turned behind its first seven bytes, so that it is not sealed, is not parsed.
-/
import Derived.Test.YtlcfjhlchpeedaaLists
import Derived.Test.YtlcfjhlchpeedaaTurns
namespace Go.Proofs.Ytlcfjhlchpeedaa
open Go.RowKit
open M
set_option linter.unusedVariables false
set_option maxRecDepth 1000000

/-- What stands ahead of the sum in a load's frame. -/
def bodyL (xs : List Int) : List Int := [71, 98, 1] ++ encZ xs.length ++ xs
/-- A load's frame. -/
def layL (xs : List Int) : List Int := bodyL xs ++ text (crc (bodyL xs))

/-- What is wrong with the mark and the version. -/
def headF (zs : List Int) : Int :=
  if (0 < zs.length ∧ zs[0]?.getD 0 ≠ 71) ∨ (1 < zs.length ∧ zs[1]?.getD 0 ≠ 98) then 3
  else if zs.length < 3 then 4
  else if zs[2]?.getD 0 ≠ 1 then 11 else 0

/-- Whether bytes are sealed can be told. -/
def sealedDec (zs : List Int) : Decidable (Sealed zs) := by unfold Sealed; infer_instance

/-- The load of the frame that bytes begin with, how many bytes it has, and the error. -/
def parseF (zs : List Int) : List Int × Int × Int :=
  if headF zs ≠ 0 then ([], 0, headF zs)
  else if (getF (zs.drop 3) 0 0).2.2 ≠ 0 then ([], 0, (getF (zs.drop 3) 0 0).2.2)
  else if 2048 < (getF (zs.drop 3) 0 0).1 then ([], 0, 5)
  else if (zs.length : Int) < 3 + (getF (zs.drop 3) 0 0).2.1 + (getF (zs.drop 3) 0 0).1 + 4 then ([], 0, 4)
  else @ite _ (Sealed (zs.take (3 + (getF (zs.drop 3) 0 0).2.1.toNat + (getF (zs.drop 3) 0 0).1.toNat + 4))) (sealedDec _)
    ((zs.drop (3 + (getF (zs.drop 3) 0 0).2.1.toNat)).take (getF (zs.drop 3) 0 0).1.toNat, 3 + (getF (zs.drop 3) 0 0).2.1 + (getF (zs.drop 3) 0 0).1 + 4, 0) ([], 0, 8)

theorem parse_head {zs : List Int} (h : headF zs ≠ 0) : parseF zs = ([], 0, headF zs) := by rw [parseF, if_pos h]
theorem parse_num {zs : List Int} {n k e : Int} (h : headF zs = 0) (hg : getF (zs.drop 3) 0 0 = (n, k, e)) (he : e ≠ 0) : parseF zs = ([], 0, e) := by
  rw [parseF, if_neg (by rw [h]; simp), hg, if_pos he]
theorem parse_many {zs : List Int} {n k : Int} (h : headF zs = 0) (hg : getF (zs.drop 3) 0 0 = (n, k, 0)) (hn : 2048 < n) : parseF zs = ([], 0, 5) := by
  rw [parseF, if_neg (by rw [h]; simp), hg, if_neg (by simp), if_pos hn]
theorem parse_end {zs : List Int} {N K : Nat} (h : headF zs = 0) (hg : getF (zs.drop 3) 0 0 = ((N : Int), (K : Int), 0)) (hn : N ≤ 2048) (hl : zs.length < 3 + K + N + 4) : parseF zs = ([], 0, 4) := by
  rw [parseF, if_neg (by rw [h]; simp), hg, if_neg (by simp), if_neg (by simp; omega), if_pos (by simp; omega)]
theorem parse_sum {zs : List Int} {N K : Nat} (h : headF zs = 0) (hg : getF (zs.drop 3) 0 0 = ((N : Int), (K : Int), 0)) (hn : N ≤ 2048) (hl : 3 + K + N + 4 ≤ zs.length)
    (hs : ¬ Sealed (zs.take (3 + K + N + 4))) : parseF zs = ([], 0, 8) := by
  rw [parseF, if_neg (by rw [h]; simp), hg, if_neg (by simp), if_neg (by simp; omega), if_neg (by simp; omega), if_neg (by simpa using hs)]
theorem parse_ok {zs : List Int} {N K : Nat} (h : headF zs = 0) (hg : getF (zs.drop 3) 0 0 = ((N : Int), (K : Int), 0)) (hn : N ≤ 2048) (hl : 3 + K + N + 4 ≤ zs.length)
    (hs : Sealed (zs.take (3 + K + N + 4))) : parseF zs = ((zs.drop (3 + K)).take N, ((3 + K + N + 4 : Nat) : Int), 0) := by
  rw [parseF, if_neg (by rw [h]; simp), hg, if_neg (by simp), if_neg (by simp; omega), if_neg (by simp; omega), if_pos (by simpa using hs)]
  simp

/-- A number that is got, as the numbers of its bytes. -/
theorem got_nat {zs : List Int} (hz : IsBytes zs) (he : (getF zs 0 0).2.2 = 0) :
    ∃ q : Nat, getF zs 0 0 = ((q : Int), ((encZ q).length : Int), 0) ∧ zs.take (encZ q).length = encZ q ∧ (q : Int) ≤ 18446744073709551615 := by
  obtain ⟨q, h1, h2, h3, _⟩ := getF_once zs 0 0 (by omega) hz he
  have hb := getF_bd zs 0 0 (by omega) (by omega) (by simp) hz
  have h1' : (getF zs 0 0).1 = (q : Int) := by rw [h1]; simp
  have h2' : (getF zs 0 0).2.1 = ((encZ q).length : Int) := by rw [h2]; simp [encZ]
  refine ⟨q, ?_, by simpa [encZ] using h3, by omega⟩
  rw [show getF zs 0 0 = ((getF zs 0 0).1, (getF zs 0 0).2.1, (getF zs 0 0).2.2) from rfl, h1', h2', he]

theorem head_ok {zs : List Int} (h : headF zs = 0) : ∃ r, zs = [71, 98, 1] ++ r := by
  unfold headF at h
  split at h
  · simp at h
  · rename_i h1
    split at h
    · simp at h
    · rename_i h2
      split at h
      · simp at h
      · rename_i h3
        rcases zs with _ | ⟨a, _ | ⟨b, _ | ⟨c, r⟩⟩⟩
        · simp at h2
        · simp at h2
        · simp at h2
        · simp at h1 h3
          obtain ⟨rfl, rfl⟩ := h1
          subst h3
          exact ⟨r, rfl⟩
theorem head_zero (r : List Int) : headF ([71, 98, 1] ++ r) = 0 := by
  unfold headF
  simp

theorem encZ_len2 {n : Nat} (h : n ≤ 2048) : 1 ≤ (encZ n).length ∧ (encZ n).length ≤ 2 := by
  have := enc_len 1 n (by omega)
  simpa [encZ] using this

/-- Bytes that begin as a frame does, and are long enough. -/
theorem parse_shape {N : Nat} {r : List Int} (hn : N ≤ 2048) (hr : N + 4 ≤ r.length) :
    (Sealed (([71, 98, 1] ++ (encZ N ++ r)).take (3 + (encZ N).length + N + 4)) → parseF ([71, 98, 1] ++ (encZ N ++ r)) = (r.take N, ((3 + (encZ N).length + N + 4 : Nat) : Int), 0)) ∧
    (¬ Sealed (([71, 98, 1] ++ (encZ N ++ r)).take (3 + (encZ N).length + N + 4)) → parseF ([71, 98, 1] ++ (encZ N ++ r)) = ([], 0, 8)) := by
  have hg : getF (([71, 98, 1] ++ (encZ N ++ r)).drop 3) 0 0 = ((N : Int), ((encZ N).length : Int), 0) := by
    rw [show List.drop 3 ([71, 98, 1] ++ (encZ (N : Int) ++ r)) = encZ (N : Int) ++ r from rfl]
    exact got_back r (by omega) (by omega)
  have hl : 3 + (encZ (N : Int)).length + N + 4 ≤ ([71, 98, 1] ++ (encZ (N : Int) ++ r)).length := by simp; omega
  refine ⟨fun hs => ?_, fun hs => parse_sum (head_zero _) hg hn hl hs⟩
  rw [parse_ok (head_zero _) hg hn hl hs]
  congr 1
  rw [show List.drop (3 + (encZ (N : Int)).length) ([71, 98, 1] ++ (encZ (N : Int) ++ r)) = r from by
    rw [← List.append_assoc]
    exact List.drop_left' (by simp; omega)]

theorem layL_eq (xs : List Int) : layL xs = [71, 98, 1] ++ (encZ xs.length ++ (xs ++ text (crc (bodyL xs)))) := by
  unfold layL
  simp [bodyL]
theorem layL_len (xs : List Int) : (layL xs).length = 3 + (encZ xs.length).length + xs.length + 4 := by
  rw [layL_eq]
  simp [text]
  omega
theorem layL_sealed (xs : List Int) : Sealed (layL xs) := sealed_seal _
theorem bodyL_bytes {xs : List Int} (h : IsBytes xs) : IsBytes (bodyL xs) := by
  unfold bodyL
  refine IsBytes.append (IsBytes.append ?_ (encZ_bytes _)) h
  intro x hx
  simp at hx
  omega
theorem layL_bytes {xs : List Int} (h : IsBytes xs) : IsBytes (layL xs) := (bodyL_bytes h).append (text_bytes _)

/-- What is laid is parsed, whatever stands behind. -/
theorem lay_parse {xs : List Int} (hn : xs.length ≤ 2048) (ys : List Int) : parseF (layL xs ++ ys) = (xs, ((layL xs).length : Int), 0) := by
  have he : layL xs ++ ys = [71, 98, 1] ++ (encZ xs.length ++ (xs ++ text (crc (bodyL xs)) ++ ys)) := by rw [layL_eq]; simp
  have hs := (parse_shape (N := xs.length) (r := xs ++ text (crc (bodyL xs)) ++ ys) hn (by simp [text])).1
  rw [← he, ← layL_len, List.take_left] at hs
  rw [hs (layL_sealed xs)]
  simp

/-- A frame that is turned behind its first seven bytes, and is not sealed, is refused by its sum. -/
theorem lay_turned {xs us : List Int} (hn : xs.length ≤ 2048) (hl : us.length = (layL xs).length) (h7 : us.take 7 = (layL xs).take 7) (hs : ¬ Sealed us) : parseF us = ([], 0, 8) := by
  obtain ⟨k1, k2⟩ := encZ_len2 hn
  have ht : us.take (3 + (encZ xs.length).length) = [71, 98, 1] ++ encZ xs.length := by
    have := congrArg (List.take (3 + (encZ xs.length).length)) h7
    rw [List.take_take, List.take_take, Nat.min_eq_left (by omega)] at this
    rw [this, layL_eq, ← List.append_assoc]
    exact List.take_left' (by simp; omega)
  have he : us = [71, 98, 1] ++ (encZ xs.length ++ us.drop (3 + (encZ xs.length).length)) := by
    conv => lhs; rw [← List.take_append_drop (3 + (encZ xs.length).length) us, ht]
    simp
  have hll := layL_len xs
  have := (parse_shape (N := xs.length) (r := us.drop (3 + (encZ xs.length).length)) hn (by simp; omega)).2
  rw [← he, List.take_of_length_le (by omega)] at this
  exact this hs

/-- What is parsed is laid as the same bytes. -/
theorem parse_lay {zs : List Int} (hz : IsBytes zs) (h : (parseF zs).2.2 = 0) :
    ∃ n : Nat, (parseF zs).2.1 = (n : Int) ∧ layL (parseF zs).1 = zs.take n ∧ n ≤ zs.length ∧ 8 ≤ n ∧ (parseF zs).1.length ≤ 2048 ∧ (parseF zs).1.length + 8 ≤ n ∧ IsBytes (parseF zs).1 := by
  by_cases h0 : headF zs = 0
  · obtain ⟨r, rfl⟩ := head_ok h0
    by_cases he : (getF (([71, 98, 1] ++ r).drop 3) 0 0).2.2 = 0
    · have hzr : IsBytes r := fun x hx => hz x (by simp [hx])
      obtain ⟨q, hg, ht, hq⟩ := got_nat (hz.drop 3) he
      rw [show List.drop 3 ([71, 98, 1] ++ r) = r from rfl] at ht
      by_cases hn : 2048 < (q : Int)
      · rw [parse_many h0 hg hn] at h; simp at h
      · have hn' : q ≤ 2048 := by omega
        by_cases hl : ([71, 98, 1] ++ r).length < 3 + (encZ q).length + q + 4
        · rw [parse_end h0 hg hn' hl] at h; simp at h
        · by_cases hs : Sealed (([71, 98, 1] ++ r).take (3 + (encZ q).length + q + 4))
          · have hp := parse_ok h0 hg hn' (by omega) hs
            have hk := (encZ_len2 hn').1
            have hlr : (encZ q).length + q + 4 ≤ r.length := by simp at hl; omega
            rw [hp]
            have hx : ((([71, 98, 1] ++ r).drop (3 + (encZ q).length)).take q).length = q := by simp; omega
            have hd : (([71, 98, 1] ++ r).drop (3 + (encZ (q : Int)).length)).take q = (r.drop (encZ (q : Int)).length).take q := by
              rw [Nat.add_comm]; rfl
            refine ⟨3 + (encZ q).length + q + 4, rfl, ?_, by simp; omega, by omega, by simp; omega, by simp; omega, (hz.drop _).take _⟩
            have hb : bodyL ((([71, 98, 1] ++ r).drop (3 + (encZ (q : Int)).length)).take q) = ([71, 98, 1] ++ r).take (3 + (encZ q).length + q) := by
              unfold bodyL
              rw [hx, hd, ← ht]
              rw [List.length_take, Nat.min_eq_left (by omega)]
              rw [Nat.add_assoc, Nat.add_comm 3, List.append_assoc, ← List.take_add]
              rfl
            unfold layL
            rw [hb]
            obtain ⟨h4, hs2⟩ := hs
            have hl2 : (([71, 98, 1] ++ r).take (3 + (encZ (q : Int)).length + q + 4)).length - 4 = 3 + (encZ (q : Int)).length + q := by simp; omega
            rw [hl2, List.take_take, Nat.min_eq_left (by omega)] at hs2
            rw [hs2]
            have hlast := List.take_append_drop (3 + (encZ (q : Int)).length + q) (List.take (3 + (encZ (q : Int)).length + q + 4) ([71, 98, 1] ++ r))
            rw [List.take_take, Nat.min_eq_left (by omega)] at hlast
            exact hlast
          · rw [parse_sum h0 hg hn' (by omega) hs] at h; simp at h
    · rw [parse_num (n := (getF (([71, 98, 1] ++ r).drop 3) 0 0).1) (k := (getF (([71, 98, 1] ++ r).drop 3) 0 0).2.1) h0 rfl he] at h
      exact absurd h he
  · rw [parse_head h0] at h
    exact absurd h h0

/-- The loads of the frames that follow one another, how many bytes these had, and the error; in at most so many steps. -/
def allF : Nat → List Int → List (List Int) × Int × Int
  | 0, _ => ([], 0, 0)
  | f + 1, zs =>
    if zs = [] then ([], 0, 0)
    else if (parseF zs).2.2 ≠ 0 then ([], 0, (parseF zs).2.2)
    else ((parseF zs).1 :: (allF f (zs.drop (parseF zs).2.1.toNat)).1, (parseF zs).2.1 + (allF f (zs.drop (parseF zs).2.1.toNat)).2.1, (allF f (zs.drop (parseF zs).2.1.toNat)).2.2)

theorem allF_nil (f : Nat) : allF f [] = ([], 0, 0) := by cases f <;> simp [allF]

/-- What all steps told is what the first ones did, and behind it what the others do. -/
def AllAt (zs : List Int) (ls : List (List Int)) (p : Nat) : Prop :=
  ∃ f, zs.length - p ≤ f ∧ allF zs.length zs = (ls ++ (allF f (zs.drop p)).1, (p : Int) + (allF f (zs.drop p)).2.1, (allF f (zs.drop p)).2.2)
theorem AllAt.start (zs : List Int) : AllAt zs [] 0 := ⟨zs.length, by omega, by simp⟩
theorem AllAt.stop {zs : List Int} {ls : List (List Int)} {p : Nat} (h : AllAt zs ls p) (hp : zs.length ≤ p) : allF zs.length zs = (ls, (p : Int), 0) := by
  obtain ⟨f, _, h⟩ := h
  rw [h, List.drop_eq_nil_of_le hp, allF_nil]
  simp
theorem AllAt.bad {zs : List Int} {ls : List (List Int)} {p : Nat} (h : AllAt zs ls p) (hp : p < zs.length) {x : List Int} {n e : Int} (he : parseF (zs.drop p) = (x, n, e)) (h0 : e ≠ 0) : allF zs.length zs = (ls, (p : Int), e) := by
  obtain ⟨f, hf, h⟩ := h
  obtain ⟨f, rfl⟩ : ∃ g, f = g + 1 := ⟨f - 1, by omega⟩
  have hne : ¬ zs.drop p = [] := by simp; omega
  rw [h, allF, if_neg hne, he, if_pos h0]
  simp
theorem AllAt.step {zs : List Int} {ls : List (List Int)} {p : Nat} (h : AllAt zs ls p) (hp : p < zs.length) {x : List Int} {n : Nat} (he : parseF (zs.drop p) = (x, (n : Int), 0)) (hn : 0 < n) : AllAt zs (ls ++ [x]) (p + n) := by
  obtain ⟨f, hf, h⟩ := h
  obtain ⟨f, rfl⟩ : ∃ g, f = g + 1 := ⟨f - 1, by omega⟩
  have hne : ¬ zs.drop p = [] := by simp; omega
  refine ⟨f, by omega, ?_⟩
  rw [h, allF, if_neg hne, he, if_neg (by simp)]
  simp only [Int.toNat_natCast, List.drop_drop, List.append_assoc, List.singleton_append, Prod.mk.injEq, and_true, true_and]
  omega

/-- All that is parsed is laid as the same bytes. -/
theorem all_lay (f : Nat) : ∀ zs : List Int, IsBytes zs → ∃ n : Nat, (allF f zs).2.1 = (n : Int) ∧ n ≤ zs.length ∧ ((allF f zs).1.map layL).flatten = zs.take n ∧ (∀ x ∈ (allF f zs).1, x.length ≤ 2048 ∧ IsBytes x) ∧ 8 * (allF f zs).1.length ≤ n := by
  induction f with
  | zero => exact fun zs _ => ⟨0, by simp [allF], by omega, by simp [allF], by simp [allF], by simp [allF]⟩
  | succ f ih =>
    intro zs hz
    rw [allF]
    split
    · exact ⟨0, by simp, by omega, by simp, by simp, by simp⟩
    · split
      · exact ⟨0, by simp, by omega, by simp, by simp, by simp⟩
      · rename_i h1 h2
        obtain ⟨n, hn, hl, hle, h8, hx, _, hxb⟩ := parse_lay hz (by omega)
        obtain ⟨m, hm, hme, hf, hxs, hc⟩ := ih (zs.drop n) (hz.drop n)
        rw [hn, Int.toNat_natCast]
        refine ⟨n + m, by rw [hm]; simp, by simp at hme; omega, ?_, ?_, ?_⟩
        · rw [List.map_cons, List.flatten_cons, hf, hl, ← List.take_add]
        · intro x hx'
          rcases List.mem_cons.1 hx' with rfl | h
          · exact ⟨hx, hxb⟩
          · exact hxs x h
        · simp
          omega

end Go.Proofs.Ytlcfjhlchpeedaa
