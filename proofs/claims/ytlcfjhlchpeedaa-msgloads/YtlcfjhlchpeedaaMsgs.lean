/-
  A message as a value: its ten numbers and two lists of tokens. Contracts: the statements' own theirs, ours and far; msg.fieldsOf.
-/
import Derived.Test.YtlcfjhlchpeedaaToks
namespace Go.Proofs.Ytlcfjhlchpeedaa
open Go.RowKit
open M
set_option linter.unusedVariables false
set_option maxRecDepth 1000000

/-- A message. -/
structure Mg where
  kind : Int
  st : Int
  se : Int
  ate : Int
  inc : Int
  n : Int
  cnt : Int
  why : Int
  seed : Int
  most : Int
  pr : List Int
  li : List Int

/-- A slice's three words. -/
structure Sl where
  a : Option Addr
  l : Nat
  c : Nat

/-- A message's cells. -/
def MV (m : Mg) (p q : Sl) : Array Value := #[.int .i64 m.kind, .int .u64 m.st, .int .u64 m.se, .int .u64 m.ate, .int .u64 m.inc, .int .u64 m.n, .int .u64 m.cnt, .int .i64 m.why, .int .u64 m.seed, .slice p.a p.l p.c, .int .i64 m.most, .slice q.a q.l q.c]

/-- The letters of the fields. -/
def Letter (c : Int) : Prop := c = 115 ∨ c = 101 ∨ c = 97 ∨ c = 105 ∨ c = 110 ∨ c = 99 ∨ c = 119 ∨ c = 106 ∨ c = 108
/-- The letters of a kind, in order. -/
def lettersF (k : Int) : List Int :=
  if k = 1 then [115, 101, 106] else if k = 2 then [115, 110] else if k = 3 then [115] else if k = 4 then [115, 110, 108] else if k = 5 then [115, 110, 119]
  else if k = 6 then [97, 105, 110, 106] else if k = 7 then [97, 105] else if k = 8 then [97, 105, 110, 108] else if k = 9 then [97, 105, 110, 119]
  else if k = 10 then [110] else if k = 11 then [110, 105, 99] else if k = 12 then [105] else []
theorem kind_cases (k : Int) : k < 1 ∨ 12 < k ∨ k = 1 ∨ k = 2 ∨ k = 3 ∨ k = 4 ∨ k = 5 ∨ k = 6 ∨ k = 7 ∨ k = 8 ∨ k = 9 ∨ k = 10 ∨ k = 11 ∨ k = 12 := by omega
theorem lettersF_none {k : Int} (h : k < 1 ∨ 12 < k) : lettersF k = [] := by
  unfold lettersF
  repeat rw [if_neg (by omega)]
theorem lettersF_ok (k : Int) (c : Int) (h : c ∈ lettersF k) : Letter c := by
  rcases kind_cases k with h1 | h1 | rfl | rfl | rfl | rfl | rfl | rfl | rfl | rfl | rfl | rfl | rfl | rfl
  · rw [lettersF_none (.inl h1)] at h; simp at h
  · rw [lettersF_none (.inr h1)] at h; simp at h
  all_goals
    simp [lettersF] at h
    unfold Letter
    omega
theorem lettersF_len (k : Int) : (lettersF k).length ≤ 4 := by
  rcases kind_cases k with h1 | h1 | rfl | rfl | rfl | rfl | rfl | rfl | rfl | rfl | rfl | rfl | rfl | rfl
  · rw [lettersF_none (.inl h1)]; simp
  · rw [lettersF_none (.inr h1)]; simp
  all_goals simp [lettersF]
theorem lettersF_some {k : Int} (h : 1 ≤ k ∧ k ≤ 12) : lettersF k ≠ [] := by
  rcases kind_cases k with h1 | h1 | rfl | rfl | rfl | rfl | rfl | rfl | rfl | rfl | rfl | rfl | rfl | rfl
  · omega
  · omega
  all_goals simp [lettersF]

theorem theirs_any (m : Mg) (p q : Sl) (w : World) : Calls Try.prog 11 #[.agg (MV m p q)] w fun e w' => e = .returned (.agg (MV m p q)) ∧ Below w.heap.size w w' := by
  unfold MV
  go_enter Try.func11, Try.ntmps11
  go_wp2
  refine bodyPost_ret (v := .agg (MV m p q)) ?_ rfl ⟨rfl, ?_⟩
  · simp [results, Try.results11, go_sem, MV]
  · exact ((Below.refl _ _).alloc (Nat.le_refl _) _).alloc (by simp) _

theorem ours_any (m : Mg) (p q : Sl) (w : World) : Calls Try.prog 23 #[.agg (MV m p q)] w fun e w' => e = .returned (.agg (MV m p q)) ∧ Below w.heap.size w w' := by
  unfold MV
  go_enter Try.func23, Try.ntmps23
  go_wp2
  refine bodyPost_ret (v := .agg (MV m p q)) ?_ rfl ⟨rfl, ?_⟩
  · simp [results, Try.results23, go_sem, MV]
  · exact ((Below.refl _ _).alloc (Nat.le_refl _) _).alloc (by simp) _

theorem far_any (m : Mg) (p q : Sl) (w : World) : Calls Try.prog 8 #[.agg (MV m p q)] w fun e w' => e = .returned (.bool (decide (1000 < q.l ∨ 1000 < p.l))) ∧ Below w.heap.size w w' := by
  unfold MV
  by_cases h1 : 1000 < q.l
  · go_enter Try.func8, Try.ntmps8
    go_wp2
    go_ret
    exact ⟨ret_bool (by first | (simp; done) | (simp; omega)), (Below.refl _ _).alloc (Nat.le_refl _) _⟩
  · have hd : decide ((1000 : Int) < (q.l : Int)) = false := by simp; omega
    by_cases h2 : 1000 < p.l
    · go_enter Try.func8, Try.ntmps8
      go_wp2
      go_ret
      exact ⟨ret_bool (by simp [h2]; omega), (Below.refl _ _).alloc (Nat.le_refl _) _⟩
    · go_enter Try.func8, Try.ntmps8
      go_wp2
      go_ret
      exact ⟨ret_bool (by simp [h1, h2]; omega), (Below.refl _ _).alloc (Nat.le_refl _) _⟩

theorem fieldsof_any (k : Int) (w : World) : Calls Try.prog 25 #[.int .i64 k] w fun e w' => e = .returned (.string (strOfNums (lettersF k))) ∧ w' = w := by
  rcases kind_cases k with h1 | h1 | rfl | rfl | rfl | rfl | rfl | rfl | rfl | rfl | rfl | rfl | rfl | rfl
  · have HE := hid (lettersF_none (.inl h1))
    go_enter Try.func25, Try.ntmps25
    go_wp2
    go_ret
    exact ⟨by rw [HE.out]; rfl, rfl⟩
  · have HE := hid (lettersF_none (.inr h1))
    go_enter Try.func25, Try.ntmps25
    go_wp2
    go_ret
    exact ⟨by rw [HE.out]; rfl, rfl⟩
  all_goals
    go_enter Try.func25, Try.ntmps25
    go_wp2
    go_ret
    exact ⟨rfl, rfl⟩

end Go.Proofs.Ytlcfjhlchpeedaa
