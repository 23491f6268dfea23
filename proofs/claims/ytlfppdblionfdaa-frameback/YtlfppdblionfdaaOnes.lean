/-
  Contracts: frame.One and the document's One hand back the load of a frame alone, or the error; the statements' own probe (alive) hands back true.
-/
import Derived.Test.YtlfppdblionfdaaRParses
import Derived.Lib.SlBytesConst
namespace Go.Proofs.Ytlfppdblionfdaa
open Go.RowKit
open M
set_option linter.unusedVariables false

/-- The load of a frame alone, and the error. -/
def oneF (zs : List Int) : List Int × Int :=
  if (parseF zs).2.2 ≠ 0 then ([], (parseF zs).2.2) else if (parseF zs).2.1 < zs.length then ([], 3) else ((parseF zs).1, 0)

/-- What One hands back. -/
def Told1 (zs : List Int) (w : World) (e : Ending) (w' : World) : Prop :=
  ∃ a l c, e = .returned (.tuple #[.slice a l c, .int .i64 (oneF zs).2]) ∧ Reads .u8 w' a l c (oneF zs).1 ∧ Below w.heap.size w w'
theorem Told1.err {zs : List Int} {w w' : World} {f : Int} (h : oneF zs = ([], f)) (hb : Below w.heap.size w w') : Told1 zs w (.returned (.tuple #[.slice none 0 0, .int .i64 f])) w' :=
  ⟨none, 0, 0, by rw [h], by rw [h]; exact Reads.nil _ _, hb⟩
theorem Told1.ok {zs xs : List Int} {w w' : World} {a : Option Addr} {l c : Nat} (h : oneF zs = (xs, 0)) (hr : Reads .u8 w' a l c xs) (hb : Below w.heap.size w w') :
    Told1 zs w (.returned (.tuple #[.slice a l c, .int .i64 0])) w' :=
  ⟨a, l, c, by rw [h], by rw [h]; exact hr, hb⟩

/-- Each way in which One ends. -/
theorem one_cases {zs : List Int} (hz : IsBytes zs) :
    (¬ (parseF zs).2.2 = 0 ∧ oneF zs = ([], (parseF zs).2.2)) ∨
    (∃ n : Nat, (parseF zs).2.2 = 0 ∧ (parseF zs).2.1 = (n : Int) ∧ n < zs.length ∧ oneF zs = ([], 3)) ∨
    (∃ n : Nat, (parseF zs).2.2 = 0 ∧ (parseF zs).2.1 = (n : Int) ∧ n = zs.length ∧ oneF zs = ((parseF zs).1, 0)) := by
  by_cases h : (parseF zs).2.2 = 0
  · obtain ⟨n, hn, _, hle, _⟩ := parse_lay hz h
    by_cases hl : n < zs.length
    · exact .inr (.inl ⟨n, h, hn, hl, by rw [oneF, if_neg (by simp [h]), if_pos (by omega)]⟩)
    · exact .inr (.inr ⟨n, h, hn, by omega, by rw [oneF, if_neg (by simp [h]), if_neg (by omega)]⟩)
  · exact .inl ⟨h, by rw [oneF, if_pos h]⟩

theorem one_any (a : Option Addr) (len cap : Nat) (zs : List Int) (w : World) (hr : Reads .u8 w a len cap zs) (hz : IsBytes zs) (hlen : len ≤ 100000) :
    Calls Try.prog 16 #[.slice a len cap] w fun e w' => Told1 zs w e w' := by
  have hP := parse_any a len cap zs w hr hz hlen
  have hs := hr.size
  have hcs := one_cases hz
  rw [hs] at hcs
  unfold Told at hP
  clear hr hz hs
  generalize hp : parseF zs = p at *
  obtain ⟨x, n, f⟩ := p
  simp only at hP hcs
  clear hp
  rcases hcs with ⟨hf, ho⟩ | ⟨k, rfl, rfl, hk, ho⟩ | ⟨k, rfl, rfl, hk, ho⟩
  · have HO := hid ho
    clear ho
    go_enter Try.func16, Try.ntmps16
    go_wp2_with fail
    refine hP.mono ?_
    rintro e w' ⟨a1, l1, c1, rfl, hr1, _, hb1⟩
    clear hr1
    go_wp2
    go_ret2
    exact Told1.err HO.out hb1
  · have HO := hid ho
    clear ho
    go_enter Try.func16, Try.ntmps16
    go_wp2_with fail
    refine hP.mono ?_
    rintro e w' ⟨a1, l1, c1, rfl, hr1, _, hb1⟩
    clear hr1
    go_wp2
    go_ret2
    exact Told1.err HO.out hb1
  · have HO := hid ho
    clear ho
    subst hk
    go_enter Try.func16, Try.ntmps16
    go_wp2_with fail
    refine hP.mono ?_
    rintro e w' ⟨a1, l1, c1, rfl, hr1, _, hb1⟩
    have HR1 := hid hr1
    clear hr1
    go_wp2
    go_ret2
    exact Told1.ok HO.out HR1.out hb1

theorem rone_any (a : Option Addr) (len cap : Nat) (zs : List Int) (w : World) (hr : Reads .u8 w a len cap zs) (hz : IsBytes zs) (hlen : len ≤ 10000) :
    Calls Try.prog 17 #[.slice a len cap] w fun e w' => Told1 zs w e w' := by
  have hP := rparse_any a len cap zs w hr hz hlen
  have hs := hr.size
  have hcs := one_cases hz
  rw [hs] at hcs
  unfold Told at hP
  clear hr hz hs
  generalize hp : parseF zs = p at *
  obtain ⟨x, n, f⟩ := p
  simp only at hP hcs
  clear hp
  rcases hcs with ⟨hf, ho⟩ | ⟨k, rfl, rfl, hk, ho⟩ | ⟨k, rfl, rfl, hk, ho⟩
  · have HO := hid ho
    clear ho
    go_enter Try.func17, Try.ntmps17
    go_wp2_with fail
    refine hP.mono ?_
    rintro e w' ⟨a1, l1, c1, rfl, hr1, _, hb1⟩
    clear hr1
    go_wp2
    go_ret2
    exact Told1.err HO.out hb1
  · have HO := hid ho
    clear ho
    have hne : ¬ (k : Int) = (len : Int) := by omega
    go_enter Try.func17, Try.ntmps17
    go_wp2_with fail
    refine hP.mono ?_
    rintro e w' ⟨a1, l1, c1, rfl, hr1, _, hb1⟩
    clear hr1
    go_wp2
    go_ret2
    exact Told1.err HO.out hb1
  · have HO := hid ho
    clear ho
    subst hk
    go_enter Try.func17, Try.ntmps17
    go_wp2_with fail
    refine hP.mono ?_
    rintro e w' ⟨a1, l1, c1, rfl, hr1, _, hb1⟩
    have HR1 := hid hr1
    clear hr1
    go_wp2
    go_ret2
    exact Told1.ok HO.out HR1.out hb1

theorem bytes_lit {xs : List Int} (h : xs.all (fun x => decide (0 ≤ x ∧ x ≤ 255)) = true) : IsBytes xs := by
  intro x hx
  exact of_decide_eq_true (List.all_eq_true.1 h x hx)
theorem lay_nil_len : (layL []).length = 8 := by rw [layL_len]; simp [encZ_small]
theorem lay_ab_len : (layL [97, 98]).length = 10 := by rw [layL_len]; simp [encZ_small]

set_option maxHeartbeats 1000000 in
theorem alive_any (w : World) : Calls Try.prog 9 #[] w fun e w' => e = .returned (.bool true) ∧ Below w.heap.size w w' := by
  have hL := lay_ok none 0 0 [] w (Reads.nil _ _) (bytes_lit rfl) (by omega)
  rw [lay_nil_len] at hL
  have kc := fun (w : World) (C : Array Value) (n c : Nat) => Lib.run_convert_bytes_const (P := Try.prog) w 22 5 C n c Try.underlying22 Try.underlying5
  go_enter Try.func9, Try.ntmps9
  go_wp2_with fail
  refine hL.mono ?_
  rintro e w1 ⟨v1, rfl, how1, hb1⟩
  obtain ⟨a1, c1, rfl, _⟩ := Reads.own how1
  clear how1 hL
  have hA : Reads .u8 (w1.alloc (.cells #[.int .u8 97, .int .u8 98] 5 (2, 3))) (some ⟨w1.heap.size, 0, none⟩) 2 2 [97, 98] := Reads.block .u8 w1 [97, 98] 5 (2, 3) (by simp)
  have hba : Below w1.heap.size w1 (w1.alloc (.cells #[.int .u8 97, .int .u8 98] 5 (2, 3))) := (Below.refl _ _).alloc (Nat.le_refl _) _
  have hL2 := lay_ok _ 2 2 [97, 98] _ hA (bytes_lit rfl) (by omega)
  clear hA
  rw [lay_ab_len] at hL2
  go_wp2_with fail
  refine hL2.mono ?_
  rintro e w2 ⟨v2, rfl, how2, hb2⟩
  have hb02 : Below w.heap.size w w2 := hb1.trans ((hba.trans (hb2.mono hba.size)).mono hb1.size)
  obtain ⟨a2, c2, rfl, hr2⟩ := Reads.own how2
  have hP := parse_any a2 10 c2 _ w2 hr2 (layL_bytes (bytes_lit rfl)) (by omega)
  have hlp := lay_parse (xs := [97, 98]) (by simp) []
  rw [List.append_nil, lay_ab_len] at hlp
  unfold Told at hP
  rw [hlp] at hP
  clear how2 hL2 hr2 hlp
  go_wp2_with fail
  refine hP.mono ?_
  rintro e w3 ⟨a3, l3, c3, rfl, hr3, _, hb3⟩
  have hb03 : Below w.heap.size w w3 := hb02.trans (hb3.mono hb02.size)
  have cv := hr3.conv (P := Try.prog) 22 9 5 Try.underlying22 Try.underlying5 Try.underlying9
  rw [show strOfNums [97, 98] = ⟨#[97, 98]⟩ from rfl] at cv
  clear hP hr3
  go_wp2
  go_ret
  exact ⟨rfl, hb03⟩

end Go.Proofs.Ytlfppdblionfdaa
