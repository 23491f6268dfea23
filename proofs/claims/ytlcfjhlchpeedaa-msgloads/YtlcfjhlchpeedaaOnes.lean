/-
  Contracts: frame.One and the document's One hand back the load of a frame alone, or the error; the statements' own probe (alive) hands back true.
-/
import Derived.Test.YtlcfjhlchpeedaaRParses
import Derived.Lib.SlBytesConst
namespace Go.Proofs.Ytlcfjhlchpeedaa
open Go.RowKit
open M
set_option linter.unusedVariables false
set_option maxRecDepth 1000000

/-- The load of a frame alone, and the error. -/
def oneF (zs : List Int) : List Int × Int :=
  if (parseF zs).2.2 ≠ 0 then ([], (parseF zs).2.2) else if (parseF zs).2.1 < zs.length then ([], 3) else ((parseF zs).1, 0)

/-- What One hands back. -/
def Told1 (zs : List Int) (w : World) (e : Ending) (w' : World) : Prop :=
  ∃ a l c, e = .returned (.tuple #[.slice a l c, .int .i64 (oneF zs).2]) ∧ Reads .u8 w' a l c (oneF zs).1 ∧ Below w.heap.size w w'
theorem Told1.err {zs : List Int} {w w' : World} {f : Int} (h : oneF zs = ([], f)) (hb : Below w.heap.size w w') : Told1 zs w (.returned (.tuple #[.slice none 0 0, .int .i64 f])) w' :=
  ⟨none, 0, 0, by rw [h], by rw [h]; exact Reads.nil _ _, hb⟩
theorem Told1.ok {zs xs : List Int} {w w' : World} {a : Option Addr} {l c : Nat} (h : oneF zs = (xs, 0)) (hr : Reads .u8 w' a l c xs) (hb : Below w.heap.size w w') :
    Told1 zs w (.returned (.tuple #[.slice a l c, .int .i64 0])) w' :=
  ⟨a, l, c, by rw [h], by rw [h]; exact hr, hb⟩

/-- Each way in which One ends. -/
theorem one_cases {zs : List Int} (hz : IsBytes zs) :
    (¬ (parseF zs).2.2 = 0 ∧ oneF zs = ([], (parseF zs).2.2)) ∨
    (∃ n : Nat, (parseF zs).2.2 = 0 ∧ (parseF zs).2.1 = (n : Int) ∧ n < zs.length ∧ oneF zs = ([], 3)) ∨
    (∃ n : Nat, (parseF zs).2.2 = 0 ∧ (parseF zs).2.1 = (n : Int) ∧ n = zs.length ∧ oneF zs = ((parseF zs).1, 0)) := by
  by_cases h : (parseF zs).2.2 = 0
  · obtain ⟨n, hn, _, hle, _⟩ := parse_lay hz h
    by_cases hl : n < zs.length
    · exact .inr (.inl ⟨n, h, hn, hl, by rw [oneF, if_neg (by simp [h]), if_pos (by omega)]⟩)
    · exact .inr (.inr ⟨n, h, hn, by omega, by rw [oneF, if_neg (by simp [h]), if_neg (by omega)]⟩)
  · exact .inl ⟨h, by rw [oneF, if_pos h]⟩

theorem one_any (a : Option Addr) (len cap : Nat) (zs : List Int) (w : World) (hr : Reads .u8 w a len cap zs) (hz : IsBytes zs) (hlen : len ≤ 100000) :
    Calls Try.prog 44 #[.slice a len cap] w fun e w' => Told1 zs w e w' := by
  have hP := parse_any a len cap zs w hr hz hlen
  have hs := hr.size
  have hcs := one_cases hz
  rw [hs] at hcs
  unfold Told at hP
  clear hr hz hs
  generalize hp : parseF zs = p at *
  obtain ⟨x, n, f⟩ := p
  simp only at hP hcs
  clear hp
  rcases hcs with ⟨hf, ho⟩ | ⟨k, rfl, rfl, hk, ho⟩ | ⟨k, rfl, rfl, hk, ho⟩
  · have HO := hid ho
    clear ho
    go_enter Try.func44, Try.ntmps44
    go_wp2_with fail
    refine hP.mono ?_
    rintro e w' ⟨a1, l1, c1, rfl, hr1, _, hb1⟩
    clear hr1
    go_wp2
    go_ret2
    exact Told1.err HO.out hb1
  · have HO := hid ho
    clear ho
    go_enter Try.func44, Try.ntmps44
    go_wp2_with fail
    refine hP.mono ?_
    rintro e w' ⟨a1, l1, c1, rfl, hr1, _, hb1⟩
    clear hr1
    go_wp2
    go_ret2
    exact Told1.err HO.out hb1
  · have HO := hid ho
    clear ho
    subst hk
    go_enter Try.func44, Try.ntmps44
    go_wp2_with fail
    refine hP.mono ?_
    rintro e w' ⟨a1, l1, c1, rfl, hr1, _, hb1⟩
    have HR1 := hid hr1
    clear hr1
    go_wp2
    go_ret2
    exact Told1.ok HO.out HR1.out hb1

theorem rone_any (a : Option Addr) (len cap : Nat) (zs : List Int) (w : World) (hr : Reads .u8 w a len cap zs) (hz : IsBytes zs) (hlen : len ≤ 10000) :
    Calls Try.prog 45 #[.slice a len cap] w fun e w' => Told1 zs w e w' := by
  have hP := rparse_any a len cap zs w hr hz hlen
  have hs := hr.size
  have hcs := one_cases hz
  rw [hs] at hcs
  unfold Told at hP
  clear hr hz hs
  generalize hp : parseF zs = p at *
  obtain ⟨x, n, f⟩ := p
  simp only at hP hcs
  clear hp
  rcases hcs with ⟨hf, ho⟩ | ⟨k, rfl, rfl, hk, ho⟩ | ⟨k, rfl, rfl, hk, ho⟩
  · have HO := hid ho
    clear ho
    go_enter Try.func45, Try.ntmps45
    go_wp2_with fail
    refine hP.mono ?_
    rintro e w' ⟨a1, l1, c1, rfl, hr1, _, hb1⟩
    clear hr1
    go_wp2
    go_ret2
    exact Told1.err HO.out hb1
  · have HO := hid ho
    clear ho
    have hne : ¬ (k : Int) = (len : Int) := by omega
    go_enter Try.func45, Try.ntmps45
    go_wp2_with fail
    refine hP.mono ?_
    rintro e w' ⟨a1, l1, c1, rfl, hr1, _, hb1⟩
    clear hr1
    go_wp2
    go_ret2
    exact Told1.err HO.out hb1
  · have HO := hid ho
    clear ho
    subst hk
    go_enter Try.func45, Try.ntmps45
    go_wp2_with fail
    refine hP.mono ?_
    rintro e w' ⟨a1, l1, c1, rfl, hr1, _, hb1⟩
    have HR1 := hid hr1
    clear hr1
    go_wp2
    go_ret2
    exact Told1.ok HO.out HR1.out hb1

theorem bytes_lit {xs : List Int} (h : xs.all (fun x => decide (0 ≤ x ∧ x ≤ 255)) = true) : IsBytes xs := by
  intro x hx
  exact of_decide_eq_true (List.all_eq_true.1 h x hx)
end Go.Proofs.Ytlcfjhlchpeedaa
