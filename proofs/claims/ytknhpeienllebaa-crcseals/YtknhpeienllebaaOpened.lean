/-
  crc.Open and the document's Open hand back the same bytes and the same error, whatever bytes are opened.
-/
import Derived.Test.YtknhpeienllebaaOpens
import Derived.Test.YtknhpeienllebaaROpens
namespace Go.Proofs.Ytknhpeienllebaa
open Go.RowKit
open M
set_option linter.unusedVariables false

theorem opens_same (zs : List Int) (hz : IsBytes zs) (hl : zs.length ≤ 10000) : ∃ (f : Int) (xs : List Int), ∀ (a : Option Addr) (len cap : Nat) (w : World), Reads .u8 w a len cap zs →
    (Calls Try.prog 15 #[.slice a len cap] w fun e w' => ∃ ax lx cx, e = .returned (.tuple #[.slice ax lx cx, .int .i64 f]) ∧ Reads .u8 w' ax lx cx xs ∧ Below w.heap.size w w') ∧
    (Calls Try.prog 16 #[.slice a len cap] w fun e w' => ∃ ax lx cx, e = .returned (.tuple #[.slice ax lx cx, .int .i64 f]) ∧ Reads .u8 w' ax lx cx xs ∧ Below w.heap.size w w') := by
  by_cases h4 : zs.length < 4
  · refine ⟨4, [], fun a len cap w hr => ⟨?_, ?_⟩⟩
    · refine (open_short a len cap w (by rw [← hr.size]; exact h4)).mono ?_
      rintro e w' ⟨rfl, rfl⟩
      exact ⟨none, 0, 0, rfl, Reads.nil _ _, Below.refl _ _⟩
    · refine (ropen_short a len cap w (by rw [← hr.size]; exact h4)).mono ?_
      rintro e w' ⟨rfl, rfl⟩
      exact ⟨none, 0, 0, rfl, Reads.nil _ _, Below.refl _ _⟩
  · obtain ⟨n, hn⟩ : ∃ n, zs.length = n + 4 := ⟨zs.length - 4, by omega⟩
    by_cases hs : Sealed zs
    · refine ⟨0, zs.take n, fun a len cap w hr => ?_⟩
      obtain rfl : len = n + 4 := by rw [← hr.size, hn]
      obtain ⟨b, off, rfl, _⟩ := hr.cell 0 (by omega)
      refine ⟨(open_ok b off n cap zs w hr hz (by omega) hs).mono ?_, (ropen_ok b off n cap zs w hr hz (by omega) hs).mono ?_⟩
      all_goals
        rintro e w' ⟨v, rfl, how, hb⟩
        obtain ⟨ax, cx, rfl, hx⟩ := Reads.own how
        exact ⟨ax, n, cx, rfl, hx, hb⟩
    · refine ⟨8, [], fun a len cap w hr => ?_⟩
      obtain rfl : len = n + 4 := by rw [← hr.size, hn]
      obtain ⟨b, off, rfl, _⟩ := hr.cell 0 (by omega)
      refine ⟨(open_bad b off n cap zs w hr hz (by omega) hs).mono ?_, (ropen_bad b off n cap zs w hr hz (by omega) hs).mono ?_⟩
      all_goals
        rintro e w' ⟨rfl, hb⟩
        exact ⟨none, 0, 0, rfl, Reads.nil _ _, hb⟩

end Go.Proofs.Ytknhpeienllebaa
