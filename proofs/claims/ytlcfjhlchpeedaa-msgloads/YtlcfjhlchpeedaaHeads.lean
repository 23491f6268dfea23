/-
  Contracts: frame.checkHead hands back what is wrong with the mark and the version (headF); varint.GetBytes with at most 2048 bytes hands back the number's error, ErrMany, ErrEnd, or so many bytes.
-/
import Derived.Test.YtlcfjhlchpeedaaLays
namespace Go.Proofs.Ytlcfjhlchpeedaa
open Go.RowKit
open M
set_option linter.unusedVariables false
set_option maxRecDepth 1000000

/-- Each way in which bytes begin. -/
theorem head_cases (zs : List Int) {len : Nat} (hl : zs.length = len) :
    (len = 0 ∧ headF zs = 4) ∨ (1 ≤ len ∧ ¬ zs[0]?.getD 0 = 71 ∧ headF zs = 3) ∨ (len = 1 ∧ zs[0]?.getD 0 = 71 ∧ headF zs = 4) ∨
    (2 ≤ len ∧ zs[0]?.getD 0 = 71 ∧ ¬ zs[1]?.getD 0 = 98 ∧ headF zs = 3) ∨ (len = 2 ∧ zs[0]?.getD 0 = 71 ∧ zs[1]?.getD 0 = 98 ∧ headF zs = 4) ∨
    (3 ≤ len ∧ zs[0]?.getD 0 = 71 ∧ zs[1]?.getD 0 = 98 ∧ ¬ zs[2]?.getD 0 = 1 ∧ headF zs = 11) ∨ (3 ≤ len ∧ zs[0]?.getD 0 = 71 ∧ zs[1]?.getD 0 = 98 ∧ zs[2]?.getD 0 = 1 ∧ headF zs = 0) := by
  unfold headF
  rw [hl]
  generalize zs[0]?.getD 0 = x
  generalize zs[1]?.getD 0 = y
  generalize zs[2]?.getD 0 = z
  by_cases h0 : len = 0
  · subst h0; simp
  · by_cases hx : x = 71
    · subst hx
      by_cases h1 : len = 1
      · subst h1; simp
      · by_cases hy : y = 98
        · subst hy
          by_cases h2 : len = 2
          · subst h2; simp
          · by_cases hz : z = 1
            · subst hz
              have : ¬ len < 3 := by omega
              simp [this]; omega
            · have : ¬ len < 3 := by omega
              simp [this, hz]; omega
        · have : 1 < len := by omega
          simp [this, hy]; omega
    · have : 0 < len := by omega
      simp [this, hx]; omega

/-- The first cells of bytes. -/
theorem Reads.cells {w : World} {b off len cap : Nat} {zs : List Int} (h : Reads .u8 w (some ⟨b, off, none⟩) len cap zs) {i : Nat} (hi : i < len) : w.cell? ⟨b, off + i, none⟩ = some (.int .u8 (zs[i]?.getD 0)) := by
  obtain ⟨b', off', ha, hc⟩ := h.cell i hi
  cases ha
  exact hc

set_option maxHeartbeats 1000000 in
theorem checkhead_any (a : Option Addr) (len cap : Nat) (zs : List Int) (w : World) (hr : Reads .u8 w a len cap zs) (hz : IsBytes zs) (hlen : len ≤ 100000) :
    Calls Try.prog 67 #[.slice a len cap] w fun e w' => e = .returned (.int .i64 (headF zs)) ∧ w' = w := by
  rcases head_cases zs hr.size with ⟨h, hf⟩ | ⟨h, h0, hf⟩ | ⟨h, h0, hf⟩ | ⟨h, h0, h1, hf⟩ | ⟨h, h0, h1, hf⟩ | ⟨h, h0, h1, h2, hf⟩ | ⟨h, h0, h1, h2, hf⟩
  · rw [hf]
    clear hr hz hf
    subst h
    go_enter Try.func67, Try.ntmps67
    go_wp2
    go_ret
    exact ⟨rfl, rfl⟩
  · obtain ⟨b, off, rfl, _⟩ := hr.cell 0 (by omega)
    have c0 : w.cell? ⟨b, off, none⟩ = some (.int .u8 (zs[0]?.getD 0)) := hr.cells (i := 0) (by omega)
    have b0 := hz.at 0
    rw [hf]
    clear hr hz hf
    generalize zs[0]?.getD 0 = x at *
    rcases (by omega : x < 71 ∨ 71 < x) with h0 | h0
    all_goals
      go_enter Try.func67, Try.ntmps67
      go_wp2
      go_ret
      exact ⟨rfl, rfl⟩
  · subst h
    obtain ⟨b, off, rfl, _⟩ := hr.cell 0 (by omega)
    have c0 : w.cell? ⟨b, off, none⟩ = some (.int .u8 (zs[0]?.getD 0)) := hr.cells (i := 0) (by omega)
    rw [h0] at c0
    rw [hf]
    clear hr hz hf h0
    go_enter Try.func67, Try.ntmps67
    go_wp2
    go_ret
    exact ⟨rfl, rfl⟩
  · obtain ⟨b, off, rfl, _⟩ := hr.cell 0 (by omega)
    have c0 : w.cell? ⟨b, off, none⟩ = some (.int .u8 (zs[0]?.getD 0)) := hr.cells (i := 0) (by omega)
    have c1 := hr.cells (i := 1) (by omega)
    have b1 := hz.at 1
    rw [h0] at c0
    rw [hf]
    clear hr hz hf h0
    generalize zs[1]?.getD 0 = x at *
    rcases (by omega : x < 98 ∨ 98 < x) with h1 | h1
    all_goals
      go_enter Try.func67, Try.ntmps67
      go_wp2
      go_ret
      exact ⟨rfl, rfl⟩
  · subst h
    obtain ⟨b, off, rfl, _⟩ := hr.cell 0 (by omega)
    have c0 : w.cell? ⟨b, off, none⟩ = some (.int .u8 (zs[0]?.getD 0)) := hr.cells (i := 0) (by omega)
    have c1 := hr.cells (i := 1) (by omega)
    rw [h0] at c0
    rw [h1] at c1
    rw [hf]
    clear hr hz hf h0 h1
    go_enter Try.func67, Try.ntmps67
    go_wp2
    go_ret
    exact ⟨rfl, rfl⟩
  · obtain ⟨b, off, rfl, _⟩ := hr.cell 0 (by omega)
    have c0 : w.cell? ⟨b, off, none⟩ = some (.int .u8 (zs[0]?.getD 0)) := hr.cells (i := 0) (by omega)
    have c1 := hr.cells (i := 1) (by omega)
    have c2 := hr.cells (i := 2) (by omega)
    have b2 := hz.at 2
    rw [h0] at c0
    rw [h1] at c1
    rw [hf]
    clear hr hz hf h0 h1
    generalize zs[2]?.getD 0 = x at *
    rcases (by omega : x < 1 ∨ 1 < x) with h2 | h2
    all_goals
      go_enter Try.func67, Try.ntmps67
      go_wp2
      go_ret
      exact ⟨rfl, rfl⟩
  · obtain ⟨b, off, rfl, _⟩ := hr.cell 0 (by omega)
    have c0 : w.cell? ⟨b, off, none⟩ = some (.int .u8 (zs[0]?.getD 0)) := hr.cells (i := 0) (by omega)
    have c1 := hr.cells (i := 1) (by omega)
    have c2 := hr.cells (i := 2) (by omega)
    rw [h0] at c0
    rw [h1] at c1
    rw [h2] at c2
    rw [hf]
    clear hr hz hf h0 h1 h2
    go_enter Try.func67, Try.ntmps67
    go_wp2
    go_ret
    exact ⟨rfl, rfl⟩

theorem getbytes_num (a : Option Addr) (len cap : Nat) (zs : List Int) (m k f : Int) (w : World) (hr : Reads .u8 w a len cap zs) (hz : IsBytes zs) (hlen : len ≤ 100000) (hg : getF zs 0 0 = (m, k, f)) (hf : ¬ f = 0) :
    Calls Try.prog 68 #[.slice a len cap, .int .i64 2048] w fun e w' => e = .returned (.tuple #[.slice none 0 0, .int .i64 0, .int .i64 f]) ∧ w' = w := by
  have hG := get_any a len cap zs w hr hz (by omega)
  rw [gotV_of hg] at hG
  clear hr hz hg
  go_enter Try.func68, Try.ntmps68
  go_wp2_with fail
  refine hG.mono ?_
  rintro e w' ⟨rfl, rfl⟩
  go_wp2
  go_ret3
  exact ⟨rfl, rfl⟩

theorem getbytes_many (a : Option Addr) (len cap : Nat) (zs : List Int) (m k : Int) (w : World) (hr : Reads .u8 w a len cap zs) (hz : IsBytes zs) (hlen : len ≤ 100000) (hg : getF zs 0 0 = (m, k, 0)) (hm : 2048 < m) :
    Calls Try.prog 68 #[.slice a len cap, .int .i64 2048] w fun e w' => e = .returned (.tuple #[.slice none 0 0, .int .i64 0, .int .i64 5]) ∧ w' = w := by
  have hG := get_any a len cap zs w hr hz (by omega)
  rw [gotV_of hg] at hG
  clear hr hz hg
  go_enter Try.func68, Try.ntmps68
  go_wp2_with fail
  refine hG.mono ?_
  rintro e w' ⟨rfl, rfl⟩
  go_wp2
  go_ret3
  exact ⟨rfl, rfl⟩

theorem getbytes_end (a : Option Addr) (len cap : Nat) (zs : List Int) (N K : Nat) (w : World) (hr : Reads .u8 w a len cap zs) (hz : IsBytes zs) (hlen : len ≤ 100000) (hg : getF zs 0 0 = ((N : Int), (K : Int), 0)) (hN : N ≤ 2048) (hK : K ≤ len) (hl : len < K + N) :
    Calls Try.prog 68 #[.slice a len cap, .int .i64 2048] w fun e w' => e = .returned (.tuple #[.slice none 0 0, .int .i64 0, .int .i64 4]) ∧ w' = w := by
  have hG := get_any a len cap zs w hr hz (by omega)
  rw [gotV_of hg] at hG
  clear hr hz hg
  go_enter Try.func68, Try.ntmps68
  go_wp2_with fail
  refine hG.mono ?_
  rintro e w' ⟨rfl, rfl⟩
  go_wp2
  go_ret3
  exact ⟨rfl, rfl⟩

end Go.Proofs.Ytlcfjhlchpeedaa
