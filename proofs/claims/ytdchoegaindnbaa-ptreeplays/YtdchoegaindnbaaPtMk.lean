/-
  A mark's text, HasPrefix, the three tests of marks (isBeginning, of a replica, isOld).
-/
import Derived.Test.YtdchoegaindnbaaPtTxt
namespace Go.Proofs.Ytdchoegaindnbaa
open Go.RowKit
set_option linter.unusedVariables false
set_option maxRecDepth 1000000

theorem encZ_size {x : Int} (hx : isU x) (ts : List Int) : (encZ x).length ≤ (nmZ x ts).length := by unfold nmZ; rw [List.length_append]; omega
theorem Mk.text_eq (m : Mk) : m.nm.drop (encZ m.rep).length = txZ m.toks := by unfold Mk.nm nmZ; rw [List.drop_left]
set_option maxHeartbeats 2000000 in
theorem mtext_any {W : World} {m : Mk} (h : MkB W m) (hk : m.ok) : Calls Try.prog 26 #[.pointer (some ⟨m.blk, 0, none⟩)] W fun r w' => r = .returned (.string (strOfNums (txZ m.toks))) ∧ ∃ q, w' = W.drewN q := by
  have c0 := h.cells.1
  have c1 := h.cells.2.1
  have hS := fun w : World => size_any m.rep w hk.1.1 hk.1.2
  have hl : (nmZ m.rep m.toks).length ≤ 10010 := by
    have := nmZ_len hk.1 hk.2.1
    have := hk.2.2.1
    omega
  have hle : (encZ m.rep).length ≤ m.nm.length := encZ_size hk.1 m.toks
  have HE : Hid ((strOfNums m.nm).extract (encZ m.rep).length m.nm.length = strOfNums (txZ m.toks)) := by
    unfold Hid
    rw [strN_drop, Mk.text_eq]
  have hz : (strOfNums m.nm).size = m.nm.length := strOfNums_size _
  change m.nm.length ≤ 10010 at hl
  clear h hk
  generalize m.nm.length = n at *
  generalize strOfNums m.nm = s at *
  generalize (encZ m.rep).length = k at *
  go_enter Try.func26, Try.ntmps26
  go_wp2_with fail
  go_quiet ((go_at_call 39; exact Calls.quiet_of_same (hS _)))
  go_wp2
  go_ret
  exact ⟨by rw [← HE.out]; rfl, nq, rfl⟩
theorem pre_take {xs ys : List Int} : xs <+: ys ↔ xs.length ≤ ys.length ∧ ys.take xs.length = xs := by
  constructor
  · intro h
    exact ⟨h.length_le, (List.prefix_iff_eq_take.1 h).symm⟩
  · rintro ⟨_, h⟩
    exact List.prefix_iff_eq_take.2 h.symm
set_option maxHeartbeats 1000000 in
theorem hpre1 {xs ys : List Int} (hx : IsBytes xs) (hy : IsBytes ys) (W : World) : Calls Try.prog 38 #[.string (strOfNums ys), .string (strOfNums xs)] W fun r w' => r = .returned (.bool (decide (xs <+: ys))) ∧ w' = W := by
  have e1 : (strOfNums xs).size = xs.length := strOfNums_size _
  have e2 : (strOfNums ys).size = ys.length := strOfNums_size _
  by_cases hl : xs.length ≤ ys.length
  · have HE : Hid ((((strOfNums ys).extract 0 xs.length).toList == (strOfNums xs).toList) = decide (xs <+: ys)) := by
      unfold Hid
      rw [strN_take]
      by_cases e : ys.take xs.length = xs
      · rw [e, decide_eq_true (pre_take.2 ⟨hl, e⟩)]
        simp
      · rw [decide_eq_false (fun h => e (pre_take.1 h).2)]
        rw [beq_eq_false_iff_ne]
        intro h
        refine e (strN_inj (hy.take _) hx (ByteArray.ext (Array.toList_inj.1 ?_)))
        simpa [Lib.toList_data] using h
    have g1 : (xs.length : Int) ≤ (ys.length : Int) := by omega
    generalize decide (xs <+: ys) = d at *
    generalize strOfNums xs = s at *
    generalize strOfNums ys = t at *
    generalize xs.length = n at *
    generalize ys.length = k at *
    clear hx hy
    go_enter Try.func38, Try.ntmps38
    go_wp2
    go_ret
    exact ⟨by rw [← HE.out]; rfl, rfl⟩
  · have hd : decide (xs <+: ys) = false := decide_eq_false fun h => hl h.length_le
    rw [hd]
    have g1 : ¬ (xs.length : Int) ≤ (ys.length : Int) := by omega
    generalize strOfNums xs = s at *
    generalize strOfNums ys = t at *
    generalize xs.length = n at *
    generalize ys.length = k at *
    clear hx hy
    go_enter Try.func38, Try.ntmps38
    go_wp2
    go_ret
    exact ⟨rfl, rfl⟩
theorem hpre {xs ys : List Int} (hx : IsBytes xs) (hy : IsBytes ys) (W : World) : Calls Try.prog 25 #[.string (strOfNums ys), .string (strOfNums xs)] W fun r w' => r = .returned (.bool (decide (xs <+: ys))) ∧ w' = W := by
  have hH := hpre1 hx hy W
  go_enter Try.func25, Try.ntmps25
  go_wp2_with fail
  refine hH.mono ?_
  rintro r w1 ⟨rfl, rfl⟩
  go_wp2
  go_ret
  exact ⟨rfl, rfl⟩
set_option maxHeartbeats 1000000 in
/-- isBeginning. -/
theorem is_beg {W : World} {m : Mk} (h : MkB W m) (hk : m.ok) {g : Nat} {ts : List Int} (hc : W.cell? ⟨g, 0, none⟩ = some (.string (strOfNums (txZ ts)))) (hi : isIs ts) :
    Calls Try.prog 24 #[.pointer (some ⟨m.blk, 0, none⟩), .pointer (some ⟨g, 0, none⟩)] W fun r w' => r = .returned (.bool (decide (m.toks <+: ts))) ∧ ∃ q, w' = W.drewN q := by
  have HT := hid fun q : Nat => mtext_any (W := W.drewN q) (m := m) h hk
  have hH := fun w : World => hpre (txZ_bytes m.toks) (txZ_bytes ts) w
  rw [show decide (txZ m.toks <+: txZ ts) = decide (m.toks <+: ts) from decide_eq_decide.2 (txZ_pre hk.2.1 hi)] at hH
  have HH := hid hH
  clear hH h hk
  go_enter Try.func24, Try.ntmps24
  go_wp2_with fail
  go_quiet ((first | (go_at_call 26; exact Calls.quiet_of (HT.out _)) | (go_at_call 25; exact Calls.quiet_of_same (HH.out _))))
  go_wp2
  go_ret
  exact ⟨rfl, nq, rfl⟩
/-- Is it a replica's? -/
theorem is_rep {W : World} {m : Mk} (h : MkB W m) {g : Nat} {x : Int} (hc : W.cell? ⟨g, 0, none⟩ = some (.int .u64 x)) :
    Calls Try.prog 29 #[.pointer (some ⟨m.blk, 0, none⟩), .pointer (some ⟨g, 0, none⟩)] W fun r w' => r = .returned (.bool (decide (m.rep = x))) ∧ ∃ q, w' = W.drewN q := by
  have c1 := h.cells.2.1
  clear h
  generalize m.rep = y at *
  by_cases e : y = x
  · rw [decide_eq_true e]
    subst e
    go_enter Try.func29, Try.ntmps29
    go_wp2_with fail
    go_quiet ((fail))
    go_wp2
    go_ret
    exact ⟨rfl, nq, rfl⟩
  · rw [decide_eq_false e]
    go_enter Try.func29, Try.ntmps29
    go_wp2_with fail
    go_quiet ((fail))
    go_wp2
    go_ret
    exact ⟨by first | rfl | simp [e], nq, rfl⟩
/-- isOld. -/
theorem is_old {W : World} {m : Mk} (h : MkB W m) {g B room size M : Nat} {time : Int} (hc : W.cell? ⟨g, 0, none⟩ = some (.pointer (some ⟨B, 0, none⟩))) (hB : TrB W B room size M time) :
    Calls Try.prog 41 #[.pointer (some ⟨m.blk, 0, none⟩), .pointer (some ⟨g, 0, none⟩)] W fun r w' => r = .returned (.bool (decide (m.used < time))) ∧ ∃ q, w' = W.drewN q := by
  have c1 := h.cells.2.2.2
  have c2 := hB.cells.2.2.2
  clear h hB
  generalize m.used = y at *
  by_cases e : y < time
  · rw [decide_eq_true e]
    go_enter Try.func41, Try.ntmps41
    go_wp2_with fail
    go_quiet ((fail))
    go_wp2
    go_ret
    exact ⟨by first | rfl | simp [e], nq, rfl⟩
  · rw [decide_eq_false e]
    go_enter Try.func41, Try.ntmps41
    go_wp2_with fail
    go_quiet ((fail))
    go_wp2
    go_ret
    exact ⟨by first | rfl | simp [e], nq, rfl⟩
end Go.Proofs.Ytdchoegaindnbaa
