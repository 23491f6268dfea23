/-
  The statements' own functions: theirs, theirW, far.
-/
import Derived.Test.YtmhpgkkaolcncaaRkArgs
namespace Go.Proofs.Ytmhpgkkaolcncaa
open Go.RowKit
set_option linter.unusedVariables false
set_option maxRecDepth 1000000

theorem Try.infoCr : (Try.prog.info? 37).map (fun i => (i.zero, i.size, i.bytes)) = some (some (.agg #[.int .u64 0, .int .i64 0, .int .i64 0, .bool false, .int .i64 0, .bool false]), 6, 48) := by kernel_rfl
theorem Try.infoU19 : (Try.prog.info? 34).map (fun i => (i.zero, i.size, i.bytes)) = some (some (.int .u64 0), 1, 8) := by kernel_rfl
theorem far19_yes (a : Option Addr) (len cap : Nat) (W : World) (h : 60 < len) (r1 : len ≤ cap) (r2 : cap ≤ 9223372036854775807) : Calls Try.prog 7 #[.slice a len cap] W fun e w' => e = .returned (.bool true) ∧ w' = W := by
  have d : decide ((60 : Int) < (len : Int)) = true := decide_eq_true (by omega)
  go_enter Try.func7, Try.ntmps7
  go_wp2
  go_ret
  exact ⟨by first | rfl | (simp; omega), rfl⟩
theorem far19_no (a : Option Addr) (len cap : Nat) (W : World) (h : len ≤ 60) (r1 : len ≤ cap) (r2 : cap ≤ 9223372036854775807) : Calls Try.prog 7 #[.slice a len cap] W fun e w' => e = .returned (.bool false) ∧ w' = W := by
  have d : decide ((60 : Int) < (len : Int)) = false := decide_eq_false (by omega)
  go_enter Try.func7, Try.ntmps7
  go_wp2
  go_ret
  exact ⟨by first | rfl | (simp; omega), rfl⟩
theorem theirW_any (q : Wt) (W : World) : Calls Try.prog 11 #[.agg (WtV q)] W fun e w' => e = .returned (.agg (WtV q)) ∧ Hid (Below W.heap.size W w') := by
  obtain ⟨kn, ld, bd, pl⟩ := q
  unfold WtV
  simp only
  go_enter Try.func11, Try.ntmps11
  go_wp2
  exact bodyPost_ret (v := .agg #[.int .i64 kn, .int .i64 ld, .int .i64 bd, .int .i64 pl]) (by simp [results, Try.results11, go_sem]) rfl ⟨rfl, by unfold Hid; go_grown⟩
set_option maxHeartbeats 8000000 in
theorem theirs_any (a : Option Addr) (len cap : Nat) (l : List Cd) (w : World) (h : CsAt w a len cap l) (hl : len ≤ 60) :
    Calls Try.prog 10 #[.slice a len cap] w fun e w' => ∃ a' cap', e = .returned (.slice a' len cap') ∧ Hid (CsAt w' a' len cap' l ∧ Below w.heap.size w w') := by
  have HW : Hid (∀ W' : World, Below w.heap.size w W' → CsAt W' a len cap l) := fun W' hb => h.below hb
  have HL := hid h.size
  obtain ⟨j0, ji, jz0, jz1, jz2⟩ := Go.info_parts Try.infoCr
  have hrm := h.room
  have hms := h.most
  clear h
  go_enter Try.func10, Try.ntmps10
  go_wp2_with fail
  go_loopw [3, 8] (fun o i W' => ∃ (k : Nat) (v : Value), k ≤ len ∧ i = .int .i64 k ∧ o = v ∧ Hid (OwC w.heap.size 37 W' v (l.take k) ∧ Below w.heap.size w W')) (fun _ i _ => len - (intOf i).toNat)
  case atStart => exact ⟨0, _, Nat.zero_le _, rfl, rfl, OwC.nil _ _ _, Below.refl _ _⟩
  case round =>
  obtain ⟨k, v, hk, rfl, hv, HR⟩ := hrel
  have hv' := hv.symm
  subst hv'
  rename World => wr
  by_cases hkn : k < len
  · have g1 : (k : Int) < (len : Int) := by omega
    obtain ⟨b0, off, rfl, hc⟩ := (HW.out wr HR.out.2).cell k hkn
    obtain ⟨e0, e1, e2, e3, e4, e5⟩ := hc
    have hkl : k < l.length := by rw [HL.out]; exact hkn
    have hsn : l.take (k + 1) = l.take k ++ [ck l k] := by rw [List.take_add_one, ck_get hkl]; rfl
    have hlt : (l.take k).length = k := by rw [List.length_take]; omega
    obtain ⟨ao, co, hv2⟩ := own_sl19 HR.out.1
    rw [hlt] at hv2
    subst hv2
    generalize hck : ck l k = c at *
    obtain ⟨x0, x1, x2, x3, x4, x5⟩ := c
    simp only at e0 e1 e2 e3 e4 e5
    obtain ⟨wB, hwB⟩ : ∃ wB, wB = (wr.alloc (.cells #[.int .u64 x0, .int .i64 x1, .int .i64 x2, .bool x3, .int .i64 x4, .bool x5] 36)).alloc (.cells #[.int .u64 x0, .int .i64 x1, .int .i64 x2, .bool x3, .int .i64 x4, .bool x5] 37) := ⟨_, rfl⟩
    have hbB : Below wr.heap.size wr wB := by rw [hwB]; exact ((Below.refl _ _).alloc (Nat.le_refl _) _).alloc (by simp) _
    have hnew : wB.heap[wr.heap.size + 1]? = some (.cells #[.int .u64 x0, .int .i64 x1, .int .i64 x2, .bool x3, .int .i64 x4, .bool x5] 37 (0, 0)) := by
      rw [hwB]
      have := heap_alloc_new (wr.alloc (.cells #[.int .u64 x0, .int .i64 x1, .int .i64 x2, .bool x3, .int .i64 x4, .bool x5] 36)) (.cells #[.int .u64 x0, .int .i64 x1, .int .i64 x2, .bool x3, .int .i64 x4, .bool x5] 37)
      rwa [World.size_alloc] at this
    have hOw : Hid (wB.ownsRow w.heap.size 37 6 (.slice ao k co) k (flatC (l.take k)) ∧ Below w.heap.size w wB) := by
      have h1 := own_below HR.out.1 hbB
      rw [hlt] at h1
      exact ⟨h1, HR.out.2.trans (hbB.mono HR.out.2.size)⟩
    have HF : Hid (∀ (v5 : Value) (W5 : World), W5.ownsRow w.heap.size 37 6 v5 (k + 1) (flatC (l.take k) ++ flatC [⟨x0, x1, x2, x3, x4, x5⟩]) → wB.grownBy W5 (Value.slice ao k co).ownBlock → OwC w.heap.size 37 W5 v5 (l.take (k + 1)) ∧ Below w.heap.size w W5) := fun v5 W5 h1 h2 => by
      refine ⟨?_, hOw.out.2.grown h2 hOw.out.2.size fun g hg => (hOw.out.1.lt g hg).1⟩
      unfold OwC
      rw [hsn, List.length_append, flatC_app, hlt]
      exact h1
    have HNw := hid (World.news_of_block hnew)
    rw [hwB] at hOw HF HNw
    clear hbB hnew hsn hlt hck HR hwB
    go_wp2_with (at_builtin; refine wpList_append_own _ rfl (.tmp 12) (.tmp 26) 29 rfl w.heap.size 37 j0 (.agg #[.int .u64 0, .int .i64 0, .int .i64 0, .bool false, .int .i64 0, .bool false]) 6 48 Try.underlying29 ji jz0 jz1 jz2 rfl (by decide) (.slice ao k co) k _ rfl hOw.out.1 ⟨wr.heap.size + 1, 0, none⟩ 1 1 [.int .u64 x0, .int .i64 x1, .int .i64 x2, .bool x3, .int .i64 x4, .bool x5] rfl rfl HNw.out (by simp [Value.oneCell']) (by unfold maxLen; omega) (by omega) hOw.out.2.size ?_; intro v5 w5 how5 hgr5 _)
    have HF2 := hid (HF.out _ _ how5 hgr5)
    clear how5 hgr5 HF hOw e0 e1 e2 e3 e4 e5 HNw
    go_wp2_with fail
    go_round
    case rel => exact ⟨k + 1, v5, by omega, by go_num, rfl, HF2.out⟩
    case measure => simp [intOf]; omega
  · have g1 : ¬ (k : Int) < (len : Int) := by omega
    obtain rfl : k = len := by omega
    have htk : l.take k = l := List.take_of_length_le (by rw [HL.out]; exact Nat.le_refl _)
    rw [htk] at HR
    obtain ⟨ao, co, hv2⟩ := own_sl19 HR.out.1
    rw [HL.out] at hv2
    subst hv2
    have HF : Hid (CsAt wr ao k co l ∧ Below w.heap.size w wr) := ⟨CsAt.own (e := 37) (base := w.heap.size) (by have := HR.out.1; unfold OwC at this; rwa [HL.out] at this), HR.out.2⟩
    clear HR htk HW
    go_wp2_with fail
    go_ret
    exact ⟨_, _, rfl, HF.out⟩
end Go.Proofs.Ytmhpgkkaolcncaa
