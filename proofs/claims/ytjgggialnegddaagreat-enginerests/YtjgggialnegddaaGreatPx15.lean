/-
  SaDraws: Contracts of layer 11's own helpers: sum, firstAbove (with slices.IndexFunc), how much a mark counts (the literal of Draw), weigh.
-/
import Derived.Test.YtjgggialnegddaaGreatPx14
import Derived.Deep.QuietTactic
import Derived.BigQuiet
namespace Go.Proofs.YtjgggialnegddaaGreat
open Go.RowKit
set_option linter.unusedVariables false
set_option maxRecDepth 1000000

theorem ssum_any (g len cap : Nat) (ws : List Int) (w : World) (ha : Reads .i64 w (some ⟨g, 0, none⟩) len cap ws) (hlen : len ≤ 1000) :
    Calls Tryz.prog 198 #[.slice (some ⟨g, 0, none⟩) len cap] w fun e w' => e = .returned (.int .i64 (sumK ws len)) ∧ w' = w := by
  have hroom := ha.room
  have hmost := ha.most
  have HA := hid ha
  clear ha
  go_enter Tryz.func198, Tryz.ntmps198
  go_wp2_with fail
  go_loopw [3, 8] (fun s i W => ∃ k : Nat, k ≤ len ∧ s = .int .i64 (sumK ws k) ∧ i = .int .i64 k ∧ Hid (W = w)) (fun _ i _ => len - (intOf i).toNat)
  case atStart => exact ⟨0, Nat.zero_le _, rfl, rfl, rfl⟩
  case round =>
    obtain ⟨k, hk, rfl, rfl, hW⟩ := hrel
    have hW := hW.out
    subst hW
    by_cases hlt : k < len
    · have ck := HA.out.at hlt
      rw [Nat.zero_add] at ck
      have HSu : Hid (addZ (sumK ws k) (ws[k]?.getD 0) = sumK ws (k + 1)) := rfl
      generalize sumK ws k = s at *
      generalize ws[k]?.getD 0 = x at *
      go_wp2_with fail
      refine (add_any _ _ _).mono ?_
      rintro e w' ⟨rfl, rfl⟩
      rw [HSu.out]
      go_wp2_with fail
      go_round
      case rel => exact ⟨k + 1, by omega, rfl, by go_num, trivial⟩
      case measure => simp [intOf]; omega
    · obtain rfl : k = len := by omega
      go_wp2
      go_ret
      exact ⟨rfl, rfl⟩

theorem fa1_any (x s d : Int) (B Bn : Nat) (w : World) (hB : w.heap[B]? = some (.cells #[.int .i64 s] 2 (0, 0))) (hn : w.heap[Bn]? = some (.cells #[.int .i64 d] 2 (0, 0))) (hne : Bn ≠ B) :
    Calls Tryz.prog 223 #[.int .i64 x, .pointer (some ⟨B, 0, none⟩), .pointer (some ⟨Bn, 0, none⟩)] w fun e w' => e = .returned (.bool (decide (d < addZ s x))) ∧ w'.heap[B]? = some (.cells #[.int .i64 (addZ s x)] 2 (0, 0)) ∧ But [B] w w' := by
  have cs := cell_of_one hB
  have fs := free_of_one hB
  have hO := one_setCell (u := .int .i64 (addZ s x)) hB
  have HO := hid hO
  have HBt : Hid (But [B] w (w.setCell ⟨B, 0, none⟩ (.int .i64 (addZ s x)))) := (But.refl _ _).set (p := ⟨B, 0, none⟩) (List.mem_singleton.2 rfl) _
  have cs2 := cell_of_one hO
  have cn2 := cell_of_one (HBt.out.one hn (by simpa using hne))
  clear hB hn hO
  go_enter Tryz.func223, Tryz.ntmps223
  go_wp2_with fail
  refine (add_any _ _ _).mono ?_
  rintro e w' ⟨rfl, rfl⟩
  go_wp2
  go_ret
  exact ⟨rfl, HO.out, HBt.out⟩

/-- What stands in memory between the rounds: the sum so far, and the number. -/
structure FaAt (w : World) (d s : Int) (W : World) : Prop where
  old : Below w.heap.size w W
  num : W.heap[w.heap.size]? = some (.cells #[.int .i64 d] 2 (0, 0))
  var : W.heap[w.heap.size + 1]? = some (.cells #[.int .i64 s] 2 (0, 0))
theorem FaAt.new (w : World) (d : Int) : FaAt w d 0 ((w.alloc (.cells #[.int .i64 d] 2)).alloc (.cells #[.int .i64 0] 2)) := by
  refine ⟨((Below.refl _ _).alloc (Nat.le_refl _) _).alloc (by simp) _, ?_, ?_⟩
  · rw [Below.heap_alloc _ _ _ (by simp)]; exact heap_alloc_new w _
  · have := heap_alloc_new (w.alloc (.cells #[.int .i64 d] 2)) (.cells #[.int .i64 0] 2)
    simpa using this

theorem fIndex_any (g len cap : Nat) (ws : List Int) (d : Int) (w W : World) (ha : Reads .i64 w (some ⟨g, 0, none⟩) len cap ws) (hlen : len ≤ 1000) (d0 : 0 ≤ d) (hd : d < sumK ws len) (h0 : FaAt w d 0 W) :
    Calls Tryz.prog 222 #[.slice (some ⟨g, 0, none⟩) len cap, .func (.func 223) #[] #[.pointer (some ⟨w.heap.size + 1, 0, none⟩), .pointer (some ⟨w.heap.size, 0, none⟩)]] W fun e w' => ∃ k : Nat, e = .returned (.int .i64 k) ∧ FirstAt ws len d k ∧ Below w.heap.size w w' := by
  have hroom := ha.room
  have hmost := ha.most
  have HA := hid ha
  have HD := hid hd
  have HD0 := hid d0
  have H0 : Hid (FaAt w d (sumK ws 0) W) := h0
  have hEn := enters_of Tryz.func223 (by kernel_rfl) rfl
  clear ha hd h0 d0
  go_enter Tryz.func222, Tryz.ntmps222
  go_wp2_with fail
  go_loopw [8] (fun i W => ∃ k : Nat, k ≤ len ∧ i = .int .i64 k ∧ Hid (FaAt w d (sumK ws k) W) ∧ Hid (∀ j, j < k → sumK ws (j + 1) ≤ d)) (fun i _ => len - (intOf i).toNat)
  case atStart => exact ⟨0, Nat.zero_le _, rfl, H0, fun j hj => absurd hj (by omega)⟩
  case round =>
    obtain ⟨k, hk, rfl, HF, HL⟩ := hrel
    clear H0
    rename World => wr
    by_cases hlt : k < len
    · have ck := (HA.out.below HF.out.old).at hlt
      rw [Nat.zero_add] at ck
      have HSu : Hid (addZ (sumK ws k) (ws[k]?.getD 0) = sumK ws (k + 1)) := rfl
      have hC := fa1_any (ws[k]?.getD 0) (sumK ws k) d _ _ wr HF.out.var HF.out.num (by omega)
      rw [HSu.out] at hC
      have HN : Hid (∀ W', But [w.heap.size + 1] wr W' → W'.heap[w.heap.size + 1]? = some (.cells #[.int .i64 (sumK ws (k + 1))] 2 (0, 0)) → FaAt w d (sumK ws (k + 1)) W') := fun W' hb hv =>
        ⟨HF.out.old.trans (hb.to (fun s hs => by rw [List.mem_singleton.1 hs]; omega) HF.out.old.size), hb.one HF.out.num (by simp), hv⟩
      clear HF HSu
      generalize ws[k]?.getD 0 = x at *
      by_cases hu : d < sumK ws (k + 1)
      · have HE : Hid (FirstAt ws len d k) := ⟨hlt, hu, HL.out⟩
        rw [decide_eq_true hu] at hC
        clear HA HD HL hu
        go_wp2_with fail
        refine hC.mono ?_
        rintro e w2 ⟨rfl, h2, hb⟩
        have HB := hid (HN.out _ hb h2).old
        clear hC h2 hb HN
        go_wp2
        go_ret
        exact ⟨k, rfl, HE.out, HB.out⟩
      · rw [decide_eq_false hu] at hC
        have HL2 : Hid (∀ j, j < k + 1 → sumK ws (j + 1) ≤ d) := fun j hj => by
          rcases (by omega : j < k ∨ j = k) with h | rfl
          · exact HL.out j h
          · omega
        clear HL hu
        go_wp2_with fail
        refine hC.mono ?_
        rintro e w2 ⟨rfl, h2, hb⟩
        have HF2 := hid (HN.out _ hb h2)
        clear hC h2 hb HN
        go_wp2_with fail
        go_round
        case rel => exact ⟨k + 1, by omega, by go_num, HF2, HL2⟩
        case measure => simp [intOf]; omega
    · obtain rfl : k = len := by omega
      exact (first_no HD0.out HD.out HL.out).elim
theorem above_any (g len cap : Nat) (ws : List Int) (d : Int) (w : World) (ha : Reads .i64 w (some ⟨g, 0, none⟩) len cap ws) (hlen : len ≤ 1000) (d0 : 0 ≤ d) (hd : d < sumK ws len) :
    Calls Tryz.prog 199 #[.slice (some ⟨g, 0, none⟩) len cap, .int .i64 d] w fun e w' => ∃ k : Nat, e = .returned (.int .i64 k) ∧ FirstAt ws len d k ∧ Below w.heap.size w w' := by
  have HC := hid (fIndex_any g len cap ws d w _ ha hlen d0 hd (FaAt.new w d))
  clear ha d0 hd
  go_enter Tryz.func199, Tryz.ntmps199
  go_wp2_with fail
  refine HC.out.mono ?_
  rintro e w2 ⟨k, rfl, hF, hb⟩
  have HE := hid hF
  have HB := hid hb
  clear HC hF hb
  go_wp2
  go_ret
  exact ⟨k, rfl, HE.out, HB.out⟩

theorem count1_any (a : Option Addr) (len cap m : Nat) (zs : List Int) (heat : Int) (B1 B2 : Nat) (w : World) (ha : Reads .i64 w a len cap zs) (hlen : len ≤ 1000) (hm : m < len)
    (h1 : w.heap[B1]? = some (.cells #[.slice a len cap] 131 (0, 0))) (h2 : w.heap[B2]? = some (.cells #[.int .i64 heat] 3 (0, 0))) :
    Calls Tryz.prog 193 #[.int .i64 m, .pointer (some ⟨B1, 0, none⟩), .pointer (some ⟨B2, 0, none⟩)] w fun e w' => e = .returned (.int .i64 (cntZ zs heat m)) ∧ Below w.heap.size w w' := by
  have c1 := cell_of_one h1
  have c2 := cell_of_one h2
  have hroom := ha.room
  have hmost := ha.most
  obtain ⟨b, o, rfl, cm⟩ := ha.cell m hm
  have HE : Hid (divZ (mulZ (zs[m]?.getD 0) (fromZ 4)) (fromZ heat) = cntZ zs heat m) := by unfold Hid cntZ; rw [Int.toNat_natCast]
  have q1 : (m : Int) < (len : Int) := by omega
  clear ha h1 h2
  generalize zs[m]?.getD 0 = x at *
  go_enter Tryz.func193, Tryz.ntmps193
  go_wp2_with fail
  go_quiet (first | (go_at_call 196; exact Calls.quiet_of_same (from_any _ _)) | (go_at_call 195; exact Calls.quiet_of_same (mul_any _ _ _)) | (go_at_call 194; exact Calls.quiet_of_same (div_any _ _ _)))
  go_wp2
  go_ret
  exact ⟨ret_int HE.out, ⟨rfl, rfl, rfl, Nat.le_refl _, fun _ _ => rfl⟩⟩
end Go.Proofs.YtjgggialnegddaaGreat
