/-
  Contract of the document's Rows; the statements' own 'alive'.
-/
import Derived.Test.YtehmdlipacbpfaaGreatRModels
namespace Go.Proofs.YtehmdlipacbpfaaGreat
open Go.RowKit
set_option linter.unusedVariables false
set_option maxRecDepth 1000000

/-- The call hands back a table. -/
def GivesT (w : World) (n : Nat) (ls : List (List Int)) (e : Ending) (w' : World) : Prop := ∃ a c hs, e = .returned (.slice a n c) ∧ Tbl w' a n c hs ls ∧ Below w.heap.size w w'
theorem MadeT.gives {w w' : World} {n m : Nat} {F : Nat → List Int} {e : Ending} (h : MadeT w n m F e w') (hm : m ≤ 1000) : GivesT w n (tblK F n) e w' := by
  obtain ⟨G, hs, rfl, hU⟩ := h
  exact ⟨_, _, hs, rfl, hU.tbl hm, hU.old⟩
set_option maxHeartbeats 1000000 in
theorem rrows_yes (s v l tt h la wh : Int) (D : Nat) (w : World) (l0 : 0 ≤ la) (l1 : la < l) (l2 : l ≤ 4) (k0 : 0 ≤ wh) (k1 : wh ≤ 5) (hD : D ≤ 16) :
    Calls Tryz.prog 34 #[.agg (CfV ⟨s, v, D, l, tt, h⟩), .int .i64 la, .int .i64 wh] w fun e w' => GivesT w D (tblK (fun r => rowK (fun k => weightZ s (2 + 6 * la + wh) r k) D) D) e w' := by
  obtain ⟨i0, hi, hz0, hz1, hz2⟩ := info_parts Tryz.infoS
  obtain ⟨F, hF⟩ : ∃ F : Nat → List Int, F = fun (r : Nat) => rowK (fun k => weightZ s (2 + 6 * la + wh) r k) D := ⟨_, rfl⟩
  rw [← hF]
  have HC : Hid (∀ (r : Nat) (W : World), r < D → Calls Tryz.prog 76 #[.agg (CfV ⟨s, v, D, l, tt, h⟩), .int .i64 (2 + 6 * la + wh), .int .i64 r] W fun e w' => GivesO W D (F r) e w') := by
    intro r W hr
    rw [hF]
    exact rrow_any s v l tt h _ r D W (by omega) (by omega) (by omega) (by omega) hD
  have HK := hid fun (W : World) (hb : Below (w.heap.size + 1) (w.alloc (.cells (CfV ⟨s, v, D, l, tt, h⟩) 24)) W) => Cf_cells ((hb.block w.heap.size (by omega)).trans (heap_alloc_new w _))
  have HB0 : Hid (∀ W, Below (w.heap.size + 1) (w.alloc (.cells (CfV ⟨s, v, D, l, tt, h⟩) 24)) W → w.heap.size + 1 ≤ W.heap.size ∧ Below w.heap.size w W) := fun W hb =>
    ⟨by have := hb.size; simpa using this, ((Below.refl _ _).alloc (Nat.le_refl _) _).trans (hb.mono (by omega))⟩
  clear hF
  unfold CfV at HK HB0 HC ⊢
  simp only at HK HB0 HC ⊢
  go_enter Tryz.func34, Tryz.ntmps34
  go_wp2_with fail
  go_loopw [7, 8] (fun u i W => ∃ (k : Nat) (hs : List Hd), k ≤ D ∧ i = .int .i64 k ∧ Hid (RowsI W (w.heap.size + 1) u k hs (tblK F k)) ∧ Hid (Below (w.heap.size + 1) (w.alloc (.cells #[.int .u64 s, .int .i64 v, .int .i64 D, .int .i64 l, .int .i64 tt, .int .i64 h] 24)) W)) (fun _ i _ => D - (intOf i).toNat)
  case atStart => exact ⟨0, [], Nat.zero_le _, rfl, RowsI.nil _ _, Below.refl _ _⟩
  case round =>
    obtain ⟨k, hs, hk, rfl, HO, HW⟩ := hrel
    obtain ⟨c0, c1, c2, c3, c4, c5⟩ := HK.out wr HW.out
    by_cases hlt : k < D
    · have hC := HC.out k wr hlt
      have q1 : (k : Int) < (D : Int) := by omega
      have HE := hid (tblK_snoc F k)
      clear HC HK
      generalize F k = x at *
      generalize tblK F k = us at *
      go_wp2_with fail
      refine hC.mono ?_
      rintro e w2 ⟨v2, rfl, hO2, hb2⟩
      have HO2 := hid (HO.out.below hb2)
      have HW2 := hid (HW.out.trans (hb2.mono (HB0.out _ HW.out).1))
      have HS : Hid (w.heap.size + 1 ≤ w2.heap.size) := (HB0.out _ HW2.out).1
      obtain ⟨a2, n2, rfl, hr2⟩ := Reads.own (k := .i64) hO2
      have HR2 := hid hr2
      have HI2 := hid (BlI.own hO2)
      clear hb2 hC c0 c1 c2 c3 c4 c5 HO HW hO2 hr2
      have hal : Hid (∀ o, Below w2.heap.size w2 (w2.alloc o)) := fun o => (Below.refl _ _).alloc (Nat.le_refl _) _
      go_wp2_with (at_builtin; refine append_rowI _ rfl (.tmp 31) (.tmp 40) 26 rfl (w.heap.size + 1) i0 Tryz.underlying26 hi hz0 hz1 hz2 _ k hs us rfl (HO2.out.below (hal.out _)) (by omega) w2.heap.size (a2, D, n2) x rfl (by simp) (HR2.out.below (hal.out _)) (HI2.out.below (hal.out _)) (by simp only; omega) (Nat.le_trans HS.out (by simp)) ?_; intro v' w3 hO3 hb3)
      have HB3 := hid ((HW2.out.alloc HS.out _).trans hb3)
      have HO3 : Hid (RowsI w3 (w.heap.size + 1) v' (k + 1) (hs ++ [(a2, D, n2)]) (tblK F (k + 1))) := by rw [← HE.out]; exact hO3
      clear hO3 hb3 HE HO2 HW2 HS HR2 HI2 hal
      go_wp2_with fail
      go_round
      case rel => exact ⟨k + 1, _, by omega, by go_num, HO3, HB3⟩
      case measure => simp [intOf]; omega
    · obtain rfl : k = D := by omega
      obtain ⟨ra, rc, rfl, hT⟩ := HO.out.tbl
      have HT := hid hT
      clear HC HK hT HO
      go_wp2
      go_ret
      exact ⟨_, _, hs, rfl, HT.out, (HB0.out _ HW.out).2⟩

theorem may_al : mayB ⟨0, 2, 1, 1, 1, 0⟩ = true := by decide
end Go.Proofs.YtehmdlipacbpfaaGreat
