/-
  DeLaw: What the statements of layer 12 lean on: far, alive.
-/
import Derived.Test.YtahpilgbabjebaaGreatPk16
import Derived.Deep.QuietTactic
import Derived.BigQuiet
namespace Go.Proofs.YtahpilgbabjebaaGreat
open Go.RowKit
set_option linter.unusedVariables false
set_option maxRecDepth 1000000

/-- What far answers. -/
def FarJ (w : World) (lp : Nat) (mo : Int) (e : Ending) (w' : World) : Prop := ∃ b, e = .returned (.bool b) ∧ (b = false → (lp ≤ 10 ∨ 255 ≤ lp) ∧ lp ≤ 1000 ∧ (mo ≤ 12 ∨ 256 < mo)) ∧ Below w.heap.size w w'
theorem far12_any (j : Jb) (w : World) (hj : JbIn w j) :
    Calls Tryz.prog 10 #[.agg (JbV j)] w fun e w' => FarJ w j.lp j.most e w' := by
  have hz := hj.size
  have r1 := hj.room
  have m1 := hj.most
  have HB : Hid (Below w.heap.size w (w.alloc (.cells (JbV j) 27))) := (Below.refl _ _).alloc (Nat.le_refl _) _
  obtain ⟨sd, ap, lp, cp, ts, mo⟩ := j
  clear hj
  unfold JbV at *
  simp only at *
  rcases (by omega : (¬ (10 : Int) < (lp : Int) ∧ ¬ (1000 : Int) < (lp : Int)) ∨ ((10 : Int) < (lp : Int) ∧ (lp : Int) < 255) ∨ ((10 : Int) < (lp : Int) ∧ ¬ (lp : Int) < 255 ∧ ¬ (1000 : Int) < (lp : Int)) ∨ ((10 : Int) < (lp : Int) ∧ ¬ (lp : Int) < 255 ∧ (1000 : Int) < (lp : Int))) with ⟨h1, h2⟩ | ⟨h1, h2⟩ | ⟨h1, h2, h3⟩ | ⟨h1, h2, h3⟩ <;>
  rcases (by omega : ¬ (12 : Int) < mo ∨ ((12 : Int) < mo ∧ mo ≤ 256) ∨ ((12 : Int) < mo ∧ ¬ mo ≤ 256)) with h4 | ⟨h4, h5⟩ | ⟨h4, h5⟩
  all_goals
    go_enter Tryz.func10, Tryz.ntmps10
    go_wp2
    go_ret
    exact ⟨_, rfl, fun hb => by first | (cases hb; done) | omega, HB.out⟩

theorem reads_two (w : World) (x y : Int) (t : TypeId) : Reads .i64 (w.alloc (.cells #[.int .i64 x, .int .i64 y] t)) (some ⟨w.heap.size, 0, none⟩) 2 2 [x, y] := by
  refine ⟨rfl, Nat.le_refl _, by omega, (fun e => by cases e), fun i hi => ⟨w.heap.size, 0, rfl, ?_⟩⟩
  rw [Nat.zero_add, cell_of_row _ w.heap.size i _ _ _ (heap_alloc_new w _)]
  rcases (by omega : i = 0 ∨ i = 1) with rfl | rfl <;> rfl
theorem may_al12 : mayB ⟨3, 5, 2, 1, 5, 8⟩ = true := by decide
theorem mayJ_al12 : mayJ 5 3 [1, 2] = true := by decide
theorem alive12_any (w : World) : Calls Tryz.prog 12 #[] w fun e w' => e = .returned (.bool true) ∧ Below w.heap.size w w' := by
  have hN := new_yes ⟨3, 5, 2, 1, 5, 8⟩ w may_al12
  have HRf := hid fun p g W (hp : MdAt W p ⟨3, 5, 2, 1, 5, 8⟩) (hj : Reads .i64 W (some ⟨g, 0, none⟩) 2 2 [1, 2]) => dref_yes p ⟨3, 5, 2, 1, 5, 8⟩ ⟨1, some ⟨g, 0, none⟩, 2, 2, [1, 2], 3⟩ W hp may_al12 hj mayJ_al12
  have HSt := hid fun p g W (hp : MdAt W p ⟨3, 5, 2, 1, 5, 8⟩) (hj : Reads .i64 W (some ⟨g, 0, none⟩) 2 2 [1, 2]) => dstart_yes p ⟨3, 5, 2, 1, 5, 8⟩ ⟨1, some ⟨g, 0, none⟩, 2, 2, [1, 2], 3⟩ none 0 0 [] W hp may_al12 hj (Reads.nil _ _) mayJ_al12 (by simp) (by simp) (fun i hi => absurd hi (by omega))
  have HLn := hid (refL_len ⟨3, 5, 2, 1, 5, 8⟩ 1 3 (0 :: [1, 2]))
  unfold CfV at hN
  unfold JbV at HRf HSt
  simp only [List.append_nil, show (3 : Int).toNat = 3 from rfl] at hN HRf HSt
  generalize refL ⟨3, 5, 2, 1, 5, 8⟩ 1 (0 :: [1, 2]) 3 = rs at *
  go_enter Tryz.func12, Tryz.ntmps12
  go_wp2_with fail
  refine hN.mono ?_
  rintro e w1 ⟨g, rfl, hg, hM, hb⟩
  have HMd : Hid (MdAt w1 (some ⟨g, 0, none⟩) ⟨3, 5, 2, 1, 5, 8⟩) := .inr ⟨g, rfl, hM⟩
  have HB := hid hb
  clear hN hb hM hg
  obtain ⟨wA, hwA⟩ : ∃ wA, wA = w1.alloc (.cells #[.int .i64 1, .int .i64 2] 3) := ⟨_, rfl⟩
  have hA : Below w1.heap.size w1 wA := by rw [hwA]; exact (Below.refl _ _).alloc (Nat.le_refl _) _
  obtain ⟨wB, hwB⟩ : ∃ wB, wB = wA.alloc (.cells #[.int .u64 1, .slice (some ⟨w1.heap.size, 0, none⟩) 2 2, .int .i64 3] 27) := ⟨_, rfl⟩
  have hB : Below wA.heap.size wA wB := by rw [hwB]; exact (Below.refl _ _).alloc (Nat.le_refl _) _
  have HRd : Hid (Reads .i64 wB (some ⟨w1.heap.size, 0, none⟩) 2 2 [1, 2]) := by
    have := reads_two w1 1 2 3
    rw [← hwA] at this
    exact this.below hB
  have HK := hid fun (W : World) (hb : Below wB.heap.size wB W) => Jb_cells (j := ⟨1, some ⟨w1.heap.size, 0, none⟩, 2, 2, [1, 2], 3⟩) (block_below (show wB.heap[w1.heap.size + 1]? = some (.cells (JbV ⟨1, some ⟨w1.heap.size, 0, none⟩, 2, 2, [1, 2], 3⟩) 27 (0, 0)) by
    rw [hwB, show w1.heap.size + 1 = wA.heap.size by rw [hwA]; simp]; exact heap_alloc_new wA _) hb)
  simp only at HK
  replace HMd := hid ((HMd.out.below hA).below hB)
  replace HB := hid ((HB.out.trans (hA.mono HB.out.size)).trans (hB.mono (Nat.le_trans HB.out.size hA.size)))
  have HV : Hid (Below wB.heap.size wB wB) := Below.refl _ _
  rw [hwA] at hwB
  clear hA hB hwA
  obtain ⟨x0, x1, x2⟩ := HK.out _ HV.out
  rw [hwB] at x0 x1 x2
  go_wp2_with fail
  rw [← hwB]
  refine (HRf.out _ _ _ HMd.out HRd.out).mono ?_
  rintro e w2 ⟨a2, c2, rfl, hR, hb⟩
  have r2 := hR.room
  have m2 := hR.most
  replace HMd := hid (HMd.out.below hb)
  replace HRd := hid (HRd.out.below hb)
  replace HV := hid (HV.out.trans (hb.mono HV.out.size))
  clear hR hb hwB x0 x1 x2 HRf
  have hLn := HLn.out
  generalize rs.length = rn at *
  obtain ⟨x0, x1, x2⟩ := HK.out _ HV.out
  go_wp2_with fail
  refine (HSt.out _ _ _ HMd.out HRd.out).mono ?_
  rintro e w3 ⟨g3, F3, rfl, hS, _, hb⟩
  replace HV := hid (HV.out.trans (hb.mono HV.out.size))
  have hL := dlen_any _ _ _ _ hS
  simp only [List.length_cons, List.length_nil, Nat.reduceAdd] at hL
  have hLi : (rn : Int) ≤ 3 := by omega
  clear hb x0 x1 x2 HSt HMd HRd hS HK HLn
  go_wp2_with fail
  refine hL.mono ?_
  rintro e w4 ⟨rfl, hb⟩
  replace HV := hid (HV.out.trans (hb.mono HV.out.size))
  have HE := hid (HB.out.trans (HV.out.mono HB.out.size))
  clear hL hb HV HB
  go_wp2
  go_ret
  exact ⟨rfl, HE.out⟩
end Go.Proofs.YtahpilgbabjebaaGreat
