/-
  Contracts of the document's vectors: Scale, Relu, Norm, Soft.
-/
import Derived.Test.YtpllffekebkacaaRVecs
namespace Go.Proofs.Ytpllffekebkacaa
open Go.RowKit
set_option linter.unusedVariables false
set_option maxRecDepth 1000000

theorem map_snoc {f : Int → Int} {zs : List Int} {k : Nat} (h : k < zs.length) : (zs.take k).map f ++ [f (zs[k]?.getD 0)] = (zs.take (k + 1)).map f := by
  rw [take_snoc h, List.map_append]; rfl
theorem map_all {f : Int → Int} {zs : List Int} {n : Nat} (h : zs.length = n) : (zs.take n).map f = zs.map f := by rw [List.take_of_length_le (by omega)]

set_option maxHeartbeats 2000000 in
theorem rvnorm_any (a : Option Addr) (len cap : Nat) (zs : List Int) (w : World) (ha : Reads .i64 w a len cap zs) (hlen : len ≤ 1000) :
    Calls Try.prog 39 #[.slice a len cap] w fun e w' => Gives w len (normL zs) e w' := by
  have hz := ha.size
  subst hz
  obtain ⟨i0, hi, hz0, hz1, hz2⟩ := info_parts Try.info2
  have hD := rvdot_any a a _ cap _ cap zs zs w ha ha hlen hlen
  rw [Nat.min_self] at hD
  have HBo := hid fun W (h : Below w.heap.size w W) => rcut_any a zs.length cap zs W (ha.below h) hlen
  have HA := hid ha
  obtain ⟨mm, hmm⟩ : ∃ mm, addZ (divZ (dotK zs zs zs.length) (fromZ zs.length)) 1 = mm := ⟨_, rfl⟩
  have HR : Hid (sqrtZ mm = rootZ zs) := by unfold rootZ; rw [hmm]; exact rfl
  have HMM := hid hmm
  clear ha hmm
  go_enter Try.func39, Try.ntmps39
  go_wp2_with fail
  refine hD.mono ?_
  rintro e w1 ⟨rfl, hb1⟩
  have hBo1 := HBo.out w1 hb1
  have HB1 := hid hb1
  clear hD hb1
  go_wp2_with fail
  refine hBo1.mono ?_
  rintro e w' ⟨rfl, rfl⟩
  clear hBo1
  rename World => w1
  go_wp2_with fail
  refine (rfrom_any _ _).mono ?_
  rintro e w' ⟨rfl, rfl⟩
  go_wp2_with fail
  refine (rdiv_any _ _ _).mono ?_
  rintro e w' ⟨rfl, rfl⟩
  go_wp2_with fail
  refine (radd_any _ _ _).mono ?_
  rintro e w' ⟨rfl, rfl⟩
  rw [HMM.out]
  rename World => w1
  go_wp2_with fail
  go_loopw [4, 5] (fun u i W => ∃ k : Nat, k ≤ zs.length ∧ i = .int .i64 k ∧ Hid (W.ownsRow w.heap.size 2 1 u k (((zs.take k).map (divZ · (rootZ zs))).map (Value.int .i64))) ∧ Hid (Below w.heap.size w W)) (fun _ i _ => zs.length - (intOf i).toNat)
  case atStart => exact ⟨0, Nat.zero_le _, rfl, World.ownsRow_nil _ _ _ _, HB1⟩
  case round =>
    obtain ⟨k, hk, rfl, HO, HW⟩ := hrel
    clear HB1
    rename World => wr
    have hBo := HBo.out wr HW.out
    by_cases hlt : k < zs.length
    · obtain ⟨b1, o1, rfl, c1⟩ := (HA.out.below HW.out).cell k (by omega)
      have HK : Hid (∀ W, Below w.heap.size w W → W.cell? ⟨b1, o1 + k, none⟩ = some (.int .i64 (zs[k]?.getD 0))) := by
        intro W h
        obtain ⟨b, o, e, c⟩ := (HA.out.below h).cell k (by omega)
        cases e
        exact c
      have r1 := HA.out.room
      have m1 := HA.out.most
      have q1 : (k : Int) < (zs.length : Int) := by omega
      have HE := hid (map_snoc (f := (divZ · (rootZ zs))) (zs := zs) (k := k) hlt)
      have HS : Hid (w.heap.size ≤ wr.heap.size) := HW.out.size
      clear HA HBo
      generalize zs[k]?.getD 0 = x at *
      generalize rootZ zs = rt at *
      generalize (zs.take k).map (divZ · rt) = us at *
      go_wp2_with fail
      refine hBo.mono ?_
      rintro e w' ⟨rfl, rfl⟩
      clear hBo
      rename World => wr
      go_wp2_with fail
      go_region_held3 (fun W : World => W.cell? ⟨b1, o1 + k, none⟩ = some (.int .i64 x)) (first | exact c1 | assumption | exact HK.out _ (HW.out.alloc HS.out _) | exact HK.out _ (HW.out.drew.alloc HS.out _) | exact HK.out _ HB3.out) (first | (go_at_call 71; refine (rsqrt_any _ _).mono ?_; rintro e w' ⟨rfl, rfl⟩; rw [HR.out]) | (go_at_call 28; refine (rdiv_any _ _ _).mono ?_; rintro e w' ⟨rfl, rfl⟩) | (refine step_append_reads (by rfl) 31 (by rfl) (.tmp 22) (.tmp 30) 22 (by rfl) w.heap.size 2 i0 (.int .i64 0) 8 Try.underlying22 hi hz0 hz1 hz2 rfl .i64 _ k us (by rfl) (HO.out.alloc _) _ 1 1 [divZ x rt] (by rfl) (Reads.oned _ _ _) (by omega) (by omega) (by omega) (Nat.le_trans HS.out (by simp)) ?_; intro v' w3 hO3 hb3; have HB3 := hid ((HW.out.alloc HS.out _).drew.trans hb3)))
      have HO3 : Hid (w3.ownsRow w.heap.size 2 1 v' (k + 1) (((zs.take (k + 1)).map (divZ · rt)).map (Value.int .i64))) := by rw [← HE.out]; exact hO3
      clear hO3 hb3 HK c1
      go_wp2_with fail
      go_round
      case rel => exact ⟨k + 1, by omega, by go_num, HO3, HB3⟩
      case measure => simp [intOf]; omega
    · obtain rfl : k = zs.length := by omega
      have HE : Hid (wr.ownsRow w.heap.size 2 1 u4 zs.length ((normL zs).map (Value.int .i64))) := by unfold normL; rw [← map_all rfl]; exact HO.out
      clear HA HBo
      go_wp2_with fail
      refine hBo.mono ?_
      rintro e w' ⟨rfl, rfl⟩
      clear hBo
      go_wp2
      go_ret
      exact gives_own HE.out HW.out
end Go.Proofs.Ytpllffekebkacaa
