/-
  Proved: weights are from -One to One, what is answered may be written over, a model that nobody made has nothing: ModelBounds hands back true for whatever configuration and numbers.
-/
import Derived.Test.YtecaklehaioohaaRows
import Derived.Test.YtecaklehaioohaaWrites
import Derived.Deep.RegionHeld3
import Derived.WalkKit
import Derived.ProofKit
import Derived.OpenShut
import Derived.ShutString
import Derived.ChangeOld
import Derived.Below
namespace Go.Proofs.Ytecaklehaioohaa.modelBounds
open Go.ChangeShapes Go.WideShapes Go.ChangeAt Go.RowKit
open Go.ChangeMaps (open_string shut_string)
set_option linter.unusedVariables false

theorem own : ownKnob Try.prog.godebug = none := by kernel_rfl
theorem laidOut : laidOutB Try.prog = true := by kernel_rfl

/-! ### The walk -/
set_option maxRecDepth 1000000 in
set_option maxHeartbeats 8000000 in
theorem walk (c0 : Cf) (a1 : Int) (a2 : Int) (w : World) :
    Calls Try.prog 5 #[.agg (CfV c0), .int .i64 a1, .int .i64 a2] w fun e w' => e = .returned (.bool true) ∧ Below w.heap.size w w' := by
  have HB0 : Hid (Below w.heap.size w (((w.alloc (.cells (CfV c0) 24)).alloc (.cells (CfV ⟨0, 0, 0, 0, 0, 0⟩) 44)).alloc (.cells #[.pointer none, .pointer (some ⟨w.heap.size + 1, 0, none⟩)] 26))) := (((Below.refl _ _).alloc (Nat.le_refl _) _).alloc (by simp) _).alloc (by simp; omega) _
  have e1 : (((w.alloc (.cells (CfV c0) 24)).alloc (.cells (CfV ⟨0, 0, 0, 0, 0, 0⟩) 44)).alloc (.cells #[.pointer none, .pointer (some ⟨w.heap.size + 1, 0, none⟩)] 26)).heap[w.heap.size]? = some (.cells (CfV c0) 24 (0, 0)) := by
    rw [Below.heap_alloc _ _ _ (by simp; omega), Below.heap_alloc _ _ _ (by simp)]; exact heap_alloc_new w _
  have e2 : (((w.alloc (.cells (CfV c0) 24)).alloc (.cells (CfV ⟨0, 0, 0, 0, 0, 0⟩) 44)).alloc (.cells #[.pointer none, .pointer (some ⟨w.heap.size + 1, 0, none⟩)] 26)).heap[w.heap.size + 1]? = some (.cells (CfV ⟨0, 0, 0, 0, 0, 0⟩) 44 (0, 0)) := by
    rw [Below.heap_alloc _ _ _ (by simp)]
    have := heap_alloc_new (w.alloc (.cells (CfV c0) 24)) (.cells (CfV ⟨0, 0, 0, 0, 0, 0⟩) 44)
    rw [World.size_alloc] at this
    exact this
  have e3 : (((w.alloc (.cells (CfV c0) 24)).alloc (.cells (CfV ⟨0, 0, 0, 0, 0, 0⟩) 44)).alloc (.cells #[.pointer none, .pointer (some ⟨w.heap.size + 1, 0, none⟩)] 26)).heap[w.heap.size + 1 + 1]? = some (.cells #[.pointer none, .pointer (some ⟨w.heap.size + 1, 0, none⟩)] 26 (0, 0)) := by
    have := heap_alloc_new ((w.alloc (.cells (CfV c0) 24)).alloc (.cells (CfV ⟨0, 0, 0, 0, 0, 0⟩) 44)) (.cells #[.pointer none, .pointer (some ⟨w.heap.size + 1, 0, none⟩)] 26)
    rw [World.size_alloc, World.size_alloc] at this
    exact this
  have HK1 : Hid (∀ W : World, Below (((w.alloc (.cells (CfV c0) 24)).alloc (.cells (CfV ⟨0, 0, 0, 0, 0, 0⟩) 44)).alloc (.cells #[.pointer none, .pointer (some ⟨w.heap.size + 1, 0, none⟩)] 26)).heap.size (((w.alloc (.cells (CfV c0) 24)).alloc (.cells (CfV ⟨0, 0, 0, 0, 0, 0⟩) 44)).alloc (.cells #[.pointer none, .pointer (some ⟨w.heap.size + 1, 0, none⟩)] 26)) W → W.heap[w.heap.size]? = some (.cells (CfV c0) 24 (0, 0))) := fun W hW => block_below e1 hW
  have HK2 : Hid (∀ W : World, Below (((w.alloc (.cells (CfV c0) 24)).alloc (.cells (CfV ⟨0, 0, 0, 0, 0, 0⟩) 44)).alloc (.cells #[.pointer none, .pointer (some ⟨w.heap.size + 1, 0, none⟩)] 26)).heap.size (((w.alloc (.cells (CfV c0) 24)).alloc (.cells (CfV ⟨0, 0, 0, 0, 0, 0⟩) 44)).alloc (.cells #[.pointer none, .pointer (some ⟨w.heap.size + 1, 0, none⟩)] 26)) W → MdAt W (some ⟨w.heap.size + 1, 0, none⟩) ⟨0, 0, 0, 0, 0, 0⟩) := fun W hW => .inr ⟨_, rfl, block_below e2 hW⟩
  have HK3 : Hid (∀ W : World, Below (((w.alloc (.cells (CfV c0) 24)).alloc (.cells (CfV ⟨0, 0, 0, 0, 0, 0⟩) 44)).alloc (.cells #[.pointer none, .pointer (some ⟨w.heap.size + 1, 0, none⟩)] 26)).heap.size (((w.alloc (.cells (CfV c0) 24)).alloc (.cells (CfV ⟨0, 0, 0, 0, 0, 0⟩) 44)).alloc (.cells #[.pointer none, .pointer (some ⟨w.heap.size + 1, 0, none⟩)] 26)) W → W.cell? ⟨w.heap.size + 1 + 1, 0, none⟩ = some (.pointer none) ∧ W.cell? ⟨w.heap.size + 1 + 1, 1, none⟩ = some (.pointer (some ⟨w.heap.size + 1, 0, none⟩))) := fun W hW =>
    ⟨by rw [cell_of_row _ _ _ _ _ _ (block_below e3 hW)]; rfl, by rw [cell_of_row _ _ _ _ _ _ (block_below e3 hW)]; rfl⟩
  clear e1 e2 e3
  have HZ1 := hid fun p W (h : MdAt W p ⟨0, 0, 0, 0, 0, 0⟩) => config_any p _ W h
  have HZ2 := hid fun p W (h : MdAt W p ⟨0, 0, 0, 0, 0, 0⟩) => token_no p _ a1 W h (by simp only; omega) (by simp) (by simp)
  have HZ3 := hid fun p W (h : MdAt W p ⟨0, 0, 0, 0, 0, 0⟩) => place_off p _ a1 W h (by decide)
  have HZ4 := hid fun p W (h : MdAt W p ⟨0, 0, 0, 0, 0, 0⟩) => rows_no p _ a1 a2 W h (by simp only; omega) (by simp) (by simp)
  have HNy := hid fun W hc => new_yes c0 W hc
  have HNn := hid fun W hc => new_no c0 W hc
  have HT := hid fun hc p W (hp : MdAt W p c0) => token_g p c0 a1 W hp hc
  have HP := hid fun hc p W (hp : MdAt W p c0) => place_g p c0 a1 W hp hc
  have HRo := hid fun hc p W (hp : MdAt W p c0) => rows_o p c0 a1 a2 W hp hc
  have HR := hid fun hc p W (hp : MdAt W p c0) => rows_g p c0 a1 a2 W hp hc
  have HRR := hid fun hc W => rrows_g c0 a1 a2 W hc
  have ht16 := hid fun hc => tokL_len (c := c0) hc a1
  have hp16 := hid fun hc => plL_len (c := c0) hc a1
  have hr16 := hid fun hc => tabL_len (c := c0) hc a1 a2
  have HTb := hid (tokL_bd c0 a1)
  have HPb := hid (plL_bd c0 a1)
  have HLT : Hid (w.heap.size < (((w.alloc (.cells (CfV c0) 24)).alloc (.cells (CfV ⟨0, 0, 0, 0, 0, 0⟩) 44)).alloc (.cells #[.pointer none, .pointer (some ⟨w.heap.size + 1, 0, none⟩)] 26)).heap.size) := by unfold Hid; simp; omega
  generalize tokL c0 a1 = xs at *
  generalize plL c0 a1 = ys at *
  generalize tabL c0 a1 a2 = ls at *
  obtain ⟨i0, hi, hz0, hz1, hz2⟩ := info_parts Try.info2
  obtain ⟨i1, hj, hy0, hy1, hy2⟩ := info_parts Try.infoS
  obtain ⟨s, v, d, l, tt, h⟩ := c0
  unfold CfV at HB0 HK1 HK2 HK3 HZ1 HNy HNn HLT HRR ⊢
  simp only at HB0 HK1 HK2 HK3 HZ1 HNy HNn HLT HRR ⊢
  go_enter Try.func5, Try.ntmps5
  go_wp2_with fail
  generalize (((w.alloc (.cells #[.int .u64 s, .int .i64 v, .int .i64 d, .int .i64 l, .int .i64 tt, .int .i64 h] 24)).alloc (.cells #[.int .u64 0, .int .i64 0, .int .i64 0, .int .i64 0, .int .i64 0, .int .i64 0] 44)).alloc (.cells #[.pointer none, .pointer (some ⟨w.heap.size + 1, 0, none⟩)] 26)) = A at *
  go_loopw [22] (fun i W => ∃ k : Nat, k ≤ 2 ∧ i = .int .i64 k ∧ Hid (Below A.heap.size A W)) (fun i _ => 2 - (intOf i).toNat)
  case atStart => exact ⟨0, Nat.zero_le _, rfl, Below.refl _ _⟩
  case round =>
  obtain ⟨k, hk, rfl, HW⟩ := hrel
  rename World => wr
  by_cases hlt : k < 2
  · clear HT HP HRo HR HRR ht16 hp16 hr16 HTb HPb HNy HNn HB0 HK1 HLT hi hz0 hz1 hz2 hj hy0 hy1 hy2
    rcases (by omega : k = 0 ∨ k = 1) with rfl | rfl
    · have ck := (HK3.out _ HW.out).1
      have HMz : Hid (∀ W : World, Below A.heap.size A W → MdAt W none ⟨0, 0, 0, 0, 0, 0⟩) := fun W _ => .inl ⟨rfl, rfl⟩
      clear HK2 HK3
      go_wp2_with fail
      refine (HZ1.out _ _ (HMz.out _ HW.out)).mono ?_
      rintro e x1 ⟨rfl, hb⟩
      replace HW := hid (HW.out.trans (hb.mono HW.out.size))
      clear hb
      go_wp2_with fail
      refine (HZ2.out _ _ (HMz.out _ HW.out)).mono ?_
      rintro e x2 ⟨rfl, hb⟩
      replace HW := hid (HW.out.trans (hb.mono HW.out.size))
      clear hb
      go_wp2_with fail
      refine (HZ3.out _ _ (HMz.out _ HW.out)).mono ?_
      rintro e x3 ⟨rfl, hb⟩
      replace HW := hid (HW.out.trans (hb.mono HW.out.size))
      clear hb
      go_wp2_with fail
      refine (HZ4.out _ _ (HMz.out _ HW.out)).mono ?_
      rintro e x4 ⟨rfl, hb⟩
      replace HW := hid (HW.out.trans (hb.mono HW.out.size))
      clear hb HZ1 HZ2 HZ3 HZ4 HMz ck
      go_wp2_with fail
      go_round
      case rel => exact ⟨1, by omega, by go_num, HW⟩
      case measure => simp [intOf]
    · have ck := (HK3.out _ HW.out).2
      have HMz : Hid (∀ W : World, Below A.heap.size A W → MdAt W (some ⟨w.heap.size + 1, 0, none⟩) ⟨0, 0, 0, 0, 0, 0⟩) := HK2
      clear HK2 HK3
      go_wp2_with fail
      refine (HZ1.out _ _ (HMz.out _ HW.out)).mono ?_
      rintro e x1 ⟨rfl, hb⟩
      replace HW := hid (HW.out.trans (hb.mono HW.out.size))
      clear hb
      go_wp2_with fail
      refine (HZ2.out _ _ (HMz.out _ HW.out)).mono ?_
      rintro e x2 ⟨rfl, hb⟩
      replace HW := hid (HW.out.trans (hb.mono HW.out.size))
      clear hb
      go_wp2_with fail
      refine (HZ3.out _ _ (HMz.out _ HW.out)).mono ?_
      rintro e x3 ⟨rfl, hb⟩
      replace HW := hid (HW.out.trans (hb.mono HW.out.size))
      clear hb
      go_wp2_with fail
      refine (HZ4.out _ _ (HMz.out _ HW.out)).mono ?_
      rintro e x4 ⟨rfl, hb⟩
      replace HW := hid (HW.out.trans (hb.mono HW.out.size))
      clear hb HZ1 HZ2 HZ3 HZ4 HMz ck
      go_wp2_with fail
      go_round
      case rel => exact ⟨2, by omega, by go_num, HW⟩
      case measure => simp [intOf]
  obtain rfl : k = 2 := by omega
  clear HZ1 HZ2 HZ3 HZ4 HK2 HK3 hlt hk
  have HBw := hid (HB0.out.trans (HW.out.mono HB0.out.size))
  have HC1 := hid (HK1.out _ HW.out)
  have HLW : Hid (w.heap.size < wr.heap.size) := Nat.lt_of_lt_of_le HLT.out HW.out.size
  obtain ⟨x0, x1, x2, x3, x4, x5⟩ := Cf_cells (c := ⟨s, v, d, l, tt, h⟩) HC1.out
  simp only at x0 x1 x2 x3 x4 x5
  clear HB0 HK1 HW HLT
  cases hc : mayB ⟨s, v, d, l, tt, h⟩ with
  | false =>
    have hN := HNn.out wr hc
    clear HT HP HRo HR HRR ht16 hp16 hr16 HTb HPb HNy HNn hc hi hz0 hz1 hz2 hj hy0 hy1 hy2
    go_wp2_with fail
    refine hN.mono ?_
    rintro e w2 ⟨rfl, hb⟩
    replace HBw := hid (HBw.out.trans (hb.mono HBw.out.size))
    clear hN hb HC1 x0 x1 x2 x3 x4 x5
    go_wp2_with fail
    refine (alive_any _).mono ?_
    rintro e w3 ⟨rfl, hb⟩
    replace HBw := hid (HBw.out.trans (hb.mono HBw.out.size))
    clear hb
    go_wp2
    go_ret
    exact ⟨rfl, HBw.out⟩
  | true =>
    have hN := HNy.out wr hc
    replace HT := hid (HT.out hc)
    replace HP := hid (HP.out hc)
    replace HRo := hid (HRo.out hc)
    replace HR := hid (HR.out hc)
    replace HRR := hid (HRR.out hc)
    have ht16 := ht16.out hc
    have hp16 := hp16.out hc
    have hr16 := hr16.out hc
    clear HNy HNn hc
    go_wp2_with fail
    refine hN.mono ?_
    rintro e w2 ⟨g, rfl, hg, hM, hb⟩
    have HMd := hid hM
    have HMA : Hid (∀ W : World, Below w2.heap.size w2 W → MdAt W (some ⟨g, 0, none⟩) ⟨s, v, d, l, tt, h⟩) := fun W hW => .inr ⟨g, rfl, block_below hM hW⟩
    have hglt := hid (lt_of_block hM)
    have HC2 := hid (block_below HC1.out hb)
    replace HBw := hid (HBw.out.trans (hb.mono HBw.out.size))
    have HLW2 : Hid (w.heap.size < w2.heap.size) := Nat.lt_of_lt_of_le HLW.out hb.size
    have HV : Hid (Below w2.heap.size w2 w2) := Below.refl _ _
    clear hN hb hM hg HC1 x0 x1 x2 x3 x4 x5 HLW
    go_wp2_with fail
    refine (HT.out _ _ (HMA.out _ HV.out)).mono ?_
    rintro e w3 ⟨u1, rfl, ho, hb⟩
    obtain ⟨pa, qa, rfl, hka, hra⟩ := rok_own (P := fun g => w2.heap.size ≤ g ∧ g < w3.heap.size) ho HTb.out (by omega) (fun g h1 h2 => ⟨h1, h2⟩)
    have HKa := hid hka
    have HRa := hid hra
    replace HV := hid (HV.out.trans (hb.mono HV.out.size))
    clear ho hb hka hra
    go_wp2_with fail
    refine (HRo.out _ _ (HMA.out _ HV.out)).mono ?_
    rintro e w4 ⟨pl, nl, cl, hsl, rfl, hn16, hRd, hRk, hb⟩
    have HRd := hid hRd
    have HRk := hid hRk
    have hs34 := hid hb.size
    replace HKa := hid (HKa.out.below hb)
    replace HRa := hid (HRa.out.below hb)
    have hs23 := hid HV.out.size
    replace HV := hid (HV.out.trans (hb.mono HV.out.size))
    clear hRd hRk hb HRo
    go_wp2_with (at_builtin; refine append_any _ rfl (.const (.slice none 0 0)) (.tmp 64) 34 rfl w4.heap.size 2 i0 (.int .i64 0) 8 Try.underlying34 hi hz0 hz1 hz2 rfl .i64 _ 0 [] rfl (World.ownsRow_nil _ _ _ _) pa _ qa xs rfl HRa.out (by omega) (by omega) (Nat.le_refl _) ?_; intro vb w5 hOb hb5)
    rw [Nat.zero_add, List.nil_append] at hOb
    have HOb := hid hOb
    have HObl : Hid (∀ k, vb.ownBlock = some k → w4.heap.size ≤ k ∧ k < w5.heap.size) := fun k hk => hOb.lt k hk
    replace HKa := hid (HKa.out.below hb5)
    replace HRd := hid (HRd.out.below hb5)
    have HRk5 : Hid (∀ h ∈ hsl, Rok w5 (fun g => w3.heap.size ≤ g ∧ g < w4.heap.size) h) := fun h hh => (HRk.out h hh).below hb5
    have hs45 := hid hb5.size
    replace HV := hid (HV.out.trans (hb5.mono HV.out.size))
    clear hOb hb5 HRk HRa
    refine (HP.out _ _ (HMA.out _ HV.out)).mono ?_
    rintro e w6 ⟨u3, rfl, ho, hb⟩
    obtain ⟨pp, qp, rfl, hkp, hrp⟩ := rok_own (P := fun g => w5.heap.size ≤ g ∧ g < w6.heap.size) ho HPb.out (by omega) (fun g h1 h2 => ⟨h1, h2⟩)
    have HKp := hid hkp
    have hs56 := hid hb.size
    replace HKa := hid (HKa.out.below hb)
    replace HRd := hid (HRd.out.below hb)
    replace HOb := hid (own_below HOb.out hb)
    have HRk6 : Hid (∀ h ∈ hsl, Rok w6 (fun g => w3.heap.size ≤ g ∧ g < w4.heap.size) h) := fun h hh => (HRk5.out h hh).below hb
    replace HV := hid (HV.out.trans (hb.mono HV.out.size))
    have hal : Hid (∀ o, Below w6.heap.size w6 (w6.alloc o)) := fun o => (Below.refl _ _).alloc (Nat.le_refl _) _
    have HO2 := hid (own_two w6 (pa, xs.length, qa) (pp, ys.length, qp))
    simp only at HO2
    clear ho hb hkp hrp HRk5 HP
    obtain ⟨N, hN⟩ : ∃ N, 2 + nl = N := ⟨_, rfl⟩
    have HN := hid hN
    clear hN
    go_wp2_with (at_builtin; refine append_hds _ rfl (.tmp 70) (.tmp 71) 38 rfl w6.heap.size i1 Try.underlying38 hj hy0 hy1 hy2 _ 2 [(pa, xs.length, qa), (pp, ys.length, qp)] rfl HO2.out pl nl cl hsl rfl (HRd.out.below (hal.out _)) (by omega) (by simp) ?_; intro v7 w7 hO7 hb7; rw [HN.out] at hO7; obtain ⟨G, c7, rfl, hOS⟩ := ownS_of hO7 (by have := HN.out; omega))
    have hb67 : Below w6.heap.size w6 w7 := (hal.out _).trans hb7
    have hGb := hid hOS.base
    obtain ⟨P, hPd⟩ : ∃ P : Nat → Prop, P = fun g => w2.heap.size ≤ g ∧ (g < w4.heap.size ∨ w5.heap.size ≤ g) ∧ g < w6.heap.size := ⟨_, rfl⟩
    have HPn : Hid (¬ P G ∧ ¬ P w.heap.size ∧ ¬ P g ∧ (∀ k, P k → w.heap.size ≤ k) ∧ (∀ k, w4.heap.size ≤ k → k < w5.heap.size → ¬ P k)) := by
      have h1 := hGb.out; have h2 := HLW2.out; have h3 := hglt.out; have h4 := hs23.out; have h5 := hs34.out; have h6 := hs45.out; have h7 := hs56.out
      rw [hPd]
      exact ⟨by simp only; omega, by simp only; omega, by simp only; omega, (fun k hk => by simp only at hk; omega), (fun k hk hk2 => by simp only; omega)⟩
    have HWr : Hid (WrAt P w7 G N c7 ([(pa, xs.length, qa), (pp, ys.length, qp)] ++ hsl) w7) := by
      have h2 := HLW2.out; have h4 := hs23.out; have h5 := hs34.out; have h6 := hs45.out; have h7 := hs56.out
      refine ⟨hOS.low (Nat.zero_le _), Fr.refl _ _, fun hd hh => ?_⟩
      simp only [List.cons_append, List.nil_append, List.mem_cons] at hh
      rw [hPd]
      rcases hh with rfl | rfl | hh
      · exact (HKa.out.below hb67).mono fun g hg => ⟨by omega, .inl (by omega), by omega⟩
      · exact (HKp.out.below hb67).mono fun g hg => ⟨by omega, .inr (by omega), by omega⟩
      · exact ((HRk6.out hd hh).below hb67).mono fun g hg => ⟨by omega, .inl (by omega), by omega⟩
    have HOb7 := hid (own_below HOb.out hb67)
    have HV7 := hid (HV.out.trans (hb67.mono HV.out.size))
    have hnl : N ≤ 18 := by have := HN.out; omega
    clear HN
    clear hPd HKa HKp HRk6 HRd HO2 hal hO7 hb7 hb67 hOS hGb hs23 hs34 hs45 hs56 hglt HLW2 HV HOb hi hz0 hz1 hz2 hj hy0 hy1 hy2 hn16 HTb HPb
    obtain ⟨hs, hhs⟩ : ∃ hs : List Hd, [(pa, xs.length, qa), (pp, ys.length, qp)] ++ hsl = hs := ⟨_, rfl⟩
    rw [hhs] at HWr
    clear hhs
    go_loopw [74] (fun i W => ∃ j : Nat, j ≤ N ∧ i = .int .i64 j ∧ Hid (WrAt P w7 G N c7 hs W)) (fun i _ => N - (intOf i).toNat)
    case atStart => exact ⟨0, Nat.zero_le _, rfl, HWr⟩
    case round =>
    obtain ⟨j, hj, rfl, HA⟩ := hrel
    rename World => wj
    clear HWr
    by_cases hlt : j < N
    · have hlen := HA.out.tab.len
      have cj := HA.out.tab.cell hlt
      have HMem : Hid (hs[j]?.getD (none, 0, 0) ∈ hs) := by
        unfold Hid
        rw [List.getElem?_eq_getElem (by omega)]
        exact List.getElem_mem _
      have hroom := HA.out.tab.rd.room
      have hmost := HA.out.tab.rd.most
      clear hlen HT HR HRR HC2 HMd HMA HOb7 HObl HV7 HBw
      generalize hs[j]?.getD (none, 0, 0) = y at *
      obtain ⟨y1, y2, y3⟩ := y
      unfold hdV at cj
      simp only at cj
      have hy := (HA.out.rows _ HMem.out).len
      have q1 : (j : Int) < (N : Int) := by omega
      go_wp2_with fail
      go_loopw [80] (fun i W => ∃ m : Nat, m ≤ y2 ∧ i = .int .i64 m ∧ Hid (WrAt P w7 G N c7 hs W)) (fun i _ => y2 - (intOf i).toNat)
      case atStart => exact ⟨0, Nat.zero_le _, rfl, HA⟩
      case round =>
        obtain ⟨m, hm, rfl, HAm⟩ := hrel
        rename World => wm
        clear HA cj
        by_cases hml : m < y2
        · obtain ⟨gr, x, rfl, hPg, cm, b0, b1, fm⟩ := (HAm.out.rows _ HMem.out).at hml
          have HAn := hid (HAm.out.set HPn.out.1 hPg m)
          have q2 : (m : Int) < (y2 : Int) := by omega
          clear HAm hPg HMem
          go_wp2_with fail
          go_round
          case rel => exact ⟨m + 1, by omega, by go_num, HAn⟩
          case measure => simp [intOf]; omega
        · go_wp2_with fail
          go_round
          case rel => exact ⟨j + 1, by omega, by go_num, HAm⟩
          case measure => simp [intOf]; omega
    · have hjN : j = N := by omega
      subst hjN
      have hCb := HA.out.fr.one (block_below HC2.out HV7.out) HPn.out.2.1
      have hMj := HA.out.fr.one (block_below HMd.out HV7.out) HPn.out.2.2.1
      have hOj := HA.out.fr.own HOb7.out (fun k _ hk => HPn.out.2.2.2.2 k (HObl.out k hk).1 (HObl.out k hk).2)
      have HX0 : Hid (Below w.heap.size w wj) := by
        have h1 := HBw.out.trans (HV7.out.mono HBw.out.size)
        exact h1.trans (HA.out.fr.to HPn.out.2.2.2.1 h1.size)
      obtain ⟨pb, qb, rfl, hrb⟩ := Reads.own (k := .i64) hOj
      have HRb := hid hrb
      have HKK : Hid (∀ W : World, Below wj.heap.size wj W → W.cell? ⟨w.heap.size, 0, none⟩ = some (.int .u64 s) ∧ W.cell? ⟨w.heap.size, 1, none⟩ = some (.int .i64 v) ∧ W.cell? ⟨w.heap.size, 2, none⟩ = some (.int .i64 d) ∧ W.cell? ⟨w.heap.size, 3, none⟩ = some (.int .i64 l) ∧ W.cell? ⟨w.heap.size, 4, none⟩ = some (.int .i64 tt) ∧ W.cell? ⟨w.heap.size, 5, none⟩ = some (.int .i64 h)) := fun W hW => Cf_cells (c := ⟨s, v, d, l, tt, h⟩) (block_below hCb hW)
      have HMM : Hid (∀ W : World, Below wj.heap.size wj W → MdAt W (some ⟨g, 0, none⟩) ⟨s, v, d, l, tt, h⟩) := fun W hW => .inr ⟨g, rfl, block_below hMj hW⟩
      have HU : Hid (Below wj.heap.size wj wj.drew) := (Below.refl _ _).drew
      have HX : Hid (∀ W : World, Below wj.heap.size wj W → Below w.heap.size w W) := fun W hW => HX0.out.trans (hW.mono HX0.out.size)
      clear HA hCb hMj hOj hrb HC2 HMd HMA HOb7 HObl HV7 HBw HPn HX0 hlt
      go_wp2_with fail
      go_region_held3 (fun W : World => W.cell? ⟨w.heap.size, 0, none⟩ = some (.int .u64 s) ∧ W.cell? ⟨w.heap.size, 1, none⟩ = some (.int .i64 v) ∧ W.cell? ⟨w.heap.size, 2, none⟩ = some (.int .i64 d) ∧ W.cell? ⟨w.heap.size, 3, none⟩ = some (.int .i64 l) ∧ W.cell? ⟨w.heap.size, 4, none⟩ = some (.int .i64 tt) ∧ W.cell? ⟨w.heap.size, 5, none⟩ = some (.int .i64 h)) (first | (with_reducible exact HKK.out _ (Below.refl _ _)) | (with_reducible exact HKK.out _ HU.out))
        (first
          | (go_at_call 12; (with_reducible refine (HT.out _ _ (HMM.out _ HU.out)).mono ?_); rintro e z2 ⟨u1, rfl, ho, hb⟩; obtain ⟨p1, q1, rfl, hr1⟩ := Reads.own (k := .i64) ho; have HR1 := hid hr1; replace HU := hid (HU.out.trans (hb.mono HU.out.size)); replace HRb := hid (HRb.out.below ((Below.refl _ _).drew.trans hb)); clear hb ho hr1)
          | (go_at_call 11; (with_reducible refine (same_yes p1 pb _ q1 qb xs _ HR1.out HRb.out (by omega)).mono ?_); rintro e z4 ⟨rfl, hb⟩; replace HU := hid (HU.out.trans (hb.mono HU.out.size)); clear hb HR1 HRb)
          | (go_at_call 17; (with_reducible refine (HR.out _ _ (HMM.out _ HU.out)).mono ?_); rintro e z8 ⟨p5, q5, hs5, rfl, hr5, hb⟩; replace HU := hid (HU.out.trans (hb.mono HU.out.size)); have HR5 := hid hr5; clear hb hr5)
          | (go_at_call 18; (with_reducible refine (HRR.out _).mono ?_); rintro e z9 ⟨p6, q6, hs6, rfl, hr6, hb⟩; replace HU := hid (HU.out.trans (hb.mono HU.out.size)); have HR6 := hid hr6; replace HR5 := hid (HR5.out.below hb); clear hb hr6)
          | (go_at_call 16; (with_reducible refine (rows_like p5 p6 _ q5 q6 hs5 hs6 ls _ HR5.out HR6.out (by omega)).mono ?_); rintro e z10 ⟨rfl, hb⟩; replace HU := hid (HU.out.trans (hb.mono HU.out.size)); clear hb HR5 HR6)
          | (go_at_call 9; (with_reducible refine (alive_any _).mono ?_); rintro e z11 ⟨rfl, hb⟩; replace HU := hid (HU.out.trans (hb.mono HU.out.size)); clear hb))
      all_goals
        go_wp2_with fail
        go_ret
        exact ⟨rfl, HX.out _ HU.out⟩

/-! ### The row's step -/
set_option maxRecDepth 1000000 in
theorem lifted (os : Os) (started : os.Started) (H : Type) (enc : TypeId × Value → H) :
    ReturnsInHanded {} Try.checked os 5 .any (Rows.modelBoundsSpec.pre6 enc Try.prog Try.f5 Rows.modelBoundsRow.domain false) (Rows.modelBoundsSpec.post enc Try.prog Try.f5 false true false false) := by
  refine returnsInHanded_of_change (C := Try.checked) own started (by kernel_rfl) Try.func5
    (ChangeSpec.witness6 (enc := enc) (C := Try.checked) false ⟨#[], #[.agg #[.int .u64 0, .int .i64 0, .int .i64 0, .int .i64 0, .int .i64 0, .int .i64 0], .int .i64 0, .int .i64 0], []⟩ 8 (by kernel_rfl) (by kernel_rfl) (by kernel_rfl) (by kernel_rfl)) ?_
  intro W base args ds gs before hval0 hW hcnd _
  have hval : ∀ (j : Nat) t v, Try.f5.params[j]? = some t → args[j]? = some v → Value.okWide Try.prog W .any base t v := hval0
  have hW' := hW
  obtain ⟨p, q, hA0, hV, rfl, hfz, hnd⟩ := hW
  have hA : DataW.TrodAll enc Try.prog W 0 (fun _ => true) true Try.f5.params.toList args.toList ds p := hA0
  rw [Try.params5] at hA hval
  obtain ⟨v0, vs0, d0, ds0, p0, q0, hargs, rfl, rfl, h0, r0⟩ := trodAll_cons hA
  obtain ⟨v1, vs1, d1, ds1, p1, q1, rfl, rfl, rfl, h1, r1⟩ := trodAll_cons r0
  obtain ⟨v2, vs2, d2, ds2, p2, q2, rfl, rfl, rfl, h2, r2⟩ := trodAll_cons r1
  obtain ⟨rfl, rfl, rfl⟩ := trodAll_nil r2
  obtain rfl : args = #[v0, v1, v2] := by cases args; simp_all
  obtain ⟨rfl, rfl⟩ := trodVars_none hV
  have k0 := h0
  have lt0 : ∀ x ∈ p0, x.block < W.heap.size := by obtain ⟨m, hm⟩ := k0; exact DataW.trod_lt m _ _ _ hm
  obtain ⟨c0, rfl⟩ := conf_open (hval 0 24 v0 rfl rfl) h0
  have k1 := h1
  have lt1 : ∀ x ∈ p1, x.block < W.heap.size := by obtain ⟨m, hm⟩ := k1; exact DataW.trod_lt m _ _ _ hm
  obtain ⟨a1, rfl⟩ := num_open (hval 1 3 v1 rfl rfl) h1
  have k2 := h2
  have lt2 : ∀ x ∈ p2, x.block < W.heap.size := by obtain ⟨m, hm⟩ := k2; exact DataW.trod_lt m _ _ _ hm
  obtain ⟨a2, rfl⟩ := num_open (hval 2 3 v2 rfl rfl) h2
  clear hA0 hval0
  refine (walk c0 a1 a2 W).mono fun e W' ⟨he, bel⟩ => ?_
  subst he
  exact ⟨_, rfl, _, _, _, [], _, [], hW', trodAll_mk1 (shut_bool Try.underlying4 _), (trodAll_cons_mk (Below.trod laidOut (by kernel_rfl) (of_decide_eq_true (by kernel_rfl)) k0 bel lt0) (trodAll_cons_mk (Below.trod laidOut (by kernel_rfl) (of_decide_eq_true (by kernel_rfl)) k1 bel lt1) (trodAll_cons_mk (Below.trod laidOut (by kernel_rfl) (of_decide_eq_true (by kernel_rfl)) k2 bel lt2) trodAll_mk0))), rfl, bel.frame _, fun h => by cases h⟩

theorem over : Rows.modelBoundsRow.holds Try.pinned (OpenSpec.ofChange Rows.modelBoundsSpec) :=
  OpenClaim.holds_of_wide 5 Try.f5 rfl rfl rfl rfl rfl rfl rfl ⟨rfl, rfl, rfl, rfl, rfl⟩ rfl rfl rfl rfl rfl (by kernel_rfl) Try.func5 (by kernel_rfl)
    (of_decide_eq_true (by kernel_rfl)) (by unfold Func.isWrapper; first | (rw [if_pos (by decide +kernel)]; kernel_rfl) | (rw [if_neg (by decide +kernel)]; exact ⟨rfl, rfl⟩))
    (fun os started H enc _ => lifted os started H enc)

/-- The statement. -/
theorem proved : Rows.ModelBoundsSaid := over
#print axioms proved
end Go.Proofs.Ytecaklehaioohaa.modelBounds
