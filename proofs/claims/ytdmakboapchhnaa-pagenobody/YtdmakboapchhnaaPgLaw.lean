/-
  What the statements of layer 13 lean on: short, alive.
-/
import Derived.Test.YtdmakboapchhnaaPgCons
import Derived.Test.YtdmakboapchhnaaPArgs
namespace Go.Proofs.Ytdmakboapchhnaa
open Go.RowKit
set_option linter.unusedVariables false
set_option maxRecDepth 1000000

theorem short13_any (a : Option Addr) (len cap : Nat) (ks ns : List Int) (w : World) (h : Pss w a len cap ks ns) :
    Calls Try.prog 9 #[.slice a len cap] w fun e w' => e = .returned (.slice a (min len 400) cap) ∧ w = w' := by
  have r1 := h.room
  have m1 := h.most
  obtain ⟨m, hm⟩ : ∃ m, min len 400 = m := ⟨_, rfl⟩
  have hA : (if (400 : Int) < (len : Int) then 400 else (len : Int)) = (m : Int) := by split <;> omega
  have hB : (if (len : Int) < (400 : Int) then (len : Int) else 400) = (m : Int) := by split <;> omega
  have hC : (if (400 : Nat) < len then (400 : Int) else (len : Int)) = (m : Int) := by split <;> omega
  have hD : (if len < 400 then (len : Int) else (400 : Int)) = (m : Int) := by split <;> omega
  have hmc : m ≤ cap := by omega
  rw [hm]
  clear h hm
  go_enter Try.func9, Try.ntmps9
  go_wp2
  go_ret
  exact ⟨rfl, rfl⟩
theorem alive13_any (w : World) : Calls Try.prog 8 #[] w fun e w' => e = .returned (.bool true) ∧ Below w.heap.size w w' := by
  have hN := pnew_yes 2 w (by decide) (by decide)
  have HT0 := hid fun p F W (h : PgAt W p [0, 0] F) => ptake_any p [0, 0] W h
  have HT1 := hid fun p F W (h : PgAt W p [1, 0] F) => ptake_any p [1, 0] W h
  have HD := hid fun p F W (h : PgAt W p [1, 1] F) => pdrop_any p [1, 1] 0 W h
  have HT2 := hid fun p F W (h : PgAt W p [0, 1] F) => ptake_any p [0, 1] W h
  have HFr := hid fun p F W (h : PgAt W p [1, 1] F) => pfree_any p [1, 1] W h
  have a1 : takeN [0, 0] = 0 ∧ takeE [0, 0] = 0 ∧ takeH [0, 0] = [1, 0] := by decide
  have a2 : takeN [1, 0] = 1 ∧ takeE [1, 0] = 0 ∧ takeH [1, 0] = [1, 1] := by decide
  have a3 : takeN [0, 1] = 0 ∧ takeE [0, 1] = 0 ∧ takeH [0, 1] = [1, 1] := by decide
  have a4 : dropB [1, 1] 0 = true ∧ dropE [1, 1] 0 = 0 ∧ dropH [1, 1] 0 = [0, 1] := by decide
  have a5 : (([1, 1] : List Int).length : Int) - ((usedL [1, 1]).length : Int) = 0 := by decide
  rw [a1.1, a1.2.1, a1.2.2] at HT0
  rw [a2.1, a2.2.1, a2.2.2] at HT1
  rw [a3.1, a3.2.1, a3.2.2] at HT2
  rw [a4.1, a4.2.1, a4.2.2] at HD
  rw [a5] at HFr
  rw [show ((2 : Nat) : Int) = 2 from rfl] at hN
  clear a1 a2 a3 a4 a5
  go_enter Try.func8, Try.ntmps8
  go_wp2_with fail
  refine hN.mono ?_
  rintro e w1 ⟨g, F, rfl, hP, hF, hb⟩
  have HP : Hid (PgAt w1 (some ⟨g, 0, none⟩) [0, 0] F) := hP
  have HF := hid hF
  have HB := hid hb
  clear hN hP hF hb
  go_wp2_with fail
  refine (HT0.out _ _ _ HP.out).mono ?_
  rintro e w2 ⟨rfl, F2, hP, hF, hb⟩
  have HP2 := hid hP
  have HF2 : Hid (∀ k, F2 k → w.heap.size ≤ k) := fun k hk => (hF k hk).elim (HF.out k) fun h => Nat.le_trans HB.out.size h
  have HB2 := hid (HB.out.trans (hb.to HF.out HB.out.size))
  clear HP HF HB hP hF hb HT0
  go_wp2_with fail
  refine (HT1.out _ _ _ HP2.out).mono ?_
  rintro e w3 ⟨rfl, F3, hP, hF, hb⟩
  have HP3 := hid hP
  have HF3 : Hid (∀ k, F3 k → w.heap.size ≤ k) := fun k hk => (hF k hk).elim (HF2.out k) fun h => Nat.le_trans HB2.out.size h
  have HB3 := hid (HB2.out.trans (hb.to HF2.out HB2.out.size))
  clear HP2 HF2 HB2 hP hF hb HT1
  go_wp2_with fail
  refine (HD.out _ _ _ HP3.out).mono ?_
  rintro e w4 ⟨rfl, F4, hP, hF, hb⟩
  have HP4 := hid hP
  have HF4 : Hid (∀ k, F4 k → w.heap.size ≤ k) := fun k hk => (hF k hk).elim (HF3.out k) fun h => Nat.le_trans HB3.out.size h
  have HB4 := hid (HB3.out.trans (hb.to HF3.out HB3.out.size))
  clear HP3 HF3 HB3 hP hF hb HD
  go_wp2_with fail
  refine (HT2.out _ _ _ HP4.out).mono ?_
  rintro e w5 ⟨rfl, F5, hP, hF, hb⟩
  have HP5 := hid hP
  have HB5 := hid (HB4.out.trans (hb.to HF4.out HB4.out.size))
  clear HP4 HF4 HB4 hP hF hb HT2
  go_wp2_with fail
  refine (HFr.out _ _ _ HP5.out).mono ?_
  rintro e w6 ⟨rfl, hb⟩
  have HB6 := hid (HB5.out.trans (hb.mono HB5.out.size))
  clear HP5 HB5 hb HFr
  go_wp2
  go_ret
  exact ⟨rfl, HB6.out⟩
end Go.Proofs.Ytdmakboapchhnaa
