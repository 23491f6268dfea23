/-
  The texts EnLaw, EnKeep of this proof.
-/
import Derived.Test.YtjgggialnegddaaGreatPq41
import Derived.Test.YtjgggialnegddaaGreatPq24
import Derived.Test.YtjgggialnegddaaGreatPq23
import Derived.Test.YtjgggialnegddaaGreatPq25
import Derived.Test.YtjgggialnegddaaGreatPq20
import Derived.Test.YtjgggialnegddaaGreatPq02
set_option linter.unusedVariables false
set_option maxRecDepth 1000000
namespace Go.Proofs.YtjgggialnegddaaGreat
open Go.RowKit
theorem us15_ok : setB us15 = true := by decide
def jb0 : Jb := ⟨0, none, 0, 0, [], 0⟩
def am1 : Ms := ⟨10, 0, 0, 0, 0, 7, 0, 0, jb0, none, 0, 0, []⟩
def am2 (b : Nat) : Ms := ⟨6, 0, 0, 3, 1, 0, 0, 0, ⟨0, some ⟨b, 0, none⟩, 1, 1, [9], 0⟩, none, 0, 0, []⟩
def am3 : Ms := ⟨6, 0, 0, 3, 1, 0, 0, 0, jb0, none, 0, 0, []⟩
theorem am_ok1 : MsOk am1 := by constructor <;> (unfold am1 jb0; simp [isU, isI])
theorem am_ok2 (b : Nat) : MsOk (am2 b) := by constructor <;> (unfold am2; simp [isU, isI])
theorem am_ok3 : MsOk am3 := by constructor <;> (unfold am3 jb0; simp [isU, isI])
def rs0 : Rs := ⟨us15, 1, false, [], 0⟩
def rs3 : Rs := ⟨us15, 1, false, [⟨3, 0, [], 0, 0, false⟩], 0⟩
theorem am1_m : arrM rs0 am1 = [poM 7 1 0] := by rfl
theorem am1_s : arrS rs0 am1 = rs0 := rfl
theorem am2_m (b : Nat) : arrM rs0 (am2 b) = [ovM 3 1 0 2] := by rfl
theorem am2_s (b : Nat) : arrS rs0 (am2 b) = rs0 := by rfl
theorem am3_m : arrM rs0 am3 = [] := by rfl
theorem am3_s : arrS rs0 am3 = rs3 := by rfl
theorem rs3_step {S' : Rs} {ms : List Mg} (h : StepR rs3 ms S') : ms = [ovM 3 1 0 1] ∧ S' = ⟨us15, 1, false, [], 32⟩ := by
 have ht : At.text us15.c ⟨3, 0, [], 0, 0, false⟩ = [] := rfl
 obtain ⟨told, e1, e2⟩ := step_one (a := ⟨3, 0, [], 0, 0, false⟩) h rfl (by decide) (by simp)
 rw [show rs3.s.c = us15.c from rfl, ht] at e1
 simp at e1
 subst e1
 rcases e2 with ⟨e2, _⟩ | ⟨_, e3, e4⟩
 ·exact absurd e2 (by decide)
 ·exact ⟨by rw [e3]; rfl, e4⟩
theorem msin_none (w : World) (kd st se ate ic n ct wh sd mo : Int) : MsIn w ⟨kd, st, se, ate, ic, n, ct, wh, ⟨sd, none, 0, 0, [], mo⟩, none, 0, 0, []⟩ := ⟨Reads.nil _ _, Reads.nil _ _⟩
set_option maxHeartbeats 4000000 in
theorem alive15_any (w : World) : Calls Tryz.prog 11 #[] w fun e w' => e = .returned (.bool true) ∧ Below w.heap.size w w' := by
 have HA1 := hid fun (p : Option Addr) (F It : Nat → Prop) (W : World) (h : EnAt W p rs0 F It) => en_arr am1 W h (msin_none _ _ _ _ _ _ _ _ _ _ _) am_ok1 (fun k hk => by obtain ⟨_, a, e, _⟩ := hk; cases e)
 have HA2 := hid fun (p : Option Addr) (F It : Nat → Prop) (b : Nat) (W : World) (h : EnAt W p rs0 F It) (hr : Reads .i64 W (some ⟨b, 0, none⟩) 1 1 [9]) (hF : ¬ F b) => en_arr (am2 b) W h ⟨hr, Reads.nil _ _⟩ (am_ok2 b) (fun k hk => by obtain ⟨_, a, e, rfl⟩ := hk; cases e; exact hF)
 have HA3 := hid fun (p : Option Addr) (F It : Nat → Prop) (W : World) (h : EnAt W p rs0 F It) => en_arr am3 W h (msin_none _ _ _ _ _ _ _ _ _ _ _) am_ok3 (fun k hk => by obtain ⟨_, a, e, _⟩ := hk; cases e)
 simp only [am1_m, am1_s, am2_m, am2_s, am3_m, am3_s, EnO, List.length_singleton, List.length_nil] at HA1 HA2 HA3
 unfold MsV am1 jb0 at HA1
 unfold MsV am2 at HA2
 unfold MsV am3 jb0 at HA3
 simp only at HA1 HA2 HA3
 go_enter Tryz.func11, Tryz.ntmps11
 go_wp2_with fail
 refine (usual_any w).mono ?_
 rintro e w1 ⟨rfl, hb⟩
 have HU := hid hb
 clear hb
 go_wp2_with fail
 refine (theirSet_any us15 w1).mono ?_
 rintro e w2 ⟨rfl, hb⟩
 replace HU := hid (HU.out.trans (hb.mono HU.out.size))
 clear hb
 go_wp2_with fail
 refine (en_new_yes us15 w2 us15_ok).mono ?_
 rintro e w3 ⟨g, F, It, rfl, hE, hF, hI, hb⟩
 have HF : Hid (∀ k, F k → w.heap.size ≤ k) := fun k hk => Nat.le_trans HU.out.size (hF k hk)
 have HE := hid hE
 replace HU := hid (HU.out.trans (hb.mono HU.out.size))
 have hA1 := HA1.out _ F It w3 hE
 clear hE hF hI hb HA1
 go_wp2_with fail
 refine hA1.mono ?_
 rintro e w4 ⟨a1, c1, F1, It1, rfl, hM, hO, hE, hF, hI, hb⟩
 obtain ⟨b1, o1, la1, ll1, lc1, ea1, _, _, k0, _, _, _, _, k5, _⟩ := hM.at (i := 0) (by decide)
 subst ea1
 have n1 : ¬ F1 b1 := (hO _ rfl).2
 have s1 := hM.room
 have s2 := hM.most
 have hbl1 : b1 < w4.heap.size := World.block_lt_of_cell? _ _ k0
 have K0 := hid k0
 have K5 := hid k5
 have N1 := hid n1
 have HE4 := hid hE
 have HF4 : Hid (∀ k, F1 k → w.heap.size ≤ k) := fun k hk => (hF k hk).elim (HF.out k) fun h' => Nat.le_trans HU.out.size h'
 replace HU := hid (HU.out.trans (hb.to HF.out HU.out.size))
 clear hM hO hE hF hI hb hA1 n1 k0 k5 HF HE
 have hAl : Below w4.heap.size w4 (w4.alloc (.cells #[.int .i64 9] 3)) := (Below.refl _ _).alloc (Nat.le_refl _) _
 have hr9 : Reads .i64 (w4.alloc (.cells #[.int .i64 9] 3)) (some ⟨w4.heap.size, 0, none⟩) 1 1 [9] := Reads.one _ _ _
 have hA2 := HA2.out _ F1 It1 w4.heap.size _ (HE4.out.below hAl) hr9 (fun hf => by have := HE4.out.old _ hf; omega)
 have HAl := hid hAl
 clear hAl hr9 HA2
 go_wp2_with fail
 refine hA2.mono ?_
 rintro e w5 ⟨a2, c2, F2, It2, rfl, hM, hO, hE, hF, hI, hb⟩
 obtain ⟨b2, o2, la2, ll2, lc2, ea2, _, _, _, _, _, _, _, _, _, k7, _⟩ := hM.at (i := 0) (by decide)
 subst ea2
 have s3 := hM.room
 have s4 := hM.most
 have hsz : w4.heap.size ≤ (w4.alloc (.cells #[.int .i64 9] 3)).heap.size := HAl.out.size
 have hno : ∀ x, x < w4.heap.size → ¬ F1 x → ¬ F2 x := fun x hx h1 h2 => by
  rcases hF x h2 with h' | h'
  ·exact h1 h'
  ·omega
 have n1 : ¬ F2 b1 := hno b1 hbl1 N1.out
 replace K0 := hid (hb.cell ((HAl.out.cell hbl1).trans K0.out) N1.out)
 replace K5 := hid (hb.cell ((HAl.out.cell hbl1).trans K5.out) N1.out)
 replace N1 := hid n1
 have N2 : Hid (¬ F2 b2) := (hO _ rfl).2
 have hbl2 : b2 < w5.heap.size := World.block_lt_of_cell? _ _ k7
 have hbl1' : b1 < w5.heap.size := Nat.lt_of_lt_of_le hbl1 (Nat.le_trans hsz hb.size)
 have K7 := hid k7
 have HF5 : Hid (∀ k, F2 k → w.heap.size ≤ k) := fun k hk => (hF k hk).elim (HF4.out k) fun h' => Nat.le_trans (Nat.le_trans HU.out.size hsz) h'
 replace HU := hid ((HU.out.trans (HAl.out.mono HU.out.size)).trans (hb.to HF4.out (Nat.le_trans HU.out.size hsz)))
 have hA3 := HA3.out _ F2 It2 w5 hE
 clear hM hO hE hF hI hb hA2 n1 k7 HF4 HE4 HAl hno hbl1 HA3 hsz
 go_wp2_with fail
 refine hA3.mono ?_
 rintro e w6 ⟨a3, c3, F3, It3, rfl, hM, hO, hE, hF, hI, hb⟩
 have s5 := hM.room
 have s6 := hM.most
 have hno : ∀ x, x < w5.heap.size → ¬ F2 x → ¬ F3 x := fun x hx h1 h2 => by
  rcases hF x h2 with h' | h'
  ·exact h1 h'
  ·omega
 replace K0 := hid (hb.cell K0.out N1.out)
 replace K5 := hid (hb.cell K5.out N1.out)
 replace K7 := hid (hb.cell K7.out N2.out)
 replace N1 := hid (hno b1 hbl1' N1.out)
 replace N2 := hid (hno b2 hbl2 N2.out)
 have HF6 : Hid (∀ k, F3 k → w.heap.size ≤ k) := fun k hk => (hF k hk).elim (HF5.out k) fun h' => Nat.le_trans HU.out.size h'
 replace HU := hid (HU.out.trans (hb.to HF5.out HU.out.size))
 have hSt := en_step w6 hE (show rs3.tk ≤ 90000 by decide)
 clear hM hO hE hF hI hb hA3 HF5 hno hbl1' hbl2
 go_wp2_with fail
 refine hSt.mono ?_
 rintro e w7 ⟨ms, S', hR, a4, c4, F4, It4, rfl, hM, hO, hE, hF, hI, hb⟩
 obtain ⟨rfl, rfl⟩ := rs3_step hR
 obtain ⟨b4, o4, la4, ll4, lc4, ea4, _, _, _, _, _, _, _, _, _, x7, _⟩ := hM.at (i := 0) (by decide)
 subst ea4
 have s7 := hM.room
 have s8 := hM.most
 have x0 := hb.cell K0.out N1.out
 have x5 := hb.cell K5.out N1.out
 have y7 := hb.cell K7.out N2.out
 replace HU := hid (HU.out.trans (hb.to HF6.out HU.out.size))
 have hLd := en_load w7 hE
 simp only [Nat.zero_mul, Nat.add_zero, List.getElem_cons_zero, poM, ovM] at x0 x5 x7 y7
 simp only [List.length_singleton]
 clear hM hO hE hF hI hb hSt hR K0 K5 K7 N1 N2 HF6
 go_wp2_with fail
 refine hLd.mono ?_
 rintro e w8 ⟨rfl, hb⟩
 have HZ := hid (HU.out.trans (hb.mono HU.out.size))
 clear hb hLd HU
 go_wp2
 go_ret
 exact ⟨rfl, HZ.out⟩
end Go.Proofs.YtjgggialnegddaaGreat
namespace Go.Proofs.YtjgggialnegddaaGreat
open Go.RowKit
theorem MgsAt.fb {lo : Nat} {W W' : World} {a : Option Addr} {len cap : Nat} {ms : List Mg} (h : MgsAt lo W a len cap ms) (ha : ∀ q, a = some q → lo ≤ q.block) (hk : ∀ k, lo ≤ k → k < W.heap.size → W'.heap[k]? = W.heap[k]?) : MgsAt lo W' a len cap ms :=
 ⟨h.size, h.room, h.most, h.bare, fun i hi => by
  obtain ⟨b, off, la, ll, lc, h1, h2, h3, h4⟩ := h.cell i hi
  have hlo := ha _ h1
  refine ⟨b, off, la, ll, lc, h1, fun j hj => ?_, ?_, h4⟩
  ·have h5 := h2 j hj
   have hsz : j < (MgC ms[i] la ll lc).size := hj
   obtain ⟨v, hv⟩ : ∃ v, (MgC ms[i] la ll lc)[j]? = some v := ⟨_, Array.getElem?_eq_getElem hsz⟩
   rw [hv] at h5
   have hb : W'.heap[b]? = W.heap[b]? := hk b hlo (World.block_lt_of_cell? _ _ h5)
   rw [← h2 j hj]
   unfold World.cell?
   rw [hb]
  ·by_cases h0 : ll = 0
   ·exact ⟨h3.size, h3.room, h3.most, h3.bare, fun i hi => by omega⟩
   ·refine h3.blk fun p hp => hk _ (h4 p hp) ?_
    obtain ⟨b', off', e1, e2⟩ := h3.cell 0 (by omega)
    rw [e1] at hp
    cases hp
    exact World.block_lt_of_cell? _ _ e2⟩
end Go.Proofs.YtjgggialnegddaaGreat
