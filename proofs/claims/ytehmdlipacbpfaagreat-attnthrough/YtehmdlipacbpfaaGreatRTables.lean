/-
  Contracts of the document's tables: Mul and Mix.
-/
import Derived.Test.YtehmdlipacbpfaaGreatMixes
import Derived.Test.YtehmdlipacbpfaaGreatRVecs2
namespace Go.Proofs.YtehmdlipacbpfaaGreat
open Go.RowKit
set_option linter.unusedVariables false
set_option maxRecDepth 1000000

set_option maxHeartbeats 1000000 in
theorem rvmul_own (a b : Option Addr) (la ca lb cb : Nat) (hs : List Hd) (xss : List (List Int)) (ys : List Int) (w : World) (ha : Tbl w a la ca hs xss) (hb : Reads .i64 w b lb cb ys) (hla : la ≤ 1000) (hlb : lb ≤ 1000) :
    Calls Tryz.prog 33 #[.slice a la ca, .slice b lb cb] w fun e w' => OwnG w la (rowK (mulF xss ys) la) e w' := by
  obtain ⟨i0, hi, hz0, hz1, hz2⟩ := info_parts Tryz.info2
  have HC : Hid (∀ k W, k < la → Below w.heap.size w W → Calls Tryz.prog 38 #[.slice (hs[k]?.getD (none, 0, 0)).1 (hs[k]?.getD (none, 0, 0)).2.1 (hs[k]?.getD (none, 0, 0)).2.2, .slice b lb cb] W fun e w' => e = .returned (.int .i64 (mulF xss ys k)) ∧ Below W.heap.size W w') := by
    intro k W hk hW
    have h1 := (ha.below hW).rows k hk
    have h2 := hb.below hW
    refine (rvdot_any _ _ _ _ _ _ _ _ W h1 h2 (ha.short k hk) hlb).mono ?_
    rintro e w' ⟨e1, e2⟩
    refine ⟨?_, e2⟩
    rw [e1]
    unfold mulF
    rw [h1.size, h2.size]
  have HA := hid ha
  have r1 := ha.rd.room
  have m1 := ha.rd.most
  clear ha hb
  go_enter Tryz.func33, Tryz.ntmps33
  go_wp2_with fail
  go_loopw [5, 6] (fun u i W => ∃ k : Nat, k ≤ la ∧ i = .int .i64 k ∧ Hid (W.ownsRow w.heap.size 2 1 u k ((rowK (mulF xss ys) k).map (Value.int .i64))) ∧ Hid (Below w.heap.size w W)) (fun _ i _ => la - (intOf i).toNat)
  case atStart => exact ⟨0, Nat.zero_le _, rfl, World.ownsRow_nil _ _ _ _, Below.refl _ _⟩
  case round =>
    obtain ⟨k, hk, rfl, HO, HW⟩ := hrel
    by_cases hlt : k < la
    · obtain ⟨b1, o1, rfl, c1⟩ := (HA.out.rd.below HW.out).cell k hlt
      have hC := HC.out k wr hlt HW.out
      have q1 : (k : Int) < (la : Int) := by omega
      have q2 : (k : Int) < 4096 := by omega
      have HE := hid (rowK_snoc (mulF xss ys) k)
      clear HA HC
      generalize hs[k]?.getD (none, 0, 0) = z at *
      obtain ⟨z1, z2, z3⟩ := z
      simp only at c1 hC
      generalize mulF xss ys k = x at *
      generalize rowK (mulF xss ys) k = us at *
      go_wp2_with fail
      refine hC.mono ?_
      rintro e w2 ⟨rfl, hb2⟩
      have HO2 := hid (own_below HO.out hb2)
      have HW2 := hid (HW.out.trans (hb2.mono HW.out.size))
      have HS : Hid (w.heap.size ≤ w2.heap.size) := HW2.out.size
      clear hb2 hC c1 HO HW
      go_wp2_with (at_builtin; refine append_any _ rfl (.tmp 17) (.tmp 24) 25 rfl w.heap.size 2 i0 (.int .i64 0) 8 Tryz.underlying25 hi hz0 hz1 hz2 rfl .i64 _ k us rfl (HO2.out.alloc _) _ 1 1 [x] rfl (Reads.one _ _ _) (by omega) (by omega) (Nat.le_trans HS.out (by simp)) ?_; intro v' w3 hO3 hb3)
      have HB3 := hid ((HW2.out.alloc HS.out _).trans hb3)
      have HO3 : Hid (w3.ownsRow w.heap.size 2 1 v' (k + 1) ((rowK (mulF xss ys) (k + 1)).map (Value.int .i64))) := by rw [← HE.out]; exact hO3
      clear hO3 hb3
      go_round
      case rel => exact ⟨k + 1, by omega, by go_num, HO3, HB3⟩
      case measure => simp [intOf]; omega
    · obtain rfl : k = la := by omega
      clear HA HC
      go_wp2
      go_ret
      exact ⟨_, rfl, HO.out, HW.out⟩
theorem rvmul_any (a b : Option Addr) (la ca lb cb : Nat) (hs : List Hd) (xss : List (List Int)) (ys : List Int) (w : World) (ha : Tbl w a la ca hs xss) (hb : Reads .i64 w b lb cb ys) (hla : la ≤ 1000) (hlb : lb ≤ 1000) :
    Calls Tryz.prog 33 #[.slice a la ca, .slice b lb cb] w fun e w' => Gives w la (rowK (mulF xss ys) la) e w' := (rvmul_own a b la ca lb cb hs xss ys w ha hb hla hlb).mono fun e w' h => h.gives

theorem mix_step {us row : List Int} {b : Int} : ∀ n, n ≤ row.length → pairK addZ us (row.map (mulZ · b)) n = pairK (fun x y => addZ x (mulZ y b)) us row n := by
  intro n
  induction n with
  | zero => intro _; rfl
  | succ n ih =>
    intro h
    simp only [pairK]
    rw [ih (by omega), List.getElem?_map, List.getElem?_eq_getElem (by omega : n < row.length)]
    rfl
/-- A vector that reads as us, in a slot. -/
def VecAt (us : List Int) (u : Value) (W : World) : Prop := ∃ ad c, u = .slice ad us.length c ∧ Reads .i64 W ad us.length c us

set_option maxHeartbeats 2000000 in
theorem rvmix_any (a b : Option Addr) (la ca lb cb : Nat) (hs : List Hd) (xss : List (List Int)) (ws : List Int) (w : World) (ha : Tbl w a la ca hs xss) (hb : Reads .i64 w b lb cb ws) (hla : la ≤ 1000) (hlb : lb ≤ 1000) (h0 : 0 < la) :
    Calls Tryz.prog 40 #[.slice b lb cb, .slice a la ca] w fun e w' => Gives w (mixK ws xss (min lb la)).length (mixK ws xss (min lb la)) e w' := by
  obtain ⟨b0, o0, rfl, c0⟩ := ha.rd.cell 0 h0
  have hr0 := ha.rows 0 h0
  have hs0 := ha.short 0 h0
  have hcut := rcut_any _ _ _ _ w hr0 hs0
  have HL : Hid ((xss[0]?.getD []).length ≤ 1000) := by unfold Hid; rw [hr0.size]; exact hs0
  have HZ := hid hr0.size
  have HCut := hid fun W (h : Below w.heap.size w W) => rcut_any b lb cb ws W (hb.below h) hlb
  have HSc : Hid (∀ k W, k < la → k < lb → Below w.heap.size w W → Calls Tryz.prog 81 #[.slice (hs[k]?.getD (none, 0, 0)).1 (hs[k]?.getD (none, 0, 0)).2.1 (hs[k]?.getD (none, 0, 0)).2.2, .int .i64 (ws[k]?.getD 0)] W
      fun e w' => Gives W (xss[k]?.getD []).length ((xss[k]?.getD []).map (mulZ · (ws[k]?.getD 0))) e w') := by
    intro k W hk hk' hW
    have h1 := (ha.below hW).rows k hk
    have := rvscale_any _ _ _ _ (ws[k]?.getD 0) W h1 (ha.short k hk)
    rw [← h1.size] at this
    rw [← h1.size]
    exact this
  have HAd : Hid (∀ k W ad c ad2 c2, k < la → Reads .i64 W ad (mixK ws xss k).length c (mixK ws xss k) → Reads .i64 W ad2 (xss[k]?.getD []).length c2 ((xss[k]?.getD []).map (mulZ · (ws[k]?.getD 0))) → Calls Tryz.prog 39 #[.slice ad (mixK ws xss k).length c, .slice ad2 (xss[k]?.getD []).length c2] W
      fun e w' => ∃ u, e = .returned u ∧ VecAt (mixK ws xss (k + 1)) u w' ∧ Below W.heap.size W w') := by
    intro k W ad c ad2 c2 hk h1 h2
    have hl : (xss[k]?.getD []).length ≤ 1000 := by rw [(ha.rows k hk).size]; exact ha.short k hk
    refine (rvadd_any _ _ _ _ _ _ _ _ W h1 h2 (mixK_len HL.out k) hl).mono ?_
    rintro e w' ⟨a', c', e1, hr, hb'⟩
    have hmx : pairK addZ (mixK ws xss k) ((xss[k]?.getD []).map (mulZ · (ws[k]?.getD 0))) (min (mixK ws xss k).length (xss[k]?.getD []).length) = mixK ws xss (k + 1) := mix_step _ (Nat.min_le_right _ _)
    rw [hmx] at hr
    have hsz := hr.size
    rw [← hsz] at e1 hr
    exact ⟨_, e1, ⟨a', c', rfl, hr⟩, hb'⟩
  have HT := hid ha
  have HW0 := hid hb
  have r1 := hb.room
  have m1 := hb.most
  have r2 := ha.rd.room
  have m2 := ha.rd.most
  have qn : ((la : Int) == 0) = false := by simp; omega
  have q0 : (0 : Int) < (la : Int) := by omega
  rw [Nat.add_zero] at c0
  have HLs : Hid (∀ k, k < la → (xss[k]?.getD []).length = (hs[k]?.getD (none, 0, 0)).2.1) := fun k hk => (ha.rows k hk).size
  clear ha hb hr0
  generalize hz0 : hs[0]?.getD (none, 0, 0) = z at *
  obtain ⟨z1, z2, z3⟩ := z
  simp only at c0 hs0 HZ hcut
  have HM0 : Hid (mixK ws xss 0 = List.replicate z2 0) := by unfold mixK; rw [HZ.out]; exact rfl
  have hmk : ∀ W : World, (Instr.makeSlice 25 (.int .i64 (z2 : Int)) (.int .i64 (z2 : Int))).run Tryz.prog W = .ok (.slice (some ⟨W.heap.size, 0, none⟩) z2 z2) (W.alloc (.cells (madeCells #[.int .i64 0] z2) 2)) := fun W => make_ints W z2 (by omega)
  have HV0 : Hid (VecAt (mixK ws xss 0) (.slice (some ⟨w.heap.size, 0, none⟩) z2 z2) (w.alloc (.cells (madeCells #[.int .i64 0] z2) 2))) := by
    rw [HM0.out]
    exact ⟨_, z2, by rw [List.length_replicate], by rw [List.length_replicate]; exact (own_made 2 w z2 (by omega)).reads⟩
  have HB0 : Hid (Below w.heap.size w (w.alloc (.cells (madeCells #[.int .i64 0] z2) 2))) := (Below.refl _ _).alloc (Nat.le_refl _) _
  clear hz0 HZ
  go_enter Tryz.func40, Tryz.ntmps40
  go_wp2_with fail
  refine hcut.mono ?_
  rintro e w' ⟨rfl, rfl⟩
  clear hcut
  rename World => w
  go_wp2_with fail
  clear hmk c0
  go_loopw [5, 6] (fun u i W => ∃ k : Nat, k ≤ min lb la ∧ i = .int .i64 k ∧ Hid (VecAt (mixK ws xss k) u W) ∧ Hid (Below w.heap.size w W)) (fun _ i _ => min lb la - (intOf i).toNat)
  case atStart => exact ⟨0, Nat.zero_le _, rfl, HV0, HB0⟩
  case round =>
    obtain ⟨k, hk, rfl, HV, HW⟩ := hrel
    clear HV0 HB0
    rename World => wr
    have hcw := HCut.out wr HW.out
    by_cases hlt : k < min lb la
    · have hka : k < la := by omega
      have hkb : k < lb := by omega
      have q1 : (k : Int) < (la : Int) := by omega
      have q2 : (k : Int) < (lb : Int) := by omega
      obtain ⟨ad, c, rfl, hrd⟩ := HV.out
      obtain ⟨b2, o2, e2, d2⟩ := (HT.out.rd.below HW.out).cell k hka
      cases e2
      obtain ⟨b1, o1, rfl, d1⟩ := (HW0.out.below HW.out).cell k hkb
      have HSk := hid (HSc.out k wr.drew hka hkb HW.out.drew)
      have HAk := hid fun W ad2 c2 (h : Below wr.heap.size wr W) h2 => HAd.out k W ad c ad2 c2 hka (hrd.below h) h2
      have HK : Hid (∀ W, Below wr.heap.size wr W → W.cell? ⟨b0, o0 + k, none⟩ = some (.slice (hs[k]?.getD (none, 0, 0)).1 (hs[k]?.getD (none, 0, 0)).2.1 (hs[k]?.getD (none, 0, 0)).2.2) ∧ W.cell? ⟨b1, o1 + k, none⟩ = some (.int .i64 (ws[k]?.getD 0))) :=
        fun W h => ⟨(h.cell (World.block_lt_of_cell? _ _ d2)).trans d2, (h.cell (World.block_lt_of_cell? _ _ d1)).trans d1⟩
      have HLk := hid (HLs.out k hka)
      clear HSc HAd HT HW0 HCut HLs HV hrd
      generalize ws[k]?.getD 0 = wk at *
      generalize hs[k]?.getD (none, 0, 0) = y at *
      obtain ⟨y1, y2, y3⟩ := y
      simp only at d2 HSk HK HLk
      have hml := mixK_len (ws := ws) HL.out k
      generalize hM : (mixK ws xss k).length = M at *
      go_wp2_with fail
      refine hcw.mono ?_
      rintro e w' ⟨rfl, rfl⟩
      clear hcw hM
      rename World => wr
      go_wp2_with fail
      go_region_held3 (fun W : World => W.cell? ⟨b0, o0 + k, none⟩ = some (.slice y1 y2 y3) ∧ W.cell? ⟨b1, o1 + k, none⟩ = some (.int .i64 wk)) (first | exact ⟨d2, d1⟩ | assumption | exact HK.out _ HB5.out | exact HK.out _ HB4.out)
        (first | (go_at_call 81; refine HSk.out.mono ?_; rintro e w4 ⟨a4, c4, rfl, hr4, hb4⟩; have HB4 : Hid (Below wr.heap.size wr w4) := (Below.refl _ _).drew.trans (hb4.mono (Nat.le_refl _)); have hA4 := HAk.out w4 a4 c4 HB4.out hr4) | (go_at_call 39; refine hA4.mono ?_; rintro e w5 ⟨u5', rfl, hv5, hb5⟩; have HB5 : Hid (Below wr.heap.size wr w5) := HB4.out.trans (hb5.mono HB4.out.size)))
      have HV5 := hid hv5
      have HB6 := hid (HW.out.trans (HB5.out.mono HW.out.size))
      clear hv5 hb5 hA4 hr4 hb4 HB4 HB5 HK d1 d2 HSk HAk
      go_wp2_with fail
      go_round
      case rel => exact ⟨k + 1, by omega, by go_num, HV5, HB6⟩
      case measure => simp [intOf]; omega
    · have HE : Hid (∃ ad c, u5 = .slice ad (mixK ws xss (min lb la)).length c ∧ Reads .i64 wr ad (mixK ws xss (min lb la)).length c (mixK ws xss (min lb la))) := by
        have e : k = min lb la := by omega
        rw [← e]
        exact HV.out
      obtain ⟨ad, c, rfl, hrd⟩ := HE.out
      have HR := hid hrd
      have hkm : k = min lb la := by omega
      clear HSc HAd HT HW0 HCut HLs HV hrd HE HM0 HL
      rcases Nat.lt_or_ge lb la with hl | hl
      · obtain rfl : k = lb := by omega
        have q1 : (k : Int) < (la : Int) := by omega
        clear hkm hk hlt
        go_wp2_with fail
        refine hcw.mono ?_
        rintro e w' ⟨rfl, rfl⟩
        clear hcw
        go_wp2
        go_ret
        exact ⟨_, _, rfl, HR.out, HW.out⟩
      · obtain rfl : k = la := by omega
        clear hkm hk hlt hcw
        go_wp2
        go_ret
        exact ⟨_, _, rfl, HR.out, HW.out⟩
theorem rvmix_none (a b : Option Addr) (ca lb cb : Nat) (w : World) :
    Calls Tryz.prog 40 #[.slice b lb cb, .slice a 0 ca] w fun e w' => Gives w 0 [] e w' := by
  go_enter Tryz.func40, Tryz.ntmps40
  go_wp2
  go_ret
  exact ⟨_, _, rfl, Reads.nil _ _, Below.refl _ _⟩
end Go.Proofs.YtehmdlipacbpfaaGreat
