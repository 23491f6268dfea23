/-
  The texts RTables, AMath, PgSt, PgTurn, PgCons of this proof.
-/
import Derived.Test.YtjgggialnegddaaGreatPr13
import Derived.Test.YtjgggialnegddaaGreatPr12
import Derived.Test.YtjgggialnegddaaGreatPr11
import Derived.ArgAppend
import Derived.Lib.SliceRun
import Derived.Test.YtjgggialnegddaaGreatPr02
import Derived.Test.YtjgggialnegddaaGreatPr15
import Derived.Deep.RegionWith
set_option linter.unusedVariables false
set_option maxRecDepth 1000000
namespace Go.Proofs.YtjgggialnegddaaGreat
open Go.RowKit
set_option maxHeartbeats 1000000 in
theorem rvmul_own (a b : Option Addr) (la ca lb cb : Nat) (hs : List Hd) (xss : List (List Int)) (ys : List Int) (w : World) (ha : Tbl w a la ca hs xss) (hb : Reads .i64 w b lb cb ys) (hla : la ≤ 1000) (hlb : lb ≤ 1000) :
  Calls Tryz.prog 131 #[.slice a la ca, .slice b lb cb] w fun e w' => OwnG w la (rowK (mulF xss ys) la) e w' := by
 obtain ⟨i0, hi, hz0, hz1, hz2⟩ := info_parts Tryz.info2
 have HC : Hid (∀ k W, k < la → Below w.heap.size w W → Calls Tryz.prog 136 #[.slice (hs[k]?.getD (none, 0, 0)).1 (hs[k]?.getD (none, 0, 0)).2.1 (hs[k]?.getD (none, 0, 0)).2.2, .slice b lb cb] W fun e w' => e = .returned (.int .i64 (mulF xss ys k)) ∧ Below W.heap.size W w') := by
  intro k W hk hW
  have h1 := (ha.below hW).rows k hk
  have h2 := hb.below hW
  refine (rvdot_any _ _ _ _ _ _ _ _ W h1 h2 (ha.short k hk) hlb).mono ?_
  rintro e w' ⟨e1, e2⟩
  refine ⟨?_, e2⟩
  rw [e1]
  unfold mulF
  rw [h1.size, h2.size]
 have HA := hid ha
 have r1 := ha.rd.room
 have m1 := ha.rd.most
 clear ha hb
 go_enter Tryz.func131, Tryz.ntmps131
 go_wp2_with fail
 go_loopw [5, 6] (fun u i W => ∃ k : Nat, k ≤ la ∧ i = .int .i64 k ∧ Hid (W.ownsRow w.heap.size 2 1 u k ((rowK (mulF xss ys) k).map (Value.int .i64))) ∧ Hid (Below w.heap.size w W)) (fun _ i _ => la - (intOf i).toNat)
 case atStart => exact ⟨0, Nat.zero_le _, rfl, World.ownsRow_nil _ _ _ _, Below.refl _ _⟩
 case round =>
  obtain ⟨k, hk, rfl, HO, HW⟩ := hrel
  by_cases hlt : k < la
  ·obtain ⟨b1, o1, rfl, c1⟩ := (HA.out.rd.below HW.out).cell k hlt
   have hC := HC.out k wr hlt HW.out
   have q1 : (k : Int) < (la : Int) := by omega
   have q2 : (k : Int) < 4096 := by omega
   have HE := hid (rowK_snoc (mulF xss ys) k)
   clear HA HC
   generalize hs[k]?.getD (none, 0, 0) = z at *
   obtain ⟨z1, z2, z3⟩ := z
   simp only at c1 hC
   generalize mulF xss ys k = x at *
   generalize rowK (mulF xss ys) k = us at *
   go_wp2_with fail
   refine hC.mono ?_
   rintro e w2 ⟨rfl, hb2⟩
   have HO2 := hid (own_below HO.out hb2)
   have HW2 := hid (HW.out.trans (hb2.mono HW.out.size))
   have HS : Hid (w.heap.size ≤ w2.heap.size) := HW2.out.size
   clear hb2 hC c1 HO HW
   go_wp2_with (at_builtin; refine append_any _ rfl (.tmp 17) (.tmp 24) 131 rfl w.heap.size 2 i0 (.int .i64 0) 8 Tryz.underlying131 hi hz0 hz1 hz2 rfl .i64 _ k us rfl (HO2.out.alloc _) _ 1 1 [x] rfl (Reads.one _ _ _) (by omega) (by omega) (Nat.le_trans HS.out (by simp)) ?_; intro v' w3 hO3 hb3)
   have HB3 := hid ((HW2.out.alloc HS.out _).trans hb3)
   have HO3 : Hid (w3.ownsRow w.heap.size 2 1 v' (k + 1) ((rowK (mulF xss ys) (k + 1)).map (Value.int .i64))) := by rw [← HE.out]; exact hO3
   clear hO3 hb3
   go_round
   case rel => exact ⟨k + 1, by omega, by go_num, HO3, HB3⟩
   case measure => simp [intOf]; omega
  ·obtain rfl : k = la := by omega
   clear HA HC
   go_wp2
   go_ret
   exact ⟨_, rfl, HO.out, HW.out⟩
theorem mix_step {us row : List Int} {b : Int} : ∀ n, n ≤ row.length → pairK addZ us (row.map (mulZ · b)) n = pairK (fun x y => addZ x (mulZ y b)) us row n := by
 intro n
 induction n with
 | zero => intro _; rfl
 | succ n ih =>
  intro h
  simp only [pairK]
  rw [ih (by omega), List.getElem?_map, List.getElem?_eq_getElem (by omega : n < row.length)]
  rfl
def VecAt (us : List Int) (u : Value) (W : World) : Prop := ∃ ad c, u = .slice ad us.length c ∧ Reads .i64 W ad us.length c us
set_option maxHeartbeats 2000000 in
theorem rvmix_any (a b : Option Addr) (la ca lb cb : Nat) (hs : List Hd) (xss : List (List Int)) (ws : List Int) (w : World) (ha : Tbl w a la ca hs xss) (hb : Reads .i64 w b lb cb ws) (hla : la ≤ 1000) (hlb : lb ≤ 1000) (h0 : 0 < la) :
  Calls Tryz.prog 137 #[.slice b lb cb, .slice a la ca] w fun e w' => Gives w (mixK ws xss (min lb la)).length (mixK ws xss (min lb la)) e w' := by
 obtain ⟨b0, o0, rfl, c0⟩ := ha.rd.cell 0 h0
 have hr0 := ha.rows 0 h0
 have hs0 := ha.short 0 h0
 have hcut := rcut_any _ _ _ _ w hr0 hs0
 have HL : Hid ((xss[0]?.getD []).length ≤ 1000) := by unfold Hid; rw [hr0.size]; exact hs0
 have HZ := hid hr0.size
 have HCut := hid fun W (h : Below w.heap.size w W) => rcut_any b lb cb ws W (hb.below h) hlb
 have HSc : Hid (∀ k W, k < la → k < lb → Below w.heap.size w W → Calls Tryz.prog 170 #[.slice (hs[k]?.getD (none, 0, 0)).1 (hs[k]?.getD (none, 0, 0)).2.1 (hs[k]?.getD (none, 0, 0)).2.2, .int .i64 (ws[k]?.getD 0)] W
   fun e w' => Gives W (xss[k]?.getD []).length ((xss[k]?.getD []).map (mulZ · (ws[k]?.getD 0))) e w') := by
  intro k W hk hk' hW
  have h1 := (ha.below hW).rows k hk
  have := rvscale_any _ _ _ _ (ws[k]?.getD 0) W h1 (ha.short k hk)
  rw [← h1.size] at this
  rw [← h1.size]
  exact this
 have HAd : Hid (∀ k W ad c ad2 c2, k < la → Reads .i64 W ad (mixK ws xss k).length c (mixK ws xss k) → Reads .i64 W ad2 (xss[k]?.getD []).length c2 ((xss[k]?.getD []).map (mulZ · (ws[k]?.getD 0))) → Calls Tryz.prog 71 #[.slice ad (mixK ws xss k).length c, .slice ad2 (xss[k]?.getD []).length c2] W
   fun e w' => ∃ u, e = .returned u ∧ VecAt (mixK ws xss (k + 1)) u w' ∧ Below W.heap.size W w') := by
  intro k W ad c ad2 c2 hk h1 h2
  have hl : (xss[k]?.getD []).length ≤ 1000 := by rw [(ha.rows k hk).size]; exact ha.short k hk
  refine (rvadd_any _ _ _ _ _ _ _ _ W h1 h2 (mixK_len HL.out k) hl).mono ?_
  rintro e w' ⟨a', c', e1, hr, hb'⟩
  have hmx : pairK addZ (mixK ws xss k) ((xss[k]?.getD []).map (mulZ · (ws[k]?.getD 0))) (min (mixK ws xss k).length (xss[k]?.getD []).length) = mixK ws xss (k + 1) := mix_step _ (Nat.min_le_right _ _)
  rw [hmx] at hr
  have hsz := hr.size
  rw [← hsz] at e1 hr
  exact ⟨_, e1, ⟨a', c', rfl, hr⟩, hb'⟩
 have HT := hid ha
 have HW0 := hid hb
 have r1 := hb.room
 have m1 := hb.most
 have r2 := ha.rd.room
 have m2 := ha.rd.most
 have qn : ((la : Int) == 0) = false := by simp; omega
 have q0 : (0 : Int) < (la : Int) := by omega
 rw [Nat.add_zero] at c0
 have HLs : Hid (∀ k, k < la → (xss[k]?.getD []).length = (hs[k]?.getD (none, 0, 0)).2.1) := fun k hk => (ha.rows k hk).size
 clear ha hb hr0
 generalize hz0 : hs[0]?.getD (none, 0, 0) = z at *
 obtain ⟨z1, z2, z3⟩ := z
 simp only at c0 hs0 HZ hcut
 have HM0 : Hid (mixK ws xss 0 = List.replicate z2 0) := by unfold mixK; rw [HZ.out]; exact rfl
 have hmk : ∀ W : World, (Instr.makeSlice 131 (.int .i64 (z2 : Int)) (.int .i64 (z2 : Int))).run Tryz.prog W = .ok (.slice (some ⟨W.heap.size, 0, none⟩) z2 z2) (W.alloc (.cells (madeCells #[.int .i64 0] z2) 2)) := fun W => make_ints W z2 (by omega)
 have HV0 : Hid (VecAt (mixK ws xss 0) (.slice (some ⟨w.heap.size, 0, none⟩) z2 z2) (w.alloc (.cells (madeCells #[.int .i64 0] z2) 2))) := by
  rw [HM0.out]
  exact ⟨_, z2, by rw [List.length_replicate], by rw [List.length_replicate]; exact (own_made 2 w z2 (by omega)).reads⟩
 have HB0 : Hid (Below w.heap.size w (w.alloc (.cells (madeCells #[.int .i64 0] z2) 2))) := (Below.refl _ _).alloc (Nat.le_refl _) _
 clear hz0 HZ
 go_enter Tryz.func137, Tryz.ntmps137
 go_wp2_with fail
 refine hcut.mono ?_
 rintro e w' ⟨rfl, rfl⟩
 clear hcut
 rename World => w
 go_wp2_with fail
 clear hmk c0
 go_loopw [5, 6] (fun u i W => ∃ k : Nat, k ≤ min lb la ∧ i = .int .i64 k ∧ Hid (VecAt (mixK ws xss k) u W) ∧ Hid (Below w.heap.size w W)) (fun _ i _ => min lb la - (intOf i).toNat)
 case atStart => exact ⟨0, Nat.zero_le _, rfl, HV0, HB0⟩
 case round =>
  obtain ⟨k, hk, rfl, HV, HW⟩ := hrel
  clear HV0 HB0
  rename World => wr
  have hcw := HCut.out wr HW.out
  by_cases hlt : k < min lb la
  ·have hka : k < la := by omega
   have hkb : k < lb := by omega
   have q1 : (k : Int) < (la : Int) := by omega
   have q2 : (k : Int) < (lb : Int) := by omega
   obtain ⟨ad, c, rfl, hrd⟩ := HV.out
   obtain ⟨b2, o2, e2, d2⟩ := (HT.out.rd.below HW.out).cell k hka
   cases e2
   obtain ⟨b1, o1, rfl, d1⟩ := (HW0.out.below HW.out).cell k hkb
   have HSk := hid (HSc.out k wr.drew hka hkb HW.out.drew)
   have HAk := hid fun W ad2 c2 (h : Below wr.heap.size wr W) h2 => HAd.out k W ad c ad2 c2 hka (hrd.below h) h2
   have HK : Hid (∀ W, Below wr.heap.size wr W → W.cell? ⟨b0, o0 + k, none⟩ = some (.slice (hs[k]?.getD (none, 0, 0)).1 (hs[k]?.getD (none, 0, 0)).2.1 (hs[k]?.getD (none, 0, 0)).2.2) ∧ W.cell? ⟨b1, o1 + k, none⟩ = some (.int .i64 (ws[k]?.getD 0))) :=
    fun W h => ⟨(h.cell (World.block_lt_of_cell? _ _ d2)).trans d2, (h.cell (World.block_lt_of_cell? _ _ d1)).trans d1⟩
   have HLk := hid (HLs.out k hka)
   clear HSc HAd HT HW0 HCut HLs HV hrd
   generalize ws[k]?.getD 0 = wk at *
   generalize hs[k]?.getD (none, 0, 0) = y at *
   obtain ⟨y1, y2, y3⟩ := y
   simp only at d2 HSk HK HLk
   have hml := mixK_len (ws := ws) HL.out k
   generalize hM : (mixK ws xss k).length = M at *
   go_wp2_with fail
   refine hcw.mono ?_
   rintro e w' ⟨rfl, rfl⟩
   clear hcw hM
   rename World => wr
   go_wp2_with fail
   go_region_held3 (fun W : World => W.cell? ⟨b0, o0 + k, none⟩ = some (.slice y1 y2 y3) ∧ W.cell? ⟨b1, o1 + k, none⟩ = some (.int .i64 wk)) (first | exact ⟨d2, d1⟩ | assumption | exact HK.out _ HB5.out | exact HK.out _ HB4.out)
    (first | (go_at_call 170; refine HSk.out.mono ?_; rintro e w4 ⟨a4, c4, rfl, hr4, hb4⟩; have HB4 : Hid (Below wr.heap.size wr w4) := (Below.refl _ _).drew.trans (hb4.mono (Nat.le_refl _)); have hA4 := HAk.out w4 a4 c4 HB4.out hr4) | (go_at_call 71; refine hA4.mono ?_; rintro e w5 ⟨u5', rfl, hv5, hb5⟩; have HB5 : Hid (Below wr.heap.size wr w5) := HB4.out.trans (hb5.mono HB4.out.size)))
   have HV5 := hid hv5
   have HB6 := hid (HW.out.trans (HB5.out.mono HW.out.size))
   clear hv5 hb5 hA4 hr4 hb4 HB4 HB5 HK d1 d2 HSk HAk
   go_wp2_with fail
   go_round
   case rel => exact ⟨k + 1, by omega, by go_num, HV5, HB6⟩
   case measure => simp [intOf]; omega
  ·have HE : Hid (∃ ad c, u5 = .slice ad (mixK ws xss (min lb la)).length c ∧ Reads .i64 wr ad (mixK ws xss (min lb la)).length c (mixK ws xss (min lb la))) := by
    have e : k = min lb la := by omega
    rw [← e]
    exact HV.out
   obtain ⟨ad, c, rfl, hrd⟩ := HE.out
   have HR := hid hrd
   have hkm : k = min lb la := by omega
   clear HSc HAd HT HW0 HCut HLs HV hrd HE HM0 HL
   rcases Nat.lt_or_ge lb la with hl | hl
   ·obtain rfl : k = lb := by omega
    have q1 : (k : Int) < (la : Int) := by omega
    clear hkm hk hlt
    go_wp2_with fail
    refine hcw.mono ?_
    rintro e w' ⟨rfl, rfl⟩
    clear hcw
    go_wp2
    go_ret
    exact ⟨_, _, rfl, HR.out, HW.out⟩
   ·obtain rfl : k = la := by omega
    clear hkm hk hlt hcw
    go_wp2
    go_ret
    exact ⟨_, _, rfl, HR.out, HW.out⟩
end Go.Proofs.YtjgggialnegddaaGreat
namespace Go.Proofs.YtjgggialnegddaaGreat
open Go.RowKit
def markZ (c : Cf) (q y : List Int) : Int := divZ (dotK y q (min y.length q.length)) (sqrtZ (fromZ c.dim))
def mulT (t : List (List Int)) (ys : List Int) : List Int := rowK (mulF t ys) t.length
def addL (xs ys : List Int) : List Int := pairK addZ xs ys (min xs.length ys.length)
def reluL (zs : List Int) : List Int := zs.map fun n => max (wi n) 0
def qryL (c : Cf) (la : Int) (x : List Int) : List Int := mulT (tabL c la 0) (normL x)
def keyL (c : Cf) (la : Int) (x : List Int) : List Int := mulT (tabL c la 1) (normL x)
def valL (c : Cf) (la : Int) (x : List Int) : List Int := mulT (tabL c la 2) (normL x)
def wtsL (c : Cf) (la : Int) (x : List Int) (ks : List (List Int)) : List Int := softL ((ks ++ [keyL c la x]).map (markZ c (qryL c la x)))
def mixL (ws : List Int) (ls : List (List Int)) : List Int := mixK ws ls (min ws.length ls.length)
def hidL (c : Cf) (la : Int) (x : List Int) (ks vs : List (List Int)) : List Int := addL x (mulT (tabL c la 3) (mixL (wtsL c la x ks) (vs ++ [valL c la x])))
def fwdL (c : Cf) (la : Int) (h : List Int) : List Int := mulT (tabL c la 5) (reluL (mulT (tabL c la 4) (normL h)))
def outL (c : Cf) (la : Int) (x : List Int) (ks vs : List (List Int)) : List Int := addL (hidL c la x ks vs) (fwdL c la (hidL c la x ks vs))
theorem mulT_len (t : List (List Int)) (ys : List Int) : (mulT t ys).length = t.length := by unfold mulT; rw [rowK_len]
theorem addL_len (xs ys : List Int) : (addL xs ys).length = min xs.length ys.length := by unfold addL; rw [pairK_len]
theorem normL_len (zs : List Int) : (normL zs).length = zs.length := by simp [normL]
theorem softL_len (zs : List Int) : (softL zs).length = zs.length := by simp [softL, powL]
theorem reluL_len (zs : List Int) : (reluL zs).length = zs.length := by simp [reluL]
theorem hidL_len (c : Cf) (la : Int) (x : List Int) (ks vs : List (List Int)) : (hidL c la x ks vs).length ≤ x.length := by unfold hidL; rw [addL_len]; omega
theorem outL_len (c : Cf) (la : Int) (x : List Int) (ks vs : List (List Int)) : (outL c la x ks vs).length ≤ x.length := by
 unfold outL; rw [addL_len]; have := hidL_len c la x ks vs; omega
theorem keyL_len {c : Cf} (h : mayB c = true) (la : Int) (x : List Int) : (keyL c la x).length ≤ 16 := by unfold keyL; rw [mulT_len]; exact tabL_len h _ _
theorem valL_len {c : Cf} (h : mayB c = true) (la : Int) (x : List Int) : (valL c la x).length ≤ 16 := by unfold valL; rw [mulT_len]; exact tabL_len h _ _
abbrev KV := List (List Int) × List (List Int)
def kv (M : List KV) (i : Nat) : KV := M[i]?.getD ([], [])
def thrX (c : Cf) (M : List KV) (x : List Int) : Nat → List Int
 | 0 => x
 | k + 1 => outL c k (thrX c M x k) (kv M k).1 (kv M k).2
def thrM (c : Cf) (M : List KV) (x : List Int) (k : Nat) : List KV := (List.range k).map fun j => ((kv M j).1 ++ [keyL c j (thrX c M x j)], (kv M j).2 ++ [valL c j (thrX c M x j)])
theorem thrX_len (c : Cf) (M : List KV) (x : List Int) (k : Nat) : (thrX c M x k).length ≤ x.length := by
 induction k with
 | zero => exact Nat.le_refl _
 | succ k ih => simp only [thrX]; exact Nat.le_trans (outL_len _ _ _ _ _) ih
theorem thrM_len (c : Cf) (M : List KV) (x : List Int) (k : Nat) : (thrM c M x k).length = k := by simp [thrM]
theorem thrM_at (c : Cf) (M : List KV) (x : List Int) {k j : Nat} (h : j < k) : kv (thrM c M x k) j = ((kv M j).1 ++ [keyL c j (thrX c M x j)], (kv M j).2 ++ [valL c j (thrX c M x j)]) := by simp [thrM, kv, h]
def noneM (n : Nat) : List KV := List.replicate n ([], [])
theorem noneM_len (n : Nat) : (noneM n).length = n := by simp [noneM]
theorem noneM_at (n i : Nat) : kv (noneM n) i = ([], []) := by
 unfold kv noneM
 by_cases h : i < n
 ·simp [h]
 ·simp [h]
def memL (c : Cf) (L : Nat) (xs : List (List Int)) : Nat → List KV
 | 0 => noneM L
 | k + 1 => thrM c (memL c L xs k) (xs[k]?.getD []) L
def madeL (c : Cf) (L : Nat) (xs : List (List Int)) (k : Nat) : List Int := thrX c (memL c L xs k) (xs[k]?.getD []) L
theorem memL_len (c : Cf) (L : Nat) (xs : List (List Int)) (k : Nat) : (memL c L xs k).length = L := by
 cases k with
 | zero => exact noneM_len L
 | succ k => exact thrM_len _ _ _ _
theorem memL_at (c : Cf) (L : Nat) (xs : List (List Int)) (k : Nat) {j : Nat} (h : j < L) : (kv (memL c L xs k) j).1.length = k ∧ (kv (memL c L xs k) j).2.length = k := by
 induction k with
 | zero => simp only [memL]; rw [noneM_at]; exact ⟨rfl, rfl⟩
 | succ k ih => simp only [memL]; rw [thrM_at _ _ _ h]; simp [ih.1, ih.2]
def cutM (M : List KV) (n : Nat) : List KV := M.map fun p => (p.1.take n, p.2.take n)
theorem cutM_len (M : List KV) (n : Nat) : (cutM M n).length = M.length := by simp [cutM]
theorem cutM_at (M : List KV) (n i : Nat) : kv (cutM M n) i = ((kv M i).1.take n, (kv M i).2.take n) := by
 unfold kv cutM
 by_cases h : i < M.length
 ·simp [h]
 ·simp [h]
theorem kv_ext {M N : List KV} (hl : M.length = N.length) (h : ∀ i, i < M.length → kv M i = kv N i) : M = N := by
 apply List.ext_getElem hl
 intro i h1 h2
 have := h i h1
 unfold kv at this
 rw [List.getElem?_eq_getElem h1, List.getElem?_eq_getElem h2] at this
 exact this
theorem memL_cut (c : Cf) (L : Nat) (xs : List (List Int)) {k n : Nat} (h : k ≤ n) : cutM (memL c L xs n) k = memL c L xs k := by
 induction n with
 | zero =>
  obtain rfl : k = 0 := by omega
  apply kv_ext
  ·rw [cutM_len]
  ·intro i hi
   rw [cutM_at]
   simp only [memL]
   rw [noneM_at]
   rfl
 | succ n ih =>
  by_cases e : k = n + 1
  ·subst e
   apply kv_ext
   ·rw [cutM_len]
   ·intro i hi
    rw [cutM_len, memL_len] at hi
    have := memL_at c L xs (n + 1) hi
    rw [cutM_at, List.take_of_length_le (by omega), List.take_of_length_le (by omega)]
  ·rw [← ih (by omega)]
   apply kv_ext
   ·rw [cutM_len, cutM_len, memL_len, memL_len]
   ·intro i hi
    rw [cutM_len, memL_len] at hi
    have := memL_at c L xs n hi
    rw [cutM_at, cutM_at]
    simp only [memL]
    rw [thrM_at _ _ _ hi]
    simp only
    rw [List.take_append_of_le_length (by omega), List.take_append_of_le_length (by omega)]
def BlS (w : World) (a : Option Addr) : Prop := ∀ p, a = some p → ∃ cur fz, w.heap[p.block]? = some (.cells cur 131 fz)
theorem BlS.none (w : World) : BlS w none := fun p h => by cases h
theorem BlS.below {w w' : World} {a : Option Addr} (h : BlS w a) (hb : Below w.heap.size w w') : BlS w' a := fun p hp => by
 obtain ⟨cur, fz, hc⟩ := h p hp
 exact ⟨cur, fz, (hb.block _ (lt_of_block hc)).trans hc⟩
def TbH (w : World) (h : Hd) (ls : List (List Int)) : Prop := ls.length = h.2.1 ∧ ∃ hs, Tbl w h.1 h.2.1 h.2.2 hs ls ∧ BlS w h.1 ∧ ∀ i, i < h.2.1 → BlI w (hs[i]?.getD (none, 0, 0)).1
theorem TbH.below {w w' : World} {h : Hd} {ls : List (List Int)} (k : TbH w h ls) (hb : Below w.heap.size w w') : TbH w' h ls := by
 obtain ⟨h1, hs, h2, h3, h4⟩ := k
 exact ⟨h1, hs, h2.below hb, h3.below hb, fun i hi => (h4 i hi).below hb⟩
theorem TbH.nil (w : World) : TbH w (none, 0, 0) [] := ⟨rfl, [], ⟨⟨rfl, Nat.le_refl _, by decide, fun _ => ⟨rfl, rfl⟩, fun i hi => absurd hi (by simp)⟩, fun i hi => absurd hi (by simp), fun i hi => absurd hi (by simp)⟩, BlS.none _, fun i hi => absurd hi (by simp)⟩
def Kp (T : TypeId) (W W' : World) : Prop := ∀ (k : Nat) (cur : Array Value) (t : TypeId) (fz : Nat × Nat), W.heap[k]? = some (.cells cur t fz) → t ≠ T → W'.heap[k]? = some (.cells cur t fz)
theorem Kp.trans {T : TypeId} {A B C : World} (h : Kp T A B) (k : Kp T B C) : Kp T A C := fun i cur t fz hi ht => k i cur t fz (h i cur t fz hi ht) ht
theorem Kp.set {T : TypeId} {W : World} {g k : Nat} {cur : Array Value} {fz : Nat × Nat} (h : W.heap[g]? = some (.cells cur T fz)) (v : Value) : Kp T W (W.setCell ⟨g, k, none⟩ v) := by
 intro i c t f hi ht
 by_cases e : i = g
 ·subst e
  rw [h] at hi
  simp at hi
  exact absurd hi.2.1.symm ht
 ·rw [Below.heap_setCell _ _ _ _ (by exact e)]
  exact hi
theorem Reads.keep {T : TypeId} {W W' : World} {a : Option Addr} {l c : Nat} {zs : List Int} (hr : Reads .i64 W a l c zs) (h5 : BlI W a) (hk : Kp T W W') (hT : 2 ≠ T) : Reads .i64 W' a l c zs ∧ BlI W' a := by
 have key : ∀ p, a = some p → W'.heap[p.block]? = W.heap[p.block]? := by
  intro p hp
  obtain ⟨cur, fz, hc⟩ := h5 p hp
  rw [hc]
  exact hk _ _ _ _ hc hT
 refine ⟨⟨hr.size, hr.room, hr.most, hr.bare, fun i hi => ?_⟩, fun p hp => ?_⟩
 ·obtain ⟨b, off, ha, hc⟩ := hr.cell i hi
  exact ⟨b, off, ha, (World.cell?_of_block (a := ⟨b, off + i, none⟩) (key ⟨b, off, none⟩ ha)).trans hc⟩
 ·obtain ⟨cur, fz, hc⟩ := h5 p hp
  exact ⟨cur, fz, (key p hp).trans hc⟩
theorem TbH.keep {T : TypeId} {W W' : World} {h : Hd} {ls : List (List Int)} (k : TbH W h ls) (hk : Kp T W W') (hT : 2 ≠ T) (hS : 131 ≠ T) : TbH W' h ls := by
 obtain ⟨h1, hs, h2, h3, h4⟩ := k
 have key : ∀ p, h.1 = some p → W'.heap[p.block]? = W.heap[p.block]? := by
  intro p hp
  obtain ⟨cur, fz, hc⟩ := h3 p hp
  rw [hc]
  exact hk _ _ _ _ hc hS
 refine ⟨h1, hs, ⟨⟨h2.rd.size, h2.rd.room, h2.rd.most, h2.rd.bare, fun i hi => ?_⟩, fun i hi => (Reads.keep (h2.rows i hi) (h4 i hi) hk hT).1, h2.short⟩, fun p hp => ?_, fun i hi => (Reads.keep (h2.rows i hi) (h4 i hi) hk hT).2⟩
 ·obtain ⟨b, off, ha, hc⟩ := h2.rd.cell i hi
  exact ⟨b, off, ha, (World.cell?_of_block (a := ⟨b, off + i, none⟩) (key ⟨b, off, none⟩ ha)).trans hc⟩
 ·obtain ⟨cur, fz, hc⟩ := h3 p hp
  exact ⟨cur, fz, (key p hp).trans hc⟩
theorem Rd2.cut {w : World} {a : Option Addr} {len cap : Nat} {hs : List Hd} (h : Rd2 w a len cap hs) {m : Nat} (hm : m ≤ len) : Rd2 w a m cap (hs.take m) :=
 ⟨by rw [List.length_take, h.size]; omega, by have := h.room; omega, h.most, fun e => by have := h.bare e; omega, fun i hi => by
  obtain ⟨b, off, e, hc⟩ := h.cell i (by omega)
  exact ⟨b, off, e, by rw [hc, List.getElem?_take_of_lt hi]⟩⟩
theorem Tbl.cut {w : World} {a : Option Addr} {len cap : Nat} {hs : List Hd} {ls : List (List Int)} (h : Tbl w a len cap hs ls) {m : Nat} (hm : m ≤ len) : Tbl w a m cap (hs.take m) (ls.take m) :=
 ⟨h.rd.cut hm, fun i hi => by
  rw [List.getElem?_take_of_lt hi, List.getElem?_take_of_lt hi]
  exact h.rows i (by omega), fun i hi => by
  rw [List.getElem?_take_of_lt hi]
  exact h.short i (by omega)⟩
theorem TbH.cut {w : World} {a : Option Addr} {n c : Nat} {ls : List (List Int)} (h : TbH w (a, n, c) ls) {m : Nat} (hm : m ≤ n) : TbH w (a, m, m) (ls.take m) := by
 obtain ⟨h1, hs, h2, h3, h4⟩ := h
 simp only at h1 h2 h3 h4
 have hr := h2.rd.room
 have hx := h2.cut hm
 refine ⟨by simp; omega, hs.take m, ⟨⟨hx.rd.size, Nat.le_refl _, by have := hx.rd.most; simp only; omega, fun e => by have := hx.rd.bare e; simp only; omega, hx.rd.cell⟩, hx.rows, hx.short⟩, h3, fun i hi => ?_⟩
 simp only at hi
 rw [List.getElem?_take_of_lt hi]
 exact h4 i (by omega)
theorem clone_any (a : Option Addr) (n cap : Nat) (xs : List Int) (w : World) (ha : Reads .i64 w a n cap xs) (hn : n ≤ 1000) :
  Calls Tryz.prog 183 #[.slice a n cap] w fun e w' => GivesO w n xs e w' := by
 obtain ⟨i0, hi, hz0, hz1, hz2⟩ := info_parts Tryz.info2
 cases a with
 | none =>
  obtain ⟨rfl, rfl⟩ := ha.bare rfl
  obtain rfl : xs = [] := List.eq_nil_of_length_eq_zero ha.size
  have heq : ∀ W : World, (binOp .eql 131 (.slice none 0 0) (.slice none 0 0)).run Tryz.prog W = .ok (.bool true) W := fun W => Lib.run_eql_slice_nil W _ _ none 0 0 0 0 Tryz.underlying131
  clear ha
  go_enter Tryz.func183, Tryz.ntmps183
  go_wp2
  go_ret
  exact ⟨_, rfl, World.ownsRow_nil _ _ _ _, Below.refl _ _⟩
 | some ad =>
  have heq : ∀ W : World, (binOp .eql 131 (.slice (some ad) n cap) (.slice none 0 0)).run Tryz.prog W = .ok (.bool false) W := fun W => Lib.run_eql_slice_nil W _ _ (some ad) n cap 0 0 Tryz.underlying131
  have HA := hid ha
  have HB : Hid (Below w.heap.size w (w.alloc (.cells #[] 2))) := (Below.refl _ _).alloc (Nat.le_refl _) _
  have HO : Hid ((w.alloc (.cells #[] 2)).ownsRow w.heap.size 2 1 (.slice (some ⟨w.heap.size, 0, none⟩) 0 0) 0 (([] : List Int).map (Value.int .i64))) :=
   World.ownsRow_lit (base := w.heap.size) (e := 2) (size := 1) w #[] 0 (Nat.le_refl _) (by unfold maxLen; omega) (by simp)
  clear ha
  go_enter Tryz.func183, Tryz.ntmps183
  go_wp2_with (at_builtin; refine append_any _ rfl (.tmp 5) (.tmp 6) 131 rfl w.heap.size 2 i0 (.int .i64 0) 8 Tryz.underlying131 hi hz0 hz1 hz2 rfl .i64 _ 0 [] rfl HO.out (some ad) n cap xs rfl (HA.out.below HB.out) (by omega) (by omega) HB.out.size ?_; intro v' w3 hO3 hb3)
  rw [Nat.zero_add, List.nil_append] at hO3
  have HO3 := hid hO3
  have HB3 := hid (HB.out.trans hb3)
  clear hO3 hb3 HA HB HO
  go_wp2
  go_ret
  exact ⟨_, rfl, HO3.out, HB3.out⟩
theorem at_snoc {α : Type} (xs : List α) (y d : α) {n i : Nat} (h : xs.length = n) (hi : i < n + 1) : (xs ++ [y])[i]?.getD d = if i < n then xs[i]?.getD d else y := by
 by_cases e : i < n
 ·rw [List.getElem?_append_left (by omega), if_pos e]
 ·obtain rfl : i = n := by omega
  rw [List.getElem?_append_right (by omega), if_neg e]
  simp [h]
theorem Tbl.snoc {w : World} {a b : Option Addr} {n cap g c : Nat} {hs : List Hd} {ls : List (List Int)} {y : Hd} {ys : List Int} (ht : Tbl w a n cap hs ls) (hl : ls.length = n) (hr : Reads .i64 w y.1 y.2.1 y.2.2 ys) (hy : y.2.1 ≤ 1000)
  (hd : Rd2 w (some ⟨g, 0, none⟩) (n + 1) c (hs ++ [y])) : Tbl w (some ⟨g, 0, none⟩) (n + 1) c (hs ++ [y]) (ls ++ [ys]) := by
 have hz := ht.rd.size
 refine ⟨hd, fun i hi => ?_, fun i hi => ?_⟩
 ·rw [at_snoc hs y _ hz hi, at_snoc ls ys _ hl hi]
  by_cases e : i < n
  ·rw [if_pos e, if_pos e]; exact ht.rows i e
  ·rw [if_neg e, if_neg e]; exact hr
 ·rw [at_snoc hs y _ hz hi]
  by_cases e : i < n
  ·rw [if_pos e]; exact ht.short i e
  ·rw [if_neg e]; exact hy
theorem olds_at {w : World} {a : Option Addr} {n cap : Nat} {hs : List Hd} (h : Rd2 w a n cap hs) : ∀ b, a = some b → ∀ j u, (hs.map hdV)[j]? = some u → w.cell? (b.add j) = some u := by
 intro b hb j u hu
 have hj : j < hs.length := by
  have := (List.getElem?_eq_some_iff.1 hu).1
  simpa using this
 obtain ⟨b', off, e, hc⟩ := h.cell j (by rw [← h.size]; exact hj)
 rw [e] at hb
 obtain rfl := Option.some.inj hb
 rw [Addr.add_lit, hc]
 simp [hj] at hu ⊢
 exact hu
theorem below_grown {w w' : World} (h : w.grownBy w' none) : Below w.heap.size w w' := (Below.refl _ _).grown h (Nat.le_refl _) fun g hg => by cases hg
theorem ownS_of' {base n : Nat} {v : Value} {hs : List Hd} {w : World} (h : w.ownsRow base 131 1 v n (hs.map hdV)) (hn : 1 ≤ n) : ∃ g c, v = .slice (some ⟨g, 0, none⟩) n c ∧ OwnS base g n c hs w := by
 rcases id h.2 with ⟨rfl, rfl⟩ | ⟨g, cap, cur, rfl, rest⟩
 ·omega
 ·exact ⟨g, cap, rfl, h⟩
theorem behind_own (a : Option Addr) (n cap : Nat) (hs : List Hd) (b : Option Addr) (lb cb : Nat) (w : World) (ht : Rd2 w a n cap hs) (hn : n ≤ 1000) :
  Calls Tryz.prog 211 #[.slice a n cap, .slice b lb cb] w fun e w' => ∃ g c, e = .returned (.slice (some ⟨g, 0, none⟩) (n + 1) c) ∧ OwnS w.heap.size g (n + 1) c (hs ++ [(b, lb, cb)]) w' ∧ Below w.heap.size w w' := by
 obtain ⟨i0, hi, hz0, hz1, hz2⟩ := info_parts Tryz.infoS
 have HT := hid ht
 have r1 := ht.room
 have m1 := ht.most
 have bare := ht.bare
 have HZ := hid ht.size
 have HB : Hid (Below w.heap.size w (w.alloc (.cells #[.slice b lb cb] 131))) := (Below.refl _ _).alloc (Nat.le_refl _) _
 have HN : Hid (∀ j u, [hdV (b, lb, cb)][j]? = some u → (w.alloc (.cells #[.slice b lb cb] 131)).cell? ((⟨w.heap.size, 0, none⟩ : Addr).add j) = some u) := World.news_of_block (heap_alloc_new w (.cells #[.slice b lb cb] 131))
 clear ht
 have key : ∀ v' w', w'.ownsRow (w.alloc (.cells #[.slice b lb cb] 131)).heap.size 131 1 v' (n + 1) (hs.map hdV ++ [hdV (b, lb, cb)]) → (w.alloc (.cells #[.slice b lb cb] 131)).grownBy w' none →
   ∃ g c, v' = .slice (some ⟨g, 0, none⟩) (n + 1) c ∧ OwnS w.heap.size g (n + 1) c (hs ++ [(b, lb, cb)]) w' ∧ Below w.heap.size w w' := by
  intro v' w' h1 h2
  have hb2 := below_grown h2
  have hbw : Below w.heap.size w w' := HB.out.trans (hb2.mono HB.out.size)
  rw [show hs.map hdV ++ [hdV (b, lb, cb)] = (hs ++ [(b, lb, cb)]).map hdV by simp] at h1
  obtain ⟨g, c, rfl, hO⟩ := ownS_of' h1 (by omega)
  exact ⟨g, c, rfl, hO.low HB.out.size, hbw⟩
 have HKy := hid key
 clear key
 have hone : ∀ u ∈ [hdV (b, lb, cb)], u.oneCell' = true := by intro u hu; simp at hu; subst hu; rfl
 have HC := hid (olds_at (HT.out.below HB.out))
 clear HT
 cases a with
 | none =>
  obtain ⟨rfl, rfl⟩ := bare rfl
  clear bare
  go_enter Tryz.func211, Tryz.ntmps211
  go_wp2_with (at_builtin; refine wpList_append_grows _ rfl (.tmp 10) (.tmp 12) 132 rfl 131 i0 (.slice none 0 0) 1 24 Tryz.underlying132 hi hz0 hz1 hz2 rfl (by decide) none 0 0 (hs.map hdV) rfl (fun _ => ⟨rfl, rfl⟩) (by rw [List.length_map, HZ.out]) HC.out ⟨w.heap.size, 0, none⟩ 1 1 [hdV (b, lb, cb)] rfl rfl HN.out hone (by omega) (by unfold maxLen; omega) (by omega) ?_; intro v' w3 hO3 hg3; obtain ⟨g, c, rfl, hT3, hb3⟩ := HKy.out v' w3 hO3 hg3)
  have HT3 := hid hT3
  have HB3 := hid hb3
  clear hO3 hg3 hT3 hb3 HKy HC HN HB HZ
  go_wp2
  go_ret
  exact ⟨_, _, rfl, HT3.out, HB3.out⟩
 | some ad =>
  clear bare
  go_enter Tryz.func211, Tryz.ntmps211
  go_wp2_with (at_builtin; refine wpList_append_grows _ rfl (.tmp 10) (.tmp 12) 132 rfl 131 i0 (.slice none 0 0) 1 24 Tryz.underlying132 hi hz0 hz1 hz2 rfl (by decide) (some ad) n n (hs.map hdV) rfl (fun h => by cases h) (by rw [List.length_map, HZ.out, Nat.mul_one]) HC.out ⟨w.heap.size, 0, none⟩ 1 1 [hdV (b, lb, cb)] rfl rfl HN.out hone (by omega) (by unfold maxLen; omega) (by omega) ?_; intro v' w3 hO3 hg3; obtain ⟨g, c, rfl, hT3, hb3⟩ := HKy.out v' w3 hO3 hg3)
  have HT3 := hid hT3
  have HB3 := hid hb3
  clear hO3 hg3 hT3 hb3 HKy HC HN HB HZ
  go_wp2
  go_ret
  exact ⟨_, _, rfl, HT3.out, HB3.out⟩
theorem behind_any (a : Option Addr) (n cap : Nat) (hs : List Hd) (ls : List (List Int)) (b : Option Addr) (lb cb : Nat) (ys : List Int) (w : World) (ht : Tbl w a n cap hs ls) (hl : ls.length = n) (hn : n ≤ 1000) (hr : Reads .i64 w b lb cb ys) (hlb : lb ≤ 1000) :
  Calls Tryz.prog 211 #[.slice a n cap, .slice b lb cb] w fun e w' => ∃ g c, e = .returned (.slice (some ⟨g, 0, none⟩) (n + 1) c) ∧ Tbl w' (some ⟨g, 0, none⟩) (n + 1) c (hs ++ [(b, lb, cb)]) (ls ++ [ys]) ∧ Below w.heap.size w w' :=
 (behind_own a n cap hs b lb cb w ht.rd hn).mono fun e w' ⟨g, c, h1, h2, h3⟩ => ⟨g, c, h1, Tbl.snoc (b := b) (ht.below h3) hl (hr.below h3) hlb h2.rd, h3⟩
end Go.Proofs.YtjgggialnegddaaGreat
namespace Go.Proofs.YtjgggialnegddaaGreat
open Go.RowKit
def at3 (B b g k : Nat) : Prop := k = B ∨ k = b ∨ k = g
structure PgB (W : World) (B b g n : Nat) (hs fs : List Int) : Prop where
 var : W.heap[B]? = some (.cells #[.slice (some ⟨b, 0, none⟩) n n, .slice (some ⟨g, 0, none⟩) fs.length n] 156 (0, 0))
 own : OwnK 3 0 b n n hs W
 row : OwnK 3 0 g fs.length n fs W
 ne1 : B ≠ b
 ne2 : B ≠ g
 ne3 : b ≠ g
 heap : HeapI fs fs.length
 free : FreeOf hs fs
theorem PgB.same {W W' : World} {B b g n : Nat} {hs fs : List Int} (h : PgB W B b g n hs fs) (hF : ∀ k, at3 B b g k → W'.heap[k]? = W.heap[k]?) : PgB W' B b g n hs fs :=
 ⟨(hF B (.inl rfl)).trans h.var, h.own.same (hF b (.inr (.inl rfl))), h.row.same (hF g (.inr (.inr rfl))), h.ne1, h.ne2, h.ne3, h.heap, h.free⟩
theorem PgB.len {W : World} {B b g n : Nat} {hs fs : List Int} (h : PgB W B b g n hs fs) : hs.length = n := h.own.len
theorem PgB.cells {W : World} {B b g n : Nat} {hs fs : List Int} (h : PgB W B b g n hs fs) : W.cell? ⟨B, 0, none⟩ = some (.slice (some ⟨b, 0, none⟩) n n) ∧ W.cell? ⟨B, 1, none⟩ = some (.slice (some ⟨g, 0, none⟩) fs.length n) := cells_two h.var
theorem PgB.old {W : World} {B b g n : Nat} {hs fs : List Int} (h : PgB W B b g n hs fs) : ∀ k, at3 B b g k → k < W.heap.size := by
 rintro k (rfl | rfl | rfl)
 ·exact lt_of_block h.var
 ·exact h.own.lt
 ·exact h.row.lt
def PgX (W : World) (p : Option Addr) (hs : List Int) (F : Nat → Prop) : Prop := ∃ B b g n fs, p = some ⟨B, 0, none⟩ ∧ PgB W B b g n hs fs ∧ F = at3 B b g
structure PgAt (W : World) (p : Option Addr) (hs : List Int) (F : Nat → Prop) : Prop where
 ptr : ∃ g, p = some ⟨g, 0, none⟩
 ok : OkP hs
 old : ∀ k, F k → k < W.heap.size
 rest : PgX W p hs F
theorem PgB.at {W : World} {B b g n : Nat} {hs fs : List Int} (h : PgB W B b g n hs fs) (ho : OkP hs) : PgAt W (some ⟨B, 0, none⟩) hs (at3 B b g) := ⟨⟨B, rfl⟩, ho, h.old, B, b, g, n, fs, rfl, h, rfl⟩
theorem PgAt.same {W W' : World} {p : Option Addr} {hs : List Int} {F : Nat → Prop} (h : PgAt W p hs F) (hs' : W.heap.size ≤ W'.heap.size) (hF : ∀ k, F k → W'.heap[k]? = W.heap[k]?) : PgAt W' p hs F := by
 obtain ⟨B, b, g, n, fs, rfl, hB, rfl⟩ := h.rest
 exact (hB.same hF).at h.ok
theorem PgAt.below {W W' : World} {p : Option Addr} {hs : List Int} {F : Nat → Prop} (h : PgAt W p hs F) (hb : Below W.heap.size W W') : PgAt W' p hs F := h.same hb.size fun k hk => hb.block k (h.old k hk)
theorem PgAt.fb {G : Nat → Prop} {W W' : World} {p : Option Addr} {hs : List Int} {F : Nat → Prop} (h : PgAt W p hs F) (hb : Fb G W W') (hG : ∀ k, F k → ¬ G k) : PgAt W' p hs F := h.same hb.size fun k hk => hb.block k (h.old k hk) (hG k hk)
def PgG (w : World) (F : Nat → Prop) (p : Option Addr) (hs : List Int) (w' : World) : Prop := ∃ F', PgAt w' p hs F' ∧ (∀ k, F' k → F k ∨ w.heap.size ≤ k) ∧ Fb F w w'
theorem PgB.g {w w' : World} {B b g n : Nat} {hs fs : List Int} (h : PgB w' B b g n hs fs) (ho : OkP hs) (hb : Fb (at3 B b g) w w') : PgG w (at3 B b g) (some ⟨B, 0, none⟩) hs w' := ⟨_, h.at ho, fun k hk => .inl hk, hb⟩
theorem pmade_yes {W : World} {B b g n : Nat} {hs fs : List Int} (h : PgB W B b g n hs fs) (ho : OkP hs) : Calls Tryz.prog 88 #[.pointer (some ⟨B, 0, none⟩)] W fun e w' => e = .returned (.bool true) ∧ W = w' := by
 have c0 := h.cells.1
 have hl := h.len
 have h1 := ho.1
 have q1 : 0 < n := by omega
 clear h ho hl h1
 go_enter Tryz.func88, Tryz.ntmps88
 go_wp2
 go_ret
 exact ⟨rfl, rfl⟩
theorem pheld_in {W : World} {B b g n : Nat} {hs fs : List Int} (h : PgB W B b g n hs fs) (ho : OkP hs) (m : Int) : Calls Tryz.prog 116 #[.pointer (some ⟨B, 0, none⟩), .int .i64 m] W fun e w' => e = .returned (.int .i64 (heldZ hs m)) ∧ W = w' := by
 have hl := h.len
 have hn := ho.2.1
 have cB := h.cells.1
 have hM := pmade_yes h ho
 rw [hl] at hn
 by_cases h1 : m < 0
 ·rw [heldZ_out (by omega)]
  clear h hl ho
  go_enter Tryz.func116, Tryz.ntmps116
  go_wp2_with fail
  refine hM.mono ?_
  rintro e w' ⟨rfl, rfl⟩
  go_wp2
  go_ret
  exact ⟨rfl, rfl⟩
 by_cases h2 : (n : Int) ≤ m
 ·rw [heldZ_out (by omega)]
  clear h hl ho
  go_enter Tryz.func116, Tryz.ntmps116
  go_wp2_with fail
  refine hM.mono ?_
  rintro e w' ⟨rfl, rfl⟩
  go_wp2
  go_ret
  exact ⟨rfl, rfl⟩
 obtain ⟨k, rfl⟩ : ∃ k : Nat, m = k := ⟨m.toNat, by omega⟩
 rw [heldZ_at (by omega) (by omega), Int.toNat_natCast]
 have ck := h.own.cell (k := k) (by omega)
 have q1 : k < n := by omega
 clear h hl ho
 generalize hs[k]?.getD 0 = x at *
 go_enter Tryz.func116, Tryz.ntmps116
 go_wp2_with fail
 refine hM.mono ?_
 rintro e w' ⟨rfl, rfl⟩
 go_wp2
 go_ret
 exact ⟨rfl, rfl⟩
theorem plook_in {W : World} {B b g n : Nat} {hs fs : List Int} (h : PgB W B b g n hs fs) (ho : OkP hs) (m : Int) : Calls Tryz.prog 89 #[.pointer (some ⟨B, 0, none⟩), .int .i64 m] W fun e w' => e = .returned (.int .i64 (dropE hs m)) ∧ W = w' := by
 have hM := pmade_yes h ho
 have hH := pheld_in h ho m
 clear h ho
 unfold dropE
 generalize heldZ hs m = x at *
 by_cases h0 : x = 0
 ·subst h0
  rw [if_pos rfl]
  go_enter Tryz.func89, Tryz.ntmps89
  go_wp2_with fail
  refine hM.mono ?_
  rintro e w' ⟨rfl, rfl⟩
  go_wp2_with fail
  refine hH.mono ?_
  rintro e w' ⟨rfl, rfl⟩
  go_wp2
  go_ret
  exact ⟨rfl, rfl⟩
 ·rw [if_neg h0]
  have h0' : (x == 0) = false := by simp [h0]
  go_enter Tryz.func89, Tryz.ntmps89
  go_wp2_with fail
  refine hM.mono ?_
  rintro e w' ⟨rfl, rfl⟩
  go_wp2_with fail
  refine hH.mono ?_
  rintro e w' ⟨rfl, rfl⟩
  go_wp2
  go_ret
  exact ⟨rfl, rfl⟩
theorem pfree_any {F : Nat → Prop} (p : Option Addr) (hs : List Int) (w : World) (h : PgAt w p hs F) : Calls Tryz.prog 154 #[.pointer p] w fun e w' => e = .returned (.int .i64 ((hs.length : Int) - ((usedL hs).length : Int))) ∧ Below w.heap.size w w' := by
 obtain ⟨B, b, g, m, fs, rfl, hB, rfl⟩ := h.rest
 have hM := pmade_yes hB h.ok
 have c1 := hB.cells.2
 have hE : (hs.length : Int) - ((usedL hs).length : Int) = (fs.length : Int) := by have := hB.free.cnt; omega
 rw [hE]
 clear h hB hE
 generalize fs.length = q at *
 go_enter Tryz.func154, Tryz.ntmps154
 go_wp2_with fail
 refine hM.mono ?_
 rintro e w' ⟨rfl, rfl⟩
 go_wp2_with fail
 refine (qlen_any _ _ _ _).mono ?_
 rintro e w' ⟨rfl, rfl⟩
 go_wp2
 go_ret
 exact ⟨rfl, Below.refl _ _⟩
set_option maxHeartbeats 1000000 in
theorem pused_any {F : Nat → Prop} (p : Option Addr) (hs : List Int) (w : World) (h : PgAt w p hs F) : Calls Tryz.prog 61 #[.pointer p] w fun e w' => Gives w (usedL hs).length (usedL hs) e w' := by
 obtain ⟨B, b, g, n, fs, rfl, hB, rfl⟩ := h.rest
 have hM := pmade_yes hB h.ok
 obtain ⟨i0, hi, hz0, hz1, hz2⟩ := info_parts Tryz.info3
 have hl := hB.len
 have hn := h.ok.2.1
 have cB := hB.cells.1
 have HH := hid fun (W : World) (hb : Below w.heap.size w W) => hB.own.stays hb
 have HL := hid fun (k : Nat) => usedK_len hs k
 have HU : Hid (∀ k, usedK hs (k + 1) = if 0 < hs[k]?.getD 0 then usedK hs k ++ [(k : Int)] else usedK hs k) := fun k => rfl
 have HE : Hid (usedK hs n = usedL hs) := by unfold Hid usedL; rw [hl]
 rw [hl] at hn
 clear h hl hB
 obtain ⟨U, hU⟩ : ∃ U : Nat → List Int, U = usedK hs := ⟨_, rfl⟩
 have HU0 : Hid (U 0 = []) := by unfold Hid; rw [hU]; rfl
 rw [← hU] at HL HU HE
 clear hU
 go_enter Tryz.func61, Tryz.ntmps61
 go_wp2_with fail
 refine hM.mono ?_
 rintro e w' ⟨rfl, rfl⟩
 clear hM
 go_wp2_with fail
 go_loopw [3, 14] (fun v i W => ∃ k m : Nat, k ≤ n ∧ i = .int .i64 k ∧ m ≤ k ∧ Hid ((U k).length = m) ∧ Hid (W.ownsRow w.heap.size 3 1 v m ((U k).map (Value.int .i64))) ∧ Hid (Below w.heap.size w W)) (fun _ i _ => n - (intOf i).toNat)
 case atStart => exact ⟨0, 0, Nat.zero_le _, rfl, Nat.le_refl _, by unfold Hid; rw [HU0.out]; rfl, by unfold Hid; rw [HU0.out]; exact World.ownsRow_nil _ _ _ _, Below.refl _ _⟩
 case round =>
 obtain ⟨k, m, hk, rfl, hm, HM, HO, HW⟩ := hrel
 rename World => wr
 have hR := HH.out _ HW.out
 by_cases hlt : k < n
 ·have q1 : (k : Int) < (n : Int) := by omega
  have ck := hR.cell hlt
  have HUk := hid (HU.out k)
  have HLk := hid (HL.out (k + 1))
  clear hR HL HU HU0 HE
  by_cases h0 : 0 < hs[k]?.getD 0
  ·have HE2 : Hid (U (k + 1) = U k ++ [(k : Int)]) := by unfold Hid; rw [HUk.out, if_pos h0]
   have HAl : Hid (Below wr.heap.size wr (wr.alloc (.cells #[.int .i64 (k : Int)] 3))) := (Below.refl _ _).alloc (Nat.le_refl _) _
   have HSz : Hid (w.heap.size ≤ (wr.alloc (.cells #[.int .i64 (k : Int)] 3)).heap.size) := Nat.le_trans HW.out.size HAl.out.size
   clear HUk
   generalize hs[k]?.getD 0 = x at *
   go_wp2_with (at_builtin; refine append_any _ rfl (.tmp 21) (.tmp 23) 41 rfl w.heap.size 3 i0 (.int .i64 0) 8 Tryz.underlying41 hi hz0 hz1 hz2 rfl .i64 _ m (U k) rfl (own_below HO.out HAl.out) _ 1 1 [(k : Int)] rfl (Reads.one _ _ _) (by omega) (by omega) HSz.out ?_; intro v3 w3 hO3 hb3)
   have HO3 : Hid (w3.ownsRow w.heap.size 3 1 v3 (m + 1) ((U (k + 1)).map (Value.int .i64))) := by unfold Hid; rw [HE2.out]; exact hO3
   have HW3 : Hid (Below w.heap.size w w3) := (HW.out.trans (HAl.out.mono HW.out.size)).trans hb3
   have HM3 : Hid ((U (k + 1)).length = m + 1) := by unfold Hid; rw [HE2.out, List.length_append, HM.out]; rfl
   clear hO3 hb3 HO HW HAl HSz HM HE2 ck
   go_wp2_with fail
   go_round
   case rel => exact ⟨k + 1, m + 1, by omega, by go_num, by omega, HM3, HO3, HW3⟩
   case measure => simp [intOf]; omega
  ·have HE2 : Hid (U (k + 1) = U k) := by unfold Hid; rw [HUk.out, if_neg h0]
   have HO3 : Hid (wr.ownsRow w.heap.size 3 1 u3 m ((U (k + 1)).map (Value.int .i64))) := by unfold Hid; rw [HE2.out]; exact HO.out
   have HM3 : Hid ((U (k + 1)).length = m) := by unfold Hid; rw [HE2.out]; exact HM.out
   clear HUk HE2 HO HM
   generalize hs[k]?.getD 0 = x at *
   go_wp2_with fail
   go_round
   case rel => exact ⟨k + 1, m, by omega, by go_num, by omega, HM3, HO3, HW⟩
   case measure => simp [intOf]; omega
 ·obtain rfl : k = n := by omega
  obtain ⟨a5, c5, rfl, hr5⟩ := Reads.own (k := .i64) HO.out
  have HR5 : Hid (Reads .i64 wr a5 (usedL hs).length c5 (usedL hs)) := by unfold Hid; rw [← HE.out, HM.out]; exact hr5
  have HEq : Hid (Ending.returned (.slice a5 m c5) = .returned (.slice a5 (usedL hs).length c5)) := by unfold Hid; rw [← HE.out, HM.out]
  clear hr5 HO HE HM HL HU HU0 hR
  go_wp2
  go_ret
  exact ⟨_, _, HEq.out, HR5.out, HW.out⟩
end Go.Proofs.YtjgggialnegddaaGreat
namespace Go.Proofs.YtjgggialnegddaaGreat
open Go.RowKit
theorem fb_at3b {B b g : Nat} (w : World) (k : Nat) (u : Value) : Fb (at3 B b g) w (w.setCell ⟨b, k, none⟩ u) := Fb.set (F := at3 B b g) (p := ⟨b, k, none⟩) (.inr (.inl rfl)) u
theorem Fb.at23 {B b g : Nat} {w w' : World} (h : Fb (at2 B g) w w') : Fb (at3 B b g) w w' := h.mono fun x hx => hx.elim .inl fun e => .inr (.inr e)
theorem PgB.hq {W : World} {B b g n : Nat} {hs fs : List Int} (h : PgB W B b g n hs fs) : HqAt B 1 g n #[.slice (some ⟨b, 0, none⟩) n n, .slice (some ⟨g, 0, none⟩) fs.length n] 156 fs W := ⟨h.var, rfl, h.row, h.ne2⟩
theorem PgB.set {W : World} {B b g n : Nat} {hs fs : List Int} (h : PgB W B b g n hs fs) (k : Nat) (v : Int) (hf : FreeOf (hs.set k v) fs) : PgB (W.setCell ⟨b, k, none⟩ (.int .i64 v)) B b g n (hs.set k v) fs :=
 ⟨by rw [Below.heap_setCell _ _ _ _ (by exact h.ne1)]; exact h.var, h.own.set k v, h.row.same (Below.heap_setCell _ _ _ _ (by exact fun e => h.ne3 e.symm)), h.ne1, h.ne2, h.ne3, h.heap, hf⟩
theorem pnext_any (B g cap n : Nat) (cs : Array Value) (Tb : TypeId) (ms : List Int) (w : World) (h : HqAt B 1 g cap cs Tb ms w) (hH : HeapI ms ms.length) (hn : ms.length = n + 1) (hcap : cap ≤ 1001) :
  Calls Tryz.prog 159 #[.pointer (some ⟨B, 1, none⟩)] w fun e w' => ∃ x ns, e = .returned (.int .i64 x) ∧ (x :: ns).Perm ms ∧ (∀ y ∈ ms, x ≤ y) ∧ HeapI ns ns.length ∧ HqAt B 1 g cap (csH cs 1 g n cap) Tb ns w' ∧ Fb (at2 B g) w w' := by
 have hC := qhpop_any B 1 g cap n cs Tb ms w h hH hn hcap
 have hta := fun (x : Int) => assert_int x
 clear h hH hn
 generalize csH cs 1 g n cap = cs2 at *
 go_enter Tryz.func159, Tryz.ntmps159
 go_wp2_with fail
 refine hC.mono ?_
 rintro e w1 ⟨x, ns, rfl, h1, h2, h3, h4, h5⟩
 have H1 := hid h1
 have H2 := hid h2
 have H3 := hid h3
 have H4 := hid h4
 have H5 := hid h5
 replace hta := hta x
 clear h1 h2 h3 h4 h5 hC
 go_wp2
 go_ret
 exact ⟨x, ns, rfl, H1.out, H2.out, H3.out, H4.out, H5.out⟩
theorem ptake_any {F : Nat → Prop} (p : Option Addr) (hs : List Int) (w : World) (h : PgAt w p hs F) : Calls Tryz.prog 112 #[.pointer p] w fun e w' => e = .returned (.tuple #[.int .i64 (takeN hs), .int .i64 (takeE hs)]) ∧ PgG w F p (takeH hs) w' := by
 obtain ⟨B, b, g, n, fs, rfl, hB, rfl⟩ := h.rest
 have ho := h.ok
 have hM := pmade_yes hB ho
 have c1 := hB.cells.2
 have hl := hB.len
 have hn := ho.2.1
 rw [hl] at hn
 cases hfs : fs.length with
 | zero =>
  obtain rfl := List.eq_nil_of_length_eq_zero hfs
  have hT := hB.free.none
  have e1 : takeN hs = 0 := by unfold takeN; rw [if_neg hT]
  have e2 : takeE hs = 9 := by unfold takeE; rw [if_neg hT]
  have e3 : takeH hs = hs := by unfold takeH; rw [if_neg hT]
  have HG := hid (hB.g ho (Fb.refl _ w))
  rw [e1, e2, e3]
  rw [hfs] at c1
  clear e1 e2 e3 hT hfs ho h hl hB
  go_enter Tryz.func112, Tryz.ntmps112
  go_wp2_with fail
  refine hM.mono ?_
  rintro e w' ⟨rfl, rfl⟩
  go_wp2_with fail
  refine (qlen_any _ _ _ _).mono ?_
  rintro e w' ⟨rfl, rfl⟩
  go_wp2
  go_ret2
  exact ⟨rfl, HG.out⟩
 | succ m =>
  have hN := pnext_any B g n m _ _ fs w hB.hq hB.heap hfs (by omega)
  rw [hfs] at c1
  have HE : Hid (∀ (x : Int) (ns : List Int) (w1 : World), (x :: ns).Perm fs → (∀ y ∈ fs, x ≤ y) → HeapI ns ns.length → HqAt B 1 g n (csH #[.slice (some ⟨b, 0, none⟩) n n, .slice (some ⟨g, 0, none⟩) fs.length n] 1 g m n) 156 ns w1 → Fb (at2 B g) w w1 →
    ∃ k : Nat, x = k ∧ k < n ∧ takeN hs = k ∧ takeE hs = 0 ∧ w1.cell? ⟨B, 0, none⟩ = some (.slice (some ⟨b, 0, none⟩) n n) ∧ (∃ v, w1.cell? ⟨b, k, none⟩ = some v) ∧ w1.frozen? ⟨b, k, none⟩ = false ∧ PgG w (at3 B b g) (some ⟨B, 0, none⟩) (takeH hs) (w1.setCell ⟨b, k, none⟩ (.int .i64 1))) := by
   intro x ns w1 h1 h2 h3 h4 h5
   obtain ⟨t1, t2, t3⟩ := hB.free.pop h1 h2
   have e3 : takeH hs = hs.set (takeI hs) 1 := by unfold takeH; rw [if_pos t1]
   have hlen : ns.length = m := by have := h1.length_eq; simp at this; omega
   have hv : w1.heap[B]? = some (.cells #[.slice (some ⟨b, 0, none⟩) n n, .slice (some ⟨g, 0, none⟩) ns.length n] 156 (0, 0)) := by rw [h4.var, hlen]; rfl
   have hbk : w1.heap[b]? = w.heap[b]? := h5.block b hB.own.lt (fun hx => hx.elim (fun e => hB.ne1 e.symm) hB.ne3)
   have hb2 : Fb (at3 B b g) w (w1.setCell ⟨b, takeI hs, none⟩ (.int .i64 1)) := h5.at23.tr (fb_at3b _ _ _)
   have hO1 := hB.own.same hbk
   have hPB : PgB (w1.setCell ⟨b, takeI hs, none⟩ (.int .i64 1)) B b g n (takeH hs) ns := by
    rw [e3]
    refine ⟨by rw [Below.heap_setCell _ _ _ _ (by exact hB.ne1)]; exact hv, hO1.set _ _, h4.own.same (Below.heap_setCell _ _ _ _ (by exact fun e => hB.ne3 e.symm)), hB.ne1, hB.ne2, hB.ne3, h3, ?_⟩
    rw [← e3]
    exact t3
   exact ⟨takeI hs, t2, by omega, by unfold takeN; rw [if_pos t1], by unfold takeE; rw [if_pos t1], (cells_two hv).1, ⟨_, hO1.cell (by omega)⟩, hO1.frozen _, hPB.g ho.take hb2⟩
  clear hfs ho h hl hB
  generalize csH #[.slice (some ⟨b, 0, none⟩) n n, .slice (some ⟨g, 0, none⟩) fs.length n] 1 g m n = cs2 at *
  go_enter Tryz.func112, Tryz.ntmps112
  go_wp2_with fail
  refine hM.mono ?_
  rintro e w' ⟨rfl, rfl⟩
  go_wp2_with fail
  refine (qlen_any _ _ _ _).mono ?_
  rintro e w' ⟨rfl, rfl⟩
  go_wp2_with fail
  refine hN.mono ?_
  rintro e w1 ⟨x, ns, rfl, h1, h2, h3, h4, h5⟩
  obtain ⟨k, rfl, hk, e1, e2, c0, ⟨v, ck⟩, fk, hG⟩ := HE.out x ns w1 h1 h2 h3 h4 h5
  have HG := hid hG
  have HEq : Hid (Ending.returned (.tuple #[.int .i64 (k : Int), .int .i64 0]) = .returned (.tuple #[.int .i64 (takeN hs), .int .i64 (takeE hs)])) := by unfold Hid; rw [e1, e2]
  clear h1 h2 h3 h4 h5 hG HE hN hM e1 e2 c1
  go_wp2
  go_ret2
  exact ⟨HEq.out, HG.out⟩
theorem pdrop_any {F : Nat → Prop} (p : Option Addr) (hs : List Int) (n : Int) (w : World) (h : PgAt w p hs F) : Calls Tryz.prog 62 #[.pointer p, .int .i64 n] w fun e w' => e = .returned (.tuple #[.bool (dropB hs n), .int .i64 (dropE hs n)]) ∧ PgG w F p (dropH hs n) w' := by
 obtain ⟨B, b, g, m, fs, rfl, hB, rfl⟩ := h.rest
 have ho := h.ok
 have hC := plook_in hB ho n
 have c0 := hB.cells.1
 have hl := hB.len
 have hn := ho.2.1
 have hd := ho.held n
 have hoo := ho.drop n
 rw [hl] at hn
 by_cases h0 : heldZ hs n = 0
 ·have e1 : dropE hs n = 1 := by unfold dropE; rw [if_pos h0]
  have e2 : dropH hs n = hs := by unfold dropH; rw [if_pos h0]
  have e3 : dropB hs n = false := by unfold dropB; rw [h0]; rfl
  have HG := hid (hB.g ho (Fb.refl _ w))
  rw [e1, e2, e3]
  rw [e1] at hC
  clear h hl hd h0 e1 e2 e3 hoo ho hB
  go_enter Tryz.func62, Tryz.ntmps62
  go_wp2_with fail
  refine hC.mono ?_
  rintro e w' ⟨rfl, rfl⟩
  go_wp2
  go_ret2
  exact ⟨rfl, HG.out⟩
 have e1 : dropE hs n = 0 := by unfold dropE; rw [if_neg h0]
 rw [e1] at hC
 obtain ⟨b0, b1⟩ := heldZ_in h0
 obtain ⟨k, rfl⟩ : ∃ k : Nat, n = k := ⟨n.toNat, by omega⟩
 have hkn : k < m := by omega
 have hat : heldZ hs (k : Int) = hs[k]?.getD 0 := by rw [heldZ_at (by omega) (by omega), Int.toNat_natCast]
 have ck := hB.own.cell hkn
 have fk := hB.own.frozen k
 rw [← hat] at ck
 have e2 : dropH hs (k : Int) = hs.set k (heldZ hs (k : Int) - 1) := by unfold dropH; rw [if_neg h0, Int.toNat_natCast]
 rw [e2] at hoo
 have hne := hB.ne1
 by_cases h1 : heldZ hs (k : Int) = 1
 ·have e3 : dropB hs (k : Int) = true := by unfold dropB; rw [h1]; rfl
  rw [h1] at ck e2 hoo
  have e4 : hs.set k (1 - 1) = hs.set k 0 := rfl
  rw [e4] at e2 hoo
  have hcnt := hB.free.cnt
  have hu := used_set0 (hs := hs) (i := k) (by omega) (by rw [← hat]; omega)
  have hw : (w.setCell ⟨b, k, none⟩ (.int .i64 0)).heap[g]? = w.heap[g]? := Below.heap_setCell _ _ _ _ (by exact fun e => hB.ne3 e.symm)
  have hq1 : HqAt B 1 g m #[.slice (some ⟨b, 0, none⟩) m m, .slice (some ⟨g, 0, none⟩) fs.length m] 156 fs (w.setCell ⟨b, k, none⟩ (.int .i64 0)) := hB.hq.same (Below.heap_setCell _ _ _ _ (by exact hB.ne1)) hw
  have hP := qhpush_any B 1 g m _ _ fs (k : Int) _ hq1 hB.heap (by omega) (by omega)
  have HE : Hid (∀ (ns : List Int) (w1 : World), ns.Perm (fs ++ [(k : Int)]) → HeapI ns ns.length → HqAt B 1 g m (csH #[.slice (some ⟨b, 0, none⟩) m m, .slice (some ⟨g, 0, none⟩) fs.length m] 1 g (fs.length + 1) m) 156 ns w1 → Fb (at2 B g) (w.setCell ⟨b, k, none⟩ (.int .i64 0)) w1 →
    PgG w (at3 B b g) (some ⟨B, 0, none⟩) (hs.set k 0) w1) := by
   intro ns w1 p1 p2 p3 p4
   have hlen : ns.length = fs.length + 1 := by have := p1.length_eq; simpa using this
   have hO1 : OwnK 3 0 b m m (hs.set k 0) w1 := (hB.own.set k 0).same (p4.block b (by rw [World.size_setCell]; exact hB.own.lt) (fun hx => hx.elim (fun e => hB.ne1 e.symm) hB.ne3))
   have hPB : PgB w1 B b g m (hs.set k 0) ns := ⟨by rw [p3.var, hlen]; rfl, hO1, p3.own, hB.ne1, hB.ne2, hB.ne3, p2, hB.free.push (by omega) (by rw [← hat]; omega) p1⟩
   exact hPB.g hoo ((fb_at3b w _ _).tr p4.at23)
  rw [e1, e2, e3]
  have h01 := hB.own.set k 0
  have c2 : (w.setCell ⟨b, k, none⟩ (.int .i64 0)).cell? ⟨b, k, none⟩ = some (.int .i64 ((hs.set k 0)[k]?.getD 0)) := h01.cell hkn
  have e5 : (hs.set k 0)[k]?.getD 0 = 0 := by rw [set_at _ _ (by omega), if_pos rfl]
  rw [e5] at c2
  have c3 : (w.setCell ⟨b, k, none⟩ (.int .i64 0)).cell? ⟨B, 0, none⟩ = some (.slice (some ⟨b, 0, none⟩) m m) := by
   rw [World.cell?_of_block (w := w) (Below.heap_setCell _ _ _ _ (by exact hB.ne1))]; exact c0
  clear h hl e1 e2 e3 e4 e5 hat b0 b1 hoo ho hcnt hu hw hq1 h01 h1 h0 hd hB
  generalize csH #[.slice (some ⟨b, 0, none⟩) m m, .slice (some ⟨g, 0, none⟩) fs.length m] 1 g (fs.length + 1) m = cs2 at *
  generalize hs.set k 0 = hs2 at *
  go_enter Tryz.func62, Tryz.ntmps62
  go_wp2_with fail
  refine hC.mono ?_
  rintro e w' ⟨rfl, rfl⟩
  go_wp2_with fail
  refine hP.mono ?_
  rintro e w1 ⟨rfl, ⟨ns, p1, p2, p3⟩, p4⟩
  have HG := hid (HE.out ns w1 p1 p2 p3 p4)
  clear p1 p2 p3 p4 HE hP c0 c2 c3 ck fk hC
  go_wp2
  go_ret2
  exact ⟨rfl, HG.out⟩
 ·have e3 : dropB hs (k : Int) = false := by unfold dropB; rw [decide_eq_false h1]
  have HG := hid ((hB.set k (heldZ hs (k : Int) - 1) (hB.free.stay (by omega) (by rw [← hat]; omega) (by omega))).g hoo (fb_at3b w _ _))
  rw [e1, e2, e3]
  clear h hl e1 e2 e3 hat b0 b1 hoo ho hB
  generalize heldZ hs (k : Int) = x at *
  have q1 : 0 < x - 1 := by omega
  go_enter Tryz.func62, Tryz.ntmps62
  go_wp2_with fail
  refine hC.mono ?_
  rintro e w' ⟨rfl, rfl⟩
  go_wp2
  go_ret2
  exact ⟨rfl, HG.out⟩
end Go.Proofs.YtjgggialnegddaaGreat
namespace Go.Proofs.YtjgggialnegddaaGreat
open Go.RowKit
theorem make_intsF (w : World) (m : Nat) (hm : m ≤ 1001) : (Instr.makeSlice 154 (.int .i64 (m : Int)) (.int .i64 (m : Int))).run Tryz.prog w = .ok (.slice (some ⟨w.heap.size, 0, none⟩) m m) (w.alloc (.cells (madeCells #[.int .i64 0] m) 3)) := by
 obtain ⟨i0, hi, hz0, hz1, hz2⟩ := info_parts Tryz.info3
 have := run_make (P := Tryz.prog) w 154 3 i0 (.int .i64 0) Tryz.underlying154 hi hz0 .i64 .i64 (m : Int) (m : Int) (by omega) (Int.le_refl _) (by rw [hz2]; omega) (by omega)
 rw [this, hz1, Int.toNat_natCast, Nat.mul_one]
 rfl
theorem heap_upto (n : Nat) : HeapI (upto n) (upto n).length := by
 intro i h0 hi
 rw [upto_len] at hi
 unfold leI ltI gi
 rw [upto_at hi, upto_at (by omega)]
 omega
theorem rowK_upto (n : Nat) : rowK (fun i : Nat => (i : Int)) n = upto n := rfl
theorem pfirst_any (n : Nat) (w : World) (hn : n ≤ 256) : Calls Tryz.prog 104 #[.int .i64 n] w fun e w' => ∃ g, e = .returned (.slice (some ⟨g, 0, none⟩) n n) ∧ w.heap.size ≤ g ∧ OwnK 3 0 g n n (upto n) w' ∧ Below w.heap.size w w' := by
 have hmk := make_intsF w n (by omega)
 obtain ⟨w1, hw1⟩ : ∃ w1, w1 = w.alloc (.cells (madeCells #[.int .i64 0] n) 3) := ⟨_, rfl⟩
 rw [← hw1] at hmk
 obtain ⟨f, hf⟩ : ∃ f : Nat → Int, f = fun i : Nat => (i : Int) := ⟨_, rfl⟩
 have HO0 : Hid (OwnK 3 0 w.heap.size n n (rowK f 0 ++ List.replicate (n - 0) 0) w1) := by
  have := own_made 3 w n (by omega)
  unfold Hid
  rw [hw1]
  exact this.low (Nat.zero_le _)
 have HB0 : Hid (Below w.heap.size w w1) := by unfold Hid; rw [hw1]; exact (Below.refl _ _).alloc (Nat.le_refl _) _
 have HS : Hid (∀ k, k < n → (rowK f k ++ List.replicate (n - k) 0).set k (k : Int) = rowK f (k + 1) ++ List.replicate (n - (k + 1)) 0) := fun k hk => by
  have := rowK_set f hk
  rw [hf] at this ⊢
  exact this
 have HE : Hid (rowK f n ++ List.replicate (n - n) 0 = upto n) := by unfold Hid; rw [hf, rowK_upto]; simp
 clear hw1 hf
 go_enter Tryz.func104, Tryz.ntmps104
 go_wp2_with fail
 go_loopw [9] (fun i W => ∃ k : Nat, k ≤ n ∧ i = .int .i64 k ∧ Hid (OwnK 3 0 w.heap.size n n (rowK f k ++ List.replicate (n - k) 0) W) ∧ Hid (Below w.heap.size w W)) (fun i _ => n - (intOf i).toNat)
 case atStart => exact ⟨0, Nat.zero_le _, rfl, HO0, HB0⟩
 case round =>
 obtain ⟨k, hk, rfl, HO, HB⟩ := hrel
 rename World => wr
 by_cases hlt : k < n
 ·have q1 : (k : Int) < (n : Int) := by omega
  have ck := HO.out.cell hlt
  have fk := HO.out.frozen k
  have HO2 : Hid (OwnK 3 0 w.heap.size n n (rowK f (k + 1) ++ List.replicate (n - (k + 1)) 0) (wr.setCell ⟨w.heap.size, k, none⟩ (.int .i64 (k : Int)))) := by unfold Hid; rw [← HS.out k hlt]; exact HO.out.set k k
  have HB2 : Hid (Below w.heap.size w (wr.setCell ⟨w.heap.size, k, none⟩ (.int .i64 (k : Int)))) := HB.out.setCell (Nat.le_refl _) _
  clear HO HB HS HE HO0 HB0 hmk
  go_wp2_with fail
  go_round
  case rel => exact ⟨k + 1, by omega, by go_num, HO2, HB2⟩
  case measure => simp [intOf]; omega
 ·obtain rfl : k = n := by omega
  have HO2 : Hid (OwnK 3 0 w.heap.size k k (upto k) wr) := by unfold Hid; rw [← HE.out]; exact HO.out
  clear HO HS HE HO0 HB0 hmk
  go_wp2
  go_ret
  exact ⟨_, rfl, Nat.le_refl _, HO2.out, HB.out⟩
theorem pnew_no (n : Int) (w : World) (hn : n < 1 ∨ 256 < n) : Calls Tryz.prog 77 #[.int .i64 n] w fun e w' => e = .returned (.tuple #[.pointer none, .int .i64 1]) ∧ Below w.heap.size w w' := by
 by_cases h1 : n < 1
 ·clear hn
  go_enter Tryz.func77, Tryz.ntmps77
  go_wp2
  go_ret2
  exact ⟨rfl, Below.refl _ _⟩
 ·have h2 : 256 < n := by omega
  clear hn
  go_enter Tryz.func77, Tryz.ntmps77
  go_wp2
  go_ret2
  exact ⟨rfl, Below.refl _ _⟩
theorem pg_new {w W : World} {b g n : Nat} (h0 : 1 ≤ n) (h1 : n ≤ 256) (hb : OwnK 3 0 b n n (List.replicate n 0) W) (hg : OwnK 3 0 g n n (upto n) W) (hn : b ≠ g) (lb : w.heap.size ≤ b) (lg : w.heap.size ≤ g) (hW : Below w.heap.size w W) :
  PgAt (W.alloc (.cells #[.slice (some ⟨b, 0, none⟩) n n, .slice (some ⟨g, 0, none⟩) n n] 156)) (some ⟨W.heap.size, 0, none⟩) (List.replicate n 0) (at3 W.heap.size b g) ∧ (∀ k, at3 W.heap.size b g k → w.heap.size ≤ k) ∧ Below w.heap.size w (W.alloc (.cells #[.slice (some ⟨b, 0, none⟩) n n, .slice (some ⟨g, 0, none⟩) n n] 156)) := by
 have hB : Below W.heap.size W (W.alloc (.cells #[.slice (some ⟨b, 0, none⟩) n n, .slice (some ⟨g, 0, none⟩) n n] 156)) := (Below.refl _ _).alloc (Nat.le_refl _) _
 have b1 := hb.lt
 have g1 := hg.lt
 have s1 := hW.size
 have hP : PgB (W.alloc (.cells #[.slice (some ⟨b, 0, none⟩) n n, .slice (some ⟨g, 0, none⟩) n n] 156)) W.heap.size b g n (List.replicate n 0) (upto n) := by
  refine ⟨?_, hb.stays hB, ?_, by omega, by omega, hn, heap_upto n, free_new n⟩
  ·rw [upto_len]; exact heap_alloc_new W _
  ·rw [upto_len]; exact hg.stays hB
 refine ⟨hP.at (okp_new h0 h1), ?_, hW.trans (hB.mono s1)⟩
 rintro k (rfl | rfl | rfl) <;> omega
def NewG (w : World) (n B : Nat) (W : World) : Prop := ∃ F, PgAt W (some ⟨B, 0, none⟩) (List.replicate n 0) F ∧ (∀ k, F k → w.heap.size ≤ k) ∧ Below w.heap.size w W
theorem pg_newA {w w2 : World} {g n : Nat} (h0 : 1 ≤ n) (h1 : n ≤ 256) (lg : (w.alloc (.cells (madeCells #[.int .i64 0] n) 3)).drew.heap.size ≤ g) (hO : OwnK 3 0 g n n (upto n) w2)
  (hb : Below (w.alloc (.cells (madeCells #[.int .i64 0] n) 3)).drew.heap.size (w.alloc (.cells (madeCells #[.int .i64 0] n) 3)).drew w2) :
  NewG w n w2.heap.size (w2.alloc (.cells #[.slice (some ⟨w.heap.size, 0, none⟩) n n, .slice (some ⟨g, 0, none⟩) n n] 156)) := by
 have hM : OwnK 3 0 w.heap.size n n (List.replicate n 0) (w.alloc (.cells (madeCells #[.int .i64 0] n) 3)).drew := (own_made 3 w n (by omega)).low (Nat.zero_le _)
 have hS : (w.alloc (.cells (madeCells #[.int .i64 0] n) 3)).drew.heap.size = w.heap.size + 1 := World.size_alloc _ _
 have hB : Below w.heap.size w (w.alloc (.cells (madeCells #[.int .i64 0] n) 3)).drew := ((Below.refl _ _).alloc (Nat.le_refl _) _).drew
 obtain ⟨a1, a2, a3⟩ := pg_new h0 h1 (hM.stays hb) hO (by omega) (Nat.le_refl _) (by omega) (hB.trans (hb.mono hB.size))
 exact ⟨_, a1, a2, a3⟩
theorem pg_newB {w w2 : World} {g n : Nat} (h0 : 1 ≤ n) (h1 : n ≤ 256) (lg : w.drew.heap.size ≤ g) (hO : OwnK 3 0 g n n (upto n) w2) (hb : Below w.drew.heap.size w.drew w2) :
  NewG w n (w2.heap.size + 1) ((w2.alloc (.cells (madeCells #[.int .i64 0] n) 3)).alloc (.cells #[.slice (some ⟨w2.heap.size, 0, none⟩) n n, .slice (some ⟨g, 0, none⟩) n n] 156)) := by
 have hM : OwnK 3 0 w2.heap.size n n (List.replicate n 0) (w2.alloc (.cells (madeCells #[.int .i64 0] n) 3)) := (own_made 3 w2 n (by omega)).low (Nat.zero_le _)
 have hS : (w2.alloc (.cells (madeCells #[.int .i64 0] n) 3)).heap.size = w2.heap.size + 1 := World.size_alloc _ _
 have hB0 : Below w.heap.size w w2 := (Below.refl _ _).drew.trans hb
 have hB : Below w2.heap.size w2 (w2.alloc (.cells (madeCells #[.int .i64 0] n) 3)) := (Below.refl _ _).alloc (Nat.le_refl _) _
 have lt := hO.lt
 obtain ⟨a1, a2, a3⟩ := pg_new h0 h1 hM (hO.stays hB) (by omega) hB0.size lg (hB0.trans (hB.mono hB0.size))
 rw [hS] at a1 a2
 exact ⟨_, a1, a2, a3⟩
theorem pnew_yes (n : Nat) (w : World) (h0 : 1 ≤ n) (h1 : n ≤ 256) : Calls Tryz.prog 77 #[.int .i64 n] w fun e w' => ∃ g F, e = .returned (.tuple #[.pointer (some ⟨g, 0, none⟩), .int .i64 0]) ∧ PgAt w' (some ⟨g, 0, none⟩) (List.replicate n 0) F ∧ (∀ k, F k → w.heap.size ≤ k) ∧ Below w.heap.size w w' := by
 have q1 : ¬ (n : Int) < 1 := by omega
 have q2 : ¬ (256 : Int) < (n : Int) := by omega
 have hmk := fun (W : World) => make_intsI W n (by omega)
 have HF := hid fun (W : World) => pfirst_any n W h1
 go_enter Tryz.func77, Tryz.ntmps77
 go_wp2_with fail
 go_region_with (go_at_call 104; refine (HF.out _).mono ?_; rintro e w2 ⟨g, rfl, lg, hO, hb⟩; have HO := hid hO; have HB := hid hb; have LG := hid lg; clear hO hb lg)
 ·go_wp2_with fail
  obtain ⟨F, a1, a2, a3⟩ := pg_newA h0 h1 LG.out HO.out HB.out
  clear hmk HF HO HB LG
  go_ret2
  exact ⟨_, F, rfl, a1, a2, a3⟩
 ·go_wp2_with fail
  obtain ⟨F, a1, a2, a3⟩ := pg_newB h0 h1 LG.out HO.out HB.out
  clear hmk HF HO HB LG
  go_ret2
  exact ⟨_, F, rfl, a1, a2, a3⟩
end Go.Proofs.YtjgggialnegddaaGreat
