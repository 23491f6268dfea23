/-
  The texts RThroughs, AThrs, SaNext, DeMath of this proof.
-/
import Derived.Test.YtjgggialnegddaaGreatPr22
import Derived.Test.YtjgggialnegddaaGreatPr23
import Derived.Test.YtjgggialnegddaaGreatPr27
import Derived.Deep.RegionHeld3
set_option linter.unusedVariables false
set_option maxRecDepth 1000000
namespace Go.Proofs.YtjgggialnegddaaGreat
open Go.RowKit
def RThrB (w : World) (X : List Int) (K V : List (List Int)) (e : Ending) (w' : World) : Prop := ∃ (a : Option Addr) (n cap : Nat) (x y : Hd), e = .returned (.tuple #[.slice a n cap, .agg #[.slice x.1 x.2.1 x.2.2, .slice y.1 y.2.1 y.2.2]]) ∧ Reads .i64 w' a n cap X ∧ BlI w' a ∧ TbH w' x K ∧ TbH w' y V ∧ Below w.heap.size w w'
def RTAt (w wA : World) (c : Cf) (M : List KV) (zs : List Int) (j : Nat) (u : Value) (W : World) : Prop :=
 ∃ (a : Option Addr) (n cap : Nat) (ku vu : Value) (hk hv : List Hd), u = .slice a n cap ∧ n ≤ 1000 ∧ Reads .i64 W a n cap (thrX c M zs j) ∧ (0 < j → BlI W a) ∧ W.heap[w.heap.size + 2]? = some (.cells #[ku, vu] 134 (0, 0)) ∧
  RowsI W wA.heap.size ku j hk (tblK (fun i => keyL c i (thrX c M zs i)) j) ∧ RowsI W wA.heap.size vu j hv (tblK (fun i => valL c i (thrX c M zs i)) j) ∧ Apart ku vu ∧ Below (w.heap.size + 2) wA W
def RIAt (wI : World) (KK VV : Nat → List (List Int)) (j i : Nat) (u v : Value) (W : World) : Prop :=
 ∃ (hk hv : List Hd), RowsI W wI.heap.size u i hk (tblK (fun x => (KK x)[j]?.getD []) i) ∧ RowsI W wI.heap.size v i hv (tblK (fun x => (VV x)[j]?.getD []) i) ∧ Apart u v ∧ Below wI.heap.size wI W
theorem own_slice {w : World} {b e n : Nat} {v : Value} {xs : List Value} (h : w.ownsRow b e 1 v (n + 1) xs) : ∃ g c, v = .slice (some ⟨g, 0, none⟩) (n + 1) c := by
 rcases id h.2 with ⟨_, h0⟩ | ⟨g, c, cur, rfl, _⟩
 ·omega
 ·exact ⟨g, c, rfl⟩
theorem new_cellB (w : World) (u : Value) (T : TypeId) {B : Nat} (hB : w.heap.size = B) : (w.alloc (.cells #[u] T)).cell? ⟨B, 0, none⟩ = some u := by subst hB; exact new_cell w u T
theorem size_set (w : World) (p : Addr) (u : Value) : (w.setCell p u).heap.size = w.heap.size := by simp [World.setCell]
theorem three_cells {W : World} {g : Nat} {x y z : Value} {T : TypeId} (h : W.heap[g]? = some (.cells #[x, y, z] T (0, 0))) : W.cell? ⟨g, 0, none⟩ = some x ∧ W.cell? ⟨g, 1, none⟩ = some y ∧ W.cell? ⟨g, 2, none⟩ = some z :=
 ⟨by rw [cell_of_row _ _ _ _ _ _ h]; rfl, by rw [cell_of_row _ _ _ _ _ _ h]; rfl, by rw [cell_of_row _ _ _ _ _ _ h]; rfl⟩
theorem grown_kp {w w' : World} {base e n : Nat} {v : Value} {xs : List Value} (ho : w.ownsRow base e 1 v n xs) (hg : w.grownBy w' v.ownBlock) : Kp e w w' := by
 intro k cur t fz hk ht
 rw [hg.block k (lt_of_block hk) (fun h => ?_)]
 ·exact hk
 ·obtain ⟨c, hc⟩ := own_type ho h.symm
  rw [hk] at hc
  simp at hc
  exact ht hc.2.1
theorem kp_below {T : TypeId} {W W' : World} (hb : Below W.heap.size W W') : Kp T W W' := fun k cur t fz hk _ => (hb.block k (lt_of_block hk)).trans hk
theorem RIAt.half {S B : Nat} {w0 w2 w3 : World} {i n2 : Nat} {u v u' : Value} {hk hv : List Hd} {ls ls2 : List (List Int)} {zs : List Int} {y : Hd} {o : Obj}
  (hO1 : RowsI w2 S u i hk ls) (hO2 : RowsI w2 S v n2 hv ls2) (hap : Apart u v) (hW : Below B w0 w2) (hBS : B ≤ S) (hS : S ≤ w2.heap.size)
  (hr : Reads .i64 w2 y.1 y.2.1 y.2.2 zs) (h5 : BlI w2 y.1) (hy : y.2.1 ≤ 1000) (ho : w3.ownsRow S 131 1 u' (i + 1) (hk.map hdV ++ [hdV y])) (hg : (w2.alloc o).grownBy w3 u.ownBlock) (hm : Moved (w2.alloc o) u u') :
  RowsI w3 S u' (i + 1) (hk ++ [y]) (ls ++ [zs]) ∧ RowsI w3 S v n2 hv ls2 ∧ Apart u' v ∧ Below B w0 w3 ∧ Kp 131 w2 w3 ∧ ∀ k, k < S → w3.heap[k]? = w2.heap[k]? := by
 have ha : Below w2.heap.size w2 (w2.alloc o) := (Below.refl _ _).alloc (Nat.le_refl _) _
 have h1 := hO1.below ha
 have h2 := hO2.below ha
 have hb2 : Below B w0 (w2.alloc o) := hW.trans (ha.mono (Nat.le_trans hBS hS))
 have hs3 : S ≤ (w2.alloc o).heap.size := Nat.le_trans hS ha.size
 refine ⟨h1.snoc (hr.below ha) (h5.below ha) hy ho hg, RowsI.kept2 h1.own h2 hap hg, hap.moved hm h2.own, hb2.grown hg (Nat.le_trans hBS hs3) fun g hg => Nat.le_trans hBS (h1.own.lt g hg).1, (kp_below ha).trans (grown_kp h1.own hg), fun k hk => ?_⟩
 rw [hg.block k (by omega) (fun h => ?_)]
 ·exact ha.block k (by omega)
 ·have := (h1.own.lt k h.symm).1
  omega
theorem place_half {S B O sl : Nat} {w0 w2 w3 : World} {i n2 : Nat} {u v u' : Value} {hk hv : List Hd} {ls ls2 : List (List Int)} {zs : List Int} {y : Hd} {o : Obj} {cs : Array Value}
  (hOw : w2.heap[O]? = some (.cells cs 134 (0, 0))) (hO1 : RowsI w2 S u i hk ls) (hO2 : RowsI w2 S v n2 hv ls2) (hap : Apart u v) (hW : Below B w0 w2) (hBO : B ≤ O) (hOS : O < S) (hS : S ≤ w2.heap.size)
  (hr : Reads .i64 w2 y.1 y.2.1 y.2.2 zs) (h5 : BlI w2 y.1) (hy : y.2.1 ≤ 1000) (ho : w3.ownsRow S 131 1 u' (i + 1) (hk.map hdV ++ [hdV y])) (hg : (w2.alloc o).grownBy w3 u.ownBlock) (hm : Moved (w2.alloc o) u u') :
  w3.heap[O]? = some (.cells cs 134 (0, 0)) ∧ (w3.setCell ⟨O, sl, none⟩ u').heap[O]? = some (.cells (cs.setIfInBounds sl u') 134 (0, 0)) ∧
  RowsI (w3.setCell ⟨O, sl, none⟩ u') S u' (i + 1) (hk ++ [y]) (ls ++ [zs]) ∧ RowsI (w3.setCell ⟨O, sl, none⟩ u') S v n2 hv ls2 ∧ Apart u' v ∧ Below B w0 (w3.setCell ⟨O, sl, none⟩ u') ∧
  (∀ a n c xs, Reads .i64 w2 a n c xs → BlI w2 a → Reads .i64 (w3.setCell ⟨O, sl, none⟩ u') a n c xs ∧ BlI (w3.setCell ⟨O, sl, none⟩ u') a) ∧
  (∀ (k : Nat) (cur : Array Value) (fz : Nat × Nat), w2.heap[k]? = some (.cells cur 166 fz) → (w3.setCell ⟨O, sl, none⟩ u').heap[k]? = some (.cells cur 166 fz)) ∧ S ≤ (w3.setCell ⟨O, sl, none⟩ u').heap.size := by
 obtain ⟨k1, k2, k3, k4, k5, k6⟩ := RIAt.half hO1 hO2 hap hW (by omega) hS hr h5 hy ho hg hm
 have hO3 := (k6 O hOS).trans hOw
 have hK : Kp 134 w3 (w3.setCell ⟨O, sl, none⟩ u') := Kp.set hO3 _
 have hs3 : S ≤ w3.heap.size := Nat.le_trans hS (Nat.le_trans ((Below.refl w2.heap.size w2).alloc (Nat.le_refl _) o).size hg.size)
 refine ⟨hO3, row_setCell hO3, k1.keep hK (by decide) (by decide), k2.keep hK (by decide) (by decide), k3, k4.setCell hBO _, fun a n c xs h1 h2 => ?_, fun k cur fz h1 => hK _ _ _ _ (k5 _ _ _ _ h1 (by decide)) (by decide), by simpa [World.setCell] using hs3⟩
 obtain ⟨g1, g2⟩ := Reads.keep h1 h2 k5 (by decide)
 exact Reads.keep g1 g2 hK (by decide)
set_option maxHeartbeats 4000000 in
theorem rthrough_natB (s v d tt h : Int) (L : Nat) (la : Option Addr) (ln lc : Nat) (ps : List Hp) (KK VV : Nat → List (List Int)) (M : List KV) (a : Option Addr) (n cap : Nat) (zs : List Int) (w : World) (hc : mayB ⟨s, v, d, (L : Int), tt, h⟩ = true) (hL : L ≤ 4)
  (hp : PlsAt w la ln lc ps KK VV) (hKK : ∀ i, i < ln → (KK i).length = L ∧ (VV i).length = L) (hM : ∀ j, j < L → (kv M j).1 = tblK (fun i => (KK i)[j]?.getD []) ln ∧ (kv M j).2 = tblK (fun i => (VV i)[j]?.getD []) ln) (hln : ln ≤ 900) (hx : Reads .i64 w a n cap zs) (hn : n ≤ 1000) (L1 : 1 ≤ L) :
  Calls Tryz.prog 70 #[.agg (CfV ⟨s, v, d, (L : Int), tt, h⟩), .slice la ln lc, .slice a n cap] w fun e w' => RThrB w (thrX ⟨s, v, d, (L : Int), tt, h⟩ M zs L) (tblK (fun i => keyL ⟨s, v, d, (L : Int), tt, h⟩ i (thrX ⟨s, v, d, (L : Int), tt, h⟩ M zs i)) L) (tblK (fun i => valL ⟨s, v, d, (L : Int), tt, h⟩ i (thrX ⟨s, v, d, (L : Int), tt, h⟩ M zs i)) L) e w' := by
 obtain ⟨i1, hj, hy0, hy1, hy2⟩ := info_parts Tryz.infoS
 obtain ⟨wA, hwA⟩ : ∃ wA, wA = ((w.alloc (.cells (CfV ⟨s, v, d, (L : Int), tt, h⟩) 24)).alloc (.cells #[.slice none 0 0, .slice none 0 0] 134)).alloc (.cells #[.slice none 0 0, .slice none 0 0] 134) := ⟨_, rfl⟩
 have HB0 : Hid (Below w.heap.size w wA) := by unfold Hid; rw [hwA]; exact (((Below.refl _ _).alloc (Nat.le_refl _) _).alloc (by simp) _).alloc (by simp; omega) _
 have HSz : Hid (wA.heap.size = w.heap.size + 3) := by unfold Hid; rw [hwA]; simp
 have HK : Hid (∀ W : World, Below (w.heap.size + 2) wA W → W.cell? ⟨w.heap.size, 0, none⟩ = some (.int .u64 s) ∧ W.cell? ⟨w.heap.size, 1, none⟩ = some (.int .i64 v) ∧ W.cell? ⟨w.heap.size, 2, none⟩ = some (.int .i64 d) ∧ W.cell? ⟨w.heap.size, 3, none⟩ = some (.int .i64 (L : Int)) ∧ W.cell? ⟨w.heap.size, 4, none⟩ = some (.int .i64 tt) ∧ W.cell? ⟨w.heap.size, 5, none⟩ = some (.int .i64 h)) := by
  intro W hb
  have e1 : wA.heap[w.heap.size]? = some (.cells (CfV ⟨s, v, d, (L : Int), tt, h⟩) 24 (0, 0)) := by
   rw [hwA, Below.heap_alloc _ _ _ (by simp; omega), Below.heap_alloc _ _ _ (by simp)]; exact heap_alloc_new w _
  exact Cf_cells ((hb.block _ (by omega)).trans e1)
 have HRs : Hid (∀ W : World, Below (w.heap.size + 2) wA W → W.heap[w.heap.size + 1]? = some (.cells #[.slice none 0 0, .slice none 0 0] 134 (0, 0))) := by
  intro W hb
  have e1 : wA.heap[w.heap.size + 1]? = some (.cells #[.slice none 0 0, .slice none 0 0] 134 (0, 0)) := by
   rw [hwA, Below.heap_alloc _ _ _ (by simp)]
   have := heap_alloc_new (w.alloc (.cells (CfV ⟨s, v, d, (L : Int), tt, h⟩) 24)) (.cells #[.slice none 0 0, .slice none 0 0] 134)
   rw [World.size_alloc] at this
   exact this
  exact (hb.block _ (by omega)).trans e1
 have HOw : Hid (wA.heap[w.heap.size + 2]? = some (.cells #[.slice none 0 0, .slice none 0 0] 134 (0, 0))) := by
  unfold Hid; rw [hwA]
  have := heap_alloc_new ((w.alloc (.cells (CfV ⟨s, v, d, (L : Int), tt, h⟩) 24)).alloc (.cells #[.slice none 0 0, .slice none 0 0] 134)) (.cells #[.slice none 0 0, .slice none 0 0] 134)
  rw [World.size_alloc, World.size_alloc] at this
  exact this
 have HT0 : Hid (RTAt w wA ⟨s, v, d, (L : Int), tt, h⟩ M zs 0 (.slice a n cap) wA) := ⟨a, n, cap, .slice none 0 0, .slice none 0 0, [], [], rfl, hn, hx.below HB0.out, (fun h => absurd h (by omega)), HOw.out, RowsI.nil _ _, RowsI.nil _ _, Apart.nil _, Below.refl _ _⟩
 have HBw : Hid (∀ W : World, Below (w.heap.size + 2) wA W → Below w.heap.size w W) := fun W hb => HB0.out.trans (hb.mono (by omega))
 have HP := hid fun W (hb : Below w.heap.size w W) => hp.below hb
 have HKK := hid hKK
 have HM := hid hM
 have HC := hid hc
 have HZl : Hid (zs.length ≤ 1000) := by unfold Hid; rw [hx.size]; exact hn
 have r1 := hp.room
 have m1 := hp.most
 clear hp hKK hM hc hx HOw HB0 hn
 unfold CfV at hwA ⊢
 simp only at hwA ⊢
 go_enter Tryz.func70, Tryz.ntmps70
 go_wp2_with fail
 rw [← hwA]
 clear hwA
 go_loopw [2, 9] (fun u i W => ∃ j : Nat, j ≤ L ∧ i = .int .i64 j ∧ Hid (RTAt w wA ⟨s, v, d, (L : Int), tt, h⟩ M zs j u W)) (fun _ i _ => L - (intOf i).toNat)
 case atStart => exact ⟨0, Nat.zero_le _, rfl, HT0⟩
 case round =>
 obtain ⟨j, hjL, rfl, HT⟩ := hrel
 rename World => wI
 clear HT0
 by_cases hlt : j < L
 ·obtain ⟨a, n, cap, ku, vu, hk, hv, rfl, hn, hR, hIa, hO, hk1, hv1, hap, hW⟩ := HT.out
  have HR := hid hR
  have HIa := hid hIa
  have HO := hid hO
  have HK1 := hid hk1
  have HV1 := hid hv1
  have HAp := hid hap
  have HW := hid hW
  obtain ⟨x0, x1, x2, x3, x4, x5⟩ := HK.out _ hW
  have q1 : (j : Int) < (L : Int) := by omega
  have HI0 : Hid (RIAt wI KK VV j 0 (.slice none 0 0) (.slice none 0 0) wI) := ⟨[], [], RowsI.nil _ _, RowsI.nil _ _, Apart.nil _, Below.refl _ _⟩
  clear HT hR hIa hO hk1 hv1 hap hW
  have hT4 : ∀ W : World, W.cell? ⟨w.heap.size, 3, none⟩ = W.cell? ⟨w.heap.size, 3, none⟩ := fun _ => rfl
  clear hT4
  go_wp2_with fail
  go_loopw [10, 11, 12] (fun u o i W => ∃ k : Nat, k ≤ ln ∧ i = .int .i64 k ∧ Hid (RIAt wI KK VV j k u o W)) (fun _ _ i _ => ln - (intOf i).toNat)
  case atStart => exact ⟨0, Nat.zero_le _, rfl, HI0⟩
  case round =>
  obtain ⟨k, hkl, rfl, HIk⟩ := hrel
  rename World => wr
  clear HI0
  by_cases hkn : k < ln
  ·obtain ⟨hk2, hv2, hO1, hO2, hap, hWr⟩ := HIk.out
   have hBw := (HBw.out _ HW.out).trans (hWr.mono (HBw.out _ HW.out).size)
   have HBI := hid fun W (hb : Below wI.heap.size wI W) => (HBw.out _ HW.out).trans (hb.mono (HBw.out _ HW.out).size)
   obtain ⟨b0, o0, rfl, c0, c1⟩ := (HP.out w (Below.refl _ _)).cell k hkn
   obtain ⟨t1, t2⟩ := (HP.out w (Below.refl _ _)).rows k hkn
   obtain ⟨e1, e2⟩ := HKK.out k hkn
   have HO1 := hid hO1
   have HO2 := hid hO2
   have HAp2 := hid hap
   have HWr := hid hWr
   have hqk : (k : Int) < (ln : Int) := by omega
   generalize pk ps k = y at *
   obtain ⟨⟨y1, y2, y3⟩, ⟨z1, z2, z3⟩⟩ := y
   unfold hdV at c0 c1
   obtain ⟨l1, hs1, f1, _, g1⟩ := t1
   obtain ⟨l2, hs2, f2, _, g2⟩ := t2
   simp only at c0 c1 l1 l2 f1 f2 g1 g2
   obtain rfl : L = y2 := by omega
   obtain rfl : L = z2 := by omega
   obtain ⟨b1, o1, rfl, k1⟩ := f1.rd.cell j hlt
   obtain ⟨b2, o2, rfl, k2⟩ := f2.rd.cell j hlt
   have p1 := f1.rows j hlt
   have p2 := f2.rows j hlt
   have s1 := f1.short j hlt
   have s2 := f2.short j hlt
   have u1 := g1 j hlt
   have u2 := g2 j hlt
   have w1 := f1.rd.room
   have w2 := f2.rd.room
   have v1 := f1.rd.most
   have v2 := f2.rd.most
   have HP1 := hid fun W (hb : Below w.heap.size w W) => p1.below hb
   have HP2 := hid fun W (hb : Below w.heap.size w W) => p2.below hb
   have HU1 := hid fun W (hb : Below w.heap.size w W) => u1.below hb
   have HU2 := hid fun W (hb : Below w.heap.size w W) => u2.below hb
   have HC2 := hid fun W (hb : Below w.heap.size w W) => cell_later_of c1 hb
   have HC3 := hid fun W (hb : Below w.heap.size w W) => cell_later_of k2 hb
   replace c0 := cell_later_of c0 hBw
   replace k1 := cell_later_of k1 hBw
   have HNc := hid fun W u T => new_cell W u T
   have HAl : Hid (∀ (W : World) (o : Obj), Below W.heap.size W (W.alloc o)) := fun W o => (Below.refl _ _).alloc (Nat.le_refl _) _
   have HLs : Hid (wI.heap.size ≤ wr.heap.size) := HWr.out.size
   have HBr := hid hBw
   clear HIk hO1 hO2 hap hWr hBw HP HKK HM HC HR HIa HO HK1 HV1 HAp HK HRs c1 k2 p1 p2 u1 u2 f1 f2 g1 g2 l1 l2 e1 e2 x0 x1 x2 x3 x4 x5
   generalize hs1[j]?.getD (none, 0, 0) = y at *
   generalize hs2[j]?.getD (none, 0, 0) = z at *
   obtain ⟨r1', r2', r3'⟩ := y
   obtain ⟨q1', q2', q3'⟩ := z
   simp only at k1 HC3 HP1 HP2 HU1 HU2 s1 s2
   go_wp2_with (first
    | (at_builtin; refine append_one2 _ rfl (.tmp 26) (.tmp 35) 132 rfl wI.heap.size 131 i1 (.slice none 0 0) 24 Tryz.underlying132 hj hy0 hy1 hy2 rfl (by omega) _ k _ rfl (own_below HO1.out.own (HAl.out _ _)) (by omega) wr.heap.size (hdV (r1', r2', r3')) rfl rfl (HNc.out _ _ _) (Nat.le_trans HLs.out (HAl.out _ _).size) ?_; intro v1' w3 hO3 hg3 hm3; obtain ⟨a3, a4, a5, a6, _, _⟩ := RIAt.half HO1.out HO2.out HAp2.out HWr.out (Nat.le_refl _) HLs.out (HP1.out _ HBr.out) (HU1.out _ HBr.out) s1 hO3 hg3 hm3; have HO3 := hid a3; have HO4 := hid a4; have HAp3 := hid a5; have HW3 := hid a6; have HB3 := hid (HBI.out _ a6); have HLt : Hid (wI.heap.size ≤ w3.heap.size) := a6.size; have c1 := HC2.out _ HB3.out; have k2 := HC3.out _ HB3.out; clear hO3 hg3 hm3 a3 a4 a5 a6)
    | (at_builtin; refine append_one2 _ rfl (.tmp 37) (.tmp 46) 132 rfl wI.heap.size 131 i1 (.slice none 0 0) 24 Tryz.underlying132 hj hy0 hy1 hy2 rfl (by omega) _ k _ rfl (own_below HO4.out.own (HAl.out _ _)) (by omega) w3.heap.size (hdV (q1', q2', q3')) rfl rfl (HNc.out _ _ _) (Nat.le_trans HLt.out (HAl.out _ _).size) ?_; intro v2' w4 hO5 hg5 hm5; obtain ⟨a3, a4, a5, a6, _, _⟩ := RIAt.half HO4.out HO3.out HAp3.out.symm HW3.out (Nat.le_refl _) HLt.out (HP2.out _ HB3.out) (HU2.out _ HB3.out) s2 hO5 hg5 hm5))
   have HRn : Hid (RIAt wI KK VV j (k + 1) v1' v2' w4) := ⟨_, _, by rw [← tblK_snoc]; exact a4, by rw [← tblK_snoc]; exact a3, a5.symm, a6⟩
   clear hO5 hg5 hm5 a3 a4 a5 a6 HO1 HO2 HO3 HO4 HAp2 HAp3 HWr HW3 HB3 HLs HLt HNc HAl HC2 HC3 HP1 HP2 HU1 HU2 c0 c1 k1 k2 HBI HBr
   go_wp2_with fail
   go_round
   case rel => exact ⟨k + 1, by omega, by go_num, HRn⟩
   case measure => simp [intOf]; omega
  obtain rfl : ln = k := by omega
  obtain ⟨hk2, hv2, hO1, hO2, hap, hWr⟩ := HIk.out
  obtain ⟨ka, kc, rfl, hTk⟩ := hO1.tbh
  obtain ⟨va, vc, rfl, hTv⟩ := hO2.tbh
  obtain ⟨l1, hs1, f1, _, _⟩ := hTk
  obtain ⟨l2, hs2, f2, _, _⟩ := hTv
  simp only at l1 l2 f1 f2
  have hsI : w.heap.size + 2 ≤ wI.heap.size := by have := HW.out.size; have := HSz.out; omega
  have hsA : wA.heap.size ≤ wI.heap.size := HW.out.size
  have hW2 : Below (w.heap.size + 2) wA wr := HW.out.trans (hWr.mono hsI)
  have hS := rstep_any ⟨s, v, d, (L : Int), tt, h⟩ j a n cap (thrX ⟨s, v, d, (L : Int), tt, h⟩ M zs j) ka ln kc hs1 _ va ln vc hs2 _ ln wr HC.out (HR.out.below hWr) hn f1 l1 (by omega) f2 l2 (by omega) (by omega)
  rw [List.take_of_length_le (by omega), List.take_of_length_le (by omega), ← (HM.out j hlt).1, ← (HM.out j hlt).2] at hS
  have HXn : Hid (outL ⟨s, v, d, (L : Int), tt, h⟩ j (thrX ⟨s, v, d, (L : Int), tt, h⟩ M zs j) (kv M j).1 (kv M j).2 = thrX ⟨s, v, d, (L : Int), tt, h⟩ M zs (j + 1)) := rfl
  rw [HXn.out] at hS
  have HXl : Hid ((thrX ⟨s, v, d, (L : Int), tt, h⟩ M zs (j + 1)).length ≤ 1000) := Nat.le_trans (thrX_len _ _ _ _) HZl.out
  have HKy : Hid ((keyL ⟨s, v, d, (L : Int), tt, h⟩ j (thrX ⟨s, v, d, (L : Int), tt, h⟩ M zs j)).length ≤ 1000) := Nat.le_trans (keyL_len HC.out _ _) (by omega)
  have HVy : Hid ((valL ⟨s, v, d, (L : Int), tt, h⟩ j (thrX ⟨s, v, d, (L : Int), tt, h⟩ M zs j)).length ≤ 1000) := Nat.le_trans (valL_len HC.out _ _) (by omega)
  replace HO := hid (block_below HO.out hWr)
  replace HK1 := hid (HK1.out.below hWr)
  replace HV1 := hid (HV1.out.below hWr)
  replace HW := hid hW2
  have HLA : Hid (wA.heap.size ≤ wr.heap.size) := hW2.size
  clear x0 x1 x2 x3 x4 x5
  obtain ⟨x0, x1, x2, x3, x4, x5⟩ := HK.out _ hW2
  obtain ⟨kka, kkc, rfl, _⟩ := HK1.out.tbl
  obtain ⟨vva, vvc, rfl, _⟩ := HV1.out.tbl
  clear HIk hO1 hO2 hap hWr f1 f2 l1 l2 hW2 HR HIa hkn hkl hsI hsA hn HXn
  unfold CfV at hS
  simp only at hS
  go_wp2_with fail
  refine hS.mono ?_
  rintro e w2 ⟨p1, p2, p3, m1', m2, m3, q1', q2, q3, rfl, hR1, hR2, hR3, hI1, hI2, hI3, hb⟩
  obtain ⟨wC, hwC⟩ : ∃ wC, wC = w2.alloc (.cells #[.slice p1 m1' q1', .slice p2 m2 q2, .slice p3 m3 q3] 166) := ⟨_, rfl⟩
  have hbC : Below w2.heap.size w2 wC := by rw [hwC]; exact (Below.refl _ _).alloc (Nat.le_refl _) _
  have HMb : Hid (wC.heap[w2.heap.size]? = some (.cells #[.slice p1 m1' q1', .slice p2 m2 q2, .slice p3 m3 q3] 166 (0, 0))) := by unfold Hid; rw [hwC]; exact heap_alloc_new w2 _
  have HX := hid (hR1.below hbC)
  have HXI := hid (hI1.below hbC)
  have HY := hid (hR2.below hbC)
  have HYI := hid (hI2.below hbC)
  have HZ := hid (hR3.below hbC)
  have HZI := hid (hI3.below hbC)
  have hm1' : m1' ≤ 1000 := by rw [← hR1.size]; exact HXl.out
  have hm2 : m2 ≤ 1000 := by rw [← hR2.size]; exact HKy.out
  have hm3 : m3 ≤ 1000 := by rw [← hR3.size]; exact HVy.out
  have hbb : Below wr.heap.size wr wC := hb.trans (hbC.mono hb.size)
  replace HO := hid (block_below HO.out hbb)
  replace HK1 := hid (HK1.out.below hbb)
  replace HV1 := hid (HV1.out.below hbb)
  replace HLA : Hid (wA.heap.size ≤ wC.heap.size) := Nat.le_trans HLA.out hbb.size
  replace HW : Hid (Below (w.heap.size + 2) wA wC) := HW.out.trans (hbb.mono (by have := HSz.out; have := HW.out.size; omega))
  obtain ⟨y0, y1⟩ := two_cells HO.out
  obtain ⟨z0, z1, z2⟩ : wC.cell? ⟨w2.heap.size, 0, none⟩ = some (.slice p1 m1' q1') ∧ wC.cell? ⟨w2.heap.size, 1, none⟩ = some (.slice p2 m2 q2) ∧ wC.cell? ⟨w2.heap.size, 2, none⟩ = some (.slice p3 m3 q3) := by
   refine ⟨?_, ?_, ?_⟩ <;> (rw [cell_of_row _ _ _ _ _ _ HMb.out]; rfl)
  have HNc := hid fun W u T => new_cell W u T
  have HAl : Hid (∀ (W : World) (o : Obj), Below W.heap.size W (W.alloc o)) := fun W o => (Below.refl _ _).alloc (Nat.le_refl _) _
  clear hR1 hR2 hR3 hI1 hI2 hI3 hb hbC hbb hS x0 x1 x2 x3 x4 x5 HXl HKy HVy
  have hsC : wC.heap.size = w2.heap.size + 1 := by rw [hwC]; simp
  have HSC := hid hsC
  have HBO : Hid (w.heap.size + 2 < wA.heap.size) := by have := HSz.out; unfold Hid; omega
  have hcn : ∀ (u : Value) (T : TypeId), (wC.alloc (.cells #[u] T)).cell? ⟨w2.heap.size + 1, 0, none⟩ = some u := fun u T => new_cellB wC u T hsC
  have HCn := hid hcn
  clear hsC hcn HNc
  subst hwC
  go_wp2_with (first
   | (at_builtin; refine append_one2 _ rfl (.tmp 57) (.tmp 60) 132 rfl wA.heap.size 131 i1 (.slice none 0 0) 24 Tryz.underlying132 hj hy0 hy1 hy2 rfl (by omega) _ j _ rfl (own_below HK1.out.own (HAl.out _ _)) (by omega) (w2.heap.size + 1) (hdV (p2, m2, q2)) rfl rfl (HCn.out _ _) (Nat.le_trans HLA.out (HAl.out _ _).size) ?_; intro v1' w3 hO3 hg3 hm3; obtain ⟨eg, ec, rfl⟩ := own_slice hO3; obtain ⟨b1, b2, b3, b4, b5, b6, b7, b8, b9⟩ := place_half (sl := 0) HO.out HK1.out HV1.out HAp.out HW.out (Nat.le_refl _) HBO.out HLA.out HY.out HYI.out hm2 hO3 hg3 hm3; have HO3 := hid b2; have HK3 := hid b3; have HV3 := hid b4; have HAp3 := hid b5; have HW3 := hid b6; have HX3 := hid (b7 _ _ _ _ HX.out HXI.out); have HZ3 := hid (b7 _ _ _ _ HZ.out HZI.out); have HM3 := hid (b8 _ _ _ HMb.out); have HL3 := hid b9; obtain ⟨i0, i2⟩ := two_cells b1; have f0 := frozen_of_row _ _ 0 _ _ b1; have f1 := frozen_of_row _ _ 1 _ _ b1; obtain ⟨n0, n1⟩ := two_cells HO3.out; obtain ⟨n2, n3, n4⟩ := three_cells HM3.out; clear b1 b2 b3 b4 b5 b6 b7 b8 b9 hO3 hg3 hm3)
   | (at_builtin; refine append_one2 _ rfl (.tmp 64) (.tmp 67) 132 rfl wA.heap.size 131 i1 (.slice none 0 0) 24 Tryz.underlying132 hj hy0 hy1 hy2 rfl (by omega) _ j _ rfl (own_below HV3.out.own (HAl.out _ _)) (by omega) w3.heap.size (hdV (p3, m3, q3)) rfl rfl (new_cellB _ _ _ (size_set _ _ _)) (Nat.le_trans HL3.out (HAl.out _ _).size) ?_; intro v2' w5 hO5 hg5 hm5; obtain ⟨fg, fc, rfl⟩ := own_slice hO5; obtain ⟨b1, b2, b3, b4, b5, b6, b7, b8, b9⟩ := place_half (sl := 1) HO3.out HV3.out HK3.out HAp3.out.symm HW3.out (Nat.le_refl _) HBO.out HL3.out HZ3.out.1 HZ3.out.2 hm3 hO5 hg5 hm5; have HO5 := hid b2; have HV5 := hid b3; have HK5 := hid b4; have HAp5 := hid b5.symm; have HW5 := hid b6; have HX5 := hid (b7 _ _ _ _ HX3.out.1 HX3.out.2); obtain ⟨i3, i4⟩ := two_cells b1; have f2 := frozen_of_row _ _ 0 _ _ b1; have f3 := frozen_of_row _ _ 1 _ _ b1; clear b1 b2 b3 b4 b5 b6 b7 b8 b9 hO5 hg5 hm5))
  have HTn : Hid (RTAt w wA ⟨s, v, d, (L : Int), tt, h⟩ M zs (j + 1) (.slice p1 m1' q1') (w5.setCell ⟨w.heap.size + 2, 1, none⟩ (.slice (some ⟨fg, 0, none⟩) (j + 1) fc))) :=
   ⟨p1, m1', q1', _, _, _, _, rfl, hm1', HX5.out.1, (fun _ => HX5.out.2), HO5.out, by rw [← tblK_snoc]; exact HK5.out, by rw [← tblK_snoc]; exact HV5.out, HAp5.out, HW5.out⟩
  clear HO HK1 HV1 HAp HW HX HXI HY HYI HZ HZI HMb HO3 HK3 HV3 HAp3 HW3 HX3 HZ3 HM3 HL3 HO5 HV5 HK5 HAp5 HW5 HX5 y0 y1 z0 z1 z2 i0 i2 i3 i4 f0 f1 f2 f3 n0 n1 n2 n3 n4
  go_wp2_with fail
  go_round
  case rel => exact ⟨j + 1, by omega, by go_num, HTn⟩
  case measure => simp [intOf]; omega
 obtain rfl : L = j := by omega
 obtain ⟨a, n, cap, ku, vu, hk, hv, rfl, hn, hR, hIa, hO, hk1, hv1, hap, hW⟩ := HT.out
 have HR := hid hR
 have HIa := hid hIa
 obtain ⟨ka, kc, rfl, hTk⟩ := hk1.tbh
 obtain ⟨va, vc, rfl, hTv⟩ := hv1.tbh
 have HTk := hid hTk
 have HTv := hid hTv
 have HRb := hid (HRs.out _ hW)
 have HBf := hid (HBw.out _ hW)
 obtain ⟨x0, x1, x2, x3, x4, x5⟩ := HK.out _ hW
 obtain ⟨y0, y1⟩ := two_cells hO
 obtain ⟨z0, z1⟩ := two_cells HRb.out
 have f0 := frozen_of_row _ _ 0 _ _ HRb.out
 have f1 := frozen_of_row _ _ 1 _ _ HRb.out
 have HF : Hid (∀ s0 s1 : Value, ((wI.setCell ⟨w.heap.size + 1, 0, none⟩ s0).setCell ⟨w.heap.size + 1, 1, none⟩ s1).heap[w.heap.size + 1]? = some (.cells #[s0, s1] 134 (0, 0)) ∧ Kp 134 wI ((wI.setCell ⟨w.heap.size + 1, 0, none⟩ s0).setCell ⟨w.heap.size + 1, 1, none⟩ s1) ∧ Below w.heap.size w ((wI.setCell ⟨w.heap.size + 1, 0, none⟩ s0).setCell ⟨w.heap.size + 1, 1, none⟩ s1)) := fun s0 s1 =>
  ⟨row_setCell (row_setCell HRb.out), (Kp.set HRb.out _).trans (Kp.set (row_setCell HRb.out) _), (HBf.out.setCell (by show w.heap.size ≤ w.heap.size + 1; omega) _).setCell (by show w.heap.size ≤ w.heap.size + 1; omega) _⟩
 clear HT hR hIa hO hk1 hv1 hap hW hTk hTv HP HKK HM HC HK HRs HBw HSz
 go_wp2_with fail
 go_region
 obtain ⟨hF1, hF2, hF3⟩ := HF.out (.slice ka L kc) (.slice va L vc)
 generalize (wI.setCell ⟨w.heap.size + 1, 0, none⟩ (.slice ka L kc)).setCell ⟨w.heap.size + 1, 1, none⟩ (.slice va L vc) = Wf at *
 have hdr : Below Wf.heap.size Wf Wf.drew := (Below.refl _ _).drew
 have HX := hid ((Reads.keep HR.out (HIa.out (by omega)) hF2 (by decide)).1.below hdr)
 have HXB := hid ((Reads.keep HR.out (HIa.out (by omega)) hF2 (by decide)).2.below hdr)
 have HTk2 := hid ((HTk.out.keep hF2 (by decide) (by decide)).below hdr)
 have HTv2 := hid ((HTv.out.keep hF2 (by decide) (by decide)).below hdr)
 have HBd := hid hF3.drew
 obtain ⟨g0, g1⟩ := two_cells (block_below hF1 hdr)
 clear HF hF1 hF2 hF3 HR HIa HTk HTv HRb HBf x0 x1 x2 x3 x4 x5 y0 y1 z0 z1 f0 f1 hdr
 generalize Wf.drew = Wd at *
 go_wp2
 exact bodyPost_ret (v := .tuple #[.slice a n cap, .agg #[.slice ka L kc, .slice va L vc]]) (by simp [results, Tryz.results70, go_sem, g0, g1]) rfl ⟨a, n, cap, (ka, L, kc), (va, L, vc), rfl, HX.out, HXB.out, HTk2.out, HTv2.out, HBd.out⟩
end Go.Proofs.YtjgggialnegddaaGreat
namespace Go.Proofs.YtjgggialnegddaaGreat
open Go.RowKit
def plK (c : Cf) (L : Nat) (xs : List (List Int)) (i : Nat) : List (List Int) := tblK (fun j => keyL c j (thrX c (memL c L xs i) (xs[i]?.getD []) j)) L
def plV (c : Cf) (L : Nat) (xs : List (List Int)) (i : Nat) : List (List Int) := tblK (fun j => valL c j (thrX c (memL c L xs i) (xs[i]?.getD []) j)) L
theorem memL_rows (c : Cf) (L : Nat) (xs : List (List Int)) (k : Nat) {j : Nat} (hj : j < L) : (kv (memL c L xs k) j).1 = tblK (fun i => (plK c L xs i)[j]?.getD []) k ∧ (kv (memL c L xs k) j).2 = tblK (fun i => (plV c L xs i)[j]?.getD []) k := by
 induction k with
 | zero => simp only [memL]; rw [noneM_at]; exact ⟨rfl, rfl⟩
 | succ k ih =>
  simp only [memL]
  rw [thrM_at _ _ _ hj]
  simp only
  rw [ih.1, ih.2, ← tblK_snoc, ← tblK_snoc]
  refine ⟨?_, ?_⟩
  ·congr 2
   unfold plK
   rw [tblK_at _ hj]
  ·congr 2
   unfold plV
   rw [tblK_at _ hj]
theorem flatP_app (ps : List Hp) (x y : Hd) : flatP ps ++ [hdV x, hdV y] = flatP (ps ++ [(x, y)]) := by
 induction ps with
 | nil => rfl
 | cons p r ih => simp only [flatP, List.cons_append, ih]
structure PlO (W : World) (S : Nat) (v : Value) (k : Nat) (ps : List Hp) (KK VV : Nat → List (List Int)) : Prop where
 own : W.ownsRow S 134 2 v k (flatP ps)
 rows : ∀ i, i < k → TbH W (pk ps i).1 (KK i) ∧ TbH W (pk ps i).2 (VV i)
theorem PlO.nil (W : World) (S : Nat) (KK VV : Nat → List (List Int)) : PlO W S (.slice none 0 0) 0 [] KK VV := ⟨World.ownsRow_nil _ _ _ _, fun i hi => absurd hi (by omega)⟩
theorem PlO.below {W W' : World} {S : Nat} {v : Value} {k : Nat} {ps : List Hp} {KK VV : Nat → List (List Int)} (h : PlO W S v k ps KK VV) (hb : Below W.heap.size W W') : PlO W' S v k ps KK VV :=
 ⟨own_below h.own hb, fun i hi => ⟨(h.rows i hi).1.below hb, (h.rows i hi).2.below hb⟩⟩
theorem PlO.len {W : World} {S : Nat} {v : Value} {k : Nat} {ps : List Hp} {KK VV : Nat → List (List Int)} (h : PlO W S v k ps KK VV) : ps.length = k := by have := h.own.1; rw [flatP_len] at this; omega
theorem PlO.at {W : World} {S : Nat} {v : Value} {k : Nat} {ps : List Hp} {KK VV : Nat → List (List Int)} (h : PlO W S v k ps KK VV) : ∃ a cap, v = .slice a k cap ∧ PlsAt W a k cap ps KK VV := by
 have hl := h.len
 rcases id h.own.2 with ⟨rfl, rfl⟩ | ⟨g, cap, cur, rfl, hb, hg, hnc, hm, hs', ht⟩
 ·exact ⟨none, 0, rfl, ⟨Nat.le_refl _, by omega, fun i hi => absurd hi (by omega), fun i hi => absurd hi (by omega)⟩⟩
 ·refine ⟨some ⟨g, 0, none⟩, cap, rfl, ⟨hnc, by unfold maxLen at hm; omega, fun i hi => ⟨g, 0, rfl, ?_, ?_⟩, h.rows⟩⟩
  ·rw [Nat.zero_add, World.ownsRow.cellAt h.own (i * 2) (by omega)]
   exact flatP_at0 ps i (by omega)
  ·rw [Nat.zero_add, World.ownsRow.cellAt h.own (i * 2 + 1) (by omega)]
   exact flatP_at1 ps i (by omega)
theorem own_typeN {w : World} {base e size n : Nat} {v : Value} {vals : List Value} (ho : w.ownsRow base e size v n vals) {o : Nat} (h : v.ownBlock = some o) : ∃ cur, w.heap[o]? = some (.cells cur e (0, 0)) := by
 rcases ho.2 with ⟨rfl, _⟩ | ⟨g, cap, cur, rfl, _, hg, _⟩
 ·simp [Value.ownBlock] at h
 ·simp [Value.ownBlock] at h
  subst h
  exact ⟨cur, hg⟩
theorem grown_kpN {w w' : World} {base e size n : Nat} {v : Value} {xs : List Value} (ho : w.ownsRow base e size v n xs) (hg : w.grownBy w' v.ownBlock) : Kp e w w' := by
 intro k cur t fz hk ht
 rw [hg.block k (lt_of_block hk) (fun h => ?_)]
 ·exact hk
 ·obtain ⟨c, hc⟩ := own_typeN ho h.symm
  rw [hk] at hc
  simp at hc
  exact ht hc.2.1
theorem MemB.keep {T : TypeId} {W W' : World} {B g : Nat} {M : List KV} {ps : List Hp} (h : MemB W B g M ps) (hk : Kp T W W') (h1 : 2 ≠ T) (h2 : 131 ≠ T) (h3 : 229 ≠ T) (h4 : 226 ≠ T) : MemB W' B g M ps := by
 obtain ⟨cur, hc⟩ := h.own.blk
 exact ⟨hk _ _ _ _ h.var h3, own_same h.own ((hk _ _ _ _ hc h4).trans hc.symm), fun i hi => ⟨(h.rows i hi).1.keep hk h1 h2, (h.rows i hi).2.keep hk h1 h2⟩⟩
theorem MemAt.keep {T : TypeId} {W W' : World} {p : Option Addr} {M : List KV} (h : MemAt W p M) (hk : Kp T W W') (h1 : 2 ≠ T) (h2 : 131 ≠ T) (h3 : 229 ≠ T) (h4 : 226 ≠ T) : MemAt W' p M := by
 rcases h with h | ⟨B, g, ps, hp, h⟩
 ·exact .inl h
 ·exact .inr ⟨B, g, ps, hp, h.keep hk h1 h2 h3 h4⟩
theorem Tryz.infoPl : (Tryz.prog.info? 134).map (fun i => (i.zero, i.size, i.bytes)) = some (some (.agg #[.slice none 0 0, .slice none 0 0]), 2, 48) := by kernel_rfl
theorem append_place {P : Program} (w : World) {ops : Array Oper} {rest : List Oper} {o : Oper} {a : Act} {Q : Exit → Act → World → Prop} (hgd : o.guard = none) (s x : Operand) (t : TypeId)
  (ho : o.op = .call { callee := .builtin .append, args := #[s, x], argTypes := #[t, t] })
  (base : Nat) (i : TypeInfo) (ht : P.underlying t = some (.slice 134)) (hi : P.info? 134 = some i) (hz : i.zero = some (.agg #[.slice none 0 0, .slice none 0 0])) (hsize : i.size = 2) (hby : i.bytes = 48)
  (v : Value) (n : Nat) (xs : List Value) (hv : a.eval s = v) (hown : w.ownsRow base 134 2 v n xs) (hn : n ≤ 100000)
  (B : Nat) (y z : Hd) (hx : a.eval x = .slice (some ⟨B, 0, none⟩) 1 1) (hc0 : w.cell? ⟨B, 0, none⟩ = some (hdV y)) (hc1 : w.cell? ⟨B, 1, none⟩ = some (hdV z))
  (hbase : base ≤ w.heap.size)
  (h : ∀ v' w', w'.ownsRow base 134 2 v' (n + 1) (xs ++ [hdV y, hdV z]) → w.grownBy w' v.ownBlock → wpList P ops Q rest (a.put o.dst v') w') : wpList P ops Q (o :: rest) a w := by
 refine wpList_append_own w hgd s x t ho base 134 i (.agg #[.slice none 0 0, .slice none 0 0]) 2 48 ht hi hz hsize hby rfl (by decide) v n _ hv hown ⟨B, 0, none⟩ 1 1 [hdV y, hdV z] hx rfl ?_ ?_ (by unfold maxLen; omega) (by omega) hbase ?_
 ·intro j u hu
  rcases j with _ | _ | j
  ·simp at hu
   rw [Addr.add_lit, Nat.zero_add, hc0, hu]
  ·simp at hu
   rw [Addr.add_lit, Nat.zero_add, hc1, hu]
  ·simp at hu
 ·intro u hu
  simp at hu
  rcases hu with rfl | rfl <;> rfl
 ·intro v' w' h1 h2 _
  exact h v' w' h1 h2
theorem PlO.snoc {w2 w3 : World} {S : Nat} {v v' : Value} {k : Nat} {ps : List Hp} {KK VV : Nat → List (List Int)} {x y : Hd} {o : Obj} (h : PlO w2 S v k ps KK VV) (hx : TbH w2 x (KK k)) (hy : TbH w2 y (VV k))
  (ho : w3.ownsRow S 134 2 v' (k + 1) (flatP ps ++ [hdV x, hdV y])) (hg : (w2.alloc o).grownBy w3 v.ownBlock) : PlO w3 S v' (k + 1) (ps ++ [(x, y)]) KK VV ∧ Kp 134 w2 w3 := by
 have ha : Below w2.heap.size w2 (w2.alloc o) := (Below.refl _ _).alloc (Nat.le_refl _) _
 have h1 := h.below ha
 have hK : Kp 134 w2 w3 := (kp_below ha).trans (grown_kpN h1.own hg)
 have hl := h.len
 refine ⟨⟨by rw [← flatP_app]; exact ho, fun i hi => ?_⟩, hK⟩
 have e : pk (ps ++ [(x, y)]) i = if i < k then pk ps i else (x, y) := at_snoc ps (x, y) _ hl hi
 rw [e]
 by_cases hk : i < k
 ·rw [if_pos hk]
  obtain ⟨a1, a2⟩ := h.rows i hk
  exact ⟨a1.keep hK (by decide) (by decide), a2.keep hK (by decide) (by decide)⟩
 ·obtain rfl : i = k := by omega
  rw [if_neg hk]
  exact ⟨hx.keep hK (by decide) (by decide), hy.keep hK (by decide) (by decide)⟩
end Go.Proofs.YtjgggialnegddaaGreat
namespace Go.Proofs.YtjgggialnegddaaGreat
open Go.RowKit
noncomputable def nextZ (c : Cf) (zs : List Int) (s p : Int) : Int := drawZ (rowK (smarkZ c zs) c.vocab.toNat) c.top c.heat s p
set_option maxHeartbeats 1000000 in
theorem rnext_any (c : Cf) (a : Option Addr) (len cap : Nat) (zs : List Int) (s0 p0 : Int) (w : World) (hm : mayB c = true) (ha : Reads .i64 w a len cap zs) (hlen : len ≤ 1000) :
  Calls Tryz.prog 74 #[.agg (CfV c), .slice a len cap, .int .u64 s0, .int .u64 p0] w fun e w' => e = .returned (.int .i64 (nextZ c zs s0 p0)) ∧ Below w.heap.size w w' := by
 have hmp := may_parts hm
 obtain ⟨V, hV⟩ : ∃ V, c.vocab.toNat = V := ⟨_, rfl⟩
 have hV64 : V ≤ 64 := by omega
 obtain ⟨wA, hwA⟩ : ∃ wA, wA = w.alloc (.cells (CfV c) 24) := ⟨_, rfl⟩
 have HB0 : Hid (Below w.heap.size w wA) := by unfold Hid; rw [hwA]; exact (Below.refl _ _).alloc (Nat.le_refl _) _
 have HK := hid fun (W : World) (hb : Below wA.heap.size wA W) => Cf_cells (block_below (show wA.heap[w.heap.size]? = some (.cells (CfV c) 24 (0, 0)) by rw [hwA]; exact heap_alloc_new w _) hb)
 have HMk := hid fun (W : World) (hb : Below wA.heap.size wA W) => rmarks_any c a len cap zs W hm ((ha.below HB0.out).below hb) hlen
 rw [hV] at HMk
 have HDr := hid fun (W : World) a' c' (hr : Reads .i64 W a' V c' (rowK (smarkZ c zs) V)) => rdraw_any a' V c' (rowK (smarkZ c zs) V) c.top c.heat s0 p0 W hr (by omega)
 have HNx : Hid (drawZ (rowK (smarkZ c zs) V) c.top c.heat s0 p0 = nextZ c zs s0 p0) := by unfold Hid nextZ; rw [hV]
 rw [HNx.out] at HDr
 clear ha hm hmp hV HNx
 generalize rowK (smarkZ c zs) V = ms at *
 generalize nextZ c zs s0 p0 = td at *
 obtain ⟨s, v, d, l, tt, h⟩ := c
 unfold CfV at HMk hwA ⊢
 simp only at HK HMk HDr hwA ⊢
 go_enter Tryz.func74, Tryz.ntmps74
 go_wp2_with fail
 rw [← hwA]
 have HV : Hid (Below wA.heap.size wA wA.drew) := (Below.refl _ _).drew
 have HX : Hid (∀ W : World, Below wA.heap.size wA W → Below w.heap.size w W) := fun W hW => HB0.out.trans (hW.mono HB0.out.size)
 clear hwA HB0
 go_region_held3 (fun W : World => W.cell? ⟨w.heap.size, 0, none⟩ = some (.int .u64 s) ∧ W.cell? ⟨w.heap.size, 1, none⟩ = some (.int .i64 v) ∧ W.cell? ⟨w.heap.size, 2, none⟩ = some (.int .i64 d) ∧ W.cell? ⟨w.heap.size, 3, none⟩ = some (.int .i64 l) ∧ W.cell? ⟨w.heap.size, 4, none⟩ = some (.int .i64 tt) ∧ W.cell? ⟨w.heap.size, 5, none⟩ = some (.int .i64 h)) (first | (with_reducible exact HK.out _ (Below.refl _ _)) | (with_reducible exact HK.out _ HV.out))
  (first
   | (go_at_call 103; (with_reducible refine (HMk.out _ HV.out).mono ?_); rintro e y1 ⟨u1, rfl, ho, hb⟩; replace HV := hid (HV.out.trans (hb.mono HV.out.size)); obtain ⟨p1, q1, rfl, hr1⟩ := Reads.own (k := .i64) ho; have HR1 := hid hr1; clear hb ho hr1)
   | (go_at_call 102; (with_reducible refine (HDr.out _ _ _ HR1.out).mono ?_); rintro e y2 ⟨rfl, hb⟩; replace HV := hid (HV.out.trans (hb.mono HV.out.size)); clear hb))
 all_goals
  go_wp2_with fail
  go_ret
  exact ⟨rfl, HX.out _ HV.out⟩
set_option maxHeartbeats 1000000 in
theorem snext_any (pm : Option Addr) (c : Cf) (a : Option Addr) (len cap : Nat) (zs : List Int) (s0 p0 : Int) (w : World) (hp : MdAt w pm c) (hm : mayB c = true) (ha : Reads .i64 w a len cap zs) (hlen : len ≤ 1000) :
  Calls Tryz.prog 149 #[.pointer pm, .slice a len cap, .int .u64 s0, .int .u64 p0] w fun e w' => e = .returned (.int .i64 (nextZ c zs s0 p0)) ∧ Below w.heap.size w w' := by
 have hmp := may_parts hm
 obtain ⟨V, hV⟩ : ∃ V, c.vocab.toNat = V := ⟨_, rfl⟩
 have hV64 : V ≤ 64 := by omega
 have hC := config_any pm c w hp
 have HMk := hid fun (W : World) (hb : Below w.heap.size w W) => smarks_any pm c a len cap zs W (hp.below hb) hm (ha.below hb) hlen
 rw [hV] at HMk
 have HDr := hid fun (W : World) a' c' (hr : Reads .i64 W a' V c' (rowK (smarkZ c zs) V)) => draw_any a' V c' (rowK (smarkZ c zs) V) c.top c.heat s0 p0 W hr (by omega)
 have HNx : Hid (drawZ (rowK (smarkZ c zs) V) c.top c.heat s0 p0 = nextZ c zs s0 p0) := by unfold Hid nextZ; rw [hV]
 rw [HNx.out] at HDr
 clear ha hm hmp hV HNx hp
 generalize rowK (smarkZ c zs) V = ms at *
 generalize nextZ c zs s0 p0 = td at *
 obtain ⟨s, v, d, l, tt, h⟩ := c
 unfold CfV at hC
 simp only at hC HDr ⊢
 go_enter Tryz.func149, Tryz.ntmps149
 go_wp2_with fail
 refine hC.mono ?_
 rintro e w1 ⟨rfl, hb⟩
 obtain ⟨wA, hwA⟩ : ∃ wA, wA = w1.alloc (.cells #[.int .u64 s, .int .i64 v, .int .i64 d, .int .i64 l, .int .i64 tt, .int .i64 h] 24) := ⟨_, rfl⟩
 have hB1 : Below w1.heap.size w1 wA := by rw [hwA]; exact (Below.refl _ _).alloc (Nat.le_refl _) _
 have HBA := hid (hb.trans (hB1.mono hb.size))
 have HK := hid fun (W : World) (hbW : Below wA.heap.size wA W) => Cf_cells (c := ⟨s, v, d, l, tt, h⟩) (block_below (show wA.heap[w1.heap.size]? = some (.cells (CfV ⟨s, v, d, l, tt, h⟩) 24 (0, 0)) by rw [hwA]; exact heap_alloc_new w1 _) hbW)
 simp only at HK
 have HX : Hid (∀ W : World, Below wA.heap.size wA W → Below w.heap.size w W) := fun W hW => HBA.out.trans (hW.mono HBA.out.size)
 have HV : Hid (Below wA.heap.size wA wA.drew) := (Below.refl _ _).drew
 clear hC hb hB1 HBA
 go_wp2_with fail
 rw [← hwA]
 clear hwA
 go_region_held3 (fun W : World => W.cell? ⟨w1.heap.size, 0, none⟩ = some (.int .u64 s) ∧ W.cell? ⟨w1.heap.size, 1, none⟩ = some (.int .i64 v) ∧ W.cell? ⟨w1.heap.size, 2, none⟩ = some (.int .i64 d) ∧ W.cell? ⟨w1.heap.size, 3, none⟩ = some (.int .i64 l) ∧ W.cell? ⟨w1.heap.size, 4, none⟩ = some (.int .i64 tt) ∧ W.cell? ⟨w1.heap.size, 5, none⟩ = some (.int .i64 h)) (first | (with_reducible exact HK.out _ (Below.refl _ _)) | (with_reducible exact HK.out _ HV.out))
  (first
   | (go_at_call 176; (with_reducible refine (HMk.out _ (HX.out _ HV.out)).mono ?_); rintro e y1 ⟨g1, q1, rfl, ho, hb⟩; replace HV := hid (HV.out.trans (hb.mono HV.out.size)); have HR1 := hid ho.reads; clear hb ho)
   | (go_at_call 175; (with_reducible refine (HDr.out _ _ _ HR1.out).mono ?_); rintro e y2 ⟨rfl, hb⟩; replace HV := hid (HV.out.trans (hb.mono HV.out.size)); clear hb))
 all_goals
  go_wp2_with fail
  go_ret
  exact ⟨rfl, HX.out _ HV.out⟩
end Go.Proofs.YtjgggialnegddaaGreat
namespace Go.Proofs.YtjgggialnegddaaGreat
open Go.RowKit
def tvL (c : Cf) (ts : List Int) (i : Nat) : List Int := addL (tokL c (ts[i]?.getD 0)) (plL c i)
def tvsL (c : Cf) (ts : List Int) : List (List Int) := tblK (tvL c ts) ts.length
theorem tvsL_at (c : Cf) (ts : List Int) {i : Nat} (h : i < ts.length) : (tvsL c ts)[i]?.getD [] = tvL c ts i := tblK_at _ h
def outK (c : Cf) (ts : List Int) : Nat → List Int
 | 0 => []
 | k + 1 => madeL c c.layers.toNat (tvsL c ts) k
noncomputable def toldZ (c : Cf) (ts : List Int) (seed : Int) : Int := nextZ c (outK c ts ts.length) seed ts.length
noncomputable def refL (c : Cf) (seed : Int) : List Int → Nat → List Int
 | _, 0 => []
 | ts, m + 1 => if 256 ≤ ts.length then [] else if toldZ c ts seed = 0 then [] else toldZ c ts seed :: refL c seed (ts ++ [toldZ c ts seed]) m
def mayJ (v most : Int) (ts : List Int) : Bool := decide (0 ≤ most) && (decide (most ≤ 256) && (decide (ts.length ≤ 255) && ts.all fun t => decide (0 ≤ t) && decide (t < v)))
theorem tvL_len {c : Cf} (h : mayB c = true) (ts : List Int) (i : Nat) : (tvL c ts i).length ≤ 16 := by
 unfold tvL; rw [addL_len]; have := tokL_len h (ts[i]?.getD 0); omega
theorem tvs_len {c : Cf} (h : mayB c = true) (ts : List Int) (i : Nat) : ((tvsL c ts)[i]?.getD []).length ≤ 16 := by
 by_cases hi : i < ts.length
 ·rw [tvsL_at c ts hi]; exact tvL_len h ts i
 ·rw [List.getElem?_eq_none (by unfold tvsL; rw [tblK_len]; omega)]; simp
theorem outK_len {c : Cf} (h : mayB c = true) (ts : List Int) (k : Nat) : (outK c ts k).length ≤ 16 := by
 cases k with
 | zero => simp [outK]
 | succ k => exact Nat.le_trans (thrX_len _ _ _ _) (tvs_len h ts k)
theorem memL_ext (c : Cf) (L : Nat) {xs ys : List (List Int)} : ∀ k, (∀ i, i < k → xs[i]?.getD [] = ys[i]?.getD []) → memL c L xs k = memL c L ys k := by
 intro k
 induction k with
 | zero => intro _; rfl
 | succ k ih => intro h; simp only [memL]; rw [ih fun i hi => h i (by omega), h k (by omega)]
theorem madeL_ext (c : Cf) (L : Nat) {xs ys : List (List Int)} {k : Nat} (h : ∀ i, i < k + 1 → xs[i]?.getD [] = ys[i]?.getD []) : madeL c L xs k = madeL c L ys k := by
 unfold madeL; rw [memL_ext c L k fun i hi => h i (by omega), h k (by omega)]
theorem tvs_app (c : Cf) (ts us : List Int) {i : Nat} (h : i < ts.length) : (tvsL c (ts ++ us))[i]?.getD [] = (tvsL c ts)[i]?.getD [] := by
 rw [tvsL_at _ _ h, tvsL_at _ _ (by rw [List.length_append]; omega)]
 unfold tvL
 rw [List.getElem?_append_left h]
theorem memL_app (c : Cf) (L : Nat) (ts us : List Int) {k : Nat} (h : k ≤ ts.length) : memL c L (tvsL c (ts ++ us)) k = memL c L (tvsL c ts) k := memL_ext c L k fun i hi => tvs_app c ts us (by omega)
theorem outK_app (c : Cf) (ts us : List Int) {k : Nat} (h : k ≤ ts.length) : outK c (ts ++ us) k = outK c ts k := by
 cases k with
 | zero => rfl
 | succ k => exact madeL_ext c _ fun i hi => tvs_app c ts us (by omega)
theorem refL_succ (c : Cf) (seed : Int) (ts : List Int) (m : Nat) : refL c seed ts (m + 1) = if 256 ≤ ts.length then [] else if toldZ c ts seed = 0 then [] else toldZ c ts seed :: refL c seed (ts ++ [toldZ c ts seed]) m := rfl
theorem refL_len (c : Cf) (seed : Int) : ∀ m ts, (refL c seed ts m).length ≤ m := by
 intro m
 induction m with
 | zero => intro ts; simp [refL]
 | succ m ih =>
  intro ts
  rw [refL_succ]
  split
  ·simp
  ·split
   ·simp
   ·have := ih (ts ++ [toldZ c ts seed]); simp; omega
theorem refL_less (c : Cf) (seed : Int) : ∀ m ts k, k ≤ m → refL c seed ts k = (refL c seed ts m).take k := by
 intro m
 induction m with
 | zero =>
  intro ts k hk
  obtain rfl : k = 0 := by omega
  simp [refL]
 | succ m ih =>
  intro ts k hk
  cases k with
  | zero => simp [refL]
  | succ k =>
   rw [refL_succ, refL_succ]
   by_cases h1 : 256 ≤ ts.length
   ·rw [if_pos h1, if_pos h1]; simp
   ·rw [if_neg h1, if_neg h1]
    by_cases h2 : toldZ c ts seed = 0
    ·rw [if_pos h2, if_pos h2]; simp
    ·rw [if_neg h2, if_neg h2, List.take_succ_cons, ih _ k (by omega)]
theorem refL_rest (c : Cf) (seed : Int) : ∀ k m ts, k ≤ (refL c seed ts m).length → (refL c seed ts m).drop k = refL c seed (ts ++ (refL c seed ts m).take k) (m - k) := by
 intro k
 induction k with
 | zero => intro m ts _; simp
 | succ k ih =>
  intro m ts h
  cases m with
  | zero => simp [refL] at h
  | succ m =>
   rw [refL_succ] at h ⊢
   by_cases h1 : 256 ≤ ts.length
   ·rw [if_pos h1] at h; simp at h
   ·rw [if_neg h1] at h ⊢
    by_cases h2 : toldZ c ts seed = 0
    ·rw [if_pos h2] at h; simp at h
    ·rw [if_neg h2] at h ⊢
     simp only [List.length_cons] at h
     rw [List.drop_succ_cons, List.take_succ_cons, Nat.add_sub_add_right, ih m _ (by omega), List.append_assoc]
     rfl
theorem refL_stop {c : Cf} {seed : Int} {ts : List Int} {m : Nat} (h : m = 0 ∨ 256 ≤ ts.length ∨ toldZ c ts seed = 0) : refL c seed ts m = [] := by
 cases m with
 | zero => rfl
 | succ m =>
  rw [refL_succ]
  by_cases h1 : 256 ≤ ts.length
  ·rw [if_pos h1]
  ·rw [if_neg h1, if_pos (by omega)]
theorem refL_go {c : Cf} {seed : Int} {ts : List Int} {m : Nat} (h1 : ts.length < 256) (h2 : toldZ c ts seed ≠ 0) : refL c seed ts (m + 1) = toldZ c ts seed :: refL c seed (ts ++ [toldZ c ts seed]) m := by
 rw [refL_succ, if_neg (by omega), if_neg h2]
end Go.Proofs.YtjgggialnegddaaGreat
