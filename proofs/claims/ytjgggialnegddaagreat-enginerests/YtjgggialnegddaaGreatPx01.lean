/-
  RThroughs: Contract: the document's Through.
-/
import Derived.Test.YtjgggialnegddaaGreatPk05
import Derived.Test.YtjgggialnegddaaGreatPk06
namespace Go.Proofs.YtjgggialnegddaaGreat
open Go.RowKit
set_option linter.unusedVariables false
set_option maxRecDepth 1000000

/-- What the document's Through hands back. -/
def RThr (w : World) (X : List Int) (K V : List (List Int)) (e : Ending) (w' : World) : Prop := ∃ (a : Option Addr) (n cap : Nat) (x y : Hd), e = .returned (.tuple #[.slice a n cap, .agg #[.slice x.1 x.2.1 x.2.2, .slice y.1 y.2.1 y.2.2]]) ∧ Reads .i64 w' a n cap X ∧ TbH w' x K ∧ TbH w' y V ∧ Below w.heap.size w w'
/-- The like, and what is made lies in a block of numbers. -/
def RThrB (w : World) (X : List Int) (K V : List (List Int)) (e : Ending) (w' : World) : Prop := ∃ (a : Option Addr) (n cap : Nat) (x y : Hd), e = .returned (.tuple #[.slice a n cap, .agg #[.slice x.1 x.2.1 x.2.2, .slice y.1 y.2.1 y.2.2]]) ∧ Reads .i64 w' a n cap X ∧ BlI w' a ∧ TbH w' x K ∧ TbH w' y V ∧ Below w.heap.size w w'
theorem RThrB.thr {w w' : World} {X : List Int} {K V : List (List Int)} {e : Ending} (h : RThrB w X K V e w') : RThr w X K V e w' := by
  obtain ⟨a, n, cap, x, y, h1, h2, _, h3, h4, h5⟩ := h
  exact ⟨a, n, cap, x, y, h1, h2, h3, h4, h5⟩
/-- What stands between the layers of the document's Through. -/
def RTAt (w wA : World) (c : Cf) (M : List KV) (zs : List Int) (j : Nat) (u : Value) (W : World) : Prop :=
  ∃ (a : Option Addr) (n cap : Nat) (ku vu : Value) (hk hv : List Hd), u = .slice a n cap ∧ n ≤ 1000 ∧ Reads .i64 W a n cap (thrX c M zs j) ∧ (0 < j → BlI W a) ∧ W.heap[w.heap.size + 2]? = some (.cells #[ku, vu] 134 (0, 0)) ∧
    RowsI W wA.heap.size ku j hk (tblK (fun i => keyL c i (thrX c M zs i)) j) ∧ RowsI W wA.heap.size vu j hv (tblK (fun i => valL c i (thrX c M zs i)) j) ∧ Apart ku vu ∧ Below (w.heap.size + 2) wA W
/-- What stands between the places of a layer. -/
def RIAt (wI : World) (KK VV : Nat → List (List Int)) (j i : Nat) (u v : Value) (W : World) : Prop :=
  ∃ (hk hv : List Hd), RowsI W wI.heap.size u i hk (tblK (fun x => (KK x)[j]?.getD []) i) ∧ RowsI W wI.heap.size v i hv (tblK (fun x => (VV x)[j]?.getD []) i) ∧ Apart u v ∧ Below wI.heap.size wI W
theorem own_slice {w : World} {b e n : Nat} {v : Value} {xs : List Value} (h : w.ownsRow b e 1 v (n + 1) xs) : ∃ g c, v = .slice (some ⟨g, 0, none⟩) (n + 1) c := by
  rcases id h.2 with ⟨_, h0⟩ | ⟨g, c, cur, rfl, _⟩
  · omega
  · exact ⟨g, c, rfl⟩
theorem new_cellB (w : World) (u : Value) (T : TypeId) {B : Nat} (hB : w.heap.size = B) : (w.alloc (.cells #[u] T)).cell? ⟨B, 0, none⟩ = some u := by subst hB; exact new_cell w u T
theorem size_set (w : World) (p : Addr) (u : Value) : (w.setCell p u).heap.size = w.heap.size := by simp [World.setCell]
theorem three_cells {W : World} {g : Nat} {x y z : Value} {T : TypeId} (h : W.heap[g]? = some (.cells #[x, y, z] T (0, 0))) : W.cell? ⟨g, 0, none⟩ = some x ∧ W.cell? ⟨g, 1, none⟩ = some y ∧ W.cell? ⟨g, 2, none⟩ = some z :=
  ⟨by rw [cell_of_row _ _ _ _ _ _ h]; rfl, by rw [cell_of_row _ _ _ _ _ _ h]; rfl, by rw [cell_of_row _ _ _ _ _ _ h]; rfl⟩
theorem grown_kp {w w' : World} {base e n : Nat} {v : Value} {xs : List Value} (ho : w.ownsRow base e 1 v n xs) (hg : w.grownBy w' v.ownBlock) : Kp e w w' := by
  intro k cur t fz hk ht
  rw [hg.block k (lt_of_block hk) (fun h => ?_)]
  · exact hk
  · obtain ⟨c, hc⟩ := own_type ho h.symm
    rw [hk] at hc
    simp at hc
    exact ht hc.2.1
theorem kp_below {T : TypeId} {W W' : World} (hb : Below W.heap.size W W') : Kp T W W' := fun k cur t fz hk _ => (hb.block k (lt_of_block hk)).trans hk
theorem RIAt.half {S B : Nat} {w0 w2 w3 : World} {i n2 : Nat} {u v u' : Value} {hk hv : List Hd} {ls ls2 : List (List Int)} {zs : List Int} {y : Hd} {o : Obj}
    (hO1 : RowsI w2 S u i hk ls) (hO2 : RowsI w2 S v n2 hv ls2) (hap : Apart u v) (hW : Below B w0 w2) (hBS : B ≤ S) (hS : S ≤ w2.heap.size)
    (hr : Reads .i64 w2 y.1 y.2.1 y.2.2 zs) (h5 : BlI w2 y.1) (hy : y.2.1 ≤ 1000) (ho : w3.ownsRow S 131 1 u' (i + 1) (hk.map hdV ++ [hdV y])) (hg : (w2.alloc o).grownBy w3 u.ownBlock) (hm : Moved (w2.alloc o) u u') :
    RowsI w3 S u' (i + 1) (hk ++ [y]) (ls ++ [zs]) ∧ RowsI w3 S v n2 hv ls2 ∧ Apart u' v ∧ Below B w0 w3 ∧ Kp 131 w2 w3 ∧ ∀ k, k < S → w3.heap[k]? = w2.heap[k]? := by
  have ha : Below w2.heap.size w2 (w2.alloc o) := (Below.refl _ _).alloc (Nat.le_refl _) _
  have h1 := hO1.below ha
  have h2 := hO2.below ha
  have hb2 : Below B w0 (w2.alloc o) := hW.trans (ha.mono (Nat.le_trans hBS hS))
  have hs3 : S ≤ (w2.alloc o).heap.size := Nat.le_trans hS ha.size
  refine ⟨h1.snoc (hr.below ha) (h5.below ha) hy ho hg, RowsI.kept2 h1.own h2 hap hg, hap.moved hm h2.own, hb2.grown hg (Nat.le_trans hBS hs3) fun g hg => Nat.le_trans hBS (h1.own.lt g hg).1, (kp_below ha).trans (grown_kp h1.own hg), fun k hk => ?_⟩
  rw [hg.block k (by omega) (fun h => ?_)]
  · exact ha.block k (by omega)
  · have := (h1.own.lt k h.symm).1
    omega
/-- The like, and the new row is put into its variable. -/
theorem place_half {S B O sl : Nat} {w0 w2 w3 : World} {i n2 : Nat} {u v u' : Value} {hk hv : List Hd} {ls ls2 : List (List Int)} {zs : List Int} {y : Hd} {o : Obj} {cs : Array Value}
    (hOw : w2.heap[O]? = some (.cells cs 134 (0, 0))) (hO1 : RowsI w2 S u i hk ls) (hO2 : RowsI w2 S v n2 hv ls2) (hap : Apart u v) (hW : Below B w0 w2) (hBO : B ≤ O) (hOS : O < S) (hS : S ≤ w2.heap.size)
    (hr : Reads .i64 w2 y.1 y.2.1 y.2.2 zs) (h5 : BlI w2 y.1) (hy : y.2.1 ≤ 1000) (ho : w3.ownsRow S 131 1 u' (i + 1) (hk.map hdV ++ [hdV y])) (hg : (w2.alloc o).grownBy w3 u.ownBlock) (hm : Moved (w2.alloc o) u u') :
    w3.heap[O]? = some (.cells cs 134 (0, 0)) ∧ (w3.setCell ⟨O, sl, none⟩ u').heap[O]? = some (.cells (cs.setIfInBounds sl u') 134 (0, 0)) ∧
    RowsI (w3.setCell ⟨O, sl, none⟩ u') S u' (i + 1) (hk ++ [y]) (ls ++ [zs]) ∧ RowsI (w3.setCell ⟨O, sl, none⟩ u') S v n2 hv ls2 ∧ Apart u' v ∧ Below B w0 (w3.setCell ⟨O, sl, none⟩ u') ∧
    (∀ a n c xs, Reads .i64 w2 a n c xs → BlI w2 a → Reads .i64 (w3.setCell ⟨O, sl, none⟩ u') a n c xs ∧ BlI (w3.setCell ⟨O, sl, none⟩ u') a) ∧
    (∀ (k : Nat) (cur : Array Value) (fz : Nat × Nat), w2.heap[k]? = some (.cells cur 166 fz) → (w3.setCell ⟨O, sl, none⟩ u').heap[k]? = some (.cells cur 166 fz)) ∧ S ≤ (w3.setCell ⟨O, sl, none⟩ u').heap.size := by
  obtain ⟨k1, k2, k3, k4, k5, k6⟩ := RIAt.half hO1 hO2 hap hW (by omega) hS hr h5 hy ho hg hm
  have hO3 := (k6 O hOS).trans hOw
  have hK : Kp 134 w3 (w3.setCell ⟨O, sl, none⟩ u') := Kp.set hO3 _
  have hs3 : S ≤ w3.heap.size := Nat.le_trans hS (Nat.le_trans ((Below.refl w2.heap.size w2).alloc (Nat.le_refl _) o).size hg.size)
  refine ⟨hO3, row_setCell hO3, k1.keep hK (by decide) (by decide), k2.keep hK (by decide) (by decide), k3, k4.setCell hBO _, fun a n c xs h1 h2 => ?_, fun k cur fz h1 => hK _ _ _ _ (k5 _ _ _ _ h1 (by decide)) (by decide), by simpa [World.setCell] using hs3⟩
  obtain ⟨g1, g2⟩ := Reads.keep h1 h2 k5 (by decide)
  exact Reads.keep g1 g2 hK (by decide)

set_option maxHeartbeats 4000000 in
theorem rthrough_natB (s v d tt h : Int) (L : Nat) (la : Option Addr) (ln lc : Nat) (ps : List Hp) (KK VV : Nat → List (List Int)) (M : List KV) (a : Option Addr) (n cap : Nat) (zs : List Int) (w : World) (hc : mayB ⟨s, v, d, (L : Int), tt, h⟩ = true) (hL : L ≤ 4)
    (hp : PlsAt w la ln lc ps KK VV) (hKK : ∀ i, i < ln → (KK i).length = L ∧ (VV i).length = L) (hM : ∀ j, j < L → (kv M j).1 = tblK (fun i => (KK i)[j]?.getD []) ln ∧ (kv M j).2 = tblK (fun i => (VV i)[j]?.getD []) ln) (hln : ln ≤ 900) (hx : Reads .i64 w a n cap zs) (hn : n ≤ 1000) (L1 : 1 ≤ L) :
    Calls Tryz.prog 70 #[.agg (CfV ⟨s, v, d, (L : Int), tt, h⟩), .slice la ln lc, .slice a n cap] w fun e w' => RThrB w (thrX ⟨s, v, d, (L : Int), tt, h⟩ M zs L) (tblK (fun i => keyL ⟨s, v, d, (L : Int), tt, h⟩ i (thrX ⟨s, v, d, (L : Int), tt, h⟩ M zs i)) L) (tblK (fun i => valL ⟨s, v, d, (L : Int), tt, h⟩ i (thrX ⟨s, v, d, (L : Int), tt, h⟩ M zs i)) L) e w' := by
  obtain ⟨i1, hj, hy0, hy1, hy2⟩ := info_parts Tryz.infoS
  obtain ⟨wA, hwA⟩ : ∃ wA, wA = ((w.alloc (.cells (CfV ⟨s, v, d, (L : Int), tt, h⟩) 24)).alloc (.cells #[.slice none 0 0, .slice none 0 0] 134)).alloc (.cells #[.slice none 0 0, .slice none 0 0] 134) := ⟨_, rfl⟩
  have HB0 : Hid (Below w.heap.size w wA) := by unfold Hid; rw [hwA]; exact (((Below.refl _ _).alloc (Nat.le_refl _) _).alloc (by simp) _).alloc (by simp; omega) _
  have HSz : Hid (wA.heap.size = w.heap.size + 3) := by unfold Hid; rw [hwA]; simp
  have HK : Hid (∀ W : World, Below (w.heap.size + 2) wA W → W.cell? ⟨w.heap.size, 0, none⟩ = some (.int .u64 s) ∧ W.cell? ⟨w.heap.size, 1, none⟩ = some (.int .i64 v) ∧ W.cell? ⟨w.heap.size, 2, none⟩ = some (.int .i64 d) ∧ W.cell? ⟨w.heap.size, 3, none⟩ = some (.int .i64 (L : Int)) ∧ W.cell? ⟨w.heap.size, 4, none⟩ = some (.int .i64 tt) ∧ W.cell? ⟨w.heap.size, 5, none⟩ = some (.int .i64 h)) := by
    intro W hb
    have e1 : wA.heap[w.heap.size]? = some (.cells (CfV ⟨s, v, d, (L : Int), tt, h⟩) 24 (0, 0)) := by
      rw [hwA, Below.heap_alloc _ _ _ (by simp; omega), Below.heap_alloc _ _ _ (by simp)]; exact heap_alloc_new w _
    exact Cf_cells ((hb.block _ (by omega)).trans e1)
  have HRs : Hid (∀ W : World, Below (w.heap.size + 2) wA W → W.heap[w.heap.size + 1]? = some (.cells #[.slice none 0 0, .slice none 0 0] 134 (0, 0))) := by
    intro W hb
    have e1 : wA.heap[w.heap.size + 1]? = some (.cells #[.slice none 0 0, .slice none 0 0] 134 (0, 0)) := by
      rw [hwA, Below.heap_alloc _ _ _ (by simp)]
      have := heap_alloc_new (w.alloc (.cells (CfV ⟨s, v, d, (L : Int), tt, h⟩) 24)) (.cells #[.slice none 0 0, .slice none 0 0] 134)
      rw [World.size_alloc] at this
      exact this
    exact (hb.block _ (by omega)).trans e1
  have HOw : Hid (wA.heap[w.heap.size + 2]? = some (.cells #[.slice none 0 0, .slice none 0 0] 134 (0, 0))) := by
    unfold Hid; rw [hwA]
    have := heap_alloc_new ((w.alloc (.cells (CfV ⟨s, v, d, (L : Int), tt, h⟩) 24)).alloc (.cells #[.slice none 0 0, .slice none 0 0] 134)) (.cells #[.slice none 0 0, .slice none 0 0] 134)
    rw [World.size_alloc, World.size_alloc] at this
    exact this
  have HT0 : Hid (RTAt w wA ⟨s, v, d, (L : Int), tt, h⟩ M zs 0 (.slice a n cap) wA) := ⟨a, n, cap, .slice none 0 0, .slice none 0 0, [], [], rfl, hn, hx.below HB0.out, (fun h => absurd h (by omega)), HOw.out, RowsI.nil _ _, RowsI.nil _ _, Apart.nil _, Below.refl _ _⟩
  have HBw : Hid (∀ W : World, Below (w.heap.size + 2) wA W → Below w.heap.size w W) := fun W hb => HB0.out.trans (hb.mono (by omega))
  have HP := hid fun W (hb : Below w.heap.size w W) => hp.below hb
  have HKK := hid hKK
  have HM := hid hM
  have HC := hid hc
  have HZl : Hid (zs.length ≤ 1000) := by unfold Hid; rw [hx.size]; exact hn
  have r1 := hp.room
  have m1 := hp.most
  clear hp hKK hM hc hx HOw HB0 hn
  unfold CfV at hwA ⊢
  simp only at hwA ⊢
  go_enter Tryz.func70, Tryz.ntmps70
  go_wp2_with fail
  rw [← hwA]
  clear hwA
  go_loopw [2, 9] (fun u i W => ∃ j : Nat, j ≤ L ∧ i = .int .i64 j ∧ Hid (RTAt w wA ⟨s, v, d, (L : Int), tt, h⟩ M zs j u W)) (fun _ i _ => L - (intOf i).toNat)
  case atStart => exact ⟨0, Nat.zero_le _, rfl, HT0⟩
  case round =>
  obtain ⟨j, hjL, rfl, HT⟩ := hrel
  rename World => wI
  clear HT0
  by_cases hlt : j < L
  · obtain ⟨a, n, cap, ku, vu, hk, hv, rfl, hn, hR, hIa, hO, hk1, hv1, hap, hW⟩ := HT.out
    have HR := hid hR
    have HIa := hid hIa
    have HO := hid hO
    have HK1 := hid hk1
    have HV1 := hid hv1
    have HAp := hid hap
    have HW := hid hW
    obtain ⟨x0, x1, x2, x3, x4, x5⟩ := HK.out _ hW
    have q1 : (j : Int) < (L : Int) := by omega
    have HI0 : Hid (RIAt wI KK VV j 0 (.slice none 0 0) (.slice none 0 0) wI) := ⟨[], [], RowsI.nil _ _, RowsI.nil _ _, Apart.nil _, Below.refl _ _⟩
    clear HT hR hIa hO hk1 hv1 hap hW
    have hT4 : ∀ W : World, W.cell? ⟨w.heap.size, 3, none⟩ = W.cell? ⟨w.heap.size, 3, none⟩ := fun _ => rfl
    clear hT4
    go_wp2_with fail
    go_loopw [10, 11, 12] (fun u o i W => ∃ k : Nat, k ≤ ln ∧ i = .int .i64 k ∧ Hid (RIAt wI KK VV j k u o W)) (fun _ _ i _ => ln - (intOf i).toNat)
    case atStart => exact ⟨0, Nat.zero_le _, rfl, HI0⟩
    case round =>
    obtain ⟨k, hkl, rfl, HIk⟩ := hrel
    rename World => wr
    clear HI0
    by_cases hkn : k < ln
    · obtain ⟨hk2, hv2, hO1, hO2, hap, hWr⟩ := HIk.out
      have hBw := (HBw.out _ HW.out).trans (hWr.mono (HBw.out _ HW.out).size)
      have HBI := hid fun W (hb : Below wI.heap.size wI W) => (HBw.out _ HW.out).trans (hb.mono (HBw.out _ HW.out).size)
      obtain ⟨b0, o0, rfl, c0, c1⟩ := (HP.out w (Below.refl _ _)).cell k hkn
      obtain ⟨t1, t2⟩ := (HP.out w (Below.refl _ _)).rows k hkn
      obtain ⟨e1, e2⟩ := HKK.out k hkn
      have HO1 := hid hO1
      have HO2 := hid hO2
      have HAp2 := hid hap
      have HWr := hid hWr
      have hqk : (k : Int) < (ln : Int) := by omega
      generalize pk ps k = y at *
      obtain ⟨⟨y1, y2, y3⟩, ⟨z1, z2, z3⟩⟩ := y
      unfold hdV at c0 c1
      obtain ⟨l1, hs1, f1, _, g1⟩ := t1
      obtain ⟨l2, hs2, f2, _, g2⟩ := t2
      simp only at c0 c1 l1 l2 f1 f2 g1 g2
      obtain rfl : L = y2 := by omega
      obtain rfl : L = z2 := by omega
      obtain ⟨b1, o1, rfl, k1⟩ := f1.rd.cell j hlt
      obtain ⟨b2, o2, rfl, k2⟩ := f2.rd.cell j hlt
      have p1 := f1.rows j hlt
      have p2 := f2.rows j hlt
      have s1 := f1.short j hlt
      have s2 := f2.short j hlt
      have u1 := g1 j hlt
      have u2 := g2 j hlt
      have w1 := f1.rd.room
      have w2 := f2.rd.room
      have v1 := f1.rd.most
      have v2 := f2.rd.most
      have HP1 := hid fun W (hb : Below w.heap.size w W) => p1.below hb
      have HP2 := hid fun W (hb : Below w.heap.size w W) => p2.below hb
      have HU1 := hid fun W (hb : Below w.heap.size w W) => u1.below hb
      have HU2 := hid fun W (hb : Below w.heap.size w W) => u2.below hb
      have HC2 := hid fun W (hb : Below w.heap.size w W) => cell_later_of c1 hb
      have HC3 := hid fun W (hb : Below w.heap.size w W) => cell_later_of k2 hb
      replace c0 := cell_later_of c0 hBw
      replace k1 := cell_later_of k1 hBw
      have HNc := hid fun W u T => new_cell W u T
      have HAl : Hid (∀ (W : World) (o : Obj), Below W.heap.size W (W.alloc o)) := fun W o => (Below.refl _ _).alloc (Nat.le_refl _) _
      have HLs : Hid (wI.heap.size ≤ wr.heap.size) := HWr.out.size
      have HBr := hid hBw
      clear HIk hO1 hO2 hap hWr hBw HP HKK HM HC HR HIa HO HK1 HV1 HAp HK HRs c1 k2 p1 p2 u1 u2 f1 f2 g1 g2 l1 l2 e1 e2 x0 x1 x2 x3 x4 x5
      generalize hs1[j]?.getD (none, 0, 0) = y at *
      generalize hs2[j]?.getD (none, 0, 0) = z at *
      obtain ⟨r1', r2', r3'⟩ := y
      obtain ⟨q1', q2', q3'⟩ := z
      simp only at k1 HC3 HP1 HP2 HU1 HU2 s1 s2
      go_wp2_with (first
        | (at_builtin; refine append_one2 _ rfl (.tmp 26) (.tmp 35) 132 rfl wI.heap.size 131 i1 (.slice none 0 0) 24 Tryz.underlying132 hj hy0 hy1 hy2 rfl (by omega) _ k _ rfl (own_below HO1.out.own (HAl.out _ _)) (by omega) wr.heap.size (hdV (r1', r2', r3')) rfl rfl (HNc.out _ _ _) (Nat.le_trans HLs.out (HAl.out _ _).size) ?_; intro v1' w3 hO3 hg3 hm3; obtain ⟨a3, a4, a5, a6, _, _⟩ := RIAt.half HO1.out HO2.out HAp2.out HWr.out (Nat.le_refl _) HLs.out (HP1.out _ HBr.out) (HU1.out _ HBr.out) s1 hO3 hg3 hm3; have HO3 := hid a3; have HO4 := hid a4; have HAp3 := hid a5; have HW3 := hid a6; have HB3 := hid (HBI.out _ a6); have HLt : Hid (wI.heap.size ≤ w3.heap.size) := a6.size; have c1 := HC2.out _ HB3.out; have k2 := HC3.out _ HB3.out; clear hO3 hg3 hm3 a3 a4 a5 a6)
        | (at_builtin; refine append_one2 _ rfl (.tmp 37) (.tmp 46) 132 rfl wI.heap.size 131 i1 (.slice none 0 0) 24 Tryz.underlying132 hj hy0 hy1 hy2 rfl (by omega) _ k _ rfl (own_below HO4.out.own (HAl.out _ _)) (by omega) w3.heap.size (hdV (q1', q2', q3')) rfl rfl (HNc.out _ _ _) (Nat.le_trans HLt.out (HAl.out _ _).size) ?_; intro v2' w4 hO5 hg5 hm5; obtain ⟨a3, a4, a5, a6, _, _⟩ := RIAt.half HO4.out HO3.out HAp3.out.symm HW3.out (Nat.le_refl _) HLt.out (HP2.out _ HB3.out) (HU2.out _ HB3.out) s2 hO5 hg5 hm5))
      have HRn : Hid (RIAt wI KK VV j (k + 1) v1' v2' w4) := ⟨_, _, by rw [← tblK_snoc]; exact a4, by rw [← tblK_snoc]; exact a3, a5.symm, a6⟩
      clear hO5 hg5 hm5 a3 a4 a5 a6 HO1 HO2 HO3 HO4 HAp2 HAp3 HWr HW3 HB3 HLs HLt HNc HAl HC2 HC3 HP1 HP2 HU1 HU2 c0 c1 k1 k2 HBI HBr
      go_wp2_with fail
      go_round
      case rel => exact ⟨k + 1, by omega, by go_num, HRn⟩
      case measure => simp [intOf]; omega
    obtain rfl : ln = k := by omega
    obtain ⟨hk2, hv2, hO1, hO2, hap, hWr⟩ := HIk.out
    obtain ⟨ka, kc, rfl, hTk⟩ := hO1.tbh
    obtain ⟨va, vc, rfl, hTv⟩ := hO2.tbh
    obtain ⟨l1, hs1, f1, _, _⟩ := hTk
    obtain ⟨l2, hs2, f2, _, _⟩ := hTv
    simp only at l1 l2 f1 f2
    have hsI : w.heap.size + 2 ≤ wI.heap.size := by have := HW.out.size; have := HSz.out; omega
    have hsA : wA.heap.size ≤ wI.heap.size := HW.out.size
    have hW2 : Below (w.heap.size + 2) wA wr := HW.out.trans (hWr.mono hsI)
    have hS := rstep_any ⟨s, v, d, (L : Int), tt, h⟩ j a n cap (thrX ⟨s, v, d, (L : Int), tt, h⟩ M zs j) ka ln kc hs1 _ va ln vc hs2 _ ln wr HC.out (HR.out.below hWr) hn f1 l1 (by omega) f2 l2 (by omega) (by omega)
    rw [List.take_of_length_le (by omega), List.take_of_length_le (by omega), ← (HM.out j hlt).1, ← (HM.out j hlt).2] at hS
    have HXn : Hid (outL ⟨s, v, d, (L : Int), tt, h⟩ j (thrX ⟨s, v, d, (L : Int), tt, h⟩ M zs j) (kv M j).1 (kv M j).2 = thrX ⟨s, v, d, (L : Int), tt, h⟩ M zs (j + 1)) := rfl
    rw [HXn.out] at hS
    have HXl : Hid ((thrX ⟨s, v, d, (L : Int), tt, h⟩ M zs (j + 1)).length ≤ 1000) := Nat.le_trans (thrX_len _ _ _ _) HZl.out
    have HKy : Hid ((keyL ⟨s, v, d, (L : Int), tt, h⟩ j (thrX ⟨s, v, d, (L : Int), tt, h⟩ M zs j)).length ≤ 1000) := Nat.le_trans (keyL_len HC.out _ _) (by omega)
    have HVy : Hid ((valL ⟨s, v, d, (L : Int), tt, h⟩ j (thrX ⟨s, v, d, (L : Int), tt, h⟩ M zs j)).length ≤ 1000) := Nat.le_trans (valL_len HC.out _ _) (by omega)
    replace HO := hid (block_below HO.out hWr)
    replace HK1 := hid (HK1.out.below hWr)
    replace HV1 := hid (HV1.out.below hWr)
    replace HW := hid hW2
    have HLA : Hid (wA.heap.size ≤ wr.heap.size) := hW2.size
    clear x0 x1 x2 x3 x4 x5
    obtain ⟨x0, x1, x2, x3, x4, x5⟩ := HK.out _ hW2
    obtain ⟨kka, kkc, rfl, _⟩ := HK1.out.tbl
    obtain ⟨vva, vvc, rfl, _⟩ := HV1.out.tbl
    clear HIk hO1 hO2 hap hWr f1 f2 l1 l2 hW2 HR HIa hkn hkl hsI hsA hn HXn
    unfold CfV at hS
    simp only at hS
    go_wp2_with fail
    refine hS.mono ?_
    rintro e w2 ⟨p1, p2, p3, m1', m2, m3, q1', q2, q3, rfl, hR1, hR2, hR3, hI1, hI2, hI3, hb⟩
    obtain ⟨wC, hwC⟩ : ∃ wC, wC = w2.alloc (.cells #[.slice p1 m1' q1', .slice p2 m2 q2, .slice p3 m3 q3] 166) := ⟨_, rfl⟩
    have hbC : Below w2.heap.size w2 wC := by rw [hwC]; exact (Below.refl _ _).alloc (Nat.le_refl _) _
    have HMb : Hid (wC.heap[w2.heap.size]? = some (.cells #[.slice p1 m1' q1', .slice p2 m2 q2, .slice p3 m3 q3] 166 (0, 0))) := by unfold Hid; rw [hwC]; exact heap_alloc_new w2 _
    have HX := hid (hR1.below hbC)
    have HXI := hid (hI1.below hbC)
    have HY := hid (hR2.below hbC)
    have HYI := hid (hI2.below hbC)
    have HZ := hid (hR3.below hbC)
    have HZI := hid (hI3.below hbC)
    have hm1' : m1' ≤ 1000 := by rw [← hR1.size]; exact HXl.out
    have hm2 : m2 ≤ 1000 := by rw [← hR2.size]; exact HKy.out
    have hm3 : m3 ≤ 1000 := by rw [← hR3.size]; exact HVy.out
    have hbb : Below wr.heap.size wr wC := hb.trans (hbC.mono hb.size)
    replace HO := hid (block_below HO.out hbb)
    replace HK1 := hid (HK1.out.below hbb)
    replace HV1 := hid (HV1.out.below hbb)
    replace HLA : Hid (wA.heap.size ≤ wC.heap.size) := Nat.le_trans HLA.out hbb.size
    replace HW : Hid (Below (w.heap.size + 2) wA wC) := HW.out.trans (hbb.mono (by have := HSz.out; have := HW.out.size; omega))
    obtain ⟨y0, y1⟩ := two_cells HO.out
    obtain ⟨z0, z1, z2⟩ : wC.cell? ⟨w2.heap.size, 0, none⟩ = some (.slice p1 m1' q1') ∧ wC.cell? ⟨w2.heap.size, 1, none⟩ = some (.slice p2 m2 q2) ∧ wC.cell? ⟨w2.heap.size, 2, none⟩ = some (.slice p3 m3 q3) := by
      refine ⟨?_, ?_, ?_⟩ <;> (rw [cell_of_row _ _ _ _ _ _ HMb.out]; rfl)
    have HNc := hid fun W u T => new_cell W u T
    have HAl : Hid (∀ (W : World) (o : Obj), Below W.heap.size W (W.alloc o)) := fun W o => (Below.refl _ _).alloc (Nat.le_refl _) _
    clear hR1 hR2 hR3 hI1 hI2 hI3 hb hbC hbb hS x0 x1 x2 x3 x4 x5 HXl HKy HVy
    have hsC : wC.heap.size = w2.heap.size + 1 := by rw [hwC]; simp
    have HSC := hid hsC
    have HBO : Hid (w.heap.size + 2 < wA.heap.size) := by have := HSz.out; unfold Hid; omega
    have hcn : ∀ (u : Value) (T : TypeId), (wC.alloc (.cells #[u] T)).cell? ⟨w2.heap.size + 1, 0, none⟩ = some u := fun u T => new_cellB wC u T hsC
    have HCn := hid hcn
    clear hsC hcn HNc
    subst hwC
    go_wp2_with (first
      | (at_builtin; refine append_one2 _ rfl (.tmp 57) (.tmp 60) 132 rfl wA.heap.size 131 i1 (.slice none 0 0) 24 Tryz.underlying132 hj hy0 hy1 hy2 rfl (by omega) _ j _ rfl (own_below HK1.out.own (HAl.out _ _)) (by omega) (w2.heap.size + 1) (hdV (p2, m2, q2)) rfl rfl (HCn.out _ _) (Nat.le_trans HLA.out (HAl.out _ _).size) ?_; intro v1' w3 hO3 hg3 hm3; obtain ⟨eg, ec, rfl⟩ := own_slice hO3; obtain ⟨b1, b2, b3, b4, b5, b6, b7, b8, b9⟩ := place_half (sl := 0) HO.out HK1.out HV1.out HAp.out HW.out (Nat.le_refl _) HBO.out HLA.out HY.out HYI.out hm2 hO3 hg3 hm3; have HO3 := hid b2; have HK3 := hid b3; have HV3 := hid b4; have HAp3 := hid b5; have HW3 := hid b6; have HX3 := hid (b7 _ _ _ _ HX.out HXI.out); have HZ3 := hid (b7 _ _ _ _ HZ.out HZI.out); have HM3 := hid (b8 _ _ _ HMb.out); have HL3 := hid b9; obtain ⟨i0, i2⟩ := two_cells b1; have f0 := frozen_of_row _ _ 0 _ _ b1; have f1 := frozen_of_row _ _ 1 _ _ b1; obtain ⟨n0, n1⟩ := two_cells HO3.out; obtain ⟨n2, n3, n4⟩ := three_cells HM3.out; clear b1 b2 b3 b4 b5 b6 b7 b8 b9 hO3 hg3 hm3)
      | (at_builtin; refine append_one2 _ rfl (.tmp 64) (.tmp 67) 132 rfl wA.heap.size 131 i1 (.slice none 0 0) 24 Tryz.underlying132 hj hy0 hy1 hy2 rfl (by omega) _ j _ rfl (own_below HV3.out.own (HAl.out _ _)) (by omega) w3.heap.size (hdV (p3, m3, q3)) rfl rfl (new_cellB _ _ _ (size_set _ _ _)) (Nat.le_trans HL3.out (HAl.out _ _).size) ?_; intro v2' w5 hO5 hg5 hm5; obtain ⟨fg, fc, rfl⟩ := own_slice hO5; obtain ⟨b1, b2, b3, b4, b5, b6, b7, b8, b9⟩ := place_half (sl := 1) HO3.out HV3.out HK3.out HAp3.out.symm HW3.out (Nat.le_refl _) HBO.out HL3.out HZ3.out.1 HZ3.out.2 hm3 hO5 hg5 hm5; have HO5 := hid b2; have HV5 := hid b3; have HK5 := hid b4; have HAp5 := hid b5.symm; have HW5 := hid b6; have HX5 := hid (b7 _ _ _ _ HX3.out.1 HX3.out.2); obtain ⟨i3, i4⟩ := two_cells b1; have f2 := frozen_of_row _ _ 0 _ _ b1; have f3 := frozen_of_row _ _ 1 _ _ b1; clear b1 b2 b3 b4 b5 b6 b7 b8 b9 hO5 hg5 hm5))
    have HTn : Hid (RTAt w wA ⟨s, v, d, (L : Int), tt, h⟩ M zs (j + 1) (.slice p1 m1' q1') (w5.setCell ⟨w.heap.size + 2, 1, none⟩ (.slice (some ⟨fg, 0, none⟩) (j + 1) fc))) :=
      ⟨p1, m1', q1', _, _, _, _, rfl, hm1', HX5.out.1, (fun _ => HX5.out.2), HO5.out, by rw [← tblK_snoc]; exact HK5.out, by rw [← tblK_snoc]; exact HV5.out, HAp5.out, HW5.out⟩
    clear HO HK1 HV1 HAp HW HX HXI HY HYI HZ HZI HMb HO3 HK3 HV3 HAp3 HW3 HX3 HZ3 HM3 HL3 HO5 HV5 HK5 HAp5 HW5 HX5 y0 y1 z0 z1 z2 i0 i2 i3 i4 f0 f1 f2 f3 n0 n1 n2 n3 n4
    go_wp2_with fail
    go_round
    case rel => exact ⟨j + 1, by omega, by go_num, HTn⟩
    case measure => simp [intOf]; omega
  obtain rfl : L = j := by omega
  obtain ⟨a, n, cap, ku, vu, hk, hv, rfl, hn, hR, hIa, hO, hk1, hv1, hap, hW⟩ := HT.out
  have HR := hid hR
  have HIa := hid hIa
  obtain ⟨ka, kc, rfl, hTk⟩ := hk1.tbh
  obtain ⟨va, vc, rfl, hTv⟩ := hv1.tbh
  have HTk := hid hTk
  have HTv := hid hTv
  have HRb := hid (HRs.out _ hW)
  have HBf := hid (HBw.out _ hW)
  obtain ⟨x0, x1, x2, x3, x4, x5⟩ := HK.out _ hW
  obtain ⟨y0, y1⟩ := two_cells hO
  obtain ⟨z0, z1⟩ := two_cells HRb.out
  have f0 := frozen_of_row _ _ 0 _ _ HRb.out
  have f1 := frozen_of_row _ _ 1 _ _ HRb.out
  have HF : Hid (∀ s0 s1 : Value, ((wI.setCell ⟨w.heap.size + 1, 0, none⟩ s0).setCell ⟨w.heap.size + 1, 1, none⟩ s1).heap[w.heap.size + 1]? = some (.cells #[s0, s1] 134 (0, 0)) ∧ Kp 134 wI ((wI.setCell ⟨w.heap.size + 1, 0, none⟩ s0).setCell ⟨w.heap.size + 1, 1, none⟩ s1) ∧ Below w.heap.size w ((wI.setCell ⟨w.heap.size + 1, 0, none⟩ s0).setCell ⟨w.heap.size + 1, 1, none⟩ s1)) := fun s0 s1 =>
    ⟨row_setCell (row_setCell HRb.out), (Kp.set HRb.out _).trans (Kp.set (row_setCell HRb.out) _), (HBf.out.setCell (by show w.heap.size ≤ w.heap.size + 1; omega) _).setCell (by show w.heap.size ≤ w.heap.size + 1; omega) _⟩
  clear HT hR hIa hO hk1 hv1 hap hW hTk hTv HP HKK HM HC HK HRs HBw HSz
  go_wp2_with fail
  go_region
  obtain ⟨hF1, hF2, hF3⟩ := HF.out (.slice ka L kc) (.slice va L vc)
  generalize (wI.setCell ⟨w.heap.size + 1, 0, none⟩ (.slice ka L kc)).setCell ⟨w.heap.size + 1, 1, none⟩ (.slice va L vc) = Wf at *
  have hdr : Below Wf.heap.size Wf Wf.drew := (Below.refl _ _).drew
  have HX := hid ((Reads.keep HR.out (HIa.out (by omega)) hF2 (by decide)).1.below hdr)
  have HXB := hid ((Reads.keep HR.out (HIa.out (by omega)) hF2 (by decide)).2.below hdr)
  have HTk2 := hid ((HTk.out.keep hF2 (by decide) (by decide)).below hdr)
  have HTv2 := hid ((HTv.out.keep hF2 (by decide) (by decide)).below hdr)
  have HBd := hid hF3.drew
  obtain ⟨g0, g1⟩ := two_cells (block_below hF1 hdr)
  clear HF hF1 hF2 hF3 HR HIa HTk HTv HRb HBf x0 x1 x2 x3 x4 x5 y0 y1 z0 z1 f0 f1 hdr
  generalize Wf.drew = Wd at *
  go_wp2
  exact bodyPost_ret (v := .tuple #[.slice a n cap, .agg #[.slice ka L kc, .slice va L vc]]) (by simp [results, Tryz.results70, go_sem, g0, g1]) rfl ⟨a, n, cap, (ka, L, kc), (va, L, vc), rfl, HX.out, HXB.out, HTk2.out, HTv2.out, HBd.out⟩
theorem rthrough_nat (s v d tt h : Int) (L : Nat) (la : Option Addr) (ln lc : Nat) (ps : List Hp) (KK VV : Nat → List (List Int)) (M : List KV) (a : Option Addr) (n cap : Nat) (zs : List Int) (w : World) (hc : mayB ⟨s, v, d, (L : Int), tt, h⟩ = true) (hL : L ≤ 4)
    (hp : PlsAt w la ln lc ps KK VV) (hKK : ∀ i, i < ln → (KK i).length = L ∧ (VV i).length = L) (hM : ∀ j, j < L → (kv M j).1 = tblK (fun i => (KK i)[j]?.getD []) ln ∧ (kv M j).2 = tblK (fun i => (VV i)[j]?.getD []) ln) (hln : ln ≤ 900) (hx : Reads .i64 w a n cap zs) (hn : n ≤ 1000) (L1 : 1 ≤ L) :
    Calls Tryz.prog 70 #[.agg (CfV ⟨s, v, d, (L : Int), tt, h⟩), .slice la ln lc, .slice a n cap] w fun e w' => RThr w (thrX ⟨s, v, d, (L : Int), tt, h⟩ M zs L) (tblK (fun i => keyL ⟨s, v, d, (L : Int), tt, h⟩ i (thrX ⟨s, v, d, (L : Int), tt, h⟩ M zs i)) L) (tblK (fun i => valL ⟨s, v, d, (L : Int), tt, h⟩ i (thrX ⟨s, v, d, (L : Int), tt, h⟩ M zs i)) L) e w' :=
  (rthrough_natB s v d tt h L la ln lc ps KK VV M a n cap zs w hc hL hp hKK hM hln hx hn L1).mono fun e w' h => h.thr
end Go.Proofs.YtjgggialnegddaaGreat
