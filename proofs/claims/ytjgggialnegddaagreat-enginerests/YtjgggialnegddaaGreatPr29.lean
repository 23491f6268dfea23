/-
  The texts RTold, DeMath2, EnMath of this proof.
-/
import Derived.Test.YtjgggialnegddaaGreatPr28
import Derived.Deep.RegionHeld3
import Derived.Test.YtjgggialnegddaaGreatPr12
set_option linter.unusedVariables false
set_option maxRecDepth 1000000
namespace Go.Proofs.YtjgggialnegddaaGreat
open Go.RowKit
theorem rthrough_mem (c : Cf) (xs : List (List Int)) (k : Nat) (la : Option Addr) (lc : Nat) (ps : List Hp) (a : Option Addr) (n cap : Nat) (w : World) (hc : mayB c = true)
  (hp : PlsAt w la k lc ps (plK c c.layers.toNat xs) (plV c c.layers.toNat xs)) (hk : k ≤ 900) (hx : Reads .i64 w a n cap (xs[k]?.getD [])) (hn : n ≤ 1000) :
  Calls Tryz.prog 70 #[.agg (CfV c), .slice la k lc, .slice a n cap] w fun e w' => RThrB w (madeL c c.layers.toNat xs k) (plK c c.layers.toNat xs k) (plV c c.layers.toNat xs k) e w' := by
 have hm := may_parts hc
 obtain ⟨L, hL⟩ : ∃ L : Nat, c.layers.toNat = L := ⟨_, rfl⟩
 have hl : c.layers = (L : Int) := by omega
 rw [hL] at hp ⊢
 obtain ⟨s, v, d, l, tt, h⟩ := c
 simp only at hl
 subst hl
 refine rthrough_natB s v d tt h L la k lc ps _ _ (memL ⟨s, v, d, (L : Int), tt, h⟩ L xs k) a n cap _ w hc (by omega) hp (fun i hi => ?_) (fun j hj => ?_) hk hx hn (by omega)
 ·unfold plK plV; rw [tblK_len, tblK_len]; exact ⟨rfl, rfl⟩
 ·exact memL_rows _ _ _ _ hj
theorem new_two (w : World) (x y : Value) (T : TypeId) : (w.alloc (.cells #[x, y] T)).cell? ⟨w.heap.size, 0, none⟩ = some x ∧ (w.alloc (.cells #[x, y] T)).cell? ⟨w.heap.size, 1, none⟩ = some y := two_cells (heap_alloc_new w _)
def PlNew (wr y4 W : World) (B : Nat) (x y : Hd) : Prop := W.heap[B]? = some (.cells #[.slice x.1 x.2.1 x.2.2, .slice y.1 y.2.1 y.2.2] 134 (0, 0)) ∧ Kp 134 y4 W ∧ Below wr.heap.size wr W
theorem plnew1 {wr y4 : World} (x1 : Option Addr) (x2 x3 : Nat) (y1 : Option Addr) (y2 y3 : Nat) (hV : Below wr.heap.size wr y4) : PlNew wr y4 (y4.alloc (.cells #[.slice x1 x2 x3, .slice y1 y2 y3] 134)) y4.heap.size (x1, x2, x3) (y1, y2, y3) :=
 ⟨heap_alloc_new _ _, kp_below ((Below.refl _ _).alloc (Nat.le_refl _) _), hV.alloc hV.size _⟩
theorem plnew2 {wr y4 : World} {B : Nat} {cs : Array Value} (x1 : Option Addr) (x2 x3 : Nat) (y1 : Option Addr) (y2 y3 : Nat) (hP : y4.heap[B]? = some (.cells #[.slice none 0 0, .slice none 0 0] 134 (0, 0))) (hV : Below wr.heap.size wr y4) (hB : wr.heap.size ≤ B) :
  PlNew wr y4 ((y4.setCell ⟨B, 0, none⟩ (.slice x1 x2 x3)).setCell ⟨B, 1, none⟩ (.slice y1 y2 y3)) B (x1, x2, x3) (y1, y2, y3) :=
 ⟨row_setCell (row_setCell hP), (Kp.set hP _).trans (Kp.set (row_setCell hP) _), (hV.setCell hB _).setCell hB _⟩
def TdAt (wA : World) (c : Cf) (ts : List Int) (k : Nat) (u7 u8 : Value) (W : World) : Prop :=
 ∃ (ps : List Hp) (ax : Option Addr) (nx cx : Nat), u8 = .slice ax nx cx ∧ Reads .i64 W ax nx cx (outK c ts k) ∧ BlI W ax ∧ PlO W wA.heap.size u7 k ps (plK c c.layers.toNat (tvsL c ts)) (plV c c.layers.toNat (tvsL c ts)) ∧ Below wA.heap.size wA W
set_option maxHeartbeats 4000000 in
theorem rtold_any (c : Cf) (a : Option Addr) (n cap : Nat) (ts : List Int) (seed : Int) (w : World) (hc : mayB c = true) (ha : Reads .i64 w a n cap ts) (hn : n ≤ 256) :
  Calls Tryz.prog 49 #[.agg (CfV c), .slice a n cap, .int .u64 seed] w fun e w' => e = .returned (.int .i64 (toldZ c ts seed)) ∧ Below w.heap.size w w' := by
 obtain ⟨i0, hi, hz0, hz1, hz2⟩ := info_parts Tryz.infoPl
 have hz := ha.size
 have r1 := ha.room
 have m1 := ha.most
 obtain ⟨wA, hwA⟩ : ∃ wA, wA = w.alloc (.cells (CfV c) 24) := ⟨_, rfl⟩
 have HB0 : Hid (Below w.heap.size w wA) := by unfold Hid; rw [hwA]; exact (Below.refl _ _).alloc (Nat.le_refl _) _
 have HK := hid fun (W : World) (hb : Below wA.heap.size wA W) => Cf_cells (block_below (show wA.heap[w.heap.size]? = some (.cells (CfV c) 24 (0, 0)) by rw [hwA]; exact heap_alloc_new w _) hb)
 have HA := hid fun (W : World) (hb : Below wA.heap.size wA W) => (ha.below HB0.out).below hb
 have HT := hid fun (k : Nat) W => rtoken_g c (ts[k]?.getD 0) W hc
 have HPl := hid fun (k : Nat) W => rplace_g c (k : Int) W hc
 have HT16 := hid fun (k : Nat) => tokL_len hc (ts[k]?.getD 0)
 have HP16 := hid fun (k : Nat) => plL_len hc (k : Int)
 have HAd := hid fun (k : Nat) a1 n1 c1 a2 n2 c2 W (h1 : Reads .i64 W a1 n1 c1 (tokL c (ts[k]?.getD 0))) (h2 : Reads .i64 W a2 n2 c2 (plL c (k : Int))) (q1 : n1 ≤ 1000) (q2 : n2 ≤ 1000) => rvadd_any a1 a2 n1 c1 n2 c2 _ _ W h1 h2 q1 q2
 have HTv : Hid (∀ (k : Nat) n1 n2, n1 = (tokL c (ts[k]?.getD 0)).length → n2 = (plL c (k : Int)).length → k < ts.length → pairK addZ (tokL c (ts[k]?.getD 0)) (plL c (k : Int)) (min n1 n2) = (tvsL c ts)[k]?.getD []) := fun k n1 n2 h1 h2 hk => by
  rw [tvsL_at c ts hk, h1, h2]; rfl
 have HTh := hid fun (k : Nat) la lc ps a' n' cap' W (hp : PlsAt W la k lc ps (plK c c.layers.toNat (tvsL c ts)) (plV c c.layers.toNat (tvsL c ts))) (hk : k ≤ 900) (hx : Reads .i64 W a' n' cap' ((tvsL c ts)[k]?.getD [])) (hn' : n' ≤ 1000) => rthrough_mem c (tvsL c ts) k la lc ps a' n' cap' W hc hp hk hx hn'
 have HNx := hid fun a' n' cap' W (hx : Reads .i64 W a' n' cap' (outK c ts n)) (hn' : n' ≤ 1000) => rnext_any c a' n' cap' (outK c ts n) seed (n : Int) W hc hx hn'
 have HO16 := hid (outK_len hc ts n)
 have HTo : Hid (nextZ c (outK c ts n) seed (n : Int) = toldZ c ts seed) := by unfold Hid toldZ; rw [hz]
 have HOu : Hid (∀ k : Nat, madeL c c.layers.toNat (tvsL c ts) k = outK c ts (k + 1)) := fun k => rfl
 have HS0 : Hid (TdAt wA c ts 0 (.slice none 0 0) (.slice none 0 0) wA) := ⟨[], none, 0, 0, rfl, Reads.nil _ _, BlI.none _, PlO.nil _ _ _ _, Below.refl _ _⟩
 rw [HTo.out] at HNx
 clear ha hc HTo
 generalize toldZ c ts seed = td at *
 obtain ⟨KK, hKK⟩ : ∃ KK, KK = plK c c.layers.toNat (tvsL c ts) := ⟨_, rfl⟩
 obtain ⟨VV, hVV⟩ : ∃ VV, VV = plV c c.layers.toNat (tvsL c ts) := ⟨_, rfl⟩
 have HTd : Hid (∀ k u7 u8 W, TdAt wA c ts k u7 u8 W ↔ ∃ (ps : List Hp) (ax : Option Addr) (nx cx : Nat), u8 = .slice ax nx cx ∧ Reads .i64 W ax nx cx (outK c ts k) ∧ BlI W ax ∧ PlO W wA.heap.size u7 k ps KK VV ∧ Below wA.heap.size wA W) := fun k u7 u8 W => by rw [hKK, hVV]; rfl
 rw [← hKK, ← hVV] at HTh
 simp only [HOu.out] at HTh
 clear HOu
 clear hKK hVV
 obtain ⟨F, hF⟩ : ∃ F : Nat → List Int, F = outK c ts := ⟨_, rfl⟩
 rw [← hF] at HTd HTh HNx HO16
 obtain ⟨G, hG⟩ : ∃ G : Nat → List Int, G = fun k => (tvsL c ts)[k]?.getD [] := ⟨_, rfl⟩
 have hGk : ∀ k : Nat, (tvsL c ts)[k]?.getD [] = G k := fun k => by rw [hG]
 simp only [hGk] at HTv HTh
 clear hG hGk hF
 obtain ⟨T, hT⟩ : ∃ T : Nat → Value → Value → World → Prop, T = TdAt wA c ts := ⟨_, rfl⟩
 rw [← hT] at HTd HS0
 clear hT
 obtain ⟨X, hX⟩ : ∃ X : Nat → List Int, X = fun k => tokL c (ts[k]?.getD 0) := ⟨_, rfl⟩
 have hXk : ∀ k : Nat, tokL c (ts[k]?.getD 0) = X k := fun k => by rw [hX]
 obtain ⟨Y, hY⟩ : ∃ Y : Nat → List Int, Y = fun k => plL c ((k : Nat) : Int) := ⟨_, rfl⟩
 have hYk : ∀ k : Nat, plL c (k : Int) = Y k := fun k => by rw [hY]
 simp only [hXk] at HT HT16 HAd HTv
 simp only [hYk] at HPl HP16 HAd HTv
 clear hX hXk hY hYk
 obtain ⟨s, v, d, l, tt, h⟩ := c
 unfold CfV at HT HPl HTh HNx hwA ⊢
 simp only at HT HPl HTh HNx HK hwA ⊢
 go_enter Tryz.func49, Tryz.ntmps49
 go_wp2_with fail
 rw [← hwA]
 clear hwA
 go_loopw [7, 8, 9] (fun u x i W => ∃ k : Nat, k ≤ n ∧ i = .int .i64 k ∧ Hid (T k u x W)) (fun _ _ i _ => n - (intOf i).toNat)
 case atStart => exact ⟨0, Nat.zero_le _, rfl, HS0⟩
 case round =>
 obtain ⟨k, hk, rfl, HTk⟩ := hrel
 rename World => wr
 clear HS0
 obtain ⟨ps, ax, nx, cx, rfl, hRx, hBx, hPl, hW⟩ := (HTd.out _ _ _ _).1 HTk.out
 have HRx := hid hRx
 have HW := hid hW
 have HPO := hid hPl
 clear HTk hRx hBx hW
 by_cases hlt : k < n
 ·obtain ⟨ap, cp, rfl, hPA⟩ := hPl.at
  have HPA := hid hPA
  clear hPl hPA
  obtain ⟨b1, o1, rfl, c1⟩ := (HA.out _ HW.out).cell k hlt
  have q1 : (k : Int) < (n : Int) := by omega
  have HKK : Hid (∀ W : World, Below wr.heap.size wr W → (W.cell? ⟨w.heap.size, 0, none⟩ = some (.int .u64 s) ∧ W.cell? ⟨w.heap.size, 1, none⟩ = some (.int .i64 v) ∧ W.cell? ⟨w.heap.size, 2, none⟩ = some (.int .i64 d) ∧ W.cell? ⟨w.heap.size, 3, none⟩ = some (.int .i64 l) ∧ W.cell? ⟨w.heap.size, 4, none⟩ = some (.int .i64 tt) ∧ W.cell? ⟨w.heap.size, 5, none⟩ = some (.int .i64 h)) ∧ W.cell? ⟨b1, o1 + k, none⟩ = some (.int .i64 (ts[k]?.getD 0))) := fun W hb => ⟨HK.out W (HW.out.trans (hb.mono HW.out.size)), cell_later_of c1 hb⟩
  have h16 := HT16.out k
  have h17 := HP16.out k
  have HE := hid (HTv.out k _ _ rfl rfl (by omega))
  replace HT := hid (HT.out k)
  replace HPl := hid (HPl.out k)
  replace HAd := hid (HAd.out k)
  replace HTh := hid (HTh.out k)
  clear HNx HO16 HA HK HTv HRx HT16 HP16 c1
  generalize ts[k]?.getD 0 = tk at *
  generalize X k = xs at *
  generalize Y k = ys at *
  have HV : Hid (Below wr.heap.size wr wr.drew) := (Below.refl _ _).drew
  go_wp2_with fail
  have HAl : Hid (∀ (W : World) (o : Obj), Below W.heap.size W (W.alloc o)) := fun W o => (Below.refl _ _).alloc (Nat.le_refl _) _
  go_region_held3 (fun W : World => (W.cell? ⟨w.heap.size, 0, none⟩ = some (.int .u64 s) ∧ W.cell? ⟨w.heap.size, 1, none⟩ = some (.int .i64 v) ∧ W.cell? ⟨w.heap.size, 2, none⟩ = some (.int .i64 d) ∧ W.cell? ⟨w.heap.size, 3, none⟩ = some (.int .i64 l) ∧ W.cell? ⟨w.heap.size, 4, none⟩ = some (.int .i64 tt) ∧ W.cell? ⟨w.heap.size, 5, none⟩ = some (.int .i64 h)) ∧ W.cell? ⟨b1, o1 + k, none⟩ = some (.int .i64 tk)) (first | (with_reducible exact HKK.out _ (Below.refl _ _)) | (with_reducible exact HKK.out _ HV.out) | (exact HKK.out _ (HV.out.trans ((HAl.out _ _).mono HV.out.size))) | (exact HKK.out _ ((HV.out.setCell HGe.out _).setCell HGe.out _)))
   (first
    | (go_at_call 72; (with_reducible refine (HT.out _).mono ?_); rintro e y1 ⟨u1, rfl, ho, hb⟩; obtain ⟨p1, d1, rfl, hr1⟩ := Reads.own (k := .i64) ho; (first | (replace HV := hid (HV.out.trans (hb.mono HV.out.size)); (try replace HPb := hid (block_below HPb.out hb))) | (have HPb : Hid (y1.heap[wr.heap.size]? = some (.cells #[.slice none 0 0, .slice none 0 0] 134 (0, 0))) := block_below (heap_alloc_new wr.drew (.cells #[.slice none 0 0, .slice none 0 0] 134)) hb; have HGe : Hid (wr.heap.size ≤ wr.heap.size) := Nat.le_refl _; replace HV := hid ((HV.out.trans ((HAl.out _ _).mono HV.out.size)).trans (hb.mono (Nat.le_trans HV.out.size (HAl.out _ _).size))))); have HR1 := hid hr1; clear hb ho hr1)
    | (go_at_call 73; (with_reducible refine (HPl.out _).mono ?_); rintro e y2 ⟨p2, d2, rfl, hr2, hb⟩; (first | (replace HV := hid (HV.out.trans (hb.mono HV.out.size)); replace HR1 := hid (HR1.out.below hb); (try replace HPb := hid (block_below HPb.out hb))) | (have HPb := hid (block_below (heap_alloc_new y1 (.cells #[.slice none 0 0, .slice none 0 0] 134)) hb); have HGe : Hid (wr.heap.size ≤ y1.heap.size) := HV.out.size; replace HV := hid ((HV.out.trans ((HAl.out _ _).mono HV.out.size)).trans (hb.mono (Nat.le_trans HV.out.size (HAl.out _ _).size))); replace HR1 := hid ((HR1.out.below (HAl.out _ _)).below hb))); have HR2 := hid hr2; clear hb hr2)
    | (go_at_call 71; (first | (with_reducible refine (HAd.out _ _ _ _ _ _ _ HR1.out HR2.out (by omega) (by omega)).mono ?_) | (with_reducible refine (HAd.out _ _ _ _ _ _ _ (HR1.out.below (HAl.out _ _)) (HR2.out.below (HAl.out _ _)) (by omega) (by omega)).mono ?_)); rintro e y3 ⟨p3, d3, rfl, hr3, hb⟩; rw [HE.out] at hr3; (first | (replace HV := hid (HV.out.trans (hb.mono HV.out.size)); (try replace HPb := hid (block_below HPb.out hb))) | (have HPb := hid (block_below (heap_alloc_new y2 (.cells #[.slice none 0 0, .slice none 0 0] 134)) hb); have HGe : Hid (wr.heap.size ≤ y2.heap.size) := HV.out.size; replace HV := hid ((HV.out.trans ((HAl.out _ _).mono HV.out.size)).trans (hb.mono (Nat.le_trans HV.out.size (HAl.out _ _).size))))); have HR3 := hid hr3; clear hb hr3 HR1 HR2)
    | (go_at_call 70; (first | (with_reducible refine (HTh.out _ _ _ _ _ _ _ (HPA.out.below HV.out) (by omega) HR3.out (by omega)).mono ?_) | (with_reducible refine (HTh.out _ _ _ _ _ _ _ ((HPA.out.below HV.out).below (HAl.out _ _)) (by omega) (HR3.out.below (HAl.out _ _)) (by omega)).mono ?_)); rintro e y4 ⟨p4, n4, d4, ⟨k1, k2, k3⟩, ⟨v1, v2, v3⟩, rfl, hr4, hi4, hk4, hv4, hb⟩; (first | (replace HV := hid (HV.out.trans (hb.mono HV.out.size)); (try replace HPb := hid (block_below HPb.out hb))) | (have HPb := hid (block_below (heap_alloc_new y3 (.cells #[.slice none 0 0, .slice none 0 0] 134)) hb); have HGe : Hid (wr.heap.size ≤ y3.heap.size) := HV.out.size; replace HV := hid ((HV.out.trans ((HAl.out _ _).mono HV.out.size)).trans (hb.mono (Nat.le_trans HV.out.size (HAl.out _ _).size))))); have HR4 := hid hr4; have HI4 := hid hi4; have HK4 := hid hk4; have HV4 := hid hv4; (try (obtain ⟨z0, z1⟩ := two_cells HPb.out; have f0 := frozen_of_row _ _ 0 _ _ HPb.out; have f1 := frozen_of_row _ _ 1 _ _ HPb.out)); clear hb hr4 hi4 hk4 hv4 HR3))
  all_goals
   first
    | (have HN := hid (plnew2 (wr := wr) (y4 := y4) (B := y3.heap.size) (cs := #[]) k1 k2 k3 v1 v2 v3 HPb.out HV.out HGe.out); generalize (y4.setCell ⟨y3.heap.size, 0, none⟩ (.slice k1 k2 k3)).setCell ⟨y3.heap.size, 1, none⟩ (.slice v1 v2 v3) = W5 at *; clear HPb HGe z0 z1 f0 f1)
    | (have HN := hid (plnew2 (wr := wr) (y4 := y4) (B := y2.heap.size) (cs := #[]) k1 k2 k3 v1 v2 v3 HPb.out HV.out HGe.out); generalize (y4.setCell ⟨y2.heap.size, 0, none⟩ (.slice k1 k2 k3)).setCell ⟨y2.heap.size, 1, none⟩ (.slice v1 v2 v3) = W5 at *; clear HPb HGe z0 z1 f0 f1)
    | (have HN := hid (plnew2 (wr := wr) (y4 := y4) (B := y1.heap.size) (cs := #[]) k1 k2 k3 v1 v2 v3 HPb.out HV.out HGe.out); generalize (y4.setCell ⟨y1.heap.size, 0, none⟩ (.slice k1 k2 k3)).setCell ⟨y1.heap.size, 1, none⟩ (.slice v1 v2 v3) = W5 at *; clear HPb HGe z0 z1 f0 f1)
    | (have HN := hid (plnew2 (wr := wr) (y4 := y4) (B := wr.heap.size) (cs := #[]) k1 k2 k3 v1 v2 v3 HPb.out HV.out HGe.out); generalize (y4.setCell ⟨wr.heap.size, 0, none⟩ (.slice k1 k2 k3)).setCell ⟨wr.heap.size, 1, none⟩ (.slice v1 v2 v3) = W5 at *; clear HPb HGe z0 z1 f0 f1)
    | (have HN := hid (plnew1 (wr := wr) (y4 := y4) k1 k2 k3 v1 v2 v3 HV.out); generalize y4.alloc (.cells #[.slice k1 k2 k3, .slice v1 v2 v3] 134) = W5 at *)
   obtain ⟨hB5, hK5, hb5⟩ := HN.out
   simp only at hB5
   obtain ⟨z0, z1⟩ := two_cells hB5
   have HPO5 := hid (HPO.out.below hb5)
   have HR5 := hid (Reads.keep HR4.out HI4.out hK5 (by decide))
   have HTk5 := hid (HK4.out.keep hK5 (by decide) (by decide))
   have HTv5 := hid (HV4.out.keep hK5 (by decide) (by decide))
   have HW5 := hid (HW.out.trans (hb5.mono HW.out.size))
   have HS5 : Hid (wA.heap.size ≤ W5.heap.size) := HW5.out.size
   clear hB5 hK5 hb5 HN HR4 HI4 HK4 HV4 HV HPO HW HPA HKK HT HPl HAd HTh HE h16 h17
   have HTn := hid (new_two W5)
   go_wp2_with (at_builtin; refine append_place _ rfl (.tmp 35) (.tmp 37) 130 rfl wA.heap.size i0 Tryz.underlying130 hi hz0 hz1 hz2 _ k _ rfl (own_below HPO5.out.own (HAl.out _ _)) (by omega) W5.heap.size (k1, k2, k3) (v1, v2, v3) rfl (HTn.out _ _ _).1 (HTn.out _ _ _).2 (Nat.le_trans HS5.out (HAl.out _ _).size) ?_; intro v6 w6 hO6 hg6)
   have HFin : Hid (T (k + 1) v6 (.slice p4 n4 d4) w6) := by
    obtain ⟨g1, g2⟩ := HPO5.out.snoc HTk5.out HTv5.out hO6 hg6
    obtain ⟨g3, g4⟩ := Reads.keep HR5.out.1 HR5.out.2 g2 (by decide)
    refine (HTd.out _ _ _ _).2 ⟨_, p4, n4, d4, rfl, g3, g4, g1, ?_⟩
    exact (HW5.out.alloc HS5.out _).grown hg6 (Nat.le_trans HS5.out (HAl.out _ _).size) fun g hg => (HPO5.out.own.lt g hg).1
   clear hO6 hg6 HPO5 HR5 HTk5 HTv5 HW5 HS5 HTn HTd z0 z1
   go_wp2_with fail
   go_round
   case rel => exact ⟨k + 1, by omega, by go_num, HFin⟩
   case measure => simp [intOf]; omega
 ·obtain rfl : k = n := by omega
  obtain ⟨x0, x1, x2, x3, x4, x5⟩ := HK.out _ HW.out
  have h16 := HO16.out
  have hnx := HRx.out.size
  have hN := HNx.out _ _ _ wr HRx.out (by omega)
  have HBW := hid (HB0.out.trans (HW.out.mono HB0.out.size))
  clear HT HPl HAd HTh HTv HT16 HP16 HO16 HNx HA HK HTd HPO hPl HRx HW HB0
  go_wp2_with fail
  refine hN.mono ?_
  rintro e w2 ⟨rfl, hb⟩
  replace HBW := hid (HBW.out.trans (hb.mono HBW.out.size))
  clear hN hb x0 x1 x2 x3 x4 x5
  go_wp2
  go_ret
  exact ⟨rfl, HBW.out⟩
end Go.Proofs.YtjgggialnegddaaGreat
namespace Go.Proofs.YtjgggialnegddaaGreat
open Go.RowKit
theorem falls_insert (x : Mk) : ∀ qs : List Mk, Falls qs → ∃ rs : List Mk, rs.Perm (x :: qs) ∧ Falls rs := by
 intro qs
 induction qs with
 | nil => intro _; exact ⟨[x], List.Perm.refl _, List.pairwise_singleton _ _⟩
 | cons q qs ih =>
  intro h
  obtain ⟨h1, h2⟩ := List.pairwise_cons.1 h
  rcases leM_total q x with hq | hq
  ·refine ⟨x :: q :: qs, List.Perm.refl _, List.pairwise_cons.2 ⟨fun y hy => ?_, h⟩⟩
   rcases List.mem_cons.1 hy with rfl | hy
   ·exact hq
   ·exact leM_trans (h1 y hy) hq
  ·obtain ⟨rs, hp, hf⟩ := ih h2
   refine ⟨q :: rs, (hp.cons q).trans (List.Perm.swap _ _ _), List.pairwise_cons.2 ⟨fun y hy => ?_, hf⟩⟩
   rcases List.mem_cons.1 (hp.subset hy) with rfl | hy
   ·exact hq
   ·exact h1 y hy
theorem falls_any (ms : List Mk) : ∃ qs : List Mk, qs.Perm ms ∧ Falls qs := by
 induction ms with
 | nil => exact ⟨[], List.Perm.refl _, List.Pairwise.nil⟩
 | cons m ms ih =>
  obtain ⟨qs, hp, hf⟩ := ih
  obtain ⟨rs, hp2, hf2⟩ := falls_insert m qs hf
  exact ⟨rs, hp2.trans (hp.cons m), hf2⟩
theorem top_ex (zs : List Int) (n K : Nat) (h : K ≤ n) : ∃ ps, TopOf zs n K ps := by
 obtain ⟨qs, hp, hf⟩ := falls_any (marksK zs n)
 have hl : qs.length = n := by rw [hp.length_eq, marksK_len]
 refine ⟨(qs.take K).map Prod.fst, qs.take K, qs.drop K, rfl, by rw [List.length_take]; omega, hf.take, by rw [List.take_append_drop]; exact hp, fun r hr q hq => ?_⟩
 have : Falls (qs.take K ++ qs.drop K) := by rw [List.take_append_drop]; exact hf
 exact (List.pairwise_append.1 this).2.2 q hq r hr
theorem first_ex {ws : List Int} {d : Int} : ∀ n, 0 ≤ d → d < sumK ws n → ∃ k, FirstAt ws n d k := by
 intro n
 induction n with
 | zero => intro d0 hd; simp only [sumK] at hd; omega
 | succ n ih =>
  intro d0 hd
  by_cases h : ∀ j, j < n → sumK ws (j + 1) ≤ d
  ·exact ⟨n, by omega, hd, h⟩
  ·cases n with
   | zero => exact absurd (fun j hj => absurd hj (by omega)) h
   | succ m =>
    by_cases h2 : d < sumK ws (m + 1)
    ·obtain ⟨k, hk⟩ := ih d0 h2
     exact ⟨k, by have := hk.lt; omega, hk.up, hk.low⟩
    ·have : ∃ j, j < m + 1 ∧ d < sumK ws (j + 1) := Classical.byContradiction fun hn => h fun j hj => Int.not_lt.1 fun hlt => hn ⟨j, hj, hlt⟩
     obtain ⟨j, hj, hlt⟩ := this
     -- the least such place
     have key : ∀ j, j < m + 2 → d < sumK ws (j + 1) → ∃ k, FirstAt ws (m + 2) d k := by
      intro j
      induction j using Nat.strongRecOn with
      | _ j ihj =>
       intro hj hlt
       by_cases hl : ∀ i, i < j → sumK ws (i + 1) ≤ d
       ·exact ⟨j, hj, hlt, hl⟩
       ·have : ∃ i, i < j ∧ d < sumK ws (i + 1) := Classical.byContradiction fun hn => hl fun i hi => Int.not_lt.1 fun hlt => hn ⟨i, hi, hlt⟩
        obtain ⟨i, hi, hlt'⟩ := this
        exact ihj i hi (by omega) hlt'
     exact key j (by omega) hlt
theorem best_ex (zs : List Int) : ∃ t, BestOf zs t := by
 by_cases h : zs = []
 ·exact ⟨-1, .inl ⟨h, rfl⟩⟩
 ·have hl : 0 < zs.length := List.length_pos_iff.2 h
  obtain ⟨ps, hp⟩ := top_ex zs zs.length 1 hl
  have := hp.len
  match ps, this with
  | [x], _ => exact ⟨x, .inr ⟨hl, hp⟩⟩
theorem draw_ex (zs : List Int) (top heat s p : Int) : ∃ t, DrawOf zs top heat s p t := by
 by_cases h : zs = [] ∨ heat < 1
 ·obtain ⟨t, ht⟩ := best_ex zs
  exact ⟨t, .inl ⟨h, ht⟩⟩
 ·have h0 : 0 < zs.length := List.length_pos_iff.2 fun e => h (.inl e)
  obtain ⟨K, hK, hKl⟩ := kof_any (mx1 top) zs.length
  have hK0 := kof_pos hK h0
  obtain ⟨ps, hp⟩ := top_ex zs zs.length K hKl
  obtain ⟨d0, d1⟩ := below_sum (zs := zs) (heat := heat) s p hp.len hK0
  obtain ⟨k, hk⟩ := first_ex K d0 d1
  exact ⟨_, .inr ⟨h0, by omega, K, k, ps, hK, hp, hk, rfl⟩⟩
theorem best_bd {zs : List Int} {t : Int} (h : BestOf zs t) (h0 : 0 < zs.length) : 0 ≤ t ∧ t < zs.length := by
 rcases h with ⟨rfl, _⟩ | ⟨_, hp⟩
 ·simp at h0
 ·obtain ⟨m, h1, h2⟩ := hp.at (i := 0) (by omega)
  simp at h1
  omega
theorem draw_bd {zs : List Int} {top heat s p t : Int} (h : DrawOf zs top heat s p t) (h0 : 0 < zs.length) : 0 ≤ t ∧ t < zs.length := by
 rcases h with ⟨_, hb⟩ | ⟨_, _, K, k, ps, _, hp, hk, rfl⟩
 ·exact best_bd hb h0
 ·obtain ⟨m, h1, h2⟩ := hp.at hk.lt
  omega
theorem next_bd {c : Cf} (hc : mayB c = true) (zs : List Int) (s p : Int) : 0 ≤ nextZ c zs s p ∧ nextZ c zs s p < c.vocab := by
 have hm := may_parts hc
 obtain ⟨t, ht⟩ := draw_ex (rowK (smarkZ c zs) c.vocab.toNat) c.top c.heat s p
 unfold nextZ
 rw [ht.eq]
 have := draw_bd ht (by rw [rowK_len]; omega)
 rw [rowK_len] at this
 omega
theorem told_bd {c : Cf} (hc : mayB c = true) (ts : List Int) (seed : Int) : 0 ≤ toldZ c ts seed ∧ toldZ c ts seed < c.vocab := next_bd hc _ _ _
theorem refL_in {c : Cf} (hc : mayB c = true) (seed : Int) : ∀ m ts i, i < (refL c seed ts m).length → 0 ≤ (refL c seed ts m)[i]?.getD 0 ∧ (refL c seed ts m)[i]?.getD 0 < c.vocab := by
 intro m
 induction m with
 | zero => intro ts i h; simp [refL] at h
 | succ m ih =>
  intro ts i h
  rw [refL_succ] at h ⊢
  by_cases h1 : 256 ≤ ts.length
  ·rw [if_pos h1] at h; simp at h
  ·rw [if_neg h1] at h ⊢
   by_cases h2 : toldZ c ts seed = 0
   ·rw [if_pos h2] at h; simp at h
   ·rw [if_neg h2] at h ⊢
    cases i with
    | zero => simpa using told_bd hc ts seed
    | succ i => simpa using ih _ i (by simpa using h)
theorem refL_most (c : Cf) (seed : Int) : ∀ m ts, ts.length ≤ 256 → ts.length + (refL c seed ts m).length ≤ 256 := by
 intro m
 induction m with
 | zero => intro ts h; simp [refL]; omega
 | succ m ih =>
  intro ts h
  rw [refL_succ]
  by_cases h1 : 256 ≤ ts.length
  ·rw [if_pos h1]; simp; omega
  ·rw [if_neg h1]
   by_cases h2 : toldZ c ts seed = 0
   ·rw [if_pos h2]; simp; omega
   ·rw [if_neg h2]
    have := ih (ts ++ [toldZ c ts seed]) (by simp; omega)
    simp at this ⊢
    omega
theorem refL_step (c : Cf) (seed : Int) (ts : List Int) (m k : Nat) : refL c seed ts m = refL c seed ts (min m k) ++ refL c seed (ts ++ refL c seed ts (min m k)) (m - (refL c seed ts (min m k)).length) := by
 have h1 := refL_less c seed m ts (min m k) (Nat.min_le_left _ _)
 have hl : (refL c seed ts (min m k)).length ≤ (refL c seed ts m).length := by rw [h1, List.length_take]; omega
 have h2 := refL_rest c seed (refL c seed ts (min m k)).length m ts hl
 have h3 : (refL c seed ts m).take (refL c seed ts (min m k)).length = refL c seed ts (min m k) := by
  conv => lhs; rw [h1]
  rw [List.length_take]
  conv => rhs; rw [h1]
  rcases Nat.le_total (min m k) (refL c seed ts m).length with hh | hh
  ·rw [Nat.min_eq_left hh]
  ·rw [Nat.min_eq_right hh, List.take_length, List.take_of_length_le hh]
 rw [h3] at h2
 rw [← h2]
 conv => lhs; rw [← List.take_append_drop (refL c seed ts (min m k)).length (refL c seed ts m), h3]
end Go.Proofs.YtjgggialnegddaaGreat
namespace Go.Proofs.YtjgggialnegddaaGreat
open Go.RowKit
structure Mg where
 kind : Int
 att : Int
 inc : Int
 n : Int
 cnt : Int
 why : Int
 li : List Int
def ovM (id inc n why : Int) : Mg := ⟨9, id, inc, n, 0, why, []⟩
def emM (id inc n : Int) (li : List Int) : Mg := ⟨8, id, inc, n, 0, 0, li⟩
def poM (n inc cnt : Int) : Mg := ⟨11, 0, inc, n, cnt, 0, []⟩
structure At where
 id : Int
 seed : Int
 ts : List Int
 most : Nat
 k : Nat
 run : Bool
noncomputable def At.text (c : Cf) (a : At) : List Int := refL c a.seed (0 :: a.ts) a.most
structure Rs where
 s : Sg
 inc : Int
 dr : Bool
 L : List At
 tk : Nat
def setB (s : Sg) : Bool := mayB s.c && (btw s.q 1 64 && (btw s.b 1 16 && (btw s.ch 1 16 && (decide (s.pg = 0) || (btw s.pg 1 256 && btw s.sz 1 16)))))
def waitN (L : List At) : Nat := (L.filter fun a => !a.run).length
def fitB (c : Cf) (m : Ms) : Bool := mayJ c.vocab m.job.most m.job.ts && (decide (m.n ≤ m.job.most) && decide (m.n + m.job.ts.length < 256))
def hasB (L : List At) (id : Int) : Bool := L.any fun a => a.id == id
def newA (m : Ms) : At := ⟨m.att, m.job.seed, m.job.ts, m.job.most.toNat, m.n.toNat, false⟩
def startB (S : Rs) (m : Ms) : Bool := fitB S.s.c m && (!S.dr && decide ((waitN S.L : Int) < S.s.q))
def arrM (S : Rs) (m : Ms) : List Mg :=
 if m.kind = 10 then [poM m.n S.inc S.L.length]
 else if m.kind = 6 then
  if m.inc ≠ S.inc then [ovM m.att m.inc m.n 3]
  else if hasB S.L m.att = true then [] else if startB S m = true then [] else [ovM m.att m.inc m.n 2]
 else []
def arrS (S : Rs) (m : Ms) : Rs :=
 if m.inc ≠ S.inc then S
 else if m.kind = 6 then (if hasB S.L m.att = true then S else if startB S m = true then { S with L := S.L ++ [newA m] } else S)
 else if m.kind = 7 then { S with L := S.L.filter fun a => !(a.id == m.att) }
 else if m.kind = 12 then { S with dr := true }
 else S
def runL (b : Nat) : Nat → List At → List At
 | _, [] => []
 | n, a :: L => if a.run = true then a :: runL b (n + 1) L else if n < b then { a with run := true } :: runL b (n + 1) L else a :: runL b n L
def TellR (c : Cf) (ch : Nat) (inc : Int) (a : At) (ms : List Mg) (o : Option At) : Prop :=
 ((a.text c).length < a.k ∧ ms = [ovM a.id inc a.k 1] ∧ o = none) ∨
 (a.k ≤ (a.text c).length ∧ ∃ told, told = ((a.text c).drop a.k).take ch ∧
  ((told.length = ch ∧ ms = (if told = [] then [] else [emM a.id inc a.k told]) ∧ o = some { a with k := a.k + told.length }) ∨
   (a.k + told.length = (a.text c).length ∧ ms = (if told = [] then [] else [emM a.id inc a.k told]) ++ [ovM a.id inc (a.k + told.length : Nat) 1] ∧ o = none)))
def TellsR (c : Cf) (ch : Nat) (inc : Int) : List At → List Mg → List At → Prop
 | [], ms, L' => ms = [] ∧ L' = []
 | a :: L, ms, L' => (a.run = false ∧ ∃ L2, L' = a :: L2 ∧ TellsR c ch inc L ms L2) ∨ (a.run = true ∧ ∃ m1 m2 o L2, ms = m1 ++ m2 ∧ L' = o.toList ++ L2 ∧ TellR c ch inc a m1 o ∧ TellsR c ch inc L m2 L2)
def StepR (S : Rs) (ms : List Mg) (S' : Rs) : Prop := ∃ L', TellsR S.s.c S.s.ch.toNat S.inc (runL S.s.b.toNat 0 S.L) ms L' ∧ S' = { S with L := L', tk := S.tk + 32 }
end Go.Proofs.YtjgggialnegddaaGreat
