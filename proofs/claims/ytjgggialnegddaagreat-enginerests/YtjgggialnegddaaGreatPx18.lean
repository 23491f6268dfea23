/-
  RTold: Contracts: the document's Told, Ref and May of layer 12.
-/
import Derived.Test.YtjgggialnegddaaGreatPx17
import Derived.Deep.RegionHeld3
namespace Go.Proofs.YtjgggialnegddaaGreat
open Go.RowKit
set_option linter.unusedVariables false
set_option maxRecDepth 1000000

theorem rthrough_mem (c : Cf) (xs : List (List Int)) (k : Nat) (la : Option Addr) (lc : Nat) (ps : List Hp) (a : Option Addr) (n cap : Nat) (w : World) (hc : mayB c = true)
    (hp : PlsAt w la k lc ps (plK c c.layers.toNat xs) (plV c c.layers.toNat xs)) (hk : k ≤ 900) (hx : Reads .i64 w a n cap (xs[k]?.getD [])) (hn : n ≤ 1000) :
    Calls Tryz.prog 70 #[.agg (CfV c), .slice la k lc, .slice a n cap] w fun e w' => RThrB w (madeL c c.layers.toNat xs k) (plK c c.layers.toNat xs k) (plV c c.layers.toNat xs k) e w' := by
  have hm := may_parts hc
  obtain ⟨L, hL⟩ : ∃ L : Nat, c.layers.toNat = L := ⟨_, rfl⟩
  have hl : c.layers = (L : Int) := by omega
  rw [hL] at hp ⊢
  obtain ⟨s, v, d, l, tt, h⟩ := c
  simp only at hl
  subst hl
  refine rthrough_natB s v d tt h L la k lc ps _ _ (memL ⟨s, v, d, (L : Int), tt, h⟩ L xs k) a n cap _ w hc (by omega) hp (fun i hi => ?_) (fun j hj => ?_) hk hx hn (by omega)
  · unfold plK plV; rw [tblK_len, tblK_len]; exact ⟨rfl, rfl⟩
  · exact memL_rows _ _ _ _ hj

theorem new_two (w : World) (x y : Value) (T : TypeId) : (w.alloc (.cells #[x, y] T)).cell? ⟨w.heap.size, 0, none⟩ = some x ∧ (w.alloc (.cells #[x, y] T)).cell? ⟨w.heap.size, 1, none⟩ = some y := two_cells (heap_alloc_new w _)
/-- A place in a new variable of its own. -/
def PlNew (wr y4 W : World) (B : Nat) (x y : Hd) : Prop := W.heap[B]? = some (.cells #[.slice x.1 x.2.1 x.2.2, .slice y.1 y.2.1 y.2.2] 134 (0, 0)) ∧ Kp 134 y4 W ∧ Below wr.heap.size wr W
theorem plnew1 {wr y4 : World} (x1 : Option Addr) (x2 x3 : Nat) (y1 : Option Addr) (y2 y3 : Nat) (hV : Below wr.heap.size wr y4) : PlNew wr y4 (y4.alloc (.cells #[.slice x1 x2 x3, .slice y1 y2 y3] 134)) y4.heap.size (x1, x2, x3) (y1, y2, y3) :=
  ⟨heap_alloc_new _ _, kp_below ((Below.refl _ _).alloc (Nat.le_refl _) _), hV.alloc hV.size _⟩
theorem plnew2 {wr y4 : World} {B : Nat} {cs : Array Value} (x1 : Option Addr) (x2 x3 : Nat) (y1 : Option Addr) (y2 y3 : Nat) (hP : y4.heap[B]? = some (.cells #[.slice none 0 0, .slice none 0 0] 134 (0, 0))) (hV : Below wr.heap.size wr y4) (hB : wr.heap.size ≤ B) :
    PlNew wr y4 ((y4.setCell ⟨B, 0, none⟩ (.slice x1 x2 x3)).setCell ⟨B, 1, none⟩ (.slice y1 y2 y3)) B (x1, x2, x3) (y1, y2, y3) :=
  ⟨row_setCell (row_setCell hP), (Kp.set hP _).trans (Kp.set (row_setCell hP) _), (hV.setCell hB _).setCell hB _⟩
/-- What stands between the places of a text. -/
def TdAt (wA : World) (c : Cf) (ts : List Int) (k : Nat) (u7 u8 : Value) (W : World) : Prop :=
  ∃ (ps : List Hp) (ax : Option Addr) (nx cx : Nat), u8 = .slice ax nx cx ∧ Reads .i64 W ax nx cx (outK c ts k) ∧ BlI W ax ∧ PlO W wA.heap.size u7 k ps (plK c c.layers.toNat (tvsL c ts)) (plV c c.layers.toNat (tvsL c ts)) ∧ Below wA.heap.size wA W

set_option maxHeartbeats 4000000 in
theorem rtold_any (c : Cf) (a : Option Addr) (n cap : Nat) (ts : List Int) (seed : Int) (w : World) (hc : mayB c = true) (ha : Reads .i64 w a n cap ts) (hn : n ≤ 256) :
    Calls Tryz.prog 49 #[.agg (CfV c), .slice a n cap, .int .u64 seed] w fun e w' => e = .returned (.int .i64 (toldZ c ts seed)) ∧ Below w.heap.size w w' := by
  obtain ⟨i0, hi, hz0, hz1, hz2⟩ := info_parts Tryz.infoPl
  have hz := ha.size
  have r1 := ha.room
  have m1 := ha.most
  obtain ⟨wA, hwA⟩ : ∃ wA, wA = w.alloc (.cells (CfV c) 24) := ⟨_, rfl⟩
  have HB0 : Hid (Below w.heap.size w wA) := by unfold Hid; rw [hwA]; exact (Below.refl _ _).alloc (Nat.le_refl _) _
  have HK := hid fun (W : World) (hb : Below wA.heap.size wA W) => Cf_cells (block_below (show wA.heap[w.heap.size]? = some (.cells (CfV c) 24 (0, 0)) by rw [hwA]; exact heap_alloc_new w _) hb)
  have HA := hid fun (W : World) (hb : Below wA.heap.size wA W) => (ha.below HB0.out).below hb
  have HT := hid fun (k : Nat) W => rtoken_g c (ts[k]?.getD 0) W hc
  have HPl := hid fun (k : Nat) W => rplace_g c (k : Int) W hc
  have HT16 := hid fun (k : Nat) => tokL_len hc (ts[k]?.getD 0)
  have HP16 := hid fun (k : Nat) => plL_len hc (k : Int)
  have HAd := hid fun (k : Nat) a1 n1 c1 a2 n2 c2 W (h1 : Reads .i64 W a1 n1 c1 (tokL c (ts[k]?.getD 0))) (h2 : Reads .i64 W a2 n2 c2 (plL c (k : Int))) (q1 : n1 ≤ 1000) (q2 : n2 ≤ 1000) => rvadd_any a1 a2 n1 c1 n2 c2 _ _ W h1 h2 q1 q2
  have HTv : Hid (∀ (k : Nat) n1 n2, n1 = (tokL c (ts[k]?.getD 0)).length → n2 = (plL c (k : Int)).length → k < ts.length → pairK addZ (tokL c (ts[k]?.getD 0)) (plL c (k : Int)) (min n1 n2) = (tvsL c ts)[k]?.getD []) := fun k n1 n2 h1 h2 hk => by
    rw [tvsL_at c ts hk, h1, h2]; rfl
  have HTh := hid fun (k : Nat) la lc ps a' n' cap' W (hp : PlsAt W la k lc ps (plK c c.layers.toNat (tvsL c ts)) (plV c c.layers.toNat (tvsL c ts))) (hk : k ≤ 900) (hx : Reads .i64 W a' n' cap' ((tvsL c ts)[k]?.getD [])) (hn' : n' ≤ 1000) => rthrough_mem c (tvsL c ts) k la lc ps a' n' cap' W hc hp hk hx hn'
  have HNx := hid fun a' n' cap' W (hx : Reads .i64 W a' n' cap' (outK c ts n)) (hn' : n' ≤ 1000) => rnext_any c a' n' cap' (outK c ts n) seed (n : Int) W hc hx hn'
  have HO16 := hid (outK_len hc ts n)
  have HTo : Hid (nextZ c (outK c ts n) seed (n : Int) = toldZ c ts seed) := by unfold Hid toldZ; rw [hz]
  have HOu : Hid (∀ k : Nat, madeL c c.layers.toNat (tvsL c ts) k = outK c ts (k + 1)) := fun k => rfl
  have HS0 : Hid (TdAt wA c ts 0 (.slice none 0 0) (.slice none 0 0) wA) := ⟨[], none, 0, 0, rfl, Reads.nil _ _, BlI.none _, PlO.nil _ _ _ _, Below.refl _ _⟩
  rw [HTo.out] at HNx
  clear ha hc HTo
  generalize toldZ c ts seed = td at *
  obtain ⟨KK, hKK⟩ : ∃ KK, KK = plK c c.layers.toNat (tvsL c ts) := ⟨_, rfl⟩
  obtain ⟨VV, hVV⟩ : ∃ VV, VV = plV c c.layers.toNat (tvsL c ts) := ⟨_, rfl⟩
  have HTd : Hid (∀ k u7 u8 W, TdAt wA c ts k u7 u8 W ↔ ∃ (ps : List Hp) (ax : Option Addr) (nx cx : Nat), u8 = .slice ax nx cx ∧ Reads .i64 W ax nx cx (outK c ts k) ∧ BlI W ax ∧ PlO W wA.heap.size u7 k ps KK VV ∧ Below wA.heap.size wA W) := fun k u7 u8 W => by rw [hKK, hVV]; rfl
  rw [← hKK, ← hVV] at HTh
  simp only [HOu.out] at HTh
  clear HOu
  clear hKK hVV
  obtain ⟨F, hF⟩ : ∃ F : Nat → List Int, F = outK c ts := ⟨_, rfl⟩
  rw [← hF] at HTd HTh HNx HO16
  obtain ⟨G, hG⟩ : ∃ G : Nat → List Int, G = fun k => (tvsL c ts)[k]?.getD [] := ⟨_, rfl⟩
  have hGk : ∀ k : Nat, (tvsL c ts)[k]?.getD [] = G k := fun k => by rw [hG]
  simp only [hGk] at HTv HTh
  clear hG hGk hF
  obtain ⟨T, hT⟩ : ∃ T : Nat → Value → Value → World → Prop, T = TdAt wA c ts := ⟨_, rfl⟩
  rw [← hT] at HTd HS0
  clear hT
  obtain ⟨X, hX⟩ : ∃ X : Nat → List Int, X = fun k => tokL c (ts[k]?.getD 0) := ⟨_, rfl⟩
  have hXk : ∀ k : Nat, tokL c (ts[k]?.getD 0) = X k := fun k => by rw [hX]
  obtain ⟨Y, hY⟩ : ∃ Y : Nat → List Int, Y = fun k => plL c ((k : Nat) : Int) := ⟨_, rfl⟩
  have hYk : ∀ k : Nat, plL c (k : Int) = Y k := fun k => by rw [hY]
  simp only [hXk] at HT HT16 HAd HTv
  simp only [hYk] at HPl HP16 HAd HTv
  clear hX hXk hY hYk
  obtain ⟨s, v, d, l, tt, h⟩ := c
  unfold CfV at HT HPl HTh HNx hwA ⊢
  simp only at HT HPl HTh HNx HK hwA ⊢
  go_enter Tryz.func49, Tryz.ntmps49
  go_wp2_with fail
  rw [← hwA]
  clear hwA
  go_loopw [7, 8, 9] (fun u x i W => ∃ k : Nat, k ≤ n ∧ i = .int .i64 k ∧ Hid (T k u x W)) (fun _ _ i _ => n - (intOf i).toNat)
  case atStart => exact ⟨0, Nat.zero_le _, rfl, HS0⟩
  case round =>
  obtain ⟨k, hk, rfl, HTk⟩ := hrel
  rename World => wr
  clear HS0
  obtain ⟨ps, ax, nx, cx, rfl, hRx, hBx, hPl, hW⟩ := (HTd.out _ _ _ _).1 HTk.out
  have HRx := hid hRx
  have HW := hid hW
  have HPO := hid hPl
  clear HTk hRx hBx hW
  by_cases hlt : k < n
  · obtain ⟨ap, cp, rfl, hPA⟩ := hPl.at
    have HPA := hid hPA
    clear hPl hPA
    obtain ⟨b1, o1, rfl, c1⟩ := (HA.out _ HW.out).cell k hlt
    have q1 : (k : Int) < (n : Int) := by omega
    have HKK : Hid (∀ W : World, Below wr.heap.size wr W → (W.cell? ⟨w.heap.size, 0, none⟩ = some (.int .u64 s) ∧ W.cell? ⟨w.heap.size, 1, none⟩ = some (.int .i64 v) ∧ W.cell? ⟨w.heap.size, 2, none⟩ = some (.int .i64 d) ∧ W.cell? ⟨w.heap.size, 3, none⟩ = some (.int .i64 l) ∧ W.cell? ⟨w.heap.size, 4, none⟩ = some (.int .i64 tt) ∧ W.cell? ⟨w.heap.size, 5, none⟩ = some (.int .i64 h)) ∧ W.cell? ⟨b1, o1 + k, none⟩ = some (.int .i64 (ts[k]?.getD 0))) := fun W hb => ⟨HK.out W (HW.out.trans (hb.mono HW.out.size)), cell_later_of c1 hb⟩
    have h16 := HT16.out k
    have h17 := HP16.out k
    have HE := hid (HTv.out k _ _ rfl rfl (by omega))
    replace HT := hid (HT.out k)
    replace HPl := hid (HPl.out k)
    replace HAd := hid (HAd.out k)
    replace HTh := hid (HTh.out k)
    clear HNx HO16 HA HK HTv HRx HT16 HP16 c1
    generalize ts[k]?.getD 0 = tk at *
    generalize X k = xs at *
    generalize Y k = ys at *
    have HV : Hid (Below wr.heap.size wr wr.drew) := (Below.refl _ _).drew
    go_wp2_with fail
    have HAl : Hid (∀ (W : World) (o : Obj), Below W.heap.size W (W.alloc o)) := fun W o => (Below.refl _ _).alloc (Nat.le_refl _) _
    go_region_held3 (fun W : World => (W.cell? ⟨w.heap.size, 0, none⟩ = some (.int .u64 s) ∧ W.cell? ⟨w.heap.size, 1, none⟩ = some (.int .i64 v) ∧ W.cell? ⟨w.heap.size, 2, none⟩ = some (.int .i64 d) ∧ W.cell? ⟨w.heap.size, 3, none⟩ = some (.int .i64 l) ∧ W.cell? ⟨w.heap.size, 4, none⟩ = some (.int .i64 tt) ∧ W.cell? ⟨w.heap.size, 5, none⟩ = some (.int .i64 h)) ∧ W.cell? ⟨b1, o1 + k, none⟩ = some (.int .i64 tk)) (first | (with_reducible exact HKK.out _ (Below.refl _ _)) | (with_reducible exact HKK.out _ HV.out) | (exact HKK.out _ (HV.out.trans ((HAl.out _ _).mono HV.out.size))) | (exact HKK.out _ ((HV.out.setCell HGe.out _).setCell HGe.out _)))
      (first
        | (go_at_call 72; (with_reducible refine (HT.out _).mono ?_); rintro e y1 ⟨u1, rfl, ho, hb⟩; obtain ⟨p1, d1, rfl, hr1⟩ := Reads.own (k := .i64) ho; (first | (replace HV := hid (HV.out.trans (hb.mono HV.out.size)); (try replace HPb := hid (block_below HPb.out hb))) | (have HPb : Hid (y1.heap[wr.heap.size]? = some (.cells #[.slice none 0 0, .slice none 0 0] 134 (0, 0))) := block_below (heap_alloc_new wr.drew (.cells #[.slice none 0 0, .slice none 0 0] 134)) hb; have HGe : Hid (wr.heap.size ≤ wr.heap.size) := Nat.le_refl _; replace HV := hid ((HV.out.trans ((HAl.out _ _).mono HV.out.size)).trans (hb.mono (Nat.le_trans HV.out.size (HAl.out _ _).size))))); have HR1 := hid hr1; clear hb ho hr1)
        | (go_at_call 73; (with_reducible refine (HPl.out _).mono ?_); rintro e y2 ⟨p2, d2, rfl, hr2, hb⟩; (first | (replace HV := hid (HV.out.trans (hb.mono HV.out.size)); replace HR1 := hid (HR1.out.below hb); (try replace HPb := hid (block_below HPb.out hb))) | (have HPb := hid (block_below (heap_alloc_new y1 (.cells #[.slice none 0 0, .slice none 0 0] 134)) hb); have HGe : Hid (wr.heap.size ≤ y1.heap.size) := HV.out.size; replace HV := hid ((HV.out.trans ((HAl.out _ _).mono HV.out.size)).trans (hb.mono (Nat.le_trans HV.out.size (HAl.out _ _).size))); replace HR1 := hid ((HR1.out.below (HAl.out _ _)).below hb))); have HR2 := hid hr2; clear hb hr2)
        | (go_at_call 71; (first | (with_reducible refine (HAd.out _ _ _ _ _ _ _ HR1.out HR2.out (by omega) (by omega)).mono ?_) | (with_reducible refine (HAd.out _ _ _ _ _ _ _ (HR1.out.below (HAl.out _ _)) (HR2.out.below (HAl.out _ _)) (by omega) (by omega)).mono ?_)); rintro e y3 ⟨p3, d3, rfl, hr3, hb⟩; rw [HE.out] at hr3; (first | (replace HV := hid (HV.out.trans (hb.mono HV.out.size)); (try replace HPb := hid (block_below HPb.out hb))) | (have HPb := hid (block_below (heap_alloc_new y2 (.cells #[.slice none 0 0, .slice none 0 0] 134)) hb); have HGe : Hid (wr.heap.size ≤ y2.heap.size) := HV.out.size; replace HV := hid ((HV.out.trans ((HAl.out _ _).mono HV.out.size)).trans (hb.mono (Nat.le_trans HV.out.size (HAl.out _ _).size))))); have HR3 := hid hr3; clear hb hr3 HR1 HR2)
        | (go_at_call 70; (first | (with_reducible refine (HTh.out _ _ _ _ _ _ _ (HPA.out.below HV.out) (by omega) HR3.out (by omega)).mono ?_) | (with_reducible refine (HTh.out _ _ _ _ _ _ _ ((HPA.out.below HV.out).below (HAl.out _ _)) (by omega) (HR3.out.below (HAl.out _ _)) (by omega)).mono ?_)); rintro e y4 ⟨p4, n4, d4, ⟨k1, k2, k3⟩, ⟨v1, v2, v3⟩, rfl, hr4, hi4, hk4, hv4, hb⟩; (first | (replace HV := hid (HV.out.trans (hb.mono HV.out.size)); (try replace HPb := hid (block_below HPb.out hb))) | (have HPb := hid (block_below (heap_alloc_new y3 (.cells #[.slice none 0 0, .slice none 0 0] 134)) hb); have HGe : Hid (wr.heap.size ≤ y3.heap.size) := HV.out.size; replace HV := hid ((HV.out.trans ((HAl.out _ _).mono HV.out.size)).trans (hb.mono (Nat.le_trans HV.out.size (HAl.out _ _).size))))); have HR4 := hid hr4; have HI4 := hid hi4; have HK4 := hid hk4; have HV4 := hid hv4; (try (obtain ⟨z0, z1⟩ := two_cells HPb.out; have f0 := frozen_of_row _ _ 0 _ _ HPb.out; have f1 := frozen_of_row _ _ 1 _ _ HPb.out)); clear hb hr4 hi4 hk4 hv4 HR3))
    all_goals
      first
        | (have HN := hid (plnew2 (wr := wr) (y4 := y4) (B := y3.heap.size) (cs := #[]) k1 k2 k3 v1 v2 v3 HPb.out HV.out HGe.out); generalize (y4.setCell ⟨y3.heap.size, 0, none⟩ (.slice k1 k2 k3)).setCell ⟨y3.heap.size, 1, none⟩ (.slice v1 v2 v3) = W5 at *; clear HPb HGe z0 z1 f0 f1)
        | (have HN := hid (plnew2 (wr := wr) (y4 := y4) (B := y2.heap.size) (cs := #[]) k1 k2 k3 v1 v2 v3 HPb.out HV.out HGe.out); generalize (y4.setCell ⟨y2.heap.size, 0, none⟩ (.slice k1 k2 k3)).setCell ⟨y2.heap.size, 1, none⟩ (.slice v1 v2 v3) = W5 at *; clear HPb HGe z0 z1 f0 f1)
        | (have HN := hid (plnew2 (wr := wr) (y4 := y4) (B := y1.heap.size) (cs := #[]) k1 k2 k3 v1 v2 v3 HPb.out HV.out HGe.out); generalize (y4.setCell ⟨y1.heap.size, 0, none⟩ (.slice k1 k2 k3)).setCell ⟨y1.heap.size, 1, none⟩ (.slice v1 v2 v3) = W5 at *; clear HPb HGe z0 z1 f0 f1)
        | (have HN := hid (plnew2 (wr := wr) (y4 := y4) (B := wr.heap.size) (cs := #[]) k1 k2 k3 v1 v2 v3 HPb.out HV.out HGe.out); generalize (y4.setCell ⟨wr.heap.size, 0, none⟩ (.slice k1 k2 k3)).setCell ⟨wr.heap.size, 1, none⟩ (.slice v1 v2 v3) = W5 at *; clear HPb HGe z0 z1 f0 f1)
        | (have HN := hid (plnew1 (wr := wr) (y4 := y4) k1 k2 k3 v1 v2 v3 HV.out); generalize y4.alloc (.cells #[.slice k1 k2 k3, .slice v1 v2 v3] 134) = W5 at *)
      obtain ⟨hB5, hK5, hb5⟩ := HN.out
      simp only at hB5
      obtain ⟨z0, z1⟩ := two_cells hB5
      have HPO5 := hid (HPO.out.below hb5)
      have HR5 := hid (Reads.keep HR4.out HI4.out hK5 (by decide))
      have HTk5 := hid (HK4.out.keep hK5 (by decide) (by decide))
      have HTv5 := hid (HV4.out.keep hK5 (by decide) (by decide))
      have HW5 := hid (HW.out.trans (hb5.mono HW.out.size))
      have HS5 : Hid (wA.heap.size ≤ W5.heap.size) := HW5.out.size
      clear hB5 hK5 hb5 HN HR4 HI4 HK4 HV4 HV HPO HW HPA HKK HT HPl HAd HTh HE h16 h17
      have HTn := hid (new_two W5)
      go_wp2_with (at_builtin; refine append_place _ rfl (.tmp 35) (.tmp 37) 130 rfl wA.heap.size i0 Tryz.underlying130 hi hz0 hz1 hz2 _ k _ rfl (own_below HPO5.out.own (HAl.out _ _)) (by omega) W5.heap.size (k1, k2, k3) (v1, v2, v3) rfl (HTn.out _ _ _).1 (HTn.out _ _ _).2 (Nat.le_trans HS5.out (HAl.out _ _).size) ?_; intro v6 w6 hO6 hg6)
      have HFin : Hid (T (k + 1) v6 (.slice p4 n4 d4) w6) := by
        obtain ⟨g1, g2⟩ := HPO5.out.snoc HTk5.out HTv5.out hO6 hg6
        obtain ⟨g3, g4⟩ := Reads.keep HR5.out.1 HR5.out.2 g2 (by decide)
        refine (HTd.out _ _ _ _).2 ⟨_, p4, n4, d4, rfl, g3, g4, g1, ?_⟩
        exact (HW5.out.alloc HS5.out _).grown hg6 (Nat.le_trans HS5.out (HAl.out _ _).size) fun g hg => (HPO5.out.own.lt g hg).1
      clear hO6 hg6 HPO5 HR5 HTk5 HTv5 HW5 HS5 HTn HTd z0 z1
      go_wp2_with fail
      go_round
      case rel => exact ⟨k + 1, by omega, by go_num, HFin⟩
      case measure => simp [intOf]; omega
  · obtain rfl : k = n := by omega
    obtain ⟨x0, x1, x2, x3, x4, x5⟩ := HK.out _ HW.out
    have h16 := HO16.out
    have hnx := HRx.out.size
    have hN := HNx.out _ _ _ wr HRx.out (by omega)
    have HBW := hid (HB0.out.trans (HW.out.mono HB0.out.size))
    clear HT HPl HAd HTh HTv HT16 HP16 HO16 HNx HA HK HTd HPO hPl HRx HW HB0
    go_wp2_with fail
    refine hN.mono ?_
    rintro e w2 ⟨rfl, hb⟩
    replace HBW := hid (HBW.out.trans (hb.mono HBW.out.size))
    clear hN hb x0 x1 x2 x3 x4 x5
    go_wp2
    go_ret
    exact ⟨rfl, HBW.out⟩
end Go.Proofs.YtjgggialnegddaaGreat
