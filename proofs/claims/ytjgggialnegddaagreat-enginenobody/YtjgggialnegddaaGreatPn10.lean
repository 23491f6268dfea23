/-
  The texts Pairs, Softs, RModels, RMTables of this proof.
-/
import Derived.Test.YtjgggialnegddaaGreatPn09
import Derived.Deep.AppendLies
import Derived.Deep.RegionLaw
set_option linter.unusedVariables false
set_option maxRecDepth 1000000
namespace Go.Proofs.YtjgggialnegddaaGreat
open Go.RowKit
theorem pair1_end {Bm g base n cap : Nat} {us : List Int} {z : Int} {wr w3 : World} (hgm : Bm ≠ g) (hO3 : w3.ownsRow base 2 1 (.slice (some ⟨g, 0, none⟩) (n + 1) cap) (n + 1) (us.map (Value.int .i64) ++ [.int .i64 z]))
  (hq : w3.heap[Bm]? = some (.cells #[.slice (some ⟨g, 0, none⟩) n cap] 131 (0, 0))) (hG : But [g] wr w3) :
  OwnK 2 base g (n + 1) cap (us ++ [z]) (w3.setCell ⟨Bm, 0, none⟩ (.slice (some ⟨g, 0, none⟩) (n + 1) cap)) ∧
  (w3.setCell ⟨Bm, 0, none⟩ (.slice (some ⟨g, 0, none⟩) (n + 1) cap)).heap[Bm]? = some (.cells #[.slice (some ⟨g, 0, none⟩) (n + 1) cap] 131 (0, 0)) ∧
  But [Bm, g] wr (w3.setCell ⟨Bm, 0, none⟩ (.slice (some ⟨g, 0, none⟩) (n + 1) cap)) := by
 refine ⟨?_, one_setCell hq, (hG.mono (by simp)).set (p := ⟨Bm, 0, none⟩) (by simp) _⟩
 unfold OwnK
 rw [List.map_append]
 exact ownsRow_setCell_other hO3 (by simp [Value.ownBlock]; exact fun e => hgm e.symm) _
set_option maxHeartbeats 1000000 in
theorem pair1_any (fn : Nat) (caps : Array Value) (hE : ∀ args w, (callFunc fn args).run Tryz.prog w = .ok (.enter fn args) w) (x y z : Int) (Bm Bo base g n cap : Nat) (us : List Int) (wr : World) (hcap : cap ≤ 1000) (hn : n < cap)
  (ho : wr.heap[Bo]? = some (.cells #[.func (.func fn) #[] caps] 169 (0, 0))) (hq : wr.heap[Bm]? = some (.cells #[.slice (some ⟨g, 0, none⟩) n cap] 131 (0, 0)))
  (hO : OwnK 2 base g n cap us wr) (hgo : Bo ≠ g) (hgm : Bm ≠ g) (hom : Bo ≠ Bm)
  (hC : Calls Tryz.prog fn (#[.int .i64 x, .int .i64 y] ++ caps) wr.drew fun e w' => e = .returned (.int .i64 z) ∧ Below wr.heap.size wr w') :
  Calls Tryz.prog 204 #[.int .i64 x, .int .i64 y, .pointer (some ⟨Bm, 0, none⟩), .pointer (some ⟨Bo, 0, none⟩)] wr fun e w' => e = .returned (.tuple #[]) ∧ OwnK 2 base g (n + 1) cap (us ++ [z]) w' ∧
   w'.heap[Bm]? = some (.cells #[.slice (some ⟨g, 0, none⟩) (n + 1) cap] 131 (0, 0)) ∧ But [Bm, g] wr w' := by
 obtain ⟨i0, hi, hz0, hz1, hz2⟩ := info_parts Tryz.info2
 have cd := cell_of_one ho
 have cq := cell_of_one hq
 have HO := hid hO
 have HK : Hid (∀ W, But [g] wr W → W.cell? ⟨Bo, 0, none⟩ = some (.func (.func fn) #[] caps) ∧ W.cell? ⟨Bm, 0, none⟩ = some (.slice (some ⟨g, 0, none⟩) n cap)) :=
  fun W h => ⟨h.cell cd (by simpa using hgo), h.cell cq (by simpa using hgm)⟩
 have HF : Hid (∀ W, But [g] wr W → W.heap[Bm]? = some (.cells #[.slice (some ⟨g, 0, none⟩) n cap] 131 (0, 0))) := fun W h => h.one hq (by simpa using hgm)
 have HGM : Hid (Bm ≠ g) := hgm
 clear ho hq hO hgo hgm
 go_enter Tryz.func204, Tryz.ntmps204
 go_wp2_with fail
 go_region_law ((first | (refine step_call2 (by rfl) 10 (by rfl) (.tmp 7) (.tmp 8) (.tmp 9) 2 2 (by rfl) fn caps (by rfl) hE (.int .i64 x) (.int .i64 y) (by rfl) (by rfl) (.int .i64 z) (fun w' => Below wr.heap.size wr w') hC ?_; intro w2 hB; have cm2 := (HK.out _ (But.of hB)).2; have cm3 := (HK.out _ ((But.of hB).alloc (.cells #[.int .i64 z] 2))).2) | (refine step_append_fits (by rfl) 12 (by rfl) (.tmp 6) (.tmp 11) 131 (by rfl) base 2 i0 1 Tryz.underlying131 hi hz1 g n cap (us.map (Value.int .i64)) (by rfl) ((HO.out.stays hB).alloc _) ⟨w2.heap.size, 0, none⟩ 1 1 [.int .i64 z] (by rfl) rfl (news_one _ _ _ _) (one_cell _ _) (by omega) ?_; intro w3 hO3 hg; have HG := hid (but_grown ((But.of hB).alloc (.cells #[.int .i64 z] 2)) hg (List.mem_singleton.2 rfl)); have cm := (HK.out _ HG.out).2; have fm := free_of_one (HF.out _ HG.out))))
 all_goals
  have HE1 := hid (pair1_end HGM.out hO3 (HF.out _ HG.out) HG.out)
  clear hO3 hg HG cm fm cm2 cm3 hB HF HK cd cq HO hC hi hz0 hz1 hz2
  go_wp2
  go_end0
  exact ⟨rfl, HE1.out⟩
structure PairAt (w : World) (fn : Nat) (caps : Array Value) (B cap n : Nat) (us : List Int) (W : World) : Prop where
 old : Below w.heap.size w W
 fun_ : W.heap[B]? = some (.cells #[.func (.func fn) #[] caps] 169 (0, 0))
 var : W.heap[B + 2]? = some (.cells #[.slice (some ⟨B + 1, 0, none⟩) n cap] 131 (0, 0))
 own : OwnK 2 w.heap.size (B + 1) n cap us W
theorem PairAt.below {w : World} {fn : Nat} {caps : Array Value} {B cap n : Nat} {us : List Int} {W W' : World} (h : PairAt w fn caps B cap n us W) (hb : Below W.heap.size W W') : PairAt w fn caps B cap n us W' :=
 ⟨h.old.trans (hb.mono h.old.size), (hb.block _ (lt_of_block h.fun_)).trans h.fun_, (hb.block _ (lt_of_block h.var)).trans h.var, h.own.stays hb⟩
theorem PairAt.new (w : World) (fn : Nat) (caps : Array Value) (m : Nat) (hm : m ≤ 1000) :
  PairAt w fn caps w.heap.size m 0 [] (((w.alloc (.cells #[.func (.func fn) #[] caps] 169)).alloc (.cells (madeCells #[.int .i64 0] m) 2)).alloc (.cells #[.slice (some ⟨w.heap.size + 1, 0, none⟩) 0 m] 131)) := by
 have h1 := own_room 2 (w.alloc (.cells #[.func (.func fn) #[] caps] 169)) m (by omega)
 have e1 : (w.alloc (.cells #[.func (.func fn) #[] caps] 169)).heap.size = w.heap.size + 1 := by simp
 rw [e1] at h1
 refine ⟨?_, ?_, ?_, ?_⟩
 ·exact (((Below.refl _ _).alloc (Nat.le_refl _) _).alloc (by simp) _).alloc (by simp; omega) _
 ·rw [Below.heap_alloc _ _ _ (by simp; omega), Below.heap_alloc _ _ _ (by simp)]
  exact heap_alloc_new w _
 ·have := heap_alloc_new ((w.alloc (.cells #[.func (.func fn) #[] caps] 169)).alloc (.cells (madeCells #[.int .i64 0] m) 2)) (.cells #[.slice (some ⟨w.heap.size + 1, 0, none⟩) 0 m] 131)
  simpa using this
 ·exact (h1.low (by omega)).stays ((Below.refl _ _).alloc (Nat.le_refl _) _)
def pairK (f : Int → Int → Int) (xs ys : List Int) : Nat → List Int
 | 0 => []
 | k + 1 => pairK f xs ys k ++ [f (xs[k]?.getD 0) (ys[k]?.getD 0)]
theorem pairK_len (f : Int → Int → Int) (xs ys : List Int) (k : Nat) : (pairK f xs ys k).length = k := by
 induction k with
 | zero => rfl
 | succ k ih => simp [pairK, ih]
theorem pairEach_any (fn : Nat) (caps : Array Value) (hE : ∀ args w, (callFunc fn args).run Tryz.prog w = .ok (.enter fn args) w) (a b : Option Addr) (la ca lb cb : Nat) (xs ys : List Int) (w W : World) (ha : Reads .i64 w a la ca xs) (hb : Reads .i64 w b lb cb ys) (hla : la ≤ 1000) (hlb : lb ≤ 1000) (f : Int → Int → Int)
  (hC : ∀ x y wr, Below w.heap.size w wr → Calls Tryz.prog fn (#[.int .i64 x, .int .i64 y] ++ caps) wr fun e w' => e = .returned (.int .i64 (f x y)) ∧ Below wr.heap.size wr w')
  (h0 : PairAt w fn caps w.heap.size (min la lb) 0 [] W) :
  Calls Tryz.prog 203 #[.slice a la ca, .slice b lb cb, .func (.func 204) #[] #[.pointer (some ⟨w.heap.size + 2, 0, none⟩), .pointer (some ⟨w.heap.size, 0, none⟩)]] W
   fun e w' => e = .returned (.tuple #[]) ∧ PairAt w fn caps w.heap.size (min la lb) (min la lb) (pairK f xs ys (min la lb)) w' := by
 have hS : ∀ s ∈ [w.heap.size + 2, w.heap.size + 1], w.heap.size ≤ s := by simp
 refine (both_any 204 _ (enters_of Tryz.func204 (by kernel_rfl) rfl) [w.heap.size + 2, w.heap.size + 1] a b la ca lb cb xs ys W (ha.below h0.old) (hb.below h0.old) hla hlb ?_ (ha.past hS) (hb.past hS)
  (fun k W => PairAt w fn caps w.heap.size (min la lb) k (pairK f xs ys k) W) h0 (fun k W W' h hb => h.below hb) ?_).mono fun e w' h => ⟨h.1, h.2.1⟩
 ·have h1 := lt_of_block h0.var
  intro s hs
  simp at hs
  omega
 ·intro k wr hk hk' hI
  have hdr : Below wr.heap.size wr wr.drew := (Below.refl _ _).drew
  refine (pair1_any fn caps hE _ _ (f (xs[k]?.getD 0) (ys[k]?.getD 0)) (w.heap.size + 2) w.heap.size w.heap.size (w.heap.size + 1) k (min la lb) _ wr (by omega) (by omega) hI.fun_ hI.var hI.own (by omega) (by omega) (by omega) ?_).mono ?_
  ·exact (hC _ _ _ (hI.old.trans (hdr.mono hI.old.size))).mono fun e w' ⟨h1, h2⟩ => ⟨h1, hdr.trans (h2.mono (Nat.le_refl _))⟩
  ·rintro e w' ⟨h1, h2, h3, h4⟩
   exact ⟨h1, ⟨hI.old.trans (h4.to hS hI.old.size), h4.one hI.fun_ (by simp), h3, h2⟩, h4⟩
theorem madeofboth_any (fn : Nat) (caps : Array Value) (hE : ∀ args w, (callFunc fn args).run Tryz.prog w = .ok (.enter fn args) w) (a b : Option Addr) (la ca lb cb : Nat) (xs ys : List Int) (w : World) (ha : Reads .i64 w a la ca xs) (hb : Reads .i64 w b lb cb ys) (hla : la ≤ 1000) (hlb : lb ≤ 1000) (f : Int → Int → Int)
  (hC : ∀ x y wr, Below w.heap.size w wr → Calls Tryz.prog fn (#[.int .i64 x, .int .i64 y] ++ caps) wr fun e w' => e = .returned (.int .i64 (f x y)) ∧ Below wr.heap.size wr w') :
  Calls Tryz.prog 177 #[.slice a la ca, .slice b lb cb, .func (.func fn) #[] caps] w fun e w' => Made w (min la lb) (pairK f xs ys (min la lb)) e w' := by
 obtain ⟨m, hm⟩ : ∃ m, min la lb = m := ⟨_, rfl⟩
 have hm1 : m ≤ 1000 := by omega
 have HM := hid fun W => pairEach_any fn caps hE a b la ca lb cb xs ys w W ha hb hla hlb f hC
 rw [hm] at HM ⊢
 have hmk := make_room (w.alloc (.cells #[.func (.func fn) #[] caps] 169)) m (by omega)
 clear ha hb hC
 rcases Nat.lt_or_ge lb la with hl | hl
 ·obtain rfl : lb = m := by omega
  clear hm
  go_enter Tryz.func177, Tryz.ntmps177
  go_wp2_with fail
  refine (count_any _ _ _ _ hla).mono ?_
  rintro e w' ⟨rfl, rfl⟩
  go_wp2_with fail
  refine (count_any _ _ _ _ hlb).mono ?_
  rintro e w' ⟨rfl, rfl⟩
  go_wp2_with fail
  refine (HM.out _ (PairAt.new _ _ _ _ hm1)).mono ?_
  rintro e w' ⟨rfl, h⟩
  have cv := cell_of_one h.var
  have HO := hid h.own
  have HB := hid h.old
  clear h HM hmk
  go_wp2
  go_ret
  exact ⟨_, _, rfl, HO.out, HB.out⟩
 ·obtain rfl : la = m := by omega
  clear hm
  go_enter Tryz.func177, Tryz.ntmps177
  go_wp2_with fail
  refine (count_any _ _ _ _ hla).mono ?_
  rintro e w' ⟨rfl, rfl⟩
  go_wp2_with fail
  refine (count_any _ _ _ _ hlb).mono ?_
  rintro e w' ⟨rfl, rfl⟩
  go_wp2_with fail
  refine (HM.out _ (PairAt.new _ _ _ _ hm1)).mono ?_
  rintro e w' ⟨rfl, h⟩
  have cv := cell_of_one h.var
  have HO := hid h.own
  have HB := hid h.old
  clear h HM hmk
  go_wp2
  go_ret
  exact ⟨_, _, rfl, HO.out, HB.out⟩
theorem vadd_any (a b : Option Addr) (la ca lb cb : Nat) (xs ys : List Int) (w : World) (ha : Reads .i64 w a la ca xs) (hb : Reads .i64 w b lb cb ys) (hla : la ≤ 1000) (hlb : lb ≤ 1000) :
  Calls Tryz.prog 150 #[.slice a la ca, .slice b lb cb] w fun e w' => Made w (min la lb) (pairK addZ xs ys (min la lb)) e w' := by
 have HE := hid (madeofboth_any 178 #[] (enters_of Tryz.func178 (by kernel_rfl) rfl) a b la ca lb cb xs ys w ha hb hla hlb addZ fun x y wr hb => (add_any x y wr).mono fun e w' ⟨h1, h2⟩ => ⟨h1, by rw [h2]; exact Below.refl _ _⟩)
 clear ha hb
 go_enter Tryz.func150, Tryz.ntmps150
 go_wp2_with fail
 refine HE.out.mono ?_
 rintro e w' ⟨g, cap, rfl, hO, hb⟩
 have HO := hid hO
 have HB := hid hb
 clear hO hb HE
 go_wp2
 go_ret
 exact ⟨_, _, rfl, HO.out, HB.out⟩
end Go.Proofs.YtjgggialnegddaaGreat
namespace Go.Proofs.YtjgggialnegddaaGreat
open Go.RowKit
def sumK (ps : List Int) : Nat → Int
 | 0 => 0
 | k + 1 => addZ (sumK ps k) (ps[k]?.getD 0)
def rootZ (zs : List Int) : Int := sqrtZ (addZ (divZ (dotK zs zs zs.length) (fromZ zs.length)) 1)
def normL (zs : List Int) : List Int := zs.map (divZ · (rootZ zs))
def powL (zs : List Int) : List Int := zs.map fun x => expZ (addZ x (-(greatK zs zs.length)))
def softL (zs : List Int) : List Int := (powL zs).map (divZ · (sumK (powL zs) zs.length))
theorem powL_len (zs : List Int) : (powL zs).length = zs.length := by simp [powL]
theorem norm_any (a : Option Addr) (len cap : Nat) (zs : List Int) (w : World) (ha : Reads .i64 w a len cap zs) (hlen : len ≤ 1000) :
  Calls Tryz.prog 200 #[.slice a len cap] w fun e w' => Made w len (normL zs) e w' := by
 have hz := ha.size
 subst hz
 have hD := dot_any a a _ cap _ cap zs zs w ha ha hlen hlen
 rw [Nat.min_self] at hD
 have HR : Hid (sqrtZ (addZ (divZ (dotK zs zs zs.length) (fromZ zs.length)) 1) = rootZ zs) := rfl
 have HE : Hid (∀ w1, Below w.heap.size w w1 → Calls Tryz.prog 225 #[.slice a zs.length cap, .func (.func 226) #[] #[.pointer (some ⟨w1.heap.size, 0, none⟩)]] (w1.alloc (.cells #[.int .i64 (rootZ zs)] 2))
   fun e w' => Made w zs.length (normL zs) e w') := by
  intro w1 hb1
  have hn := SumAt.new w1 (rootZ zs)
  have hsz : w.heap.size ≤ (w1.alloc (.cells #[.int .i64 (rootZ zs)] 2)).heap.size := by have := hb1.size; simp; omega
  refine (madeof_any 226 #[.pointer (some ⟨w1.heap.size, 0, none⟩)] (enters_of Tryz.func226 (by kernel_rfl) rfl) a zs.length cap zs _ ((ha.below hb1).below hn.2) hlen (divZ · (rootZ zs)) fun x wr hb => (norm1_any x (rootZ zs) w1.heap.size wr ((hb.block _ (lt_of_block hn.1)).trans hn.1)).mono fun e w' ⟨h1, h2⟩ => ⟨h1, by rw [h2]; exact Below.refl _ _⟩).mono ?_
  rintro e w' ⟨g, rfl, hO, hb⟩
  exact ⟨g, _, rfl, hO.low hsz, hb1.trans ((hn.2.mono hb1.size).trans (hb.mono hsz))⟩
 clear ha
 go_enter Tryz.func200, Tryz.ntmps200
 go_wp2_with fail
 refine hD.mono ?_
 rintro e w1 ⟨rfl, hb1⟩
 have hE := HE.out w1 hb1
 clear HE hD hb1
 go_wp2_with fail
 refine (count_any _ _ _ _ hlen).mono ?_
 rintro e w' ⟨rfl, rfl⟩
 go_wp2_with fail
 refine (from_any _ _).mono ?_
 rintro e w' ⟨rfl, rfl⟩
 go_wp2_with fail
 refine (div_any _ _ _).mono ?_
 rintro e w' ⟨rfl, rfl⟩
 go_wp2_with fail
 refine (add_any _ _ _).mono ?_
 rintro e w' ⟨rfl, rfl⟩
 go_wp2_with fail
 refine (sqrt_any _ _).mono ?_
 rintro e w' ⟨rfl, rfl⟩
 rw [HR.out]
 go_wp2_with fail
 refine hE.mono ?_
 rintro e w' ⟨g, cap', rfl, hO, hb⟩
 have HO := hid hO
 have HB := hid hb
 clear hO hb hE
 go_wp2
 go_ret
 exact ⟨_, _, rfl, HO.out, HB.out⟩
theorem soft_any (a : Option Addr) (len cap : Nat) (zs : List Int) (w : World) (ha : Reads .i64 w a len cap zs) (hlen : len ≤ 1000) :
  Calls Tryz.prog 209 #[.slice a len cap] w fun e w' => Made w len (softL zs) e w' := by
 have hz := ha.size
 subst hz
 have hG := greatest_any a _ cap zs w ha hlen
 have HE1 : Hid (∀ w1, Below w.heap.size w w1 → Calls Tryz.prog 225 #[.slice a zs.length cap, .func (.func 234) #[] #[.pointer (some ⟨w1.heap.size, 0, none⟩)]] (w1.alloc (.cells #[.int .i64 (greatK zs zs.length)] 2))
   fun e w' => ∃ g, e = .returned (.slice (some ⟨g, 0, none⟩) zs.length zs.length) ∧ OwnK 2 w.heap.size g zs.length zs.length (powL zs) w' ∧ Below w.heap.size w w') := by
  intro w1 hb1
  have hn := SumAt.new w1 (greatK zs zs.length)
  have hgb := greatK_bd zs zs.length
  have hsz : w.heap.size ≤ (w1.alloc (.cells #[.int .i64 (greatK zs zs.length)] 2)).heap.size := by have := hb1.size; simp; omega
  refine (madeof_any 234 #[.pointer (some ⟨w1.heap.size, 0, none⟩)] (enters_of Tryz.func234 (by kernel_rfl) rfl) a zs.length cap zs _ ((ha.below hb1).below hn.2) hlen (fun x => expZ (addZ x (-(greatK zs zs.length)))) fun x wr hb => (soft1_any x _ hgb.1 hgb.2 w1.heap.size wr ((hb.block _ (lt_of_block hn.1)).trans hn.1)).mono fun e w' ⟨h1, h2⟩ => ⟨h1, by rw [h2]; exact Below.refl _ _⟩).mono ?_
  rintro e w' ⟨g, rfl, hO, hb⟩
  exact ⟨g, rfl, hO.low hsz, hb1.trans ((hn.2.mono hb1.size).trans (hb.mono hsz))⟩
 have HE2 : Hid (∀ w2 g, OwnK 2 w.heap.size g zs.length zs.length (powL zs) w2 → Calls Tryz.prog 215 #[.slice (some ⟨g, 0, none⟩) zs.length zs.length, .func (.func 236) #[] #[.pointer (some ⟨w2.heap.size, 0, none⟩)]] (w2.alloc (.cells #[.int .i64 0] 2))
   fun e w' => e = .returned (.tuple #[]) ∧ SumAt w2 w2.heap.size (sumK (powL zs) zs.length) w') := by
  intro w2 g hO
  refine each_any 236 _ _ zs.length zs.length (powL zs) _ hlen (fun k W => SumAt w2 w2.heap.size (sumK (powL zs) k) W) (enters_of Tryz.func236 (by kernel_rfl) rfl) (fun k wr h => hO.reads.below h.2) (SumAt.new w2 0) ?_
  intro k wr hk hi
  exact (soft2_any k _ _ w2.heap.size wr hi.1).mono fun e w' ⟨h1, h2, h3⟩ => ⟨h1, h2, hi.2.trans (h3.to one_le hi.2.size)⟩
 have HE3 : Hid (∀ w2 w3 g, OwnK 2 w.heap.size g zs.length zs.length (powL zs) w2 → Below w.heap.size w w2 → SumAt w2 w2.heap.size (sumK (powL zs) zs.length) w3 → Calls Tryz.prog 225 #[.slice (some ⟨g, 0, none⟩) zs.length zs.length, .func (.func 237) #[] #[.pointer (some ⟨w2.heap.size, 0, none⟩)]] w3
   fun e w' => Made w zs.length (softL zs) e w') := by
  intro w2 w3 g hO hb2 hs
  have h23 : Below w.heap.size w w3 := hb2.trans (hs.2.mono hb2.size)
  refine (madeof_any 237 #[.pointer (some ⟨w2.heap.size, 0, none⟩)] (enters_of Tryz.func237 (by kernel_rfl) rfl) _ zs.length zs.length (powL zs) w3 (hO.reads.below hs.2) hlen (divZ · (sumK (powL zs) zs.length)) fun x wr hb => (soft3_any x _ w2.heap.size wr ((hb.block _ (lt_of_block hs.1)).trans hs.1)).mono fun e w' ⟨h1, h2⟩ => ⟨h1, by rw [h2]; exact Below.refl _ _⟩).mono ?_
  rintro e w' ⟨g', rfl, hO', hb⟩
  exact ⟨g', _, rfl, hO'.low h23.size, h23.trans (hb.mono h23.size)⟩
 clear ha
 go_enter Tryz.func209, Tryz.ntmps209
 go_wp2_with fail
 refine hG.mono ?_
 rintro e w1 ⟨rfl, hb1⟩
 have hE := HE1.out w1 hb1
 clear HE1 hG hb1
 generalize greatK zs zs.length = gr at *
 go_wp2_with fail
 refine hE.mono ?_
 rintro e w2 ⟨g, rfl, hO, hb2⟩
 have hE2 := HE2.out w2 g hO
 have HE4 := hid fun w3 h => HE3.out w2 w3 g hO hb2 h
 clear HE2 HE3 hE hO hb2
 go_wp2_with fail
 refine hE2.mono ?_
 rintro e w3 ⟨rfl, hs⟩
 have hE3 := HE4.out w3 hs
 clear HE4 hE2 hs
 go_wp2_with fail
 refine hE3.mono ?_
 rintro e w' ⟨g, cap', rfl, hO, hb⟩
 have HO := hid hO
 have HB := hid hb
 clear hO hb hE3
 go_wp2
 go_ret
 exact ⟨_, _, rfl, HO.out, HB.out⟩
theorem cell_al {w : World} {p : Addr} {v : Value} (h : w.cell? p = some v) (o : Obj) : (w.alloc o).cell? p = some v :=
 (((Below.refl w.heap.size w).alloc (Nat.le_refl _) o).cell (World.block_lt_of_cell? _ _ h)).trans h
end Go.Proofs.YtjgggialnegddaaGreat
namespace Go.Proofs.YtjgggialnegddaaGreat
open Go.RowKit
def GivesO (w : World) (n : Nat) (xs : List Int) (e : Ending) (w' : World) : Prop := ∃ v, e = .returned v ∧ w'.ownsRow w.heap.size 2 1 v n (xs.map (Value.int .i64)) ∧ Below w.heap.size w w'
theorem own_base {base base' e size n : Nat} {v : Value} {xs : List Value} {w : World} (h : w.ownsRow base e size v n xs) (hb : base' ≤ base) : w.ownsRow base' e size v n xs := by
 refine ⟨h.1, ?_⟩
 rcases h.2 with h' | ⟨g', c, cur, hv, hB, rest⟩
 ·exact .inl h'
 ·exact .inr ⟨g', c, cur, hv, Nat.le_trans hb hB, rest⟩
end Go.Proofs.YtjgggialnegddaaGreat
namespace Go.Proofs.YtjgggialnegddaaGreat
open Go.RowKit
def GivesT (w : World) (n : Nat) (ls : List (List Int)) (e : Ending) (w' : World) : Prop := ∃ a c hs, e = .returned (.slice a n c) ∧ Tbl w' a n c hs ls ∧ Below w.heap.size w w'
theorem MadeT.gives {w w' : World} {n m : Nat} {F : Nat → List Int} {e : Ending} (h : MadeT w n m F e w') (hm : m ≤ 1000) : GivesT w n (tblK F n) e w' := by
 obtain ⟨G, hs, rfl, hU⟩ := h
 exact ⟨_, _, hs, rfl, hU.tbl hm, hU.old⟩
end Go.Proofs.YtjgggialnegddaaGreat
