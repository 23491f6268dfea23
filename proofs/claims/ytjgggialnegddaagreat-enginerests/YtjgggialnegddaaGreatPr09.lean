/-
  The texts Mades, Scales, Pairs, Models, MTables, RowsI of this proof.
-/
import Derived.Test.YtjgggialnegddaaGreatPr05
import Derived.Deep.AppendLies
import Derived.Deep.RegionLaw
import Derived.Test.YtjgggialnegddaaGreatPr07
import Derived.Deep.DeepCutAuto
set_option linter.unusedVariables false
set_option maxRecDepth 1000000
namespace Go.Proofs.YtjgggialnegddaaGreat
open Go.RowKit
theorem made1_any (fn : Nat) (caps : Array Value) (hE : ∀ args w, (callFunc fn args).run Tryz.prog w = .ok (.enter fn args) w) (k : Nat) (x y : Int) (Bo Bm base g m : Nat) (us : List Int) (wr : World) (hm : m ≤ 1000)
  (ho : wr.heap[Bo]? = some (.cells #[.func (.func fn) #[] caps] 208 (0, 0))) (hq : wr.heap[Bm]? = some (.cells #[.slice (some ⟨g, 0, none⟩) m m] 131 (0, 0)))
  (hO : OwnK 2 base g m m us wr) (hk : k < m) (hgo : Bo ≠ g) (hgm : Bm ≠ g)
  (hC : Calls Tryz.prog fn (#[.int .i64 x] ++ caps) wr.drew fun e w' => e = .returned (.int .i64 y) ∧ Below wr.heap.size wr w') :
  Calls Tryz.prog 242 #[.int .i64 k, .int .i64 x, .pointer (some ⟨Bo, 0, none⟩), .pointer (some ⟨Bm, 0, none⟩)] wr fun e w' => e = .returned (.tuple #[]) ∧ OwnK 2 base g m m (us.set k y) w' ∧ But [g] wr w' := by
 have cd := cell_of_one ho
 have cq := cell_of_one hq
 have HO := hid hO
 have HK : Hid (∀ W, But [g] wr W → W.cell? ⟨Bo, 0, none⟩ = some (.func (.func fn) #[] caps) ∧ W.cell? ⟨Bm, 0, none⟩ = some (.slice (some ⟨g, 0, none⟩) m m)) :=
  fun W h => ⟨h.cell cd (by simpa using hgo), h.cell cq (by simpa using hgm)⟩
 clear ho hq hO hgo hgm
 go_enter Tryz.func242, Tryz.ntmps242
 go_wp2_with fail
 go_region_held3 (fun W : World => W.cell? ⟨Bo, 0, none⟩ = some (.func (.func fn) #[] caps) ∧ W.cell? ⟨Bm, 0, none⟩ = some (.slice (some ⟨g, 0, none⟩) m m)) (first | exact ⟨cd, cq⟩ | assumption | exact HK.out _ (But.of hB) | exact HK.out _ ((But.of hB).set (p := ⟨g, k, none⟩) (List.mem_singleton.2 rfl) _)) (first | (refine hC.mono ?_; rintro e w2 ⟨rfl, hB⟩; have HO2 := hid (HO.out.stays hB); have ck := HO2.out.cell hk; have fk := HO2.out.frozen k))
 have HS : Hid (OwnK 2 base g m m (us.set k y) (w2.setCell ⟨g, k, none⟩ (.int .i64 y))) := HO2.out.set k y
 have HB : Hid (But [g] wr (w2.setCell ⟨g, k, none⟩ (.int .i64 y))) := (But.of hB).set (p := ⟨g, k, none⟩) (List.mem_singleton.2 rfl) _
 clear HK cd cq HO HO2 ck fk hB hC
 go_wp2
 go_end0
 exact ⟨rfl, HS.out, HB.out⟩
def madeK (f : Int → Int) (zs : List Int) (len k : Nat) : List Int := (zs.take k).map f ++ List.replicate (len - k) 0
theorem madeK_set {f : Int → Int} {zs : List Int} {k : Nat} (h : k < zs.length) : (madeK f zs zs.length k).set k (f (zs[k]?.getD 0)) = madeK f zs zs.length (k + 1) := by
 unfold madeK
 have hl : ((zs.take k).map f).length = k := by simp; omega
 rw [List.set_append_right _ _ (by omega), hl, Nat.sub_self, take_snoc h, List.map_append, List.append_assoc]
 congr 1
 rw [show zs.length - k = zs.length - (k + 1) + 1 by omega, List.replicate_succ]
 rfl
theorem madeK_all (f : Int → Int) (zs : List Int) : madeK f zs zs.length zs.length = zs.map f := by unfold madeK; simp
structure MadeAt (w : World) (fn : Nat) (caps : Array Value) (T : TypeId) (B len : Nat) (us : List Int) (W : World) : Prop where
 old : Below w.heap.size w W
 fun_ : W.heap[B]? = some (.cells #[.func (.func fn) #[] caps] T (0, 0))
 var : W.heap[B + 2]? = some (.cells #[.slice (some ⟨B + 1, 0, none⟩) len len] 131 (0, 0))
 own : OwnK 2 w.heap.size (B + 1) len len us W
theorem MadeAt.new (w : World) (fn : Nat) (caps : Array Value) (T : TypeId) (len : Nat) (hlen : len ≤ 1000) :
  MadeAt w fn caps T w.heap.size len (List.replicate len 0) (((w.alloc (.cells #[.func (.func fn) #[] caps] T)).alloc (.cells (madeCells #[.int .i64 0] len) 2)).alloc (.cells #[.slice (some ⟨w.heap.size + 1, 0, none⟩) len len] 131)) := by
 have h1 := own_made 2 (w.alloc (.cells #[.func (.func fn) #[] caps] T)) len (by omega)
 have e1 : (w.alloc (.cells #[.func (.func fn) #[] caps] T)).heap.size = w.heap.size + 1 := by simp
 rw [e1] at h1
 refine ⟨?_, ?_, ?_, ?_⟩
 ·exact (((Below.refl _ _).alloc (Nat.le_refl _) _).alloc (by simp) _).alloc (by simp; omega) _
 ·rw [Below.heap_alloc _ _ _ (by simp; omega), Below.heap_alloc _ _ _ (by simp)]
  exact heap_alloc_new w _
 ·have := heap_alloc_new ((w.alloc (.cells #[.func (.func fn) #[] caps] T)).alloc (.cells (madeCells #[.int .i64 0] len) 2)) (.cells #[.slice (some ⟨w.heap.size + 1, 0, none⟩) len len] 131)
  simpa using this
 ·exact (h1.low (by omega)).stays ((Below.refl _ _).alloc (Nat.le_refl _) _)
theorem madeEach_any (fn : Nat) (caps : Array Value) (hE : ∀ args w, (callFunc fn args).run Tryz.prog w = .ok (.enter fn args) w) (a : Option Addr) (len cap : Nat) (zs : List Int) (w W : World) (ha : Reads .i64 w a len cap zs) (hlen : len ≤ 1000) (f : Int → Int)
  (hC : ∀ x wr, Below w.heap.size w wr → Calls Tryz.prog fn (#[.int .i64 x] ++ caps) wr fun e w' => e = .returned (.int .i64 (f x)) ∧ Below wr.heap.size wr w')
  (h0 : MadeAt w fn caps 208 w.heap.size len (List.replicate len 0) W) :
  Calls Tryz.prog 215 #[.slice a len cap, .func (.func 242) #[] #[.pointer (some ⟨w.heap.size, 0, none⟩), .pointer (some ⟨w.heap.size + 2, 0, none⟩)]] W
   fun e w' => e = .returned (.tuple #[]) ∧ MadeAt w fn caps 208 w.heap.size len (zs.map f) w' := by
 have hz := ha.size
 subst hz
 refine (each_any 242 _ a zs.length cap zs W hlen (fun k W => MadeAt w fn caps 208 w.heap.size zs.length (madeK f zs zs.length k) W) (enters_of Tryz.func242 (by kernel_rfl) rfl) ?_ ?_ ?_).mono ?_
 ·intro k wr hk
  exact ha.below hk.old
 ·unfold madeK
  simpa using h0
 ·intro k wr hk hI
  have hdr : Below wr.heap.size wr wr.drew := (Below.refl _ _).drew
  refine (made1_any fn caps hE k _ (f (zs[k]?.getD 0)) w.heap.size (w.heap.size + 2) w.heap.size (w.heap.size + 1) zs.length _ wr hlen hI.fun_ hI.var hI.own hk (by omega) (by omega) ?_).mono ?_
  ·exact (hC _ _ (hI.old.trans (hdr.mono hI.old.size))).mono fun e w' ⟨h1, h2⟩ => ⟨h1, hdr.trans (h2.mono (Nat.le_refl _))⟩
  ·rintro e w' ⟨h1, h2, h3⟩
   refine ⟨h1, ?_, h3.one hI.fun_ (by simp), h3.one hI.var (by simp), ?_⟩
   ·exact hI.old.trans (h3.to (fun s hs => by rw [List.mem_singleton.1 hs]; omega) hI.old.size)
   ·rw [← madeK_set hk]; exact h2
 ·rintro e w' ⟨h1, h2⟩
  rw [madeK_all] at h2
  exact ⟨h1, h2⟩
theorem madeof_any (fn : Nat) (caps : Array Value) (hE : ∀ args w, (callFunc fn args).run Tryz.prog w = .ok (.enter fn args) w) (a : Option Addr) (len cap : Nat) (zs : List Int) (w : World) (ha : Reads .i64 w a len cap zs) (hlen : len ≤ 1000) (f : Int → Int)
  (hC : ∀ x wr, Below w.heap.size w wr → Calls Tryz.prog fn (#[.int .i64 x] ++ caps) wr fun e w' => e = .returned (.int .i64 (f x)) ∧ Below wr.heap.size wr w') :
  Calls Tryz.prog 225 #[.slice a len cap, .func (.func fn) #[] caps] w fun e w' => ∃ g, e = .returned (.slice (some ⟨g, 0, none⟩) len len) ∧ OwnK 2 w.heap.size g len len (zs.map f) w' ∧ Below w.heap.size w w' := by
 have HM := hid fun W => madeEach_any fn caps hE a len cap zs w W ha hlen f hC
 have hmk := make_ints (w.alloc (.cells #[.func (.func fn) #[] caps] 208)) len (by omega)
 clear ha hC
 go_enter Tryz.func225, Tryz.ntmps225
 go_wp2_with fail
 refine (count_any _ _ _ _ hlen).mono ?_
 rintro e w' ⟨rfl, rfl⟩
 go_wp2_with fail
 refine (HM.out _ (MadeAt.new _ _ _ _ _ hlen)).mono ?_
 rintro e w' ⟨rfl, h⟩
 have cv := cell_of_one h.var
 have HO := hid h.own
 have HB := hid h.old
 clear h HM hmk
 go_wp2
 go_ret
 exact ⟨_, rfl, HO.out, HB.out⟩
end Go.Proofs.YtjgggialnegddaaGreat
namespace Go.Proofs.YtjgggialnegddaaGreat
open Go.RowKit
theorem relu1_any (n : Int) (w : World) :
  Calls Tryz.prog 249 #[.int .i64 n] w fun e w' => e = .returned (.int .i64 (max (wi n) 0)) ∧ w' = w := by
 rcases Int.lt_or_le (wi n) 0 with h | h
 ·have HE : Hid (0 = max (wi n) 0) := by unfold Hid; omega
  go_enter Tryz.func249, Tryz.ntmps249
  go_wp2_with fail
  refine (within_any _ _).mono ?_
  rintro e w' ⟨rfl, rfl⟩
  go_wp2
  go_ret
  exact ⟨ret_int HE.out, rfl⟩
 ·have HE : Hid (wi n = max (wi n) 0) := by unfold Hid; omega
  go_enter Tryz.func249, Tryz.ntmps249
  go_wp2_with fail
  refine (within_any _ _).mono ?_
  rintro e w' ⟨rfl, rfl⟩
  go_wp2
  go_ret
  exact ⟨ret_int HE.out, rfl⟩
theorem norm1_any (n b : Int) (B : Nat) (w : World) (hB : w.heap[B]? = some (.cells #[.int .i64 b] 2 (0, 0))) :
  Calls Tryz.prog 226 #[.int .i64 n, .pointer (some ⟨B, 0, none⟩)] w fun e w' => e = .returned (.int .i64 (divZ n b)) ∧ w' = w := by
 have cs := cell_of_one hB
 clear hB
 go_enter Tryz.func226, Tryz.ntmps226
 go_wp2_with fail
 refine (div_any _ _ _).mono ?_
 rintro e w' ⟨rfl, rfl⟩
 go_wp2
 go_ret
 exact ⟨rfl, rfl⟩
theorem soft3_any (n b : Int) (B : Nat) (w : World) (hB : w.heap[B]? = some (.cells #[.int .i64 b] 2 (0, 0))) :
  Calls Tryz.prog 237 #[.int .i64 n, .pointer (some ⟨B, 0, none⟩)] w fun e w' => e = .returned (.int .i64 (divZ n b)) ∧ w' = w := by
 have cs := cell_of_one hB
 clear hB
 go_enter Tryz.func237, Tryz.ntmps237
 go_wp2_with fail
 refine (div_any _ _ _).mono ?_
 rintro e w' ⟨rfl, rfl⟩
 go_wp2
 go_ret
 exact ⟨rfl, rfl⟩
theorem soft1_any (n b : Int) (b0 : -2147483648 ≤ b) (b1 : b ≤ 2147483647) (B : Nat) (w : World) (hB : w.heap[B]? = some (.cells #[.int .i64 b] 2 (0, 0))) :
  Calls Tryz.prog 234 #[.int .i64 n, .pointer (some ⟨B, 0, none⟩)] w fun e w' => e = .returned (.int .i64 (expZ (addZ n (-b)))) ∧ w' = w := by
 have cs := cell_of_one hB
 clear hB
 go_enter Tryz.func234, Tryz.ntmps234
 go_wp2_with fail
 refine (add_any _ _ _).mono ?_
 rintro e w' ⟨rfl, rfl⟩
 go_wp2_with fail
 refine (exp_any _ _).mono ?_
 rintro e w' ⟨rfl, rfl⟩
 go_wp2
 go_ret
 exact ⟨rfl, rfl⟩
theorem soft2_any (k : Nat) (p s : Int) (B : Nat) (w : World) (hB : w.heap[B]? = some (.cells #[.int .i64 s] 2 (0, 0))) :
  Calls Tryz.prog 236 #[.int .i64 k, .int .i64 p, .pointer (some ⟨B, 0, none⟩)] w fun e w' => e = .returned (.tuple #[]) ∧ w'.heap[B]? = some (.cells #[.int .i64 (addZ s p)] 2 (0, 0)) ∧ But [B] w w' := by
 have cs := cell_of_one hB
 have fs := free_of_one hB
 have HO := hid (one_setCell (u := .int .i64 (addZ s p)) hB)
 clear hB
 go_enter Tryz.func236, Tryz.ntmps236
 go_wp2_with fail
 refine (add_any _ _ _).mono ?_
 rintro e w' ⟨rfl, rfl⟩
 go_wp2
 go_end0
 exact ⟨rfl, HO.out, ((But.refl _ _).set (p := ⟨B, 0, none⟩) (List.mem_singleton.2 rfl) _)⟩
def greatK (zs : List Int) : Nat → Int
 | 0 => 0
 | k + 1 => if k = 0 ∨ greatK zs k < wi (zs[k]?.getD 0) then wi (zs[k]?.getD 0) else greatK zs k
theorem greatK_bd (zs : List Int) (k : Nat) : -2147483648 ≤ greatK zs k ∧ greatK zs k ≤ 2147483647 := by
 induction k with
 | zero => simp [greatK]
 | succ k ih => unfold greatK; split; exact ⟨wi_0 _, wi_1 _⟩; exact ih
theorem great1_any (k : Nat) (n s : Int) (hk : k ≤ 1000) (B : Nat) (w : World) (hB : w.heap[B]? = some (.cells #[.int .i64 s] 2 (0, 0))) :
  Calls Tryz.prog 247 #[.int .i64 k, .int .i64 n, .pointer (some ⟨B, 0, none⟩)] w fun e w' => e = .returned (.tuple #[]) ∧ w'.heap[B]? = some (.cells #[.int .i64 (if k = 0 ∨ s < wi n then wi n else s)] 2 (0, 0)) ∧ But [B] w w' := by
 have cs := cell_of_one hB
 have fs := free_of_one hB
 by_cases h0 : k = 0
 ·rw [if_pos (.inl h0)]
  have HO := hid (one_setCell (u := .int .i64 (wi n)) hB)
  clear hB
  subst h0
  go_enter Tryz.func247, Tryz.ntmps247
  go_wp2_with fail
  refine (within_any _ _).mono ?_
  rintro e w' ⟨rfl, rfl⟩
  go_wp2
  go_end0
  exact ⟨rfl, HO.out, ((But.refl _ _).set (p := ⟨B, 0, none⟩) (List.mem_singleton.2 rfl) _)⟩
 ·by_cases h1 : s < wi n
  ·rw [if_pos (.inr h1)]
   have HO := hid (one_setCell (u := .int .i64 (wi n)) hB)
   clear hB
   go_enter Tryz.func247, Tryz.ntmps247
   go_wp2_with fail
   refine (within_any _ _).mono ?_
   rintro e w' ⟨rfl, rfl⟩
   go_wp2
   go_end0
   exact ⟨rfl, HO.out, ((But.refl _ _).set (p := ⟨B, 0, none⟩) (List.mem_singleton.2 rfl) _)⟩
  ·rw [if_neg (by omega)]
   have HO := hid hB
   have h2 : ¬ (k : Int) = 0 := by omega
   have h3 : wi n ≤ s := by omega
   have h4 : ((k : Int) == 0) = false := by simpa using h0
   clear hB h0 h1
   go_enter Tryz.func247, Tryz.ntmps247
   go_wp2_with fail
   refine (within_any _ _).mono ?_
   rintro e w' ⟨rfl, rfl⟩
   go_wp2
   go_end0
   exact ⟨rfl, HO.out, But.refl _ _⟩
theorem greatest_any (a : Option Addr) (len cap : Nat) (zs : List Int) (w : World) (ha : Reads .i64 w a len cap zs) (hlen : len ≤ 1000) :
  Calls Tryz.prog 233 #[.slice a len cap] w fun e w' => e = .returned (.int .i64 (greatK zs len)) ∧ Below w.heap.size w w' := by
 have hn := SumAt.new w 0
 have HE : Hid (Calls Tryz.prog 215 #[.slice a len cap, .func (.func 247) #[] #[.pointer (some ⟨w.heap.size, 0, none⟩)]] (w.alloc (.cells #[.int .i64 0] 2)) fun e w' => e = .returned (.tuple #[]) ∧ SumAt w w.heap.size (greatK zs len) w') := by
  refine each_any 247 _ a len cap zs _ hlen (fun k W => SumAt w w.heap.size (greatK zs k) W) (enters_of Tryz.func247 (by kernel_rfl) rfl) (fun k wr h => ha.below h.2) hn ?_
  intro k wr hk hi
  exact (great1_any k _ _ (by omega) w.heap.size wr hi.1).mono fun e w' ⟨h1, h2, h3⟩ => ⟨h1, h2, hi.2.trans (h3.to one_le hi.2.size)⟩
 clear hn ha
 go_enter Tryz.func233, Tryz.ntmps233
 go_wp2_with fail
 refine HE.out.mono ?_
 rintro e w' ⟨rfl, hS⟩
 have cs := cell_of_one hS.1
 have HS := hid hS.2
 clear HE hS
 go_wp2
 go_ret
 exact ⟨rfl, HS.out⟩
theorem relu_any (a : Option Addr) (len cap : Nat) (zs : List Int) (w : World) (ha : Reads .i64 w a len cap zs) (hlen : len ≤ 1000) :
  Calls Tryz.prog 240 #[.slice a len cap] w fun e w' => Made w len (zs.map (fun n => max (wi n) 0)) e w' := by
 have HE := hid (madeof_any 249 #[] (enters_of Tryz.func249 (by kernel_rfl) rfl) a len cap zs _ ha hlen (fun n => max (wi n) 0) fun x wr hb => (relu1_any x wr).mono fun e w' ⟨h1, h2⟩ => ⟨h1, by rw [h2]; exact Below.refl _ _⟩)
 clear ha
 go_enter Tryz.func240, Tryz.ntmps240
 go_wp2_with fail
 refine HE.out.mono ?_
 rintro e w' ⟨g, rfl, hO, hb⟩
 have HO := hid hO
 have HB := hid hb
 clear hO hb HE
 go_wp2
 go_ret
 exact ⟨_, _, rfl, HO.out, HB.out⟩
end Go.Proofs.YtjgggialnegddaaGreat
namespace Go.Proofs.YtjgggialnegddaaGreat
open Go.RowKit
theorem pair1_end {Bm g base n cap : Nat} {us : List Int} {z : Int} {wr w3 : World} (hgm : Bm ≠ g) (hO3 : w3.ownsRow base 2 1 (.slice (some ⟨g, 0, none⟩) (n + 1) cap) (n + 1) (us.map (Value.int .i64) ++ [.int .i64 z]))
  (hq : w3.heap[Bm]? = some (.cells #[.slice (some ⟨g, 0, none⟩) n cap] 131 (0, 0))) (hG : But [g] wr w3) :
  OwnK 2 base g (n + 1) cap (us ++ [z]) (w3.setCell ⟨Bm, 0, none⟩ (.slice (some ⟨g, 0, none⟩) (n + 1) cap)) ∧
  (w3.setCell ⟨Bm, 0, none⟩ (.slice (some ⟨g, 0, none⟩) (n + 1) cap)).heap[Bm]? = some (.cells #[.slice (some ⟨g, 0, none⟩) (n + 1) cap] 131 (0, 0)) ∧
  But [Bm, g] wr (w3.setCell ⟨Bm, 0, none⟩ (.slice (some ⟨g, 0, none⟩) (n + 1) cap)) := by
 refine ⟨?_, one_setCell hq, (hG.mono (by simp)).set (p := ⟨Bm, 0, none⟩) (by simp) _⟩
 unfold OwnK
 rw [List.map_append]
 exact ownsRow_setCell_other hO3 (by simp [Value.ownBlock]; exact fun e => hgm e.symm) _
set_option maxHeartbeats 1000000 in
theorem pair1_any (fn : Nat) (caps : Array Value) (hE : ∀ args w, (callFunc fn args).run Tryz.prog w = .ok (.enter fn args) w) (x y z : Int) (Bm Bo base g n cap : Nat) (us : List Int) (wr : World) (hcap : cap ≤ 1000) (hn : n < cap)
  (ho : wr.heap[Bo]? = some (.cells #[.func (.func fn) #[] caps] 169 (0, 0))) (hq : wr.heap[Bm]? = some (.cells #[.slice (some ⟨g, 0, none⟩) n cap] 131 (0, 0)))
  (hO : OwnK 2 base g n cap us wr) (hgo : Bo ≠ g) (hgm : Bm ≠ g) (hom : Bo ≠ Bm)
  (hC : Calls Tryz.prog fn (#[.int .i64 x, .int .i64 y] ++ caps) wr.drew fun e w' => e = .returned (.int .i64 z) ∧ Below wr.heap.size wr w') :
  Calls Tryz.prog 204 #[.int .i64 x, .int .i64 y, .pointer (some ⟨Bm, 0, none⟩), .pointer (some ⟨Bo, 0, none⟩)] wr fun e w' => e = .returned (.tuple #[]) ∧ OwnK 2 base g (n + 1) cap (us ++ [z]) w' ∧
   w'.heap[Bm]? = some (.cells #[.slice (some ⟨g, 0, none⟩) (n + 1) cap] 131 (0, 0)) ∧ But [Bm, g] wr w' := by
 obtain ⟨i0, hi, hz0, hz1, hz2⟩ := info_parts Tryz.info2
 have cd := cell_of_one ho
 have cq := cell_of_one hq
 have HO := hid hO
 have HK : Hid (∀ W, But [g] wr W → W.cell? ⟨Bo, 0, none⟩ = some (.func (.func fn) #[] caps) ∧ W.cell? ⟨Bm, 0, none⟩ = some (.slice (some ⟨g, 0, none⟩) n cap)) :=
  fun W h => ⟨h.cell cd (by simpa using hgo), h.cell cq (by simpa using hgm)⟩
 have HF : Hid (∀ W, But [g] wr W → W.heap[Bm]? = some (.cells #[.slice (some ⟨g, 0, none⟩) n cap] 131 (0, 0))) := fun W h => h.one hq (by simpa using hgm)
 have HGM : Hid (Bm ≠ g) := hgm
 clear ho hq hO hgo hgm
 go_enter Tryz.func204, Tryz.ntmps204
 go_wp2_with fail
 go_region_law ((first | (refine step_call2 (by rfl) 10 (by rfl) (.tmp 7) (.tmp 8) (.tmp 9) 2 2 (by rfl) fn caps (by rfl) hE (.int .i64 x) (.int .i64 y) (by rfl) (by rfl) (.int .i64 z) (fun w' => Below wr.heap.size wr w') hC ?_; intro w2 hB; have cm2 := (HK.out _ (But.of hB)).2; have cm3 := (HK.out _ ((But.of hB).alloc (.cells #[.int .i64 z] 2))).2) | (refine step_append_fits (by rfl) 12 (by rfl) (.tmp 6) (.tmp 11) 131 (by rfl) base 2 i0 1 Tryz.underlying131 hi hz1 g n cap (us.map (Value.int .i64)) (by rfl) ((HO.out.stays hB).alloc _) ⟨w2.heap.size, 0, none⟩ 1 1 [.int .i64 z] (by rfl) rfl (news_one _ _ _ _) (one_cell _ _) (by omega) ?_; intro w3 hO3 hg; have HG := hid (but_grown ((But.of hB).alloc (.cells #[.int .i64 z] 2)) hg (List.mem_singleton.2 rfl)); have cm := (HK.out _ HG.out).2; have fm := free_of_one (HF.out _ HG.out))))
 all_goals
  have HE1 := hid (pair1_end HGM.out hO3 (HF.out _ HG.out) HG.out)
  clear hO3 hg HG cm fm cm2 cm3 hB HF HK cd cq HO hC hi hz0 hz1 hz2
  go_wp2
  go_end0
  exact ⟨rfl, HE1.out⟩
structure PairAt (w : World) (fn : Nat) (caps : Array Value) (B cap n : Nat) (us : List Int) (W : World) : Prop where
 old : Below w.heap.size w W
 fun_ : W.heap[B]? = some (.cells #[.func (.func fn) #[] caps] 169 (0, 0))
 var : W.heap[B + 2]? = some (.cells #[.slice (some ⟨B + 1, 0, none⟩) n cap] 131 (0, 0))
 own : OwnK 2 w.heap.size (B + 1) n cap us W
theorem PairAt.below {w : World} {fn : Nat} {caps : Array Value} {B cap n : Nat} {us : List Int} {W W' : World} (h : PairAt w fn caps B cap n us W) (hb : Below W.heap.size W W') : PairAt w fn caps B cap n us W' :=
 ⟨h.old.trans (hb.mono h.old.size), (hb.block _ (lt_of_block h.fun_)).trans h.fun_, (hb.block _ (lt_of_block h.var)).trans h.var, h.own.stays hb⟩
theorem PairAt.new (w : World) (fn : Nat) (caps : Array Value) (m : Nat) (hm : m ≤ 1000) :
  PairAt w fn caps w.heap.size m 0 [] (((w.alloc (.cells #[.func (.func fn) #[] caps] 169)).alloc (.cells (madeCells #[.int .i64 0] m) 2)).alloc (.cells #[.slice (some ⟨w.heap.size + 1, 0, none⟩) 0 m] 131)) := by
 have h1 := own_room 2 (w.alloc (.cells #[.func (.func fn) #[] caps] 169)) m (by omega)
 have e1 : (w.alloc (.cells #[.func (.func fn) #[] caps] 169)).heap.size = w.heap.size + 1 := by simp
 rw [e1] at h1
 refine ⟨?_, ?_, ?_, ?_⟩
 ·exact (((Below.refl _ _).alloc (Nat.le_refl _) _).alloc (by simp) _).alloc (by simp; omega) _
 ·rw [Below.heap_alloc _ _ _ (by simp; omega), Below.heap_alloc _ _ _ (by simp)]
  exact heap_alloc_new w _
 ·have := heap_alloc_new ((w.alloc (.cells #[.func (.func fn) #[] caps] 169)).alloc (.cells (madeCells #[.int .i64 0] m) 2)) (.cells #[.slice (some ⟨w.heap.size + 1, 0, none⟩) 0 m] 131)
  simpa using this
 ·exact (h1.low (by omega)).stays ((Below.refl _ _).alloc (Nat.le_refl _) _)
def pairK (f : Int → Int → Int) (xs ys : List Int) : Nat → List Int
 | 0 => []
 | k + 1 => pairK f xs ys k ++ [f (xs[k]?.getD 0) (ys[k]?.getD 0)]
theorem pairK_len (f : Int → Int → Int) (xs ys : List Int) (k : Nat) : (pairK f xs ys k).length = k := by
 induction k with
 | zero => rfl
 | succ k ih => simp [pairK, ih]
theorem pairEach_any (fn : Nat) (caps : Array Value) (hE : ∀ args w, (callFunc fn args).run Tryz.prog w = .ok (.enter fn args) w) (a b : Option Addr) (la ca lb cb : Nat) (xs ys : List Int) (w W : World) (ha : Reads .i64 w a la ca xs) (hb : Reads .i64 w b lb cb ys) (hla : la ≤ 1000) (hlb : lb ≤ 1000) (f : Int → Int → Int)
  (hC : ∀ x y wr, Below w.heap.size w wr → Calls Tryz.prog fn (#[.int .i64 x, .int .i64 y] ++ caps) wr fun e w' => e = .returned (.int .i64 (f x y)) ∧ Below wr.heap.size wr w')
  (h0 : PairAt w fn caps w.heap.size (min la lb) 0 [] W) :
  Calls Tryz.prog 203 #[.slice a la ca, .slice b lb cb, .func (.func 204) #[] #[.pointer (some ⟨w.heap.size + 2, 0, none⟩), .pointer (some ⟨w.heap.size, 0, none⟩)]] W
   fun e w' => e = .returned (.tuple #[]) ∧ PairAt w fn caps w.heap.size (min la lb) (min la lb) (pairK f xs ys (min la lb)) w' := by
 have hS : ∀ s ∈ [w.heap.size + 2, w.heap.size + 1], w.heap.size ≤ s := by simp
 refine (both_any 204 _ (enters_of Tryz.func204 (by kernel_rfl) rfl) [w.heap.size + 2, w.heap.size + 1] a b la ca lb cb xs ys W (ha.below h0.old) (hb.below h0.old) hla hlb ?_ (ha.past hS) (hb.past hS)
  (fun k W => PairAt w fn caps w.heap.size (min la lb) k (pairK f xs ys k) W) h0 (fun k W W' h hb => h.below hb) ?_).mono fun e w' h => ⟨h.1, h.2.1⟩
 ·have h1 := lt_of_block h0.var
  intro s hs
  simp at hs
  omega
 ·intro k wr hk hk' hI
  have hdr : Below wr.heap.size wr wr.drew := (Below.refl _ _).drew
  refine (pair1_any fn caps hE _ _ (f (xs[k]?.getD 0) (ys[k]?.getD 0)) (w.heap.size + 2) w.heap.size w.heap.size (w.heap.size + 1) k (min la lb) _ wr (by omega) (by omega) hI.fun_ hI.var hI.own (by omega) (by omega) (by omega) ?_).mono ?_
  ·exact (hC _ _ _ (hI.old.trans (hdr.mono hI.old.size))).mono fun e w' ⟨h1, h2⟩ => ⟨h1, hdr.trans (h2.mono (Nat.le_refl _))⟩
  ·rintro e w' ⟨h1, h2, h3, h4⟩
   exact ⟨h1, ⟨hI.old.trans (h4.to hS hI.old.size), h4.one hI.fun_ (by simp), h3, h2⟩, h4⟩
theorem madeofboth_any (fn : Nat) (caps : Array Value) (hE : ∀ args w, (callFunc fn args).run Tryz.prog w = .ok (.enter fn args) w) (a b : Option Addr) (la ca lb cb : Nat) (xs ys : List Int) (w : World) (ha : Reads .i64 w a la ca xs) (hb : Reads .i64 w b lb cb ys) (hla : la ≤ 1000) (hlb : lb ≤ 1000) (f : Int → Int → Int)
  (hC : ∀ x y wr, Below w.heap.size w wr → Calls Tryz.prog fn (#[.int .i64 x, .int .i64 y] ++ caps) wr fun e w' => e = .returned (.int .i64 (f x y)) ∧ Below wr.heap.size wr w') :
  Calls Tryz.prog 177 #[.slice a la ca, .slice b lb cb, .func (.func fn) #[] caps] w fun e w' => Made w (min la lb) (pairK f xs ys (min la lb)) e w' := by
 obtain ⟨m, hm⟩ : ∃ m, min la lb = m := ⟨_, rfl⟩
 have hm1 : m ≤ 1000 := by omega
 have HM := hid fun W => pairEach_any fn caps hE a b la ca lb cb xs ys w W ha hb hla hlb f hC
 rw [hm] at HM ⊢
 have hmk := make_room (w.alloc (.cells #[.func (.func fn) #[] caps] 169)) m (by omega)
 clear ha hb hC
 rcases Nat.lt_or_ge lb la with hl | hl
 ·obtain rfl : lb = m := by omega
  clear hm
  go_enter Tryz.func177, Tryz.ntmps177
  go_wp2_with fail
  refine (count_any _ _ _ _ hla).mono ?_
  rintro e w' ⟨rfl, rfl⟩
  go_wp2_with fail
  refine (count_any _ _ _ _ hlb).mono ?_
  rintro e w' ⟨rfl, rfl⟩
  go_wp2_with fail
  refine (HM.out _ (PairAt.new _ _ _ _ hm1)).mono ?_
  rintro e w' ⟨rfl, h⟩
  have cv := cell_of_one h.var
  have HO := hid h.own
  have HB := hid h.old
  clear h HM hmk
  go_wp2
  go_ret
  exact ⟨_, _, rfl, HO.out, HB.out⟩
 ·obtain rfl : la = m := by omega
  clear hm
  go_enter Tryz.func177, Tryz.ntmps177
  go_wp2_with fail
  refine (count_any _ _ _ _ hla).mono ?_
  rintro e w' ⟨rfl, rfl⟩
  go_wp2_with fail
  refine (count_any _ _ _ _ hlb).mono ?_
  rintro e w' ⟨rfl, rfl⟩
  go_wp2_with fail
  refine (HM.out _ (PairAt.new _ _ _ _ hm1)).mono ?_
  rintro e w' ⟨rfl, h⟩
  have cv := cell_of_one h.var
  have HO := hid h.own
  have HB := hid h.old
  clear h HM hmk
  go_wp2
  go_ret
  exact ⟨_, _, rfl, HO.out, HB.out⟩
theorem vadd_any (a b : Option Addr) (la ca lb cb : Nat) (xs ys : List Int) (w : World) (ha : Reads .i64 w a la ca xs) (hb : Reads .i64 w b lb cb ys) (hla : la ≤ 1000) (hlb : lb ≤ 1000) :
  Calls Tryz.prog 150 #[.slice a la ca, .slice b lb cb] w fun e w' => Made w (min la lb) (pairK addZ xs ys (min la lb)) e w' := by
 have HE := hid (madeofboth_any 178 #[] (enters_of Tryz.func178 (by kernel_rfl) rfl) a b la ca lb cb xs ys w ha hb hla hlb addZ fun x y wr hb => (add_any x y wr).mono fun e w' ⟨h1, h2⟩ => ⟨h1, by rw [h2]; exact Below.refl _ _⟩)
 clear ha hb
 go_enter Tryz.func150, Tryz.ntmps150
 go_wp2_with fail
 refine HE.out.mono ?_
 rintro e w' ⟨g, cap, rfl, hO, hb⟩
 have HO := hid hO
 have HB := hid hb
 clear hO hb HE
 go_wp2
 go_ret
 exact ⟨_, _, rfl, HO.out, HB.out⟩
end Go.Proofs.YtjgggialnegddaaGreat
namespace Go.Proofs.YtjgggialnegddaaGreat
open Go.RowKit
theorem Cf_keep {W W' : World} {g : Nat} {v0 v1 v2 v3 v4 v5 : Value} (hb : Below W.heap.size W W')
  (h : W.cell? ⟨g, 0, none⟩ = some v0 ∧ W.cell? ⟨g, 1, none⟩ = some v1 ∧ W.cell? ⟨g, 2, none⟩ = some v2 ∧ W.cell? ⟨g, 3, none⟩ = some v3 ∧ W.cell? ⟨g, 4, none⟩ = some v4 ∧ W.cell? ⟨g, 5, none⟩ = some v5) :
  W'.cell? ⟨g, 0, none⟩ = some v0 ∧ W'.cell? ⟨g, 1, none⟩ = some v1 ∧ W'.cell? ⟨g, 2, none⟩ = some v2 ∧ W'.cell? ⟨g, 3, none⟩ = some v3 ∧ W'.cell? ⟨g, 4, none⟩ = some v4 ∧ W'.cell? ⟨g, 5, none⟩ = some v5 :=
 ⟨(hb.cell (World.block_lt_of_cell? _ _ h.1)).trans h.1, (hb.cell (World.block_lt_of_cell? _ _ h.2.1)).trans h.2.1, (hb.cell (World.block_lt_of_cell? _ _ h.2.2.1)).trans h.2.2.1, (hb.cell (World.block_lt_of_cell? _ _ h.2.2.2.1)).trans h.2.2.2.1, (hb.cell (World.block_lt_of_cell? _ _ h.2.2.2.2.1)).trans h.2.2.2.2.1, (hb.cell (World.block_lt_of_cell? _ _ h.2.2.2.2.2)).trans h.2.2.2.2.2⟩
theorem token_no (p : Option Addr) (c : Cf) (t : Int) (w : World) (hp : MdAt w p c) (hb : t < 0 ∨ c.vocab ≤ t) (v0 : 0 ≤ c.vocab) (v1 : c.vocab ≤ 64) :
  Calls Tryz.prog 151 #[.pointer p, .int .i64 t] w fun e w' => e = .returned (.slice none 0 0) ∧ Below w.heap.size w w' := by
 have hC := config_any p c w hp
 obtain ⟨s, v, d, l, tt, h⟩ := c
 clear hp
 unfold CfV at hC
 simp only at hC hb v0 v1
 have hb : btw t 0 (v - 1) = false := btw_no.2 (by omega)
 go_enter Tryz.func151, Tryz.ntmps151
 go_wp2_with fail
 refine hC.mono ?_
 rintro e w1 ⟨rfl, hb1⟩
 have HB1 := hid hb1
 clear hb1 hC
 go_wp2_with fail
 refine (mbetween_any _ _ _ _).mono ?_
 rintro e w' ⟨rfl, rfl⟩
 rw [hb]
 go_wp2
 go_ret
 exact ⟨rfl, HB1.out.alloc HB1.out.size _⟩
theorem token_yes (p : Option Addr) (s v l tt h t : Int) (D : Nat) (w : World) (hp : MdAt w p ⟨s, v, D, l, tt, h⟩) (t0 : 0 ≤ t) (t1 : t < v) (v1 : v ≤ 64) (hD : D ≤ 16) :
  Calls Tryz.prog 151 #[.pointer p, .int .i64 t] w fun e w' => Made w D (rowK (fun k => weightZ s 0 t k) D) e w' := by
 have hC := config_any p _ w hp
 have HT := hid fun W => tableof_any ⟨s, v, D, l, tt, h⟩ 0 W (by omega) (by omega)
 have HR := hid fun W => makerow_any 181 (.agg #[.int .u64 (deriveZ s [0])]) (enters_of Tryz.func181 (by kernel_rfl) rfl) t D W (by omega) (fun k => weightZ s 0 t k) fun k wr hk hb => weight_any s 0 t k wr t0 (by omega) (by omega) (by omega)
 generalize rowK (fun k => weightZ s 0 t k) D = row at *
 clear hp
 unfold CfV at hC HT
 simp only at hC HT
 generalize deriveZ s [0] = x at *
 have hb : btw t 0 (v - 1) = true := btw_iff.2 (by omega)
 go_enter Tryz.func151, Tryz.ntmps151
 go_wp2_with fail
 refine hC.mono ?_
 rintro e w1 ⟨rfl, hb1⟩
 have HB1 := hid hb1
 have HN : Hid ((w1.alloc (.cells (CfV ⟨s, v, D, l, tt, h⟩) 24)).heap[w1.heap.size]? = some (.cells (CfV ⟨s, v, D, l, tt, h⟩) 24)) := heap_alloc_new w1 _
 have HK := hid (Cf_cells HN.out)
 unfold CfV at HK
 simp only at HK
 clear hb1 hC HN
 go_wp2_with fail
 refine (mbetween_any _ _ _ _).mono ?_
 rintro e w' ⟨rfl, rfl⟩
 rw [hb]
 have HB2 : Hid (Below w.heap.size w (w1.alloc (.cells #[.int .u64 s, .int .i64 v, .int .i64 D, .int .i64 l, .int .i64 tt, .int .i64 h] 24))) := HB1.out.alloc HB1.out.size _
 generalize hW : w1.alloc (.cells #[.int .u64 s, .int .i64 v, .int .i64 D, .int .i64 l, .int .i64 tt, .int .i64 h] 24) = W2 at *
 clear hW HB1
 go_wp2_with fail
 go_region_held3 (fun W : World => W.cell? ⟨w1.heap.size, 0, none⟩ = some (.int .u64 s) ∧ W.cell? ⟨w1.heap.size, 1, none⟩ = some (.int .i64 v) ∧ W.cell? ⟨w1.heap.size, 2, none⟩ = some (.int .i64 D) ∧ W.cell? ⟨w1.heap.size, 3, none⟩ = some (.int .i64 l) ∧ W.cell? ⟨w1.heap.size, 4, none⟩ = some (.int .i64 tt) ∧ W.cell? ⟨w1.heap.size, 5, none⟩ = some (.int .i64 h))
  (first | exact HK.out | exact Cf_keep hb4 (by assumption) | exact Cf_keep hb3 (by assumption))
  (first | (go_at_call 180; refine (HT.out _).mono ?_; rintro e w3 ⟨rfl, hb3⟩) | (go_at_call 179; refine (HR.out _).mono ?_; rintro e w4 ⟨g, c, rfl, hO, hb4⟩))
 have HB3 := hid (HB2.out.drew.trans (hb3.mono HB2.out.size))
 have HO := hid (hO.low HB3.out.size)
 have HB4 := hid (HB3.out.trans (hb4.mono HB3.out.size))
 clear hO hb3 hb4 HB2 HB3 HT HR HK
 go_wp2
 go_ret
 exact ⟨_, _, rfl, HO.out, HB4.out⟩
theorem place_no (p : Option Addr) (c : Cf) (t : Int) (w : World) (hp : MdAt w p c) (hm : mayB c = true) (hb : t < 0 ∨ 256 ≤ t) :
  Calls Tryz.prog 152 #[.pointer p, .int .i64 t] w fun e w' => e = .returned (.slice none 0 0) ∧ Below w.heap.size w w' := by
 have hC := config_any p c w hp
 have HM := hid (may_any c)
 obtain ⟨s, v, d, l, tt, h⟩ := c
 rw [hm] at HM
 clear hp hm
 have hb : btw t 0 255 = false := btw_no.2 (by omega)
 unfold CfV at hC HM
 simp only at hC HM
 go_enter Tryz.func152, Tryz.ntmps152
 go_wp2_with fail
 refine hC.mono ?_
 rintro e w1 ⟨rfl, hb1⟩
 have HB1 := hid hb1
 clear hb1 hC
 go_wp2_with fail
 refine (HM.out _).mono ?_
 rintro e w2 ⟨rfl, hb2⟩
 have HB2 := hid ((HB1.out.alloc HB1.out.size _).trans (hb2.mono (Nat.le_trans HB1.out.size (by simp))))
 clear HB1 hb2 HM
 go_wp2_with fail
 refine (mbetween_any _ _ _ _).mono ?_
 rintro e w' ⟨rfl, rfl⟩
 rw [hb]
 go_wp2
 go_ret
 exact ⟨rfl, HB2.out⟩
theorem place_yes (p : Option Addr) (s v l tt h t : Int) (D : Nat) (w : World) (hp : MdAt w p ⟨s, v, D, l, tt, h⟩) (hm : mayB ⟨s, v, D, l, tt, h⟩ = true) (t0 : 0 ≤ t) (t1 : t < 256) (hD : D ≤ 16) :
  Calls Tryz.prog 152 #[.pointer p, .int .i64 t] w fun e w' => Made w D (rowK (fun k => mulZ (weightZ s 1 t k) 16384) D) e w' := by
 have hC := config_any p _ w hp
 have HM := hid (may_any ⟨s, v, D, l, tt, h⟩)
 rw [hm] at HM
 have HT := hid fun W => tableof_any ⟨s, v, D, l, tt, h⟩ 1 W (by omega) (by omega)
 have HR := hid fun W => makerow_any 182 (.agg #[.int .u64 (deriveZ s [1])]) (enters_of Tryz.func182 (by kernel_rfl) rfl) t D W (by omega) (fun k => mulZ (weightZ s 1 t k) 16384) fun k wr hk hb => placeweight_any s 1 t k wr t0 (by omega) (by omega) (by omega)
 generalize rowK (fun k => mulZ (weightZ s 1 t k) 16384) D = row at *
 clear hp hm
 unfold CfV at hC HT HM
 simp only at hC HT HM
 generalize deriveZ s [1] = x at *
 have hb : btw t 0 255 = true := btw_iff.2 (by omega)
 go_enter Tryz.func152, Tryz.ntmps152
 go_wp2_with fail
 refine hC.mono ?_
 rintro e w1 ⟨rfl, hb1⟩
 have HB1 := hid hb1
 have HN : Hid ((w1.alloc (.cells (CfV ⟨s, v, D, l, tt, h⟩) 24)).heap[w1.heap.size]? = some (.cells (CfV ⟨s, v, D, l, tt, h⟩) 24)) := heap_alloc_new w1 _
 have HK := hid (Cf_cells HN.out)
 unfold CfV at HK
 simp only at HK
 clear hb1 hC HN
 go_wp2_with fail
 refine (HM.out _).mono ?_
 rintro e W2 ⟨rfl, hb2⟩
 have HB2 := hid ((HB1.out.alloc HB1.out.size _).trans (hb2.mono (Nat.le_trans HB1.out.size (by simp))))
 replace HK := hid (Cf_keep hb2 HK.out)
 clear HB1 hb2 HM
 go_wp2_with fail
 refine (mbetween_any _ _ _ _).mono ?_
 rintro e w' ⟨rfl, rfl⟩
 rename World => W2
 rw [hb]
 go_wp2_with fail
 go_region_held3 (fun W : World => W.cell? ⟨w1.heap.size, 0, none⟩ = some (.int .u64 s) ∧ W.cell? ⟨w1.heap.size, 1, none⟩ = some (.int .i64 v) ∧ W.cell? ⟨w1.heap.size, 2, none⟩ = some (.int .i64 D) ∧ W.cell? ⟨w1.heap.size, 3, none⟩ = some (.int .i64 l) ∧ W.cell? ⟨w1.heap.size, 4, none⟩ = some (.int .i64 tt) ∧ W.cell? ⟨w1.heap.size, 5, none⟩ = some (.int .i64 h))
  (first | exact HK.out | exact Cf_keep hb4 (by assumption) | exact Cf_keep hb3 (by assumption))
  (first | (go_at_call 180; refine (HT.out _).mono ?_; rintro e w3 ⟨rfl, hb3⟩) | (go_at_call 179; refine (HR.out _).mono ?_; rintro e w4 ⟨g, c, rfl, hO, hb4⟩))
 have HB3 := hid (HB2.out.drew.trans (hb3.mono HB2.out.size))
 have HO := hid (hO.low HB3.out.size)
 have HB4 := hid (HB3.out.trans (hb4.mono HB3.out.size))
 clear hO hb3 hb4 HB2 HB3 HT HR HK
 go_wp2
 go_ret
 exact ⟨_, _, rfl, HO.out, HB4.out⟩
theorem rows_no (p : Option Addr) (c : Cf) (la wh : Int) (w : World) (hp : MdAt w p c) (hb : (la < 0 ∨ c.layers ≤ la) ∨ (wh < 0 ∨ 5 < wh)) (v0 : 0 ≤ c.layers) (v1 : c.layers ≤ 4) :
  Calls Tryz.prog 208 #[.pointer p, .int .i64 la, .int .i64 wh] w fun e w' => e = .returned (.slice none 0 0) ∧ Below w.heap.size w w' := by
 have hC := config_any p c w hp
 obtain ⟨s, v, d, l, tt, h⟩ := c
 clear hp
 unfold CfV at hC
 simp only at hC hb v0 v1
 by_cases h1 : la < 0 ∨ l ≤ la
 ·have hb : btw la 0 (l - 1) = false := btw_no.2 (by omega)
  clear h1
  go_enter Tryz.func208, Tryz.ntmps208
  go_wp2_with fail
  refine hC.mono ?_
  rintro e w1 ⟨rfl, hb1⟩
  have HB1 := hid hb1
  clear hb1 hC
  go_wp2_with fail
  refine (mbetween_any _ _ _ _).mono ?_
  rintro e w' ⟨rfl, rfl⟩
  rw [hb]
  go_wp2
  go_ret
  exact ⟨rfl, HB1.out.alloc HB1.out.size _⟩
 ·have hb1 : btw la 0 (l - 1) = true := btw_iff.2 (by omega)
  have hb2 : btw wh 0 5 = false := btw_no.2 (by omega)
  clear h1 hb
  go_enter Tryz.func208, Tryz.ntmps208
  go_wp2_with fail
  refine hC.mono ?_
  rintro e w1 ⟨rfl, hbl⟩
  have HB1 := hid hbl
  clear hbl hC
  go_wp2_with fail
  refine (mbetween_any _ _ _ _).mono ?_
  rintro e w' ⟨rfl, rfl⟩
  rw [hb1]
  go_wp2_with fail
  refine (mbetween_any _ _ _ _).mono ?_
  rintro e w' ⟨rfl, rfl⟩
  rw [hb2]
  go_wp2
  go_ret
  exact ⟨rfl, HB1.out.alloc HB1.out.size _⟩
end Go.Proofs.YtjgggialnegddaaGreat
namespace Go.Proofs.YtjgggialnegddaaGreat
open Go.RowKit
theorem wrap_in {n : Int} (h0 : -9223372036854775808 ≤ n) (h1 : n ≤ 9223372036854775807) : IntKind.i64.wrap n = n := by
 rw [IntKind.wrap_i64]; omega
theorem rows_yes (p : Option Addr) (s v l tt h la wh : Int) (D : Nat) (w : World) (hp : MdAt w p ⟨s, v, D, l, tt, h⟩) (l0 : 0 ≤ la) (l1 : la < l) (l2 : l ≤ 4) (k0 : 0 ≤ wh) (k1 : wh ≤ 5) (hD : D ≤ 16) :
  Calls Tryz.prog 208 #[.pointer p, .int .i64 la, .int .i64 wh] w fun e w' => MadeT w D D (fun r => rowK (fun k => weightZ s (2 + 6 * la + wh) r k) D) e w' := by
 have hC := config_any p _ w hp
 have HT := hid fun W => tableof_any ⟨s, v, D, l, tt, h⟩ (2 + 6 * la + wh) W (by omega) (by omega)
 have HR := hid fun W => makerows_any 181 (.agg #[.int .u64 (deriveZ s [2 + 6 * la + wh])]) (enters_of Tryz.func181 (by kernel_rfl) rfl) D D W (by omega) (by omega) (fun r k => weightZ s (2 + 6 * la + wh) r k) fun r k wr hr hk hb => weight_any s _ r k wr (by omega) (by omega) (by omega) (by omega)
 generalize (fun r : Nat => rowK (fun k => weightZ s (2 + 6 * la + wh) r k) D) = F at *
 clear hp
 unfold CfV at hC HT
 simp only at hC HT
 generalize deriveZ s [2 + 6 * la + wh] = x at *
 have hw : 2 + 6 * la + wh = IntKind.i64.wrap (IntKind.i64.wrap (2 + IntKind.i64.wrap (6 * la)) + wh) := by
  rw [wrap_in (n := 6 * la) (by omega) (by omega), wrap_in (n := 2 + 6 * la) (by omega) (by omega), wrap_in (by omega) (by omega)]
 rw [hw] at HT
 clear hw
 have hb1 : btw la 0 (l - 1) = true := btw_iff.2 (by omega)
 have hb2 : btw wh 0 5 = true := btw_iff.2 (by omega)
 go_enter Tryz.func208, Tryz.ntmps208
 go_wp2_with fail
 refine hC.mono ?_
 rintro e w1 ⟨rfl, hbl⟩
 have HB1 := hid hbl
 have HN : Hid ((w1.alloc (.cells (CfV ⟨s, v, D, l, tt, h⟩) 24)).heap[w1.heap.size]? = some (.cells (CfV ⟨s, v, D, l, tt, h⟩) 24)) := heap_alloc_new w1 _
 have HK := hid (Cf_cells HN.out)
 unfold CfV at HK
 simp only at HK
 clear hbl hC HN
 go_wp2_with fail
 refine (mbetween_any _ _ _ _).mono ?_
 rintro e w' ⟨rfl, rfl⟩
 rw [hb1]
 go_wp2_with fail
 refine (mbetween_any _ _ _ _).mono ?_
 rintro e w' ⟨rfl, rfl⟩
 rw [hb2]
 have HB2 : Hid (Below w.heap.size w (w1.alloc (.cells #[.int .u64 s, .int .i64 v, .int .i64 D, .int .i64 l, .int .i64 tt, .int .i64 h] 24))) := HB1.out.alloc HB1.out.size _
 generalize hW : w1.alloc (.cells #[.int .u64 s, .int .i64 v, .int .i64 D, .int .i64 l, .int .i64 tt, .int .i64 h] 24) = W2 at *
 clear hW HB1
 go_wp2_with fail
 go_region_held3 (fun W : World => W.cell? ⟨w1.heap.size, 0, none⟩ = some (.int .u64 s) ∧ W.cell? ⟨w1.heap.size, 1, none⟩ = some (.int .i64 v) ∧ W.cell? ⟨w1.heap.size, 2, none⟩ = some (.int .i64 D) ∧ W.cell? ⟨w1.heap.size, 3, none⟩ = some (.int .i64 l) ∧ W.cell? ⟨w1.heap.size, 4, none⟩ = some (.int .i64 tt) ∧ W.cell? ⟨w1.heap.size, 5, none⟩ = some (.int .i64 h))
  (first | exact HK.out | exact Cf_keep hb4 (by assumption) | exact Cf_keep hb3 (by assumption))
  (first | (go_at_call 180; refine (HT.out _).mono ?_; rintro e w3 ⟨rfl, hb3⟩) | (go_at_call 232; refine (HR.out _).mono ?_; rintro e w4 ⟨G, hs, rfl, hU⟩; have hb4 := hU.old))
 have HB3 := hid (HB2.out.drew.trans (hb3.mono HB2.out.size))
 have HU := hid (hU.low HB3.out)
 clear hU hb3 hb4 HB2 HB3 HT HR HK
 go_wp2
 go_ret
 exact ⟨_, _, rfl, HU.out⟩
end Go.Proofs.YtjgggialnegddaaGreat
namespace Go.Proofs.YtjgggialnegddaaGreat
open Go.RowKit
def BlI (w : World) (a : Option Addr) : Prop := ∀ p, a = some p → ∃ cur fz, w.heap[p.block]? = some (.cells cur 2 fz)
theorem BlI.none (w : World) : BlI w none := fun p h => by cases h
theorem BlI.below {w w' : World} {a : Option Addr} (h : BlI w a) (hb : Below w.heap.size w w') : BlI w' a := fun p hp => by
 obtain ⟨cur, fz, hc⟩ := h p hp
 exact ⟨cur, fz, (hb.block _ (lt_of_block hc)).trans hc⟩
theorem BlI.own {w : World} {B n l c : Nat} {a : Option Addr} {xs : List Value} (h : w.ownsRow B 2 1 (.slice a l c) n xs) : BlI w a := by
 rcases h.2 with ⟨h', _⟩ | ⟨g, cap, cur, h', _, hg, _⟩
 ·cases h'; exact BlI.none w
 ·cases h'; intro p hp; cases hp; exact ⟨cur, (0, 0), hg⟩
structure RowsI (w : World) (base : Nat) (v : Value) (n : Nat) (hs : List Hd) (ls : List (List Int)) : Prop where
 own : w.ownsRow base 131 1 v n (hs.map hdV)
 size : ls.length = n
 rows : ∀ j, j < n → Reads .i64 w (hs[j]?.getD (none, 0, 0)).1 (hs[j]?.getD (none, 0, 0)).2.1 (hs[j]?.getD (none, 0, 0)).2.2 (ls[j]?.getD []) ∧ BlI w (hs[j]?.getD (none, 0, 0)).1 ∧ (hs[j]?.getD (none, 0, 0)).2.1 ≤ 1000
theorem RowsI.nil (w : World) (base : Nat) : RowsI w base (.slice none 0 0) 0 [] [] := ⟨World.ownsRow_nil _ _ _ _, rfl, fun j hj => by omega⟩
theorem RowsI.below {w w' : World} {base : Nat} {v : Value} {n : Nat} {hs : List Hd} {ls : List (List Int)} (h : RowsI w base v n hs ls) (hb : Below w.heap.size w w') : RowsI w' base v n hs ls :=
 ⟨own_below h.own hb, h.size, fun j hj => ⟨(h.rows j hj).1.below hb, (h.rows j hj).2.1.below hb, (h.rows j hj).2.2⟩⟩
theorem RowsI.tbl {w : World} {base : Nat} {v : Value} {n : Nat} {hs : List Hd} {ls : List (List Int)} (h : RowsI w base v n hs ls) : ∃ a c, v = .slice a n c ∧ Tbl w a n c hs ls := by
 have hl : hs.length = n := by have := h.own.1; simpa using this
 rcases id h.own.2 with ⟨rfl, rfl⟩ | ⟨g, cap, cur, rfl, hb, hg, hnc, hm, hs', ht⟩
 ·exact ⟨none, 0, rfl, ⟨hl, Nat.le_refl _, by omega, fun _ => ⟨rfl, rfl⟩, fun i hi => by omega⟩, fun i hi => (h.rows i hi).1, fun i hi => (h.rows i hi).2.2⟩
 ·refine ⟨some ⟨g, 0, none⟩, cap, rfl, ⟨hl, hnc, by unfold maxLen at hm; omega, (fun e => by cases e), fun i hi => ⟨g, 0, rfl, ?_⟩⟩, fun i hi => (h.rows i hi).1, fun i hi => (h.rows i hi).2.2⟩
  have := World.ownsRow.cellAt h.own i (by omega)
  rw [Nat.zero_add, this]
  simp [(by omega : i < hs.length), hdV]
theorem Reads.kept {w w' : World} {base : Nat} {v : Value} {n : Nat} {vals : List Value} {a : Option Addr} {l c : Nat} {zs : List Int} (ho : w.ownsRow base 131 1 v n vals) (hg : w.grownBy w' v.ownBlock)
  (hr : Reads .i64 w a l c zs) (h5 : BlI w a) : Reads .i64 w' a l c zs ∧ BlI w' a := by
 have key : ∀ p, a = some p → w'.heap[p.block]? = w.heap[p.block]? := by
  intro p hp
  obtain ⟨cur, fz, hc⟩ := h5 p hp
  refine hg.block p.block (lt_of_block hc) ?_
  intro e
  rcases ho.2 with ⟨rfl, _⟩ | ⟨g, cap, cur', rfl, _, hgb, _⟩
  ·simp [Value.ownBlock] at e
  ·simp [Value.ownBlock] at e
   rw [e, hgb] at hc
   simp at hc
 refine ⟨⟨hr.size, hr.room, hr.most, hr.bare, fun i hi => ?_⟩, fun p hp => ?_⟩
 ·obtain ⟨b, off, ha, hc⟩ := hr.cell i hi
  exact ⟨b, off, ha, (World.cell?_of_block (a := ⟨b, off + i, none⟩) (key ⟨b, off, none⟩ ha)).trans hc⟩
 ·obtain ⟨cur, fz, hc⟩ := h5 p hp
  exact ⟨cur, fz, (key p hp).trans hc⟩
theorem append_rowI {P : Program} (w : World) {ops : Array Oper} {rest : List Oper} {o : Oper} {a : Act} {Q : Exit → Act → World → Prop} (hgd : o.guard = none) (s x : Operand) (t : TypeId)
  (ho : o.op = .call { callee := .builtin .append, args := #[s, x], argTypes := #[t, t] })
  (base : Nat) (i : TypeInfo) (ht : P.underlying t = some (.slice 131)) (hi : P.info? 131 = some i) (hz : i.zero = some (.slice none 0 0)) (hsize : i.size = 1) (hby : i.bytes = 24)
  (v : Value) (n : Nat) (hs : List Hd) (ls : List (List Int)) (hv : a.eval s = v) (hown : RowsI w base v n hs ls) (hn : n ≤ 100000)
  (B : Nat) (y : Hd) (zs : List Int) (hx : a.eval x = .slice (some ⟨B, 0, none⟩) 1 1) (hc : w.cell? ⟨B, 0, none⟩ = some (.slice y.1 y.2.1 y.2.2)) (hr : Reads .i64 w y.1 y.2.1 y.2.2 zs) (h5 : BlI w y.1) (hy : y.2.1 ≤ 1000)
  (hbase : base ≤ w.heap.size)
  (h : ∀ v' w', RowsI w' base v' (n + 1) (hs ++ [y]) (ls ++ [zs]) → Below base w w' → wpList P ops Q rest (a.put o.dst v') w') : wpList P ops Q (o :: rest) a w := by
 have hlen : hs.length = n := by have := hown.own.1; simpa using this
 refine wpList_append_own w hgd s x t ho base 131 i (.slice none 0 0) 1 24 ht hi hz hsize hby rfl (by decide) v n _ hv hown.own ⟨B, 0, none⟩ 1 1 [hdV y] hx rfl ?_ ?_ (by unfold maxLen; omega) (by omega) hbase ?_
 ·intro j u hu
  rcases j with _ | j
  ·simp at hu
   rw [Addr.add_lit, Nat.zero_add, hc, ← hu]
   rfl
  ·simp at hu
 ·intro u hu
  simp at hu
  subst hu
  rfl
 ·intro v' w' h1 h2 _
  refine h v' w' ⟨by rw [List.map_append]; exact h1, by simp [hown.size], fun j hj => ?_⟩ ((Below.refl _ _).grown h2 hbase fun g hg => (hown.own.lt g hg).1)
  have hsz := hown.size
  rcases Nat.lt_or_ge j n with hj' | hj'
  ·obtain ⟨e2, e3, e4⟩ := hown.rows j hj'
   obtain ⟨k1, k2⟩ := Reads.kept hown.own h2 e2 e3
   rw [List.getElem?_append_left (by omega), List.getElem?_append_left (by omega)]
   exact ⟨k1, k2, e4⟩
  ·obtain rfl : j = n := by omega
   obtain ⟨k1, k2⟩ := Reads.kept hown.own h2 hr h5
   rw [List.getElem?_append_right (by omega), List.getElem?_append_right (by omega)]
   simp only [hlen, hsz, Nat.sub_self, List.getElem?_cons_zero, Option.getD_some]
   exact ⟨k1, k2, hy⟩
theorem tblK_len (F : Nat → List Int) (n : Nat) : (tblK F n).length = n := by simp [tblK]
theorem tblK_snoc (F : Nat → List Int) (n : Nat) : tblK F n ++ [F n] = tblK F (n + 1) := by unfold tblK; rw [List.range_succ, List.map_append]; rfl
def overK (f h : Nat → Int) (k n : Nat) : List Int := rowK (fun j => if j < k then h j else f j) n
theorem overK_0 (f h : Nat → Int) (n : Nat) : overK f h 0 n = rowK f n := by unfold overK; congr 1
theorem rowK_at (f : Nat → Int) {n i : Nat} (hi : i < n) : (rowK f n)[i]?.getD 0 = f i := by simp [rowK, hi]
theorem overK_at (f h : Nat → Int) {k n : Nat} (hk : k < n) : (overK f h k n)[k]?.getD 0 = f k := by unfold overK; rw [rowK_at _ hk]; simp
theorem overK_set (f h : Nat → Int) {k n : Nat} (hk : k < n) : (overK f h k n).set k (h k) = overK f h (k + 1) n := by
 apply List.ext_getElem?
 intro i
 unfold overK rowK
 by_cases e : k = i
 ·subst e; simp [hk]
 ·rw [List.getElem?_set_ne e]
  by_cases hi : i < n
  ·simp only [List.getElem?_map, List.getElem?_range hi, Option.map_some]
   by_cases h1 : i < k
   ·rw [if_pos h1, if_pos (by omega)]
   ·rw [if_neg h1, if_neg (by omega)]
  ·simp [hi]
theorem overK_all (f h : Nat → Int) (n : Nat) : overK f h n n = rowK h n := by
 unfold overK rowK
 apply List.map_congr_left
 intro i hi
 simp at hi
 simp [hi]
end Go.Proofs.YtjgggialnegddaaGreat
