/-
  The texts Tables, SMath, HMath of this proof.
-/
import Derived.Test.YtjgggialnegddaaGreatPn10
import Derived.Test.YtjgggialnegddaaGreatPn04
import Derived.Deep.QuietTactic
import Derived.BigQuiet
set_option linter.unusedVariables false
set_option maxRecDepth 1000000
namespace Go.Proofs.YtjgggialnegddaaGreat
open Go.RowKit
theorem count2_any (a : Option Addr) (len cap : Nat) (w : World) (hlen : len ≤ 1000) :
  Calls Tryz.prog 244 #[.slice a len cap] w fun e w' => e = .returned (.int .i64 len) ∧ w' = w := by
 go_enter Tryz.func244, Tryz.ntmps244
 go_wp2
 go_ret
 exact ⟨rfl, rfl⟩
theorem each2_any (fn : Nat) (caps : Array Value) (a : Option Addr) (len cap : Nat) (hs : List Hd) (w : World) (hlen : len ≤ 1000) (I : Nat → World → Prop)
  (hE : ∀ args w, (callFunc fn args).run Tryz.prog w = .ok (.enter fn args) w) (hR : ∀ k wr, I k wr → Rd2 wr a len cap hs) (h0 : I 0 w)
  (hS : ∀ k wr, k < len → I k wr → Calls Tryz.prog fn (#[.int .i64 (k : Int), .slice (hs[k]?.getD (none, 0, 0)).1 (hs[k]?.getD (none, 0, 0)).2.1 (hs[k]?.getD (none, 0, 0)).2.2] ++ caps) wr fun e w' => e = .returned (.tuple #[]) ∧ I (k + 1) w') :
  Calls Tryz.prog 245 #[.slice a len cap, .func (.func fn) #[] caps] w fun e w' => e = .returned (.tuple #[]) ∧ I len w' := by
 have hr0 := hR 0 w h0
 have hroom := hr0.room
 have hmost := hr0.most
 have hbare := hr0.bare
 clear hr0
 have H0 := hid h0
 have HR := hid hR
 have HS := hid hS
 clear h0 hR hS
 go_enter Tryz.func245, Tryz.ntmps245
 cases a with
 | none =>
  obtain ⟨rfl, rfl⟩ := hbare rfl
  go_wp2_with fail
  refine (count2_any _ _ _ _ (by omega)).mono ?_
  rintro e w' ⟨rfl, rfl⟩
  go_wp2_with fail
  go_loopw [11] (fun i wr => ∃ k : Nat, k = 0 ∧ i = .int .i64 k ∧ Hid (I k wr)) (fun i _ => 0 - (intOf i).toNat)
  case atStart => exact ⟨0, rfl, rfl, H0⟩
  case round =>
   obtain ⟨k, rfl, rfl, HI⟩ := hrel
   go_wp2
   go_end0
   exact ⟨rfl, HI.out⟩
 | some ad =>
  clear hbare
  go_wp2_with fail
  refine (count2_any _ _ _ _ (by omega)).mono ?_
  rintro e w' ⟨rfl, rfl⟩
  go_wp2_with fail
  go_loopw [11] (fun i wr => ∃ k : Nat, k ≤ len ∧ i = .int .i64 k ∧ Hid (I k wr)) (fun i _ => len - (intOf i).toNat)
  case atStart => exact ⟨0, Nat.zero_le _, rfl, H0⟩
  case round =>
   obtain ⟨k, hk, rfl, HI⟩ := hrel
   by_cases hlt : k < len
   ·obtain ⟨b, off, hab, hc⟩ := (HR.out k wr HI.out).cell k hlt
    cases hab
    have hC := HS.out k wr hlt HI.out
    generalize hs[k]?.getD (none, 0, 0) = z at *
    obtain ⟨z1, z2, z3⟩ := z
    simp only at hc hC
    go_wp2_with fail
    refine hC.mono ?_
    rintro e w2 ⟨rfl, hI2⟩
    have HI2 := hid hI2
    clear hI2 hC
    go_wp2_with fail
    go_round
    case rel => exact ⟨k + 1, by omega, by go_num, HI2⟩
    case measure => simp [intOf]; omega
   ·obtain rfl : k = len := by omega
    go_wp2
    go_end0
    exact ⟨rfl, HI.out⟩
theorem made2_any (fn : Nat) (caps : Array Value) (hE : ∀ args w, (callFunc fn args).run Tryz.prog w = .ok (.enter fn args) w) (k : Nat) (x : Hd) (y : Int) (Bo Bm base g m : Nat) (us : List Int) (wr : World) (hm : m ≤ 1000)
  (ho : wr.heap[Bo]? = some (.cells #[.func (.func fn) #[] caps] 257 (0, 0))) (hq : wr.heap[Bm]? = some (.cells #[.slice (some ⟨g, 0, none⟩) m m] 131 (0, 0)))
  (hO : OwnK 2 base g m m us wr) (hk : k < m) (hgo : Bo ≠ g) (hgm : Bm ≠ g)
  (hC : Calls Tryz.prog fn (#[.slice x.1 x.2.1 x.2.2] ++ caps) wr.drew fun e w' => e = .returned (.int .i64 y) ∧ Below wr.heap.size wr w') :
  Calls Tryz.prog 246 #[.int .i64 k, .slice x.1 x.2.1 x.2.2, .pointer (some ⟨Bo, 0, none⟩), .pointer (some ⟨Bm, 0, none⟩)] wr fun e w' => e = .returned (.tuple #[]) ∧ OwnK 2 base g m m (us.set k y) w' ∧ But [g] wr w' := by
 obtain ⟨x1, x2, x3⟩ := x
 simp only at hC ⊢
 have cd := cell_of_one ho
 have cq := cell_of_one hq
 have HO := hid hO
 have HK : Hid (∀ W, But [g] wr W → W.cell? ⟨Bo, 0, none⟩ = some (.func (.func fn) #[] caps) ∧ W.cell? ⟨Bm, 0, none⟩ = some (.slice (some ⟨g, 0, none⟩) m m)) :=
  fun W h => ⟨h.cell cd (by simpa using hgo), h.cell cq (by simpa using hgm)⟩
 clear ho hq hO hgo hgm
 go_enter Tryz.func246, Tryz.ntmps246
 go_wp2_with fail
 go_region_held3 (fun W : World => W.cell? ⟨Bo, 0, none⟩ = some (.func (.func fn) #[] caps) ∧ W.cell? ⟨Bm, 0, none⟩ = some (.slice (some ⟨g, 0, none⟩) m m)) (first | exact ⟨cd, cq⟩ | assumption | exact HK.out _ (But.of hB) | exact HK.out _ ((But.of hB).set (p := ⟨g, k, none⟩) (List.mem_singleton.2 rfl) _)) (first | (refine hC.mono ?_; rintro e w2 ⟨rfl, hB⟩; have HO2 := hid (HO.out.stays hB); have ck := HO2.out.cell hk; have fk := HO2.out.frozen k))
 have HS : Hid (OwnK 2 base g m m (us.set k y) (w2.setCell ⟨g, k, none⟩ (.int .i64 y))) := HO2.out.set k y
 have HB : Hid (But [g] wr (w2.setCell ⟨g, k, none⟩ (.int .i64 y))) := (But.of hB).set (p := ⟨g, k, none⟩) (List.mem_singleton.2 rfl) _
 clear HK cd cq HO HO2 ck fk hB hC
 go_wp2
 go_end0
 exact ⟨rfl, HS.out, HB.out⟩
theorem madeof2_any (fn : Nat) (caps : Array Value) (hE : ∀ args w, (callFunc fn args).run Tryz.prog w = .ok (.enter fn args) w) (a : Option Addr) (len cap : Nat) (hs : List Hd) (w : World) (ha : Rd2 w a len cap hs) (hlen : len ≤ 1000) (f : Nat → Int)
  (hC : ∀ k wr, k < len → Below w.heap.size w wr → Calls Tryz.prog fn (#[.slice (hs[k]?.getD (none, 0, 0)).1 (hs[k]?.getD (none, 0, 0)).2.1 (hs[k]?.getD (none, 0, 0)).2.2] ++ caps) wr fun e w' => e = .returned (.int .i64 (f k)) ∧ Below wr.heap.size wr w') :
  Calls Tryz.prog 230 #[.slice a len cap, .func (.func fn) #[] caps] w fun e w' => Made w len (rowK f len) e w' := by
 have HM : Hid (∀ W, MadeAt w fn caps 257 w.heap.size len (List.replicate len 0) W → Calls Tryz.prog 245 #[.slice a len cap, .func (.func 246) #[] #[.pointer (some ⟨w.heap.size, 0, none⟩), .pointer (some ⟨w.heap.size + 2, 0, none⟩)]] W
   fun e w' => e = .returned (.tuple #[]) ∧ MadeAt w fn caps 257 w.heap.size len (rowK f len) w') := by
  intro W h0
  refine (each2_any 246 _ a len cap hs W hlen (fun k W => MadeAt w fn caps 257 w.heap.size len (rowK f k ++ List.replicate (len - k) 0) W) (enters_of Tryz.func246 (by kernel_rfl) rfl) ?_ ?_ ?_).mono ?_
  ·intro k wr hk
   exact ha.below hk.old
  ·exact h0
  ·intro k wr hk hI
   have hdr : Below wr.heap.size wr wr.drew := (Below.refl _ _).drew
   refine (made2_any fn caps hE k _ (f k) w.heap.size (w.heap.size + 2) w.heap.size (w.heap.size + 1) len _ wr hlen hI.fun_ hI.var hI.own hk (by omega) (by omega) ?_).mono ?_
   ·exact (hC k _ hk (hI.old.trans (hdr.mono hI.old.size))).mono fun e w' ⟨h1, h2⟩ => ⟨h1, hdr.trans (h2.mono (Nat.le_refl _))⟩
   ·rintro e w' ⟨h1, h2, h3⟩
    refine ⟨h1, ?_, h3.one hI.fun_ (by simp), h3.one hI.var (by simp), ?_⟩
    ·exact hI.old.trans (h3.to (fun s hs => by rw [List.mem_singleton.1 hs]; omega) hI.old.size)
    ·rw [← rowK_set f hk]; exact h2
  ·rintro e w' ⟨h1, h2⟩
   rw [Nat.sub_self, List.replicate_zero, List.append_nil] at h2
   exact ⟨h1, h2⟩
 have hmk := make_ints (w.alloc (.cells #[.func (.func fn) #[] caps] 257)) len (by omega)
 clear ha hC
 go_enter Tryz.func230, Tryz.ntmps230
 go_wp2_with fail
 refine (count2_any _ _ _ _ hlen).mono ?_
 rintro e w' ⟨rfl, rfl⟩
 go_wp2_with fail
 refine (HM.out _ (MadeAt.new _ _ _ _ _ hlen)).mono ?_
 rintro e w' ⟨rfl, h⟩
 have cv := cell_of_one h.var
 have HO := hid h.own
 have HB := hid h.old
 clear h HM hmk
 go_wp2
 go_ret
 exact ⟨_, _, rfl, HO.out, HB.out⟩
theorem mul1_any (a b : Option Addr) (la ca lb cb : Nat) (xs ys : List Int) (B : Nat) (w : World) (ha : Reads .i64 w a la ca xs) (hb : Reads .i64 w b lb cb ys) (hla : la ≤ 1000) (hlb : lb ≤ 1000)
  (hB : w.heap[B]? = some (.cells #[.slice b lb cb] 131 (0, 0))) :
  Calls Tryz.prog 231 #[.slice a la ca, .pointer (some ⟨B, 0, none⟩)] w fun e w' => e = .returned (.int .i64 (dotK xs ys (min la lb))) ∧ Below w.heap.size w w' := by
 have cs := cell_of_one hB
 have hD := dot_any a b la ca lb cb xs ys w ha hb hla hlb
 clear hB ha hb
 go_enter Tryz.func231, Tryz.ntmps231
 go_wp2_with fail
 refine hD.mono ?_
 rintro e w' ⟨rfl, hb⟩
 have HB := hid hb
 clear hb hD
 go_wp2
 go_ret
 exact ⟨rfl, HB.out⟩
def mulF (xss : List (List Int)) (ys : List Int) (i : Nat) : Int := dotK (xss[i]?.getD []) ys (min (xss[i]?.getD []).length ys.length)
theorem vmul_any (a b : Option Addr) (la ca lb cb : Nat) (hs : List Hd) (xss : List (List Int)) (ys : List Int) (w : World) (ha : Tbl w a la ca hs xss) (hb : Reads .i64 w b lb cb ys) (hla : la ≤ 1000) (hlb : lb ≤ 1000) :
  Calls Tryz.prog 207 #[.slice a la ca, .slice b lb cb] w fun e w' => Made w la (rowK (mulF xss ys) la) e w' := by
 have hbl : Below w.heap.size w (w.alloc (.cells #[.slice b lb cb] 131)) := (Below.refl _ _).alloc (Nat.le_refl _) _
 have hnew := heap_alloc_new w (.cells #[.slice b lb cb] 131)
 have HE := hid (madeof2_any 231 #[.pointer (some ⟨w.heap.size, 0, none⟩)] (enters_of Tryz.func231 (by kernel_rfl) rfl) a la ca hs _ (ha.below hbl).rd hla (mulF xss ys) fun k wr hk hw => by
  have h1 := ((ha.below hbl).below hw).rows k hk
  have h2 := (hb.below hbl).below hw
  refine (mul1_any _ _ _ _ _ _ _ _ w.heap.size wr h1 h2 (ha.short k hk) hlb ((hw.block _ (by simp)).trans hnew)).mono ?_
  rintro e w' ⟨e1, e2⟩
  refine ⟨?_, e2⟩
  rw [e1]
  unfold mulF
  rw [h1.size, h2.size])
 have HS : Hid (w.heap.size ≤ (w.alloc (.cells #[.slice b lb cb] 131)).heap.size) := by unfold Hid; simp
 have HN := hid hbl
 clear hbl ha hb hnew
 go_enter Tryz.func207, Tryz.ntmps207
 go_wp2_with fail
 refine HE.out.mono ?_
 rintro e w' ⟨g, cap, rfl, hO, hb⟩
 have HO := hid (hO.low HS.out)
 have HB := hid (HN.out.trans (hb.mono HS.out))
 clear hO hb HE
 go_wp2
 go_ret
 exact ⟨_, _, rfl, HO.out, HB.out⟩
end Go.Proofs.YtjgggialnegddaaGreat
namespace Go.Proofs.YtjgggialnegddaaGreat
open Go.RowKit
theorem div_zero : divZ 0 0 = 0 := by decide
theorem div_val {p S : Int} (p0 : 0 ≤ p) (hp : p ≤ S) (hS : S ≤ 2147483647) (h0 : 0 < S) : divZ p S = p * 65536 / S ∧ 0 ≤ p * 65536 / S ∧ p * 65536 / S ≤ 65536 := by
 have e1 : wi S = S := wi_in (by omega) hS
 have e2 : wi p = p := wi_in (by omega) (by omega)
 have b0 : 0 ≤ p * 65536 / S := Int.ediv_nonneg (by omega) (by omega)
 have b1 : p * 65536 / S ≤ 65536 := by
  have h : p * 65536 / S ≤ S * 65536 / S := Int.ediv_le_ediv h0 (by omega)
  rw [Int.mul_comm S 65536, Int.mul_ediv_cancel _ (by omega)] at h
  exact h
 refine ⟨?_, b0, b1⟩
 unfold divZ byZ
 rw [e1, e2, if_neg (by omega), if_neg (by omega), wi_in (by omega) (by omega)]
theorem div_bd {p S : Int} (p0 : 0 ≤ p) (hp : p ≤ S) (hS : S ≤ 2147483647) : 0 ≤ divZ p S ∧ divZ p S ≤ 65536 := by
 by_cases h0 : 0 < S
 ·obtain ⟨e, b⟩ := div_val p0 hp hS h0
  rw [e]; exact b
 ·obtain rfl : p = 0 := by omega
  obtain rfl : S = 0 := by omega
  rw [div_zero]; omega
theorem addZ_pos {s p : Int} (s0 : 0 ≤ s) (s1 : s ≤ 2147483647) (p0 : 0 ≤ p) (p1 : p ≤ 2147483647) : s ≤ addZ s p ∧ p ≤ addZ s p ∧ addZ s p ≤ 2147483647 := by
 unfold addZ
 rw [wi_in (by omega) s1, wi_in (by omega) p1]
 refine ⟨?_, ?_, wi_1 _⟩
 ·have := wi_le (show s ≤ s + p by omega)
  rwa [wi_in (n := s) (by omega) s1] at this
 ·have := wi_le (show p ≤ s + p by omega)
  rwa [wi_in (n := p) (by omega) p1] at this
def Pos (ps : List Int) : Prop := ∀ i : Nat, 0 ≤ ps[i]?.getD 0 ∧ ps[i]?.getD 0 ≤ 2147483647
theorem sumK_bd {ps : List Int} (h : Pos ps) (k : Nat) : 0 ≤ sumK ps k ∧ sumK ps k ≤ 2147483647 := by
 induction k with
 | zero => simp [sumK]
 | succ k ih =>
  have := addZ_pos ih.1 ih.2 (h k).1 (h k).2
  simp only [sumK]
  omega
theorem sumK_ge {ps : List Int} (h : Pos ps) (k : Nat) : ∀ i, i < k → ps[i]?.getD 0 ≤ sumK ps k := by
 induction k with
 | zero => intro i hi; omega
 | succ k ih =>
  intro i hi
  have b := sumK_bd h k
  have := addZ_pos b.1 b.2 (h k).1 (h k).2
  simp only [sumK]
  rcases (by omega : i < k ∨ i = k) with h1 | rfl
  ·have := ih i h1; omega
  ·omega
theorem powL_pos (zs : List Int) : Pos (powL zs) := by
 intro i
 rcases Nat.lt_or_ge i zs.length with h | h
 ·unfold powL
  rw [List.getElem?_map, List.getElem?_eq_getElem h]
  exact expZ_bd _
 ·rw [List.getElem?_eq_none (by rw [powL_len]; exact h)]
  simp
theorem softL_at {zs : List Int} {i : Nat} (h : i < zs.length) : (softL zs)[i]?.getD 0 = divZ ((powL zs)[i]?.getD 0) (sumK (powL zs) zs.length) := by
 unfold softL
 rw [List.getElem?_map, List.getElem?_eq_getElem (by rw [powL_len]; exact h)]
 rfl
theorem softL_bd (zs : List Int) (i : Nat) : 0 ≤ (softL zs)[i]?.getD 0 ∧ (softL zs)[i]?.getD 0 ≤ 65536 := by
 rcases Nat.lt_or_ge i zs.length with h | h
 ·rw [softL_at h]
  exact div_bd (powL_pos zs i).1 (sumK_ge (powL_pos zs) _ i h) (sumK_bd (powL_pos zs) _).2
 ·rw [List.getElem?_eq_none (by unfold softL; rw [List.length_map, powL_len]; exact h)]
  simp
theorem powL_at {zs : List Int} {i : Nat} (h : i < zs.length) : (powL zs)[i]?.getD 0 = expZ (addZ (zs[i]?.getD 0) (-(greatK zs zs.length))) := by
 unfold powL
 rw [List.getElem?_map, List.getElem?_eq_getElem h]
 rfl
end Go.Proofs.YtjgggialnegddaaGreat
namespace Go.Proofs.YtjgggialnegddaaGreat
open Go.RowKit
abbrev Mk := Int × Int
def ltM (a b : Mk) : Prop := a.2 < b.2 ∨ (a.2 = b.2 ∧ b.1 < a.1)
def leM (a b : Mk) : Prop := ¬ ltM b a
theorem leM_refl (a : Mk) : leM a a := by unfold leM ltM; omega
theorem leM_trans {a b c : Mk} (h : leM a b) (k : leM b c) : leM a c := by unfold leM ltM at *; omega
theorem leM_of_lt {a b : Mk} (h : ltM a b) : leM a b := by unfold leM; unfold ltM at *; omega
theorem leM_anti {a b : Mk} (h : leM a b) (k : leM b a) : a = b := by
 unfold leM ltM at *
 exact Prod.ext (by omega) (by omega)
theorem leM_total (a b : Mk) : leM a b ∨ leM b a := by unfold leM ltM; omega
def gx (ms : List Mk) (i : Nat) : Mk := ms[i]?.getD (0, 0)
theorem gx_of {ms : List Mk} {i : Nat} (h : i < ms.length) : gx ms i = ms[i] := by simp [gx, h]
def swp (ms : List Mk) (i j : Nat) : List Mk := (ms.set i (gx ms j)).set j (gx ms i)
theorem swp_len (ms : List Mk) (i j : Nat) : (swp ms i j).length = ms.length := by simp [swp]
theorem gx_swp {ms : List Mk} {i j : Nat} (hi : i < ms.length) (hj : j < ms.length) (k : Nat) : gx (swp ms i j) k = if k = j then gx ms i else if k = i then gx ms j else gx ms k := by
 unfold gx swp
 rw [List.getElem?_set, List.getElem?_set]
 by_cases h1 : k = j
 ·subst h1; simp [hj]; rfl
 ·rw [if_neg (fun e => h1 e.symm), if_neg h1]
  by_cases h2 : k = i
  ·subst h2; simp [hi]; rfl
  ·rw [if_neg (fun e => h2 e.symm), if_neg h2]
theorem swp_perm {ms : List Mk} {i j : Nat} (hi : i < ms.length) (hj : j < ms.length) : (swp ms i j).Perm ms := by
 unfold swp
 rw [gx_of hi, gx_of hj]
 exact List.set_set_perm hi hj
def HeapN (ms : List Mk) (n : Nat) : Prop := ∀ i, 0 < i → i < n → leM (gx ms ((i - 1) / 2)) (gx ms i)
def UpAt (ms : List Mk) (n j : Nat) : Prop := (∀ i, 0 < i → i < n → i ≠ j → leM (gx ms ((i - 1) / 2)) (gx ms i)) ∧ (0 < j → ∀ i, 0 < i → i < n → (i - 1) / 2 = j → leM (gx ms ((j - 1) / 2)) (gx ms i))
theorem UpAt.done {ms : List Mk} {n j : Nat} (h : UpAt ms n j) (hj : 0 < j → ¬ ltM (gx ms j) (gx ms ((j - 1) / 2))) : HeapN ms n := by
 intro i h0 hn
 by_cases e : i = j
 ·subst e; exact hj h0
 ·exact h.1 i h0 hn e
theorem UpAt.step {ms : List Mk} {n j : Nat} (h : UpAt ms n j) (h0 : 0 < j) (hj : j < n) (hn : n ≤ ms.length) (hl : ltM (gx ms j) (gx ms ((j - 1) / 2))) : UpAt (swp ms ((j - 1) / 2) j) n ((j - 1) / 2) := by
 obtain ⟨p, hp⟩ : ∃ p, (j - 1) / 2 = p := ⟨_, rfl⟩
 rw [hp] at hl ⊢
 have hG := gx_swp (ms := ms) (i := p) (j := j) (by omega) (by omega)
 have hlj := leM_of_lt hl
 constructor
 ·intro i i0 hi hip
  rw [hG, hG]
  by_cases e1 : i = j
  ·subst e1
   rw [hp, if_pos rfl, if_neg (by omega), if_pos rfl]
   exact hlj
  ·rw [if_neg e1, if_neg hip]
   have hx := h.1 i i0 hi e1
   by_cases e2 : (i - 1) / 2 = j
   ·rw [if_pos e2]
    have := h.2 h0 i i0 hi e2
    rwa [hp] at this
   ·rw [if_neg e2]
    by_cases e3 : (i - 1) / 2 = p
    ·rw [if_pos e3]
     rw [e3] at hx
     exact leM_trans hlj hx
    ·rw [if_neg e3]; exact hx
 ·intro p0 i i0 hi hip
  have hpp := h.1 p p0 (by omega) (by omega)
  rw [hG, hG, if_neg (by omega), if_neg (by omega)]
  by_cases e1 : i = j
  ·rw [if_pos e1]; exact hpp
  ·rw [if_neg e1, if_neg (by omega)]
   have hx := h.1 i i0 hi e1
   rw [hip] at hx
   exact leM_trans hpp hx
def DownAt (ms : List Mk) (n c : Nat) : Prop := (∀ i, 0 < i → i < n → (i - 1) / 2 ≠ c → leM (gx ms ((i - 1) / 2)) (gx ms i)) ∧ (0 < c → ∀ i, 0 < i → i < n → (i - 1) / 2 = c → leM (gx ms ((c - 1) / 2)) (gx ms i))
theorem DownAt.done {ms : List Mk} {n c : Nat} (h : DownAt ms n c) (hc : ∀ i, 0 < i → i < n → (i - 1) / 2 = c → leM (gx ms c) (gx ms i)) : HeapN ms n := by
 intro i h0 hn
 by_cases e : (i - 1) / 2 = c
 ·rw [e]; exact hc i h0 hn e
 ·exact h.1 i h0 hn e
theorem DownAt.step {ms : List Mk} {n c j : Nat} (h : DownAt ms n c) (h0 : 0 < j) (hj : j < n) (hn : n ≤ ms.length) (hjc : (j - 1) / 2 = c) (hm : ∀ i, 0 < i → i < n → (i - 1) / 2 = c → leM (gx ms j) (gx ms i)) (hl : ltM (gx ms j) (gx ms c)) : DownAt (swp ms c j) n j := by
 have hG := gx_swp (ms := ms) (i := c) (j := j) (by omega) (by omega)
 have hlj := leM_of_lt hl
 constructor
 ·intro i i0 hi hip
  rw [hG, hG, if_neg hip]
  by_cases e1 : i = j
  ·subst e1
   rw [if_pos hjc, if_pos rfl]
   exact hlj
  ·rw [if_neg e1]
   by_cases e2 : i = c
   ·subst e2
    rw [if_neg (by omega), if_pos rfl]
    exact h.2 i0 j h0 hj hjc
   ·rw [if_neg e2]
    by_cases e3 : (i - 1) / 2 = c
    ·rw [if_pos e3]; exact hm i i0 hi e3
    ·rw [if_neg e3]; exact h.1 i i0 hi e3
 ·intro _ i i0 hi hij
  rw [hG, hG, hjc, if_neg (by omega), if_pos rfl, if_neg (by omega), if_neg (by omega)]
  have := h.1 i i0 hi (by omega)
  rwa [hij] at this
theorem HeapN.least {ms : List Mk} {n : Nat} (h : HeapN ms n) : ∀ i, i < n → leM (gx ms 0) (gx ms i) := by
 intro i
 induction i using Nat.strongRecOn with
 | ind i ih =>
  intro hi
  by_cases h0 : i = 0
  ·subst h0; exact leM_refl _
  ·exact leM_trans (ih ((i - 1) / 2) (by omega) (by omega)) (h i (by omega) hi)
theorem HeapN.cut {ms : List Mk} {n : Nat} (h : HeapN ms n) (hn : n + 1 ≤ ms.length) (h' : HeapN ms (n + 1)) : DownAt (swp ms 0 n) n 0 := by
 have hG := gx_swp (ms := ms) (i := 0) (j := n) (by omega) (by omega)
 refine ⟨fun i i0 hi hp => ?_, fun h => absurd h (by omega)⟩
 rw [hG, hG, if_neg (by omega), if_neg hp, if_neg (by omega), if_neg (by omega)]
 exact h' i i0 (by omega)
theorem gx_app {ms : List Mk} {x : Mk} {i : Nat} (h : i < ms.length) : gx (ms ++ [x]) i = gx ms i := by simp [gx, List.getElem?_append_left h]
theorem HeapN.push {ms : List Mk} (h : HeapN ms ms.length) (x : Mk) : UpAt (ms ++ [x]) (ms.length + 1) ms.length := by
 refine ⟨fun i i0 hi hp => ?_, fun h0 i i0 hi hp => absurd hp (by omega)⟩
 rw [gx_app (by omega), gx_app (by omega)]
 exact h i i0 (by omega)
theorem gx_take {ms : List Mk} {n i : Nat} (h : i < n) : gx (ms.take n) i = gx ms i := by simp [gx, List.getElem?_take_of_lt h]
theorem HeapN.take {ms : List Mk} {n : Nat} (h : HeapN ms n) : HeapN (ms.take n) n := by
 intro i h0 hn
 rw [gx_take (by omega), gx_take hn]
 exact h i h0 hn
end Go.Proofs.YtjgggialnegddaaGreat
