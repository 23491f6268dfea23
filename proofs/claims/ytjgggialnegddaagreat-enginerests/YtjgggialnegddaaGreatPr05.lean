/-
  The texts Boths of this proof.
-/
import Derived.Test.YtjgggialnegddaaGreatPr04
import Derived.Deep.RegionHeld3
import Derived.Shelf.Abstract
set_option linter.unusedVariables false
set_option maxRecDepth 1000000
namespace Go.Proofs.YtjgggialnegddaaGreat
open Go.RowKit
theorem both1_any (fn : Nat) (caps : Array Value) (hE : ∀ args w, (callFunc fn args).run Tryz.prog w = .ok (.enter fn args) w) (S : List Nat) (k : Nat) (x : Int) (Bd Bb : Nat) (b : Option Addr) (lb cb : Nat) (bs : List Int) (wr : World)
  (hd : wr.heap[Bd]? = some (.cells #[.func (.func fn) #[] caps] 260 (0, 0))) (hb : wr.heap[Bb]? = some (.cells #[.slice b lb cb] 131 (0, 0)))
  (hr : Reads .i64 wr b lb cb bs) (hk : k < lb) (hdS : Bd ∉ S) (hbS : Bb ∉ S) (hrS : Off S b lb) (J : World → Prop)
  (hC : Calls Tryz.prog fn (#[.int .i64 x, .int .i64 (bs[k]?.getD 0)] ++ caps) wr.drew fun e w' => e = .returned (.tuple #[]) ∧ J w' ∧ But S wr w') :
  Calls Tryz.prog 228 #[.int .i64 k, .int .i64 x, .pointer (some ⟨Bd, 0, none⟩), .pointer (some ⟨Bb, 0, none⟩)] wr fun e w' => e = .returned (.tuple #[]) ∧ J w' ∧ But S wr w' := by
 have cd := cell_of_one hd
 have cq := cell_of_one hb
 obtain ⟨bb, off, rfl, ce⟩ := hr.cell k hk
 have hroom := hr.room
 have hmost := hr.most
 have HrS := hid (hrS (by omega) _ rfl)
 have HK : Hid (∀ W, But S wr W → W.cell? ⟨Bd, 0, none⟩ = some (.func (.func fn) #[] caps) ∧ W.cell? ⟨Bb, 0, none⟩ = some (.slice (some ⟨bb, off, none⟩) lb cb) ∧ W.cell? ⟨bb, off + k, none⟩ = some (.int .i64 (bs[k]?.getD 0))) :=
  fun W h => ⟨h.cell cd hdS, h.cell cq hbS, h.cell ce HrS.out⟩
 clear hr hd hb hdS hbS hrS HrS
 generalize bs[k]?.getD 0 = y at *
 go_enter Tryz.func228, Tryz.ntmps228
 go_wp2_with fail
 go_region_held3 (fun W : World => W.cell? ⟨Bd, 0, none⟩ = some (.func (.func fn) #[] caps) ∧ W.cell? ⟨Bb, 0, none⟩ = some (.slice (some ⟨bb, off, none⟩) lb cb) ∧ W.cell? ⟨bb, off + k, none⟩ = some (.int .i64 y)) (first | exact ⟨cd, cq, ce⟩ | assumption | exact HK.out _ hB) (first | (refine hC.mono ?_; rintro e w2 ⟨rfl, hJ, hB⟩))
 clear HK cd cq ce
 go_wp2
 go_end0
 exact ⟨rfl, hJ, hB⟩
set_option maxHeartbeats 1000000 in
theorem both_any (fn : Nat) (caps : Array Value) (hE : ∀ args w, (callFunc fn args).run Tryz.prog w = .ok (.enter fn args) w) (S : List Nat) (a b : Option Addr) (la ca lb cb : Nat) (xs ys : List Int) (w : World)
  (ha : Reads .i64 w a la ca xs) (hb : Reads .i64 w b lb cb ys) (hla : la ≤ 1000) (hlb : lb ≤ 1000) (hS : ∀ s ∈ S, s < w.heap.size) (haS : Off S a la) (hbS : Off S b lb)
  (I : Nat → World → Prop) (h0 : I 0 w) (hI : ∀ k W W', I k W → Below W.heap.size W W' → I k W')
  (hC : ∀ k wr, k < la → k < lb → I k wr → Calls Tryz.prog fn (#[.int .i64 (xs[k]?.getD 0), .int .i64 (ys[k]?.getD 0)] ++ caps) wr fun e w' => e = .returned (.tuple #[]) ∧ I (k + 1) w' ∧ But S wr w') :
  Calls Tryz.prog 203 #[.slice a la ca, .slice b lb cb, .func (.func fn) #[] caps] w fun e w' => e = .returned (.tuple #[]) ∧ I (min la lb) w' ∧ But S w w' := by
 obtain ⟨w2, hw2⟩ : ∃ w2, w2 = (w.alloc (.cells #[.slice b lb cb] 131)).alloc (.cells #[.func (.func fn) #[] caps] 260) := ⟨_, rfl⟩
 have hbel : Below w.heap.size w w2 := by rw [hw2]; exact ((Below.refl _ _).alloc (Nat.le_refl _) _).alloc (by simp) _
 have hB1 : w2.heap[w.heap.size]? = some (.cells #[.slice b lb cb] 131 (0, 0)) := by
  rw [hw2, Below.heap_alloc _ _ _ (by simp)]; exact heap_alloc_new w _
 have hB2 : w2.heap[w.heap.size + 1]? = some (.cells #[.func (.func fn) #[] caps] 260 (0, 0)) := by
  have := heap_alloc_new (w.alloc (.cells #[.slice b lb cb] 131)) (.cells #[.func (.func fn) #[] caps] 260)
  rw [hw2]
  simpa using this
 have HE : Hid (Calls Tryz.prog 215 #[.slice a (min la lb) ca, .func (.func 228) #[] #[.pointer (some ⟨w.heap.size + 1, 0, none⟩), .pointer (some ⟨w.heap.size, 0, none⟩)]] w2 fun e w' => e = .returned (.tuple #[]) ∧ (I (min la lb) w' ∧ But S w2 w')) := by
  refine each_any 228 _ a (min la lb) ca (xs.take (min la lb)) w2 (by omega) (fun k W => I k W ∧ But S w2 W) (enters_of Tryz.func228 (by kernel_rfl) rfl) ?_ ⟨hI 0 _ _ h0 hbel, But.refl _ _⟩ ?_
  ·rintro k wr ⟨_, hk⟩
   exact ((ha.below hbel).cut (Nat.min_le_left _ _)).but hk (fun h => haS (by omega))
  ·rintro k wr hk ⟨hi, hbt⟩
   rw [List.getElem?_take_of_lt hk]
   have h1 : w.heap.size + 1 ∉ S := fun h => by have := hS _ h; omega
   have h2 : w.heap.size ∉ S := fun h => by have := hS _ h; omega
   have hdr : Below wr.heap.size wr wr.drew := (Below.refl _ _).drew
   refine (both1_any fn caps hE S k _ (w.heap.size + 1) w.heap.size b lb cb ys wr (hbt.one hB2 h1) (hbt.one hB1 h2) ((hb.below hbel).but hbt hbS) (by omega) h1 h2 hbS (I (k + 1)) ?_).mono ?_
   ·exact (hC k wr.drew (by omega) (by omega) (hI _ _ _ hi hdr)).mono fun e w' ⟨e1, e2, e3⟩ => ⟨e1, e2, (But.of hdr).trans e3⟩
   ·rintro e w' ⟨e1, e2, e3⟩
    exact ⟨e1, e2, hbt.trans e3⟩
 have HF : Hid (∀ w', But S w2 w' → But S w w') := fun w' h => (But.of hbel).trans h
 have ra := ha.room
 have rm := ha.most
 have rb := hb.room
 have rc := hb.most
 have bare := ha.bare
 have cq := cell_of_one hB1
 clear hbel hB1 hB2 hC hI h0 haS hbS hS ha hb
 subst hw2
 go_enter Tryz.func203, Tryz.ntmps203
 rcases Nat.lt_or_ge lb la with hl | hl
 ·rw [Nat.min_eq_right (by omega)] at HE ⊢
  cases a with
  | none => obtain ⟨rfl, rfl⟩ := bare rfl; omega
  | some ad =>
   clear bare
   go_wp2_with fail
   refine HE.out.mono ?_
   rintro e w' ⟨rfl, hI, hB⟩
   have HI := hid hI
   have HB := hid (HF.out w' hB)
   clear hI hB HE HF cq
   go_wp2
   go_end0
   exact ⟨rfl, HI.out, HB.out⟩
 ·rw [Nat.min_eq_left (by omega)] at HE ⊢
  cases a with
  | none =>
   obtain ⟨rfl, rfl⟩ := bare rfl
   clear bare
   go_wp2_with fail
   refine HE.out.mono ?_
   rintro e w' ⟨rfl, hI, hB⟩
   have HI := hid hI
   have HB := hid (HF.out w' hB)
   clear hI hB HE HF cq
   go_wp2
   go_end0
   exact ⟨rfl, HI.out, HB.out⟩
  | some ad =>
   clear bare
   go_wp2_with fail
   refine HE.out.mono ?_
   rintro e w' ⟨rfl, hI, hB⟩
   have HI := hid hI
   have HB := hid (HF.out w' hB)
   clear hI hB HE HF cq
   go_wp2
   go_end0
   exact ⟨rfl, HI.out, HB.out⟩
def dotK (xs ys : List Int) : Nat → Int
 | 0 => 0
 | k + 1 => addZ (dotK xs ys k) (mulZ (xs[k]?.getD 0) (ys[k]?.getD 0))
theorem dot1_any (x y s : Int) (B : Nat) (w : World) (hB : w.heap[B]? = some (.cells #[.int .i64 s] 2 (0, 0))) :
  Calls Tryz.prog 227 #[.int .i64 x, .int .i64 y, .pointer (some ⟨B, 0, none⟩)] w fun e w' => e = .returned (.tuple #[]) ∧ w'.heap[B]? = some (.cells #[.int .i64 (addZ s (mulZ x y))] 2 (0, 0)) ∧ But [B] w w' := by
 have cs := cell_of_one hB
 have fs := free_of_one hB
 have HO := hid (one_setCell (u := .int .i64 (addZ s (mulZ x y))) hB)
 clear hB
 go_enter Tryz.func227, Tryz.ntmps227
 go_wp2_with fail
 go_region_with (first | (go_at_call 195; refine (mul_any _ _ _).mono ?_; rintro e w' ⟨rfl, rfl⟩) | (go_at_call 178; refine (add_any _ _ _).mono ?_; rintro e w' ⟨rfl, rfl⟩))
 all_goals
  go_wp2
  go_end0
  exact ⟨rfl, HO.out, ((But.refl _ _).set (p := ⟨B, 0, none⟩) (List.mem_singleton.2 rfl) _).drew⟩
def SumAt (w : World) (B : Nat) (s : Int) (W : World) : Prop := W.heap[B]? = some (.cells #[.int .i64 s] 2 (0, 0)) ∧ Below w.heap.size w W
theorem SumAt.below {w : World} {B : Nat} {s : Int} {W W' : World} (h : SumAt w B s W) (hb : Below W.heap.size W W') : SumAt w B s W' :=
 ⟨(hb.block B (lt_of_block h.1)).trans h.1, h.2.trans (hb.mono h.2.size)⟩
theorem SumAt.new (w : World) (s : Int) : SumAt w w.heap.size s (w.alloc (.cells #[.int .i64 s] 2)) := ⟨heap_alloc_new w _, (Below.refl _ _).alloc (Nat.le_refl _) _⟩
theorem dot_any (a b : Option Addr) (la ca lb cb : Nat) (xs ys : List Int) (w : World) (ha : Reads .i64 w a la ca xs) (hb : Reads .i64 w b lb cb ys) (hla : la ≤ 1000) (hlb : lb ≤ 1000) :
  Calls Tryz.prog 201 #[.slice a la ca, .slice b lb cb] w fun e w' => e = .returned (.int .i64 (dotK xs ys (min la lb))) ∧ Below w.heap.size w w' := by
 have hn := SumAt.new w 0
 have HE : Hid (Calls Tryz.prog 203 #[.slice a la ca, .slice b lb cb, .func (.func 227) #[] #[.pointer (some ⟨w.heap.size, 0, none⟩)]] (w.alloc (.cells #[.int .i64 0] 2)) fun e w' => e = .returned (.tuple #[]) ∧ SumAt w w.heap.size (dotK xs ys (min la lb)) w') := by
  have hS : ∀ s ∈ [w.heap.size], w.heap.size ≤ s := fun s hs => by rw [List.mem_singleton.1 hs]; exact Nat.le_refl _
  refine (both_any 227 _ (enters_of Tryz.func227 (by kernel_rfl) rfl) [w.heap.size] a b la ca lb cb xs ys _ (ha.below hn.2) (hb.below hn.2) hla hlb (fun s hs => by rw [List.mem_singleton.1 hs]; simp) (ha.past hS) (hb.past hS)
   (fun k W => SumAt w w.heap.size (dotK xs ys k) W) hn (fun k W W' h hb => h.below hb) ?_).mono fun e w' h => ⟨h.1, h.2.1⟩
  intro k wr hk hk' hi
  exact (dot1_any _ _ _ w.heap.size wr hi.1).mono fun e w' ⟨h1, h2, h3⟩ => ⟨h1, ⟨h2, hi.2.trans (h3.to hS (by exact hi.2.size))⟩, h3⟩
 clear hn ha hb
 go_enter Tryz.func201, Tryz.ntmps201
 go_wp2_with fail
 refine HE.out.mono ?_
 rintro e w' ⟨rfl, hS⟩
 have cs := cell_of_one hS.1
 have HS := hid hS.2
 clear HE hS
 go_wp2
 go_ret
 exact ⟨rfl, HS.out⟩
end Go.Proofs.YtjgggialnegddaaGreat
