/-
  The texts Roots, Eachs, Confs of this proof.
-/
import Derived.Test.YtjgggialnegddaaGreatPn03
import Derived.Test.YtjgggialnegddaaGreatPn01
import Derived.Handy
import Derived.Laws.OwnMore
import Derived.OwnWalk
import Derived.OneCell
import Derived.Test.YtjgggialnegddaaGreatPn02
set_option linter.unusedVariables false
set_option maxRecDepth 1000000
namespace Go.Proofs.YtjgggialnegddaaGreat
open Go.RowKit
theorem rootB_yes {n s : Int} {j : Nat} (h : (s + 2 ^ j) * (s + 2 ^ j) ≤ n) : rootB n (j + 1) s = rootB n j (s + 2 ^ j) := by rw [rootB, if_pos h]
theorem rootB_no {n s : Int} {j : Nat} (h : ¬ (s + 2 ^ j) * (s + 2 ^ j) ≤ n) : rootB n (j + 1) s = rootB n j s := by rw [rootB, if_neg h]
theorem sq_bd {s m : Int} (s0 : 0 ≤ s) (s1 : s ≤ 16777216) (m0 : 0 ≤ m) (m1 : m ≤ 2147483648) : 0 ≤ (s + m) * (s + m) ∧ (s + m) * (s + m) ≤ 2164260864 * 2164260864 :=
 ⟨Int.mul_nonneg (by omega) (by omega), Int.mul_le_mul (by omega) (by omega) (by omega) (by omega)⟩
set_option maxHeartbeats 1000000 in
theorem sqrt_any (x : Int) (w : World) :
  Calls Tryz.prog 224 #[.int .i64 x] w fun e w' => e = .returned (.int .i64 (sqrtZ x)) ∧ w' = w := by
 have x0 := wi_0 x
 have x1 := wi_1 x
 by_cases hx : x ≤ 0
 ·have HZ : Hid (0 = sqrtZ x) := by
   by_cases h0 : wi x < 0
   ·rw [sqrtZ_neg h0]; exact rfl
   ·have := wi_le hx
    rw [show wi 0 = 0 from rfl] at this
    have e : wi x = 0 := by omega
    unfold sqrtZ; rw [e]; exact (by decide : (0 : Int) = rootB (0 * 65536) 24 0)
  go_enter Tryz.func224, Tryz.ntmps224
  go_wp2
  go_ret
  exact ⟨ret_int HZ, rfl⟩
 ·obtain ⟨n, hn⟩ : ∃ n, wi x * 65536 = n := ⟨_, rfl⟩
  have n1 : n < 281474976710656 := by omega
  have HZ : Hid (rootB n 24 0 = sqrtZ x) := by unfold sqrtZ; rw [hn]; exact rfl
  go_enter Tryz.func224, Tryz.ntmps224
  go_wp2_with fail
  refine (within_any _ _).mono ?_
  rintro e w' ⟨rfl, rfl⟩
  go_wp2
  go_loop [4, 5] (fun v i => ∃ (s : Int) (j : Nat), v = .int .i64 s ∧ i = .int .i64 ((j : Int) - 1) ∧ j ≤ 24 ∧ 0 ≤ s ∧ s ≤ 16777216 ∧ Hid (rootB n j s = sqrtZ x)) (fun _ i => (intOf i + 1).toNat)
  case atStart => exact ⟨_, 24, rfl, rfl, by omega, by omega, by omega, HZ⟩
  case round =>
   obtain ⟨s, j, rfl, rfl, hj, s0, s1, HR⟩ := hrel
   rcases j with _ | j
   ·go_wp2
    go_ret
    exact ⟨ret_int HR, rfl⟩
   ·obtain ⟨m, hm⟩ : ∃ m : Int, 2 ^ j = m := ⟨_, rfl⟩
    have m0 : 0 < m := by rw [← hm]; exact two_pos _
    have m1 : m ≤ 8388608 := by rw [← hm]; exact two_le (n := 23) (by omega)
    have B := sq_bd s0 s1 (by omega) (show m ≤ 2147483648 by omega)
    have b0 := B.1
    have b1 := B.2
    clear B
    by_cases hq : (s + m) * (s + m) ≤ n
    ·have HN : Hid (rootB n j (s + m) = sqrtZ x) := by rw [← HR.out, rootB_yes (by rw [hm]; exact hq), hm]; exact rfl
     have := sq_small hq n1
     go_wp2
     go_round
     case rel => exact ⟨_, j, rfl, by go_num, by omega, by omega, by omega, HN⟩
     case measure => simp [intOf]
    ·have HN : Hid (rootB n j s = sqrtZ x) := by rw [← HR.out, rootB_no (by rw [hm]; exact hq)]; exact rfl
     go_wp2
     go_round
     case rel => exact ⟨_, j, rfl, by go_num, by omega, by omega, by omega, HN⟩
     case measure => simp [intOf]
end Go.Proofs.YtjgggialnegddaaGreat
namespace Go.Proofs.YtjgggialnegddaaGreat
open Go.RowKit
theorem count_any (a : Option Addr) (len cap : Nat) (w : World) (hlen : len ≤ 1000) :
  Calls Tryz.prog 202 #[.slice a len cap] w fun e w' => e = .returned (.int .i64 len) ∧ w' = w := by
 go_enter Tryz.func202, Tryz.ntmps202
 go_wp2
 go_ret
 exact ⟨rfl, rfl⟩
theorem each_any (fn : Nat) (caps : Array Value) (a : Option Addr) (len cap : Nat) (zs : List Int) (w : World) (hlen : len ≤ 1000) (I : Nat → World → Prop)
  (hE : ∀ args w, (callFunc fn args).run Tryz.prog w = .ok (.enter fn args) w) (hR : ∀ k wr, I k wr → Reads .i64 wr a len cap zs) (h0 : I 0 w)
  (hS : ∀ k wr, k < len → I k wr → Calls Tryz.prog fn (#[.int .i64 (k : Int), .int .i64 (zs[k]?.getD 0)] ++ caps) wr fun e w' => e = .returned (.tuple #[]) ∧ I (k + 1) w') :
  Calls Tryz.prog 215 #[.slice a len cap, .func (.func fn) #[] caps] w fun e w' => e = .returned (.tuple #[]) ∧ I len w' := by
 have hr0 := hR 0 w h0
 have hroom := hr0.room
 have hmost := hr0.most
 have hbare := hr0.bare
 clear hr0
 have H0 := hid h0
 have HR := hid hR
 have HS := hid hS
 clear h0 hR hS
 go_enter Tryz.func215, Tryz.ntmps215
 cases a with
 | none =>
  obtain ⟨rfl, rfl⟩ := hbare rfl
  go_wp2_with fail
  refine (count_any _ _ _ _ (by omega)).mono ?_
  rintro e w' ⟨rfl, rfl⟩
  go_wp2_with fail
  go_loopw [11] (fun i wr => ∃ k : Nat, k = 0 ∧ i = .int .i64 k ∧ Hid (I k wr)) (fun i _ => 0 - (intOf i).toNat)
  case atStart => exact ⟨0, rfl, rfl, H0⟩
  case round =>
   obtain ⟨k, rfl, rfl, HI⟩ := hrel
   go_wp2
   go_end0
   exact ⟨rfl, HI.out⟩
 | some ad =>
  clear hbare
  go_wp2_with fail
  refine (count_any _ _ _ _ (by omega)).mono ?_
  rintro e w' ⟨rfl, rfl⟩
  go_wp2_with fail
  go_loopw [11] (fun i wr => ∃ k : Nat, k ≤ len ∧ i = .int .i64 k ∧ Hid (I k wr)) (fun i _ => len - (intOf i).toNat)
  case atStart => exact ⟨0, Nat.zero_le _, rfl, H0⟩
  case round =>
   obtain ⟨k, hk, rfl, HI⟩ := hrel
   by_cases hlt : k < len
   ·obtain ⟨b, off, hab, hc⟩ := (HR.out k wr HI.out).cell k hlt
    cases hab
    have hC := HS.out k wr hlt HI.out
    generalize zs[k]?.getD 0 = z at *
    go_wp2_with fail
    refine hC.mono ?_
    rintro e w2 ⟨rfl, hI2⟩
    have HI2 := hid hI2
    clear hI2 hC
    go_wp2_with fail
    go_round
    case rel => exact ⟨k + 1, by omega, by go_num, HI2⟩
    case measure => simp [intOf]; omega
   ·obtain rfl : k = len := by omega
    go_wp2
    go_end0
    exact ⟨rfl, HI.out⟩
end Go.Proofs.YtjgggialnegddaaGreat
namespace Go.Proofs.YtjgggialnegddaaGreat
open Go.RowKit
structure Cf where
 seed : Int
 vocab : Int
 dim : Int
 layers : Int
 top : Int
 heat : Int
def CfV (c : Cf) : Array Value := #[.int .u64 c.seed, .int .i64 c.vocab, .int .i64 c.dim, .int .i64 c.layers, .int .i64 c.top, .int .i64 c.heat]
def btw (n lo hi : Int) : Bool := decide (lo ≤ n) && decide (n ≤ hi)
theorem btw_iff {n lo hi : Int} : btw n lo hi = true ↔ lo ≤ n ∧ n ≤ hi := by unfold btw; simp
theorem btw_no {n lo hi : Int} : btw n lo hi = false ↔ n < lo ∨ hi < n := by
 unfold btw; simp only [Bool.and_eq_false_iff, decide_eq_false_iff_not]; omega
def mayB (c : Cf) : Bool := btw c.vocab 2 64 && (btw c.dim 1 16 && (btw c.layers 1 4 && (btw c.top 1 c.vocab && btw c.heat 0 8)))
theorem mbetween_any (n lo hi : Int) (w : World) :
  Calls Tryz.prog 75 #[.int .i64 n, .int .i64 lo, .int .i64 hi] w fun e w' => e = .returned (.bool (btw n lo hi)) ∧ w' = w := by
 by_cases h : lo ≤ n
 ·by_cases h2 : n ≤ hi
  ·rw [btw_iff.2 ⟨h, h2⟩]
   go_enter Tryz.func75, Tryz.ntmps75
   go_wp2
   go_ret
   exact ⟨rfl, rfl⟩
  ·rw [btw_no.2 (.inr (by omega))]
   go_enter Tryz.func75, Tryz.ntmps75
   go_wp2
   go_ret
   exact ⟨rfl, rfl⟩
 ·rw [btw_no.2 (.inl (by omega))]
  go_enter Tryz.func75, Tryz.ntmps75
  go_wp2
  go_ret
  exact ⟨rfl, rfl⟩
theorem may_any (c : Cf) (w : World) :
  Calls Tryz.prog 50 #[.agg (CfV c)] w fun e w' => e = .returned (.bool (mayB c)) ∧ Below w.heap.size w w' := by
 obtain ⟨s, v, d, l, t, h⟩ := c
 have HB : Hid (Below w.heap.size w (w.alloc (.cells (CfV ⟨s, v, d, l, t, h⟩) 24))) := (Below.refl _ _).alloc (Nat.le_refl _) _
 unfold mayB CfV at *
 simp only at HB ⊢
 go_enter Tryz.func50, Tryz.ntmps50
 go_wp2_with fail
 refine (mbetween_any _ _ _ _).mono ?_
 rintro e w' ⟨rfl, rfl⟩
 cases h1 : btw v 2 64 with
 | false =>
  go_wp2
  go_ret
  exact ⟨ret_bool (by simp [h1]), HB.out⟩
 | true =>
 go_wp2_with fail
 refine (mbetween_any _ _ _ _).mono ?_
 rintro e w' ⟨rfl, rfl⟩
 cases h2 : btw d 1 16 with
 | false =>
  go_wp2
  go_ret
  exact ⟨ret_bool (by simp [h1, h2]), HB.out⟩
 | true =>
 go_wp2_with fail
 refine (mbetween_any _ _ _ _).mono ?_
 rintro e w' ⟨rfl, rfl⟩
 cases h3 : btw l 1 4 with
 | false =>
  go_wp2
  go_ret
  exact ⟨ret_bool (by simp [h1, h2, h3]), HB.out⟩
 | true =>
 go_wp2_with fail
 refine (mbetween_any _ _ _ _).mono ?_
 rintro e w' ⟨rfl, rfl⟩
 cases h4 : btw t 1 v with
 | false =>
  go_wp2
  go_ret
  exact ⟨ret_bool (by simp [h1, h2, h3, h4]), HB.out⟩
 | true =>
 go_wp2_with fail
 refine (mbetween_any _ _ _ _).mono ?_
 rintro e w' ⟨rfl, rfl⟩
 go_wp2
 go_ret
 exact ⟨ret_bool (by simp [h1, h2, h3, h4]), HB.out⟩
def MdAt (W : World) (p : Option Addr) (c : Cf) : Prop :=
 (p = none ∧ c = ⟨0, 0, 0, 0, 0, 0⟩) ∨ ∃ g, p = some ⟨g, 0, none⟩ ∧ W.heap[g]? = some (.cells (CfV c) 100 (0, 0))
theorem MdAt.below {W W' : World} {p : Option Addr} {c : Cf} (h : MdAt W p c) (hb : Below W.heap.size W W') : MdAt W' p c := by
 rcases h with h | ⟨g, hp, hg⟩
 ·exact .inl h
 ·exact .inr ⟨g, hp, (hb.block g (lt_of_block hg)).trans hg⟩
theorem Cf_cells {W : World} {g : Nat} {c : Cf} {T : TypeId} (h : W.heap[g]? = some (.cells (CfV c) T (0, 0))) :
  W.cell? ⟨g, 0, none⟩ = some (.int .u64 c.seed) ∧ W.cell? ⟨g, 1, none⟩ = some (.int .i64 c.vocab) ∧ W.cell? ⟨g, 2, none⟩ = some (.int .i64 c.dim) ∧ W.cell? ⟨g, 3, none⟩ = some (.int .i64 c.layers) ∧ W.cell? ⟨g, 4, none⟩ = some (.int .i64 c.top) ∧ W.cell? ⟨g, 5, none⟩ = some (.int .i64 c.heat) := by
 refine ⟨?_, ?_, ?_, ?_, ?_, ?_⟩ <;> (rw [cell_of_row _ _ _ _ _ _ h]; rfl)
theorem block_below {w w' : World} {k : Nat} {o : Obj} (h : w.heap[k]? = some o) (hb : Below w.heap.size w w') : w'.heap[k]? = some o := (hb.block k (lt_of_block h)).trans h
theorem new_yes (c : Cf) (w : World) (hc : mayB c = true) :
  Calls Tryz.prog 29 #[.agg (CfV c)] w fun e w' => ∃ g, e = .returned (.tuple #[.pointer (some ⟨g, 0, none⟩), .int .i64 0]) ∧ w.heap.size ≤ g ∧ w'.heap[g]? = some (.cells (CfV c) 100 (0, 0)) ∧ Below w.heap.size w w' := by
 have HB : Hid (Below w.heap.size w (w.alloc (.cells (CfV c) 24))) := (Below.refl _ _).alloc (Nat.le_refl _) _
 have hM := may_any c (w.alloc (.cells (CfV c) 24))
 rw [hc] at hM
 have HN := hid (heap_alloc_new w (.cells (CfV c) 24))
 obtain ⟨s, v, d, l, t, h⟩ := c
 clear hc
 have HC : Hid (∀ W : World, Below (w.alloc (.cells (CfV ⟨s, v, d, l, t, h⟩) 24)).heap.size (w.alloc (.cells (CfV ⟨s, v, d, l, t, h⟩) 24)) W → _) := fun W hb => Cf_cells (block_below HN.out hb)
 unfold CfV at hM HN HB HC ⊢
 simp only at HB hM HN HC ⊢
 go_enter Tryz.func29, Tryz.ntmps29
 go_wp2_with fail
 refine hM.mono ?_
 rintro e w1 ⟨rfl, hb⟩
 obtain ⟨c0, c1, c2, c3, c4, c5⟩ := HC.out w1 hb
 have HB1 := hid (HB.out.trans (hb.mono (by simp)))
 clear hM HN hb HB HC
 go_wp2
 go_ret2
 exact ⟨_, rfl, HB1.out.size, heap_alloc_new _ _, HB1.out.alloc HB1.out.size _⟩
theorem config_any (p : Option Addr) (c : Cf) (w : World) (h : MdAt w p c) :
  Calls Tryz.prog 76 #[.pointer p] w fun e w' => e = .returned (.agg (CfV c)) ∧ Below w.heap.size w w' := by
 rcases h with ⟨rfl, rfl⟩ | ⟨g, rfl, hg⟩
 ·go_enter Tryz.func76, Tryz.ntmps76
  go_wp2
  exact bodyPost_ret (v := .agg (CfV ⟨0, 0, 0, 0, 0, 0⟩)) (by simp [results, Tryz.results76, go_sem, CfV]) rfl ⟨rfl, by go_grown⟩
 ·obtain ⟨c0, c1, c2, c3, c4, c5⟩ := Cf_cells hg
  have hlt := lt_of_block hg
  have hne : ¬ g = w.heap.size := by omega
  obtain ⟨s, v, d, l, t, h⟩ := c
  simp only at c0 c1 c2 c3 c4 c5
  clear hg
  go_enter Tryz.func76, Tryz.ntmps76
  go_wp2
  exact bodyPost_ret (v := .agg (CfV ⟨s, v, d, l, t, h⟩)) (by simp [results, Tryz.results76, go_sem, CfV]) rfl ⟨rfl, by go_grown⟩
end Go.Proofs.YtjgggialnegddaaGreat
