/-
  The texts KvMath5, Exps, Roots, Confs, HiUps of this proof.
-/
import Derived.Test.YtjgggialnegddaaGreatPr02
import Derived.Test.YtjgggialnegddaaGreatPr01
import Derived.Laws.Shifts
set_option linter.unusedVariables false
set_option maxRecDepth 1000000
namespace Go.Proofs.YtjgggialnegddaaGreat
open Go.RowKit
def chunk (sz j : Nat) (ts : List Int) : List Int := (ts.drop (j * sz)).take sz
theorem chunk_len {sz j : Nat} {ts : List Int} (h : (j + 1) * sz ≤ ts.length) : (chunk sz j ts).length = sz := by
 unfold chunk
 rw [List.length_take, List.length_drop]
 rw [Nat.add_mul] at h
 omega
theorem take_chunk {sz j : Nat} (ts : List Int) : ts.take (j * sz) ++ chunk sz j ts = ts.take ((j + 1) * sz) := by
 unfold chunk
 rw [Nat.add_mul, Nat.one_mul, List.take_add]
theorem OkE.leaf {sz : Nat} {es : List En} (h : OkE sz es) (hz : 1 ≤ sz) {i : Nat} (hi : i < es.length) : leafB es i = true ↔ ∀ ch : List Int, ch.length = sz → (en es i).1 ++ ch ∉ txs es := by
 constructor
 ·intro hl ch hc hm
  obtain ⟨k, hk, e⟩ := mem_txs.1 hm
  have hne : k ≠ i := fun e' => by
   rw [e'] at e
   have := congrArg List.length e
   rw [List.length_append] at this
   omega
  have := leaf_iff hl hk hne
  rw [e] at this
  have hb : begB (en es i).1 ((en es i).1 ++ ch) = true := by
   unfold begB
   rw [List.isPrefixOf_iff_prefix]
   exact ⟨ch, rfl⟩
  rw [hb] at this
  cases this
 ·intro hn
  apply leaf_yes
  intro k hk hki
  rw [Bool.eq_false_iff]
  intro hb
  obtain ⟨a, a1, a2⟩ := h.mult _ (mem_txs.2 ⟨i, hi, rfl⟩)
  obtain ⟨b, b1, b2⟩ := h.mult _ (mem_txs.2 ⟨k, hk, rfl⟩)
  have hle := (begB_iff.1 hb).1
  have hx := begB_eq hb
  have hne : a ≠ b := fun e => hki (h.inj hk hi (by rw [hx, a2, e, ← b2, List.take_length]))
  have hab : a + 1 ≤ b := by
   rw [a2, b2] at hle
   have := Nat.le_of_mul_le_mul_right hle (by omega)
   omega
  have hl2 : (a + 1) * sz ≤ (en es k).1.length := by rw [b2]; exact Nat.mul_le_mul_right _ hab
  have hm := h.shut _ (mem_txs.2 ⟨k, hk, rfl⟩) (a + 1) (by omega) hl2
  refine hn (chunk sz a (en es k).1) (chunk_len hl2) ?_
  rw [hx, a2, take_chunk]
  exact hm
end Go.Proofs.YtjgggialnegddaaGreat
namespace Go.Proofs.YtjgggialnegddaaGreat
open Go.RowKit
theorem part_any (f : Int) (w : World) (f0 : 0 ≤ f) (f1 : f < 65536) :
  Calls Tryz.prog 248 #[.int .i64 f] w fun e w' => e = .returned (.int .i64 (pw f)) ∧ w' = w := by
 have p := part_bd f0 f1
 have p0 := p.1
 have p1 := p.2
 clear p
 go_enter Tryz.func248, Tryz.ntmps248
 go_wp2
 go_ret
 exact ⟨rfl, rfl⟩
theorem shr_far {p : Int} (p0 : 0 ≤ p) (p1 : p ≤ 131072) (n : Nat) : p / 2 ^ min n IntKind.i64.bits = p / 2 ^ n := by
 by_cases h : n ≤ 64
 ·rw [Nat.min_eq_left (show n ≤ IntKind.i64.bits from h)]
 ·rw [lift_far p0 p1 (n := n) (by omega), lift_far p0 p1]
  rw [Nat.min_eq_right (show IntKind.i64.bits ≤ n from Nat.le_of_lt (Nat.lt_of_not_le h))]
  decide
theorem shl_in {p k : Int} (p0 : 0 ≤ p) (p1 : p ≤ 131072) (hk : k < 16) : wrap64 (p * 2 ^ k.toNat) = p * 2 ^ k.toNat := by
 have h1 := two_le (show k.toNat ≤ 15 by omega)
 have h2 := two_pos k.toNat
 have h3 : 0 ≤ p * 2 ^ k.toNat := Int.mul_nonneg p0 (by omega)
 have h4 : p * 2 ^ k.toNat ≤ 131072 * 2 ^ 15 := Int.mul_le_mul p1 h1 (by omega) (by omega)
 exact IntWalk.wrap64_in _ (by omega)
theorem exp_parts (x : Int) : ∃ y k f : Int, wi x * 94548 / 65536 = y ∧ y / 65536 = k ∧ y - k * 65536 = f ∧ -47275 ≤ k ∧ k ≤ 47275 ∧ -3098500000 ≤ y ∧ y ≤ 3098500000 ∧ 0 ≤ f ∧ f < 65536 ∧ Hid (expZ x = liftZ (pw f) k) := by
 have x0 := wi_0 x
 have x1 := wi_1 x
 refine ⟨_, _, _, rfl, rfl, rfl, by omega, by omega, by omega, by omega, by omega, by omega, ?_⟩
 unfold expZ
 rw [show wi x * 94548 / 65536 % 65536 = wi x * 94548 / 65536 - wi x * 94548 / 65536 / 65536 * 65536 by omega]
 exact rfl
theorem exp_any (x : Int) (w : World) :
  Calls Tryz.prog 235 #[.int .i64 x] w fun e w' => e = .returned (.int .i64 (expZ x)) ∧ w' = w := by
 have x0 := wi_0 x
 have x1 := wi_1 x
 obtain ⟨y, k, f, hy, hk, hf, k0, k1, y0, y1, f0, f1, HE⟩ := exp_parts x
 have p := pw_bd f0 f1
 have p0 := p.1
 have p1 := p.2
 clear p
 by_cases h16 : k ≥ 16
 ·have HL : Hid (liftZ (pw f) k = 2147483647) := by unfold liftZ; rw [if_pos h16]; exact rfl
  go_enter Tryz.func235, Tryz.ntmps235
  go_wp2_with fail
  refine (within_any _ _).mono ?_
  rintro e w' ⟨rfl, rfl⟩
  go_wp2_with fail
  refine (part_any _ _ f0 f1).mono ?_
  rintro e w' ⟨rfl, rfl⟩
  go_wp2
  go_ret
  exact ⟨ret_int (HE.trans HL).symm, rfl⟩
 ·by_cases h0 : k < 0
  ·have HL : Hid (liftZ (pw f) k = pw f / 2 ^ (-k).toNat) := by unfold liftZ; rw [if_neg h16, if_pos h0]; exact rfl
   have HS : Op.shift .shr .i64 (pw f) .u64 (-k) = pure (.int .i64 (pw f / 2 ^ (-k).toNat)) := by rw [shift_shr_any _ _ _ _ (by omega), shr_far (by omega) p1]
   go_enter Tryz.func235, Tryz.ntmps235
   go_wp2_with fail
   refine (within_any _ _).mono ?_
   rintro e w' ⟨rfl, rfl⟩
   go_wp2_with fail
   refine (part_any _ _ f0 f1).mono ?_
   rintro e w' ⟨rfl, rfl⟩
   go_wp2
   go_ret
   refine ⟨ret_int ?_, rfl⟩
   refine Eq.trans ?_ (HE.trans HL).symm
   exact rfl
  ·have HL : Hid (liftZ (pw f) k = wi (pw f * 2 ^ k.toNat)) := by unfold liftZ; rw [if_neg h16, if_neg h0]; exact rfl
   go_enter Tryz.func235, Tryz.ntmps235
   go_wp2_with fail
   refine (within_any _ _).mono ?_
   rintro e w' ⟨rfl, rfl⟩
   go_wp2_with fail
   refine (part_any _ _ f0 f1).mono ?_
   rintro e w' ⟨rfl, rfl⟩
   go_wp2_with fail
   refine (within_any _ _).mono ?_
   rintro e w' ⟨rfl, rfl⟩
   go_wp2
   go_ret
   refine ⟨ret_int ?_, rfl⟩
   refine Eq.trans ?_ (HE.trans HL).symm
   exact congrArg wi (shl_in (by omega) p1 (by omega))
end Go.Proofs.YtjgggialnegddaaGreat
namespace Go.Proofs.YtjgggialnegddaaGreat
open Go.RowKit
theorem rootB_yes {n s : Int} {j : Nat} (h : (s + 2 ^ j) * (s + 2 ^ j) ≤ n) : rootB n (j + 1) s = rootB n j (s + 2 ^ j) := by rw [rootB, if_pos h]
theorem rootB_no {n s : Int} {j : Nat} (h : ¬ (s + 2 ^ j) * (s + 2 ^ j) ≤ n) : rootB n (j + 1) s = rootB n j s := by rw [rootB, if_neg h]
theorem sq_bd {s m : Int} (s0 : 0 ≤ s) (s1 : s ≤ 16777216) (m0 : 0 ≤ m) (m1 : m ≤ 2147483648) : 0 ≤ (s + m) * (s + m) ∧ (s + m) * (s + m) ≤ 2164260864 * 2164260864 :=
 ⟨Int.mul_nonneg (by omega) (by omega), Int.mul_le_mul (by omega) (by omega) (by omega) (by omega)⟩
set_option maxHeartbeats 1000000 in
theorem sqrt_any (x : Int) (w : World) :
  Calls Tryz.prog 224 #[.int .i64 x] w fun e w' => e = .returned (.int .i64 (sqrtZ x)) ∧ w' = w := by
 have x0 := wi_0 x
 have x1 := wi_1 x
 by_cases hx : x ≤ 0
 ·have HZ : Hid (0 = sqrtZ x) := by
   by_cases h0 : wi x < 0
   ·rw [sqrtZ_neg h0]; exact rfl
   ·have := wi_le hx
    rw [show wi 0 = 0 from rfl] at this
    have e : wi x = 0 := by omega
    unfold sqrtZ; rw [e]; exact (by decide : (0 : Int) = rootB (0 * 65536) 24 0)
  go_enter Tryz.func224, Tryz.ntmps224
  go_wp2
  go_ret
  exact ⟨ret_int HZ, rfl⟩
 ·obtain ⟨n, hn⟩ : ∃ n, wi x * 65536 = n := ⟨_, rfl⟩
  have n1 : n < 281474976710656 := by omega
  have HZ : Hid (rootB n 24 0 = sqrtZ x) := by unfold sqrtZ; rw [hn]; exact rfl
  go_enter Tryz.func224, Tryz.ntmps224
  go_wp2_with fail
  refine (within_any _ _).mono ?_
  rintro e w' ⟨rfl, rfl⟩
  go_wp2
  go_loop [4, 5] (fun v i => ∃ (s : Int) (j : Nat), v = .int .i64 s ∧ i = .int .i64 ((j : Int) - 1) ∧ j ≤ 24 ∧ 0 ≤ s ∧ s ≤ 16777216 ∧ Hid (rootB n j s = sqrtZ x)) (fun _ i => (intOf i + 1).toNat)
  case atStart => exact ⟨_, 24, rfl, rfl, by omega, by omega, by omega, HZ⟩
  case round =>
   obtain ⟨s, j, rfl, rfl, hj, s0, s1, HR⟩ := hrel
   rcases j with _ | j
   ·go_wp2
    go_ret
    exact ⟨ret_int HR, rfl⟩
   ·obtain ⟨m, hm⟩ : ∃ m : Int, 2 ^ j = m := ⟨_, rfl⟩
    have m0 : 0 < m := by rw [← hm]; exact two_pos _
    have m1 : m ≤ 8388608 := by rw [← hm]; exact two_le (n := 23) (by omega)
    have B := sq_bd s0 s1 (by omega) (show m ≤ 2147483648 by omega)
    have b0 := B.1
    have b1 := B.2
    clear B
    by_cases hq : (s + m) * (s + m) ≤ n
    ·have HN : Hid (rootB n j (s + m) = sqrtZ x) := by rw [← HR.out, rootB_yes (by rw [hm]; exact hq), hm]; exact rfl
     have := sq_small hq n1
     go_wp2
     go_round
     case rel => exact ⟨_, j, rfl, by go_num, by omega, by omega, by omega, HN⟩
     case measure => simp [intOf]
    ·have HN : Hid (rootB n j s = sqrtZ x) := by rw [← HR.out, rootB_no (by rw [hm]; exact hq)]; exact rfl
     go_wp2
     go_round
     case rel => exact ⟨_, j, rfl, by go_num, by omega, by omega, by omega, HN⟩
     case measure => simp [intOf]
end Go.Proofs.YtjgggialnegddaaGreat
namespace Go.Proofs.YtjgggialnegddaaGreat
open Go.RowKit
structure Cf where
 seed : Int
 vocab : Int
 dim : Int
 layers : Int
 top : Int
 heat : Int
def CfV (c : Cf) : Array Value := #[.int .u64 c.seed, .int .i64 c.vocab, .int .i64 c.dim, .int .i64 c.layers, .int .i64 c.top, .int .i64 c.heat]
def btw (n lo hi : Int) : Bool := decide (lo ≤ n) && decide (n ≤ hi)
theorem btw_iff {n lo hi : Int} : btw n lo hi = true ↔ lo ≤ n ∧ n ≤ hi := by unfold btw; simp
theorem btw_no {n lo hi : Int} : btw n lo hi = false ↔ n < lo ∨ hi < n := by
 unfold btw; simp only [Bool.and_eq_false_iff, decide_eq_false_iff_not]; omega
def mayB (c : Cf) : Bool := btw c.vocab 2 64 && (btw c.dim 1 16 && (btw c.layers 1 4 && (btw c.top 1 c.vocab && btw c.heat 0 8)))
theorem mbetween_any (n lo hi : Int) (w : World) :
  Calls Tryz.prog 75 #[.int .i64 n, .int .i64 lo, .int .i64 hi] w fun e w' => e = .returned (.bool (btw n lo hi)) ∧ w' = w := by
 by_cases h : lo ≤ n
 ·by_cases h2 : n ≤ hi
  ·rw [btw_iff.2 ⟨h, h2⟩]
   go_enter Tryz.func75, Tryz.ntmps75
   go_wp2
   go_ret
   exact ⟨rfl, rfl⟩
  ·rw [btw_no.2 (.inr (by omega))]
   go_enter Tryz.func75, Tryz.ntmps75
   go_wp2
   go_ret
   exact ⟨rfl, rfl⟩
 ·rw [btw_no.2 (.inl (by omega))]
  go_enter Tryz.func75, Tryz.ntmps75
  go_wp2
  go_ret
  exact ⟨rfl, rfl⟩
theorem may_any (c : Cf) (w : World) :
  Calls Tryz.prog 50 #[.agg (CfV c)] w fun e w' => e = .returned (.bool (mayB c)) ∧ Below w.heap.size w w' := by
 obtain ⟨s, v, d, l, t, h⟩ := c
 have HB : Hid (Below w.heap.size w (w.alloc (.cells (CfV ⟨s, v, d, l, t, h⟩) 24))) := (Below.refl _ _).alloc (Nat.le_refl _) _
 unfold mayB CfV at *
 simp only at HB ⊢
 go_enter Tryz.func50, Tryz.ntmps50
 go_wp2_with fail
 refine (mbetween_any _ _ _ _).mono ?_
 rintro e w' ⟨rfl, rfl⟩
 cases h1 : btw v 2 64 with
 | false =>
  go_wp2
  go_ret
  exact ⟨ret_bool (by simp [h1]), HB.out⟩
 | true =>
 go_wp2_with fail
 refine (mbetween_any _ _ _ _).mono ?_
 rintro e w' ⟨rfl, rfl⟩
 cases h2 : btw d 1 16 with
 | false =>
  go_wp2
  go_ret
  exact ⟨ret_bool (by simp [h1, h2]), HB.out⟩
 | true =>
 go_wp2_with fail
 refine (mbetween_any _ _ _ _).mono ?_
 rintro e w' ⟨rfl, rfl⟩
 cases h3 : btw l 1 4 with
 | false =>
  go_wp2
  go_ret
  exact ⟨ret_bool (by simp [h1, h2, h3]), HB.out⟩
 | true =>
 go_wp2_with fail
 refine (mbetween_any _ _ _ _).mono ?_
 rintro e w' ⟨rfl, rfl⟩
 cases h4 : btw t 1 v with
 | false =>
  go_wp2
  go_ret
  exact ⟨ret_bool (by simp [h1, h2, h3, h4]), HB.out⟩
 | true =>
 go_wp2_with fail
 refine (mbetween_any _ _ _ _).mono ?_
 rintro e w' ⟨rfl, rfl⟩
 go_wp2
 go_ret
 exact ⟨ret_bool (by simp [h1, h2, h3, h4]), HB.out⟩
def MdAt (W : World) (p : Option Addr) (c : Cf) : Prop :=
 (p = none ∧ c = ⟨0, 0, 0, 0, 0, 0⟩) ∨ ∃ g, p = some ⟨g, 0, none⟩ ∧ W.heap[g]? = some (.cells (CfV c) 100 (0, 0))
theorem MdAt.below {W W' : World} {p : Option Addr} {c : Cf} (h : MdAt W p c) (hb : Below W.heap.size W W') : MdAt W' p c := by
 rcases h with h | ⟨g, hp, hg⟩
 ·exact .inl h
 ·exact .inr ⟨g, hp, (hb.block g (lt_of_block hg)).trans hg⟩
theorem Cf_cells {W : World} {g : Nat} {c : Cf} {T : TypeId} (h : W.heap[g]? = some (.cells (CfV c) T (0, 0))) :
  W.cell? ⟨g, 0, none⟩ = some (.int .u64 c.seed) ∧ W.cell? ⟨g, 1, none⟩ = some (.int .i64 c.vocab) ∧ W.cell? ⟨g, 2, none⟩ = some (.int .i64 c.dim) ∧ W.cell? ⟨g, 3, none⟩ = some (.int .i64 c.layers) ∧ W.cell? ⟨g, 4, none⟩ = some (.int .i64 c.top) ∧ W.cell? ⟨g, 5, none⟩ = some (.int .i64 c.heat) := by
 refine ⟨?_, ?_, ?_, ?_, ?_, ?_⟩ <;> (rw [cell_of_row _ _ _ _ _ _ h]; rfl)
theorem block_below {w w' : World} {k : Nat} {o : Obj} (h : w.heap[k]? = some o) (hb : Below w.heap.size w w') : w'.heap[k]? = some o := (hb.block k (lt_of_block h)).trans h
theorem new_yes (c : Cf) (w : World) (hc : mayB c = true) :
  Calls Tryz.prog 29 #[.agg (CfV c)] w fun e w' => ∃ g, e = .returned (.tuple #[.pointer (some ⟨g, 0, none⟩), .int .i64 0]) ∧ w.heap.size ≤ g ∧ w'.heap[g]? = some (.cells (CfV c) 100 (0, 0)) ∧ Below w.heap.size w w' := by
 have HB : Hid (Below w.heap.size w (w.alloc (.cells (CfV c) 24))) := (Below.refl _ _).alloc (Nat.le_refl _) _
 have hM := may_any c (w.alloc (.cells (CfV c) 24))
 rw [hc] at hM
 have HN := hid (heap_alloc_new w (.cells (CfV c) 24))
 obtain ⟨s, v, d, l, t, h⟩ := c
 clear hc
 have HC : Hid (∀ W : World, Below (w.alloc (.cells (CfV ⟨s, v, d, l, t, h⟩) 24)).heap.size (w.alloc (.cells (CfV ⟨s, v, d, l, t, h⟩) 24)) W → _) := fun W hb => Cf_cells (block_below HN.out hb)
 unfold CfV at hM HN HB HC ⊢
 simp only at HB hM HN HC ⊢
 go_enter Tryz.func29, Tryz.ntmps29
 go_wp2_with fail
 refine hM.mono ?_
 rintro e w1 ⟨rfl, hb⟩
 obtain ⟨c0, c1, c2, c3, c4, c5⟩ := HC.out w1 hb
 have HB1 := hid (HB.out.trans (hb.mono (by simp)))
 clear hM HN hb HB HC
 go_wp2
 go_ret2
 exact ⟨_, rfl, HB1.out.size, heap_alloc_new _ _, HB1.out.alloc HB1.out.size _⟩
theorem new_no (c : Cf) (w : World) (hc : mayB c = false) :
  Calls Tryz.prog 29 #[.agg (CfV c)] w fun e w' => e = .returned (.tuple #[.pointer none, .int .i64 1]) ∧ Below w.heap.size w w' := by
 have HB : Hid (Below w.heap.size w (w.alloc (.cells (CfV c) 24))) := (Below.refl _ _).alloc (Nat.le_refl _) _
 have hM := may_any c (w.alloc (.cells (CfV c) 24))
 rw [hc] at hM
 obtain ⟨s, v, d, l, t, h⟩ := c
 clear hc
 unfold CfV at hM HB ⊢
 simp only at HB hM ⊢
 go_enter Tryz.func29, Tryz.ntmps29
 go_wp2_with fail
 refine hM.mono ?_
 rintro e w1 ⟨rfl, hb⟩
 have HB1 := hid (HB.out.trans (hb.mono (by simp)))
 clear hM hb HB
 go_wp2
 go_ret2
 exact ⟨rfl, HB1.out⟩
theorem config_any (p : Option Addr) (c : Cf) (w : World) (h : MdAt w p c) :
  Calls Tryz.prog 76 #[.pointer p] w fun e w' => e = .returned (.agg (CfV c)) ∧ Below w.heap.size w w' := by
 rcases h with ⟨rfl, rfl⟩ | ⟨g, rfl, hg⟩
 ·go_enter Tryz.func76, Tryz.ntmps76
  go_wp2
  exact bodyPost_ret (v := .agg (CfV ⟨0, 0, 0, 0, 0, 0⟩)) (by simp [results, Tryz.results76, go_sem, CfV]) rfl ⟨rfl, by go_grown⟩
 ·obtain ⟨c0, c1, c2, c3, c4, c5⟩ := Cf_cells hg
  have hlt := lt_of_block hg
  have hne : ¬ g = w.heap.size := by omega
  obtain ⟨s, v, d, l, t, h⟩ := c
  simp only at c0 c1 c2 c3 c4 c5
  clear hg
  go_enter Tryz.func76, Tryz.ntmps76
  go_wp2
  exact bodyPost_ret (v := .agg (CfV ⟨s, v, d, l, t, h⟩)) (by simp [results, Tryz.results76, go_sem, CfV]) rfl ⟨rfl, by go_grown⟩
end Go.Proofs.YtjgggialnegddaaGreat
namespace Go.Proofs.YtjgggialnegddaaGreat
open Go.RowKit
set_option maxHeartbeats 1000000 in
theorem qup_any (B o g cap : Nat) (cs : Array Value) (Tb : TypeId) (ms : List Int) (j : Nat) (w : World) (h : HqAt B o g cap cs Tb ms w) (hj : j < ms.length) (hn : ms.length ≤ 1001) (hU : UpI ms ms.length j) :
  Calls Tryz.prog 117 #[hq B o, .int .i64 j] w fun e w' => e = .returned (.tuple #[]) ∧ (∃ ns, ns.Perm ms ∧ HeapI ns ns.length ∧ HqAt B o g cap cs Tb ns w') ∧ Fb (at2 B g) w w' := by
 have H := hid h
 have HU := hid hU
 clear h hU
 go_enter Tryz.func117, Tryz.ntmps117
 go_wp2_with fail
 go_loopw [1] (fun i W => ∃ (k : Nat) (ns : List Int), i = .int .i64 k ∧ k < ns.length ∧ Hid (ns.Perm ms) ∧ Hid (UpI ns ns.length k) ∧ Hid (HqAt B o g cap cs Tb ns W) ∧ Hid (Fb (at2 B g) w W)) (fun i _ => (intOf i).toNat)
 case atStart => exact ⟨j, ms, rfl, hj, List.Perm.refl _, HU, H, Fb.refl _ _⟩
 case round =>
  obtain ⟨k, ns, rfl, hk, HP, HUk, HH, HB⟩ := hrel
  have hl : ns.length ≤ 1001 := by have := HP.out.length_eq; omega
  by_cases h0 : k = 0
  ·subst h0
   have HD : Hid (HeapI ns ns.length) := HUk.out.done (fun h => absurd h (by omega))
   go_wp2
   go_end0
   exact ⟨rfl, ⟨ns, HP.out, HD.out, HH.out⟩, HB.out⟩
  ·obtain ⟨p, hp⟩ : ∃ p : Nat, ((k : Int) - 1) / 2 = (p : Int) := ⟨(k - 1) / 2, by omega⟩
   have hp' : (k - 1) / 2 = p := by omega
   have hne : ¬ (p : Int) = (k : Int) := by omega
   have hne' : ((p : Int) == (k : Int)) = false := by simpa using hne
   have hml := methI_less B o wr _ HH.out.cell
   have hL := HH.out.less k p hk (by omega) hl
   by_cases hb : ltI (gi ns k) (gi ns p)
   ·have hbb : decide (gi ns k < gi ns p) = true := decide_eq_true hb
    have HS : Hid (UpI (swi ns p k) (swi ns p k).length p) := by
     have := HUk.out.step (by omega) hk (Nat.le_refl _) (by rw [hp']; exact hb)
     rw [hp'] at this
     rw [swi_len]
     exact this
    have HPS : Hid ((swi ns p k).Perm ms) := (swi_perm (by omega) hk).trans HP.out
    rw [hbb] at hL
    clear hb hbb HH
    go_wp2_with fail
    refine hL.mono ?_
    rintro e w2 ⟨rfl, hH2, hB2⟩
    have hms := methI_swap B o w2 _ hH2.cell
    have hS := hH2.swap p k (by omega) hk hl
    have HB2 := hid (HB.out.tr hB2)
    clear hH2 hB2 hL hml
    go_wp2_with fail
    refine hS.mono ?_
    rintro e w3 ⟨rfl, hH3, hB3⟩
    have HH3 := hid hH3
    have HB3 := hid (HB2.out.tr hB3)
    clear hH3 hB3 hS hms
    go_wp2_with fail
    go_round
    case rel => exact ⟨p, swi ns p k, rfl, by rw [swi_len]; omega, HPS, HS, HH3, HB3⟩
    case measure => simp [intOf]; omega
   ·have hbb : decide (gi ns k < gi ns p) = false := decide_eq_false hb
    have HD : Hid (HeapI ns ns.length) := HUk.out.done (fun _ => by rw [hp']; exact hb)
    rw [hbb] at hL
    clear hb hbb HH
    go_wp2_with fail
    refine hL.mono ?_
    rintro e w2 ⟨rfl, hH2, hB2⟩
    have HH2 := hid hH2
    have HB2 := hid (HB.out.tr hB2)
    clear hH2 hB2 hL hml
    go_wp2
    go_end0
    exact ⟨rfl, ⟨ns, HP.out, HD.out, HH2.out⟩, HB2.out⟩
end Go.Proofs.YtjgggialnegddaaGreat
