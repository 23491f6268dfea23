/-
  The texts Math, Reads, Base, Frames, Nums, DMath, Draws of this proof.
-/
import Derived.Test.YtjgggialnegddaaGreatRows
import Derived.WalkKit
import Derived.ProofKit
import Derived.Below
import Derived.OpenShut
import Derived.Laws.BytesArg
import Derived.Laws.AppendOwnNone
import Derived.Handy
import Derived.Laws.OwnMore
import Derived.OwnWalk
import Derived.OneCell
import Derived.Deep.RegionHeld3
import Derived.Shelf.Abstract
import Derived.Deep.AppendLies
import Derived.Deep.RegionLaw
import Derived.Laws.Bits64
import Derived.Laws.Bits128
import Derived.Laws.BitsAllLaws
set_option linter.unusedVariables false
set_option maxRecDepth 1000000
namespace Go.Proofs.YtjgggialnegddaaGreat
open Go.RowKit
theorem hid {p : Prop} (h : p) : Hid p := h
theorem ret_int {k : IntKind} {a b : Int} (h : a = b) : Ending.returned (.int k a) = .returned (.int k b) := by rw [h]
def wi (n : Int) : Int := if n < -2147483648 then -2147483648 else if n > 2147483647 then 2147483647 else n
theorem wi_0 (n : Int) : -2147483648 ≤ wi n := by unfold wi; split <;> (try split) <;> omega
theorem wi_1 (n : Int) : wi n ≤ 2147483647 := by unfold wi; split <;> (try split) <;> omega
theorem wi_in {n : Int} (h0 : -2147483648 ≤ n) (h1 : n ≤ 2147483647) : wi n = n := by unfold wi; rw [if_neg (by omega), if_neg (by omega)]
theorem wi_le {a b : Int} (h : a ≤ b) : wi a ≤ wi b := by unfold wi; split <;> split <;> (try split) <;> (try split) <;> omega
def byZ (a b : Int) : Int := if b < 0 then -a / -b else a / b
def farZ (a : Int) : Int := if a > 0 then 2147483647 else if a < 0 then -2147483648 else 0
def addZ (a b : Int) : Int := wi (wi a + wi b)
def mulZ (a b : Int) : Int := wi (wi a * wi b / 65536)
def divZ (a b : Int) : Int := if wi b = 0 then farZ (wi a) else wi (byZ (wi a * 65536) (wi b))
def fromZ (n : Int) : Int := wi (wi n * 65536)
theorem prod_bd (a b : Int) : -4611686018427387904 ≤ wi a * wi b ∧ wi a * wi b ≤ 4611686018427387904 := by
 have a0 := wi_0 a
 have a1 := wi_1 a
 have b0 := wi_0 b
 have b1 := wi_1 b
 generalize wi a = x at *
 generalize wi b = y at *
 have h1 : 0 ≤ (2147483648 - x) * (2147483648 + y) := Int.mul_nonneg (by omega) (by omega)
 have h2 : 0 ≤ (2147483648 + x) * (2147483648 - y) := Int.mul_nonneg (by omega) (by omega)
 have h3 : 0 ≤ (2147483648 - x) * (2147483648 - y) := Int.mul_nonneg (by omega) (by omega)
 have h4 : 0 ≤ (2147483648 + x) * (2147483648 + y) := Int.mul_nonneg (by omega) (by omega)
 simp only [Int.sub_mul, Int.add_mul, Int.mul_sub, Int.mul_add] at h1 h2 h3 h4
 rw [Int.mul_comm x 2147483648] at *
 omega
theorem quo_pos {n d : Int} (hd : 0 < d) : (if n.tmod d < 0 then n.tdiv d - 1 else n.tdiv d) = n / d := by
 by_cases hn : 0 ≤ n
 ·rw [Int.tmod_eq_emod_of_nonneg hn, Int.tdiv_eq_ediv_of_nonneg hn, if_neg]
  have := Int.emod_nonneg n (b := d) (by omega)
  omega
 ·have e1 : n.tdiv d = -((-n) / d) := by rw [← Int.tdiv_eq_ediv_of_nonneg (by omega), Int.neg_tdiv, Int.neg_neg]
  have e2 : n.tmod d = -((-n) % d) := by rw [← Int.tmod_eq_emod_of_nonneg (by omega), Int.neg_tmod, Int.neg_neg]
  have e3 := Int.mul_ediv_add_emod (-n) d
  have e4 := Int.emod_nonneg (-n) (b := d) (by omega)
  have e5 := Int.emod_lt_of_pos (-n) hd
  rw [e1, e2]
  generalize -n / d = q at *
  generalize -n % d = r at *
  split
  ·refine (Int.ediv_eq_iff_of_pos hd).mpr ?_ |>.symm
   rw [Int.sub_mul, Int.neg_mul, Int.mul_comm q d] 
   constructor <;> omega
  ·refine (Int.ediv_eq_iff_of_pos hd).mpr ?_ |>.symm
   rw [Int.neg_mul, Int.mul_comm q d]
   constructor <;> omega
theorem tmod_neg_iff {n d : Int} (hd : 0 < d) : n.tmod d < 0 ↔ n.tmod d ≠ 0 ∧ n < 0 := by
 by_cases hn : 0 ≤ n
 ·rw [Int.tmod_eq_emod_of_nonneg hn]
  have := Int.emod_nonneg n (b := d) (by omega)
  omega
 ·have e2 : n.tmod d = -((-n) % d) := by rw [← Int.tmod_eq_emod_of_nonneg (by omega), Int.neg_tmod, Int.neg_neg]
  have e4 := Int.emod_nonneg (-n) (b := d) (by omega)
  rw [e2]
  omega
theorem quo_0 {a b : Int} (hb : b ≠ 0) (h : a.tmod b = 0) : a.tdiv b = byZ a b := by
 unfold byZ
 split
 ·rw [← quo_pos (n := -a) (d := -b) (by omega), Int.neg_tmod, Int.tmod_neg, h, if_neg (by omega), Int.neg_tdiv, Int.tdiv_neg, Int.neg_neg]
 ·rw [← quo_pos (n := a) (d := b) (by omega), h, if_neg (by omega)]
theorem quo_like {a b : Int} (hb : b ≠ 0) (h : a < 0 ↔ b < 0) : a.tdiv b = byZ a b := by
 unfold byZ
 split
 ·rw [← quo_pos (n := -a) (d := -b) (by omega), if_neg, Int.neg_tdiv, Int.tdiv_neg, Int.neg_neg]
  rw [tmod_neg_iff (by omega)]
  omega
 ·rw [← quo_pos (n := a) (d := b) (by omega), if_neg]
  rw [tmod_neg_iff (by omega)]
  omega
theorem quo_unlike {a b : Int} (hb : b ≠ 0) (h : a.tmod b ≠ 0) (h' : ¬(a < 0 ↔ b < 0)) : a.tdiv b - 1 = byZ a b := by
 unfold byZ
 have h0 : a ≠ 0 := by rintro rfl; simp at h
 split
 ·rw [← quo_pos (n := -a) (d := -b) (by omega), if_pos, Int.neg_tdiv, Int.tdiv_neg, Int.neg_neg]
  rw [tmod_neg_iff (by omega), Int.neg_tmod, Int.tmod_neg]
  omega
 ·rw [← quo_pos (n := a) (d := b) (by omega), if_pos]
  rw [tmod_neg_iff (by omega)]
  omega
theorem tdiv_bd (a b : Int) {m : Int} (h0 : -m ≤ a) (h1 : a ≤ m) : -m ≤ a.tdiv b ∧ a.tdiv b ≤ m := by
 have := Int.natAbs_tdiv_le_natAbs a b
 omega
/-! ### Powers -/
def pw (f : Int) : Int := 65536 + f * (43691 + f * 21845 / 65536) / 65536
def liftZ (p k : Int) : Int := if k ≥ 16 then 2147483647 else if k < 0 then p / 2 ^ (-k).toNat else wi (p * 2 ^ k.toNat)
def expZ (x : Int) : Int := liftZ (pw (wi x * 94548 / 65536 % 65536)) (wi x * 94548 / 65536 / 65536)
theorem pw_le {f g : Int} (f0 : 0 ≤ f) (h : f ≤ g) : pw f ≤ pw g := by
 unfold pw
 have h1 : f * 21845 / 65536 ≤ g * 21845 / 65536 := by omega
 have h2 : f * (43691 + f * 21845 / 65536) ≤ g * (43691 + g * 21845 / 65536) := Int.mul_le_mul h (by omega) (by omega) (by omega)
 omega
theorem pw_0 : pw 0 = 65536 := by decide
theorem pw_bd {f : Int} (f0 : 0 ≤ f) (f1 : f < 65536) : 65536 ≤ pw f ∧ pw f ≤ 131072 := by
 have h1 := pw_le (Int.le_refl 0) f0
 have h2 := pw_le f0 (show f ≤ 65535 by omega)
 rw [pw_0] at h1
 rw [show pw 65535 = 131070 from by decide] at h2
 omega
theorem part_bd {f : Int} (f0 : 0 ≤ f) (f1 : f < 65536) : 0 ≤ f * (43691 + f * 21845 / 65536) ∧ f * (43691 + f * 21845 / 65536) ≤ 4294967296 :=
 ⟨Int.mul_nonneg f0 (by omega), Int.le_trans (Int.mul_le_mul (show f ≤ 65536 by omega) (show 43691 + f * 21845 / 65536 ≤ 65536 by omega) (by omega) (by omega)) (by omega)⟩
theorem two_pos (n : Nat) : (0 : Int) < 2 ^ n := Int.pow_pos (by omega)
theorem two_le {m n : Nat} (h : m ≤ n) : (2 : Int) ^ m ≤ 2 ^ n := by
 induction h with
 | refl => exact Int.le_refl _
 | step _ ih => rw [Int.pow_succ]; have := two_pos m; omega
theorem liftZ_p {p q : Int} (k : Int) (h : p ≤ q) : liftZ p k ≤ liftZ q k := by
 unfold liftZ
 split
 ·omega
 ·split
  ·exact Int.ediv_le_ediv (two_pos _) h
  ·exact wi_le (Int.mul_le_mul_of_nonneg_right h (Int.le_of_lt (two_pos _)))
theorem liftZ_k (k : Int) : liftZ 131072 k ≤ liftZ 65536 (k + 1) := by
 unfold liftZ
 by_cases h16 : k ≥ 16
 ·rw [if_pos h16, if_pos (by omega)]; omega
 ·by_cases h15 : k = 15
  ·subst h15; decide
  ·rw [if_neg h16, if_neg (show ¬ k + 1 ≥ 16 by omega)]
   by_cases hm : k = -1
   ·subst hm; decide
   ·by_cases h0 : k < 0
    ·rw [if_pos h0, if_pos (by omega)]
     rw [show (-k).toNat = (-(k + 1)).toNat + 1 by omega, Int.pow_succ, show (131072 : Int) = 65536 * 2 from rfl, Int.mul_ediv_mul_of_pos_left _ _ (by omega)]
     omega
    ·rw [if_neg h0, if_neg (by omega), show (k + 1).toNat = k.toNat + 1 by omega, Int.pow_succ, show (131072 : Int) * 2 ^ k.toNat = 65536 * (2 ^ k.toNat * 2) by omega]
     omega
theorem liftZ_up (k : Int) (n : Nat) : liftZ 65536 k ≤ liftZ 65536 (k + n) := by
 induction n with
 | zero => simp
 | succ n ih =>
  refine Int.le_trans ih (Int.le_trans (liftZ_p _ (show (65536 : Int) ≤ 131072 by omega)) ?_)
  have := liftZ_k (k + n)
  rw [show k + ((n + 1 : Nat) : Int) = k + n + 1 by omega]
  exact this
theorem expZ_le {a b : Int} (h : a ≤ b) : expZ a ≤ expZ b := by
 unfold expZ
 have hw := wi_le h
 have hy : wi a * 94548 / 65536 ≤ wi b * 94548 / 65536 := by omega
 generalize wi a * 94548 / 65536 = y at *
 generalize wi b * 94548 / 65536 = z at *
 by_cases hk : y / 65536 = z / 65536
 ·rw [hk]
  exact liftZ_p _ (pw_le (by omega) (by omega))
 ·have p1 := pw_bd (f := y % 65536) (by omega) (by omega)
  have p2 := pw_bd (f := z % 65536) (by omega) (by omega)
  refine Int.le_trans (liftZ_p _ p1.2) (Int.le_trans (liftZ_k _) (Int.le_trans ?_ (liftZ_p _ p2.1)))
  have := liftZ_up (y / 65536 + 1) (z / 65536 - (y / 65536 + 1)).toNat
  rw [show y / 65536 + 1 + (((z / 65536 - (y / 65536 + 1)).toNat : Nat) : Int) = z / 65536 by omega] at this
  exact this
theorem wi_nn {n : Int} (h : 0 ≤ n) : 0 ≤ wi n := by have := wi_le h; rwa [show wi 0 = 0 from rfl] at this
theorem liftZ_nn {p : Int} (k : Int) (h : 0 ≤ p) : 0 ≤ liftZ p k := by
 unfold liftZ
 split
 ·omega
 ·split
  ·exact Int.ediv_nonneg h (Int.le_of_lt (two_pos _))
  ·exact wi_nn (Int.mul_nonneg h (Int.le_of_lt (two_pos _)))
theorem liftZ_bd {p : Int} (k : Int) (h : 0 ≤ p) (h1 : p ≤ 131072) : liftZ p k ≤ 2147483647 := by
 unfold liftZ
 split
 ·omega
 ·split
  ·exact Int.le_trans (Int.ediv_le_self _ h) (by omega)
  ·exact wi_1 _
theorem expZ_bd (x : Int) : 0 ≤ expZ x ∧ expZ x ≤ 2147483647 := by
 unfold expZ
 have p := pw_bd (f := wi x * 94548 / 65536 % 65536) (by omega) (by omega)
 exact ⟨liftZ_nn _ (by omega), liftZ_bd _ (by omega) (by omega)⟩
theorem lift_far {p : Int} (p0 : 0 ≤ p) (p1 : p ≤ 131072) {n : Nat} (h : 18 ≤ n) : p / 2 ^ n = 0 := by
 refine Int.ediv_eq_zero_of_lt p0 (Int.lt_of_lt_of_le (show p < 2 ^ 18 by omega) ?_)
 exact two_le h
/-! ### Roots -/
def rootB (n : Int) : Nat → Int → Int
 | 0, s => s
 | i + 1, s => rootB n i (if (s + 2 ^ i) * (s + 2 ^ i) ≤ n then s + 2 ^ i else s)
theorem rootB_neg {n : Int} (h : n < 0) (i : Nat) : rootB n i 0 = 0 := by
 induction i with
 | zero => rfl
 | succ i ih =>
  unfold rootB
  rw [if_neg]
  ·exact ih
  ·have := two_pos i
   have := Int.mul_nonneg (a := 0 + 2 ^ i) (b := 0 + 2 ^ i) (by omega) (by omega)
   omega
def sqrtZ (x : Int) : Int := rootB (wi x * 65536) 24 0
theorem sqrtZ_neg {x : Int} (h : wi x < 0) : sqrtZ x = 0 := rootB_neg (by omega) 24
theorem sq_small {t n : Int} (h : t * t ≤ n) (hn : n < 281474976710656) : t < 16777216 := by
 refine Int.not_le.mp fun hc => ?_
 have : (16777216 : Int) * 16777216 ≤ t * t := Int.mul_le_mul hc hc (by omega) (by omega)
 omega
end Go.Proofs.YtjgggialnegddaaGreat
namespace Go.Proofs.YtjgggialnegddaaGreat
open Go.RowKit
structure Reads (k : IntKind) (w : World) (a : Option Addr) (len cap : Nat) (zs : List Int) : Prop where
 size : zs.length = len
 room : len ≤ cap
 most : cap ≤ 9223372036854775807
 bare : a = none → len = 0 ∧ cap = 0
 cell : ∀ i, i < len → ∃ b off, a = some ⟨b, off, none⟩ ∧ w.cell? ⟨b, off + i, none⟩ = some (.int k (zs[i]?.getD 0))
theorem Reads.nil (k : IntKind) (w : World) : Reads k w none 0 0 [] := ⟨rfl, Nat.le_refl _, by omega, fun _ => ⟨rfl, rfl⟩, fun i hi => by omega⟩
theorem Reads.below {k : IntKind} {w w' : World} {a : Option Addr} {len cap : Nat} {zs : List Int} (h : Reads k w a len cap zs) (hb : Below w.heap.size w w') : Reads k w' a len cap zs :=
 ⟨h.size, h.room, h.most, h.bare, fun i hi => by
  obtain ⟨b, off, ha, hc⟩ := h.cell i hi
  exact ⟨b, off, ha, (hb.cell (World.block_lt_of_cell? _ _ hc)).trans hc⟩⟩
theorem Reads.news {k : IntKind} {w : World} {a : Addr} {len cap : Nat} {zs : List Int} (h : Reads k w (some a) len cap zs) :
  ∀ j u, (zs.map (Value.int k))[j]? = some u → w.cell? (a.add j) = some u := by
 intro j u hu
 have hj : j < zs.length := by
  have := (List.getElem?_eq_some_iff.1 hu).1
  simpa using this
 obtain ⟨b, off, ha, hc⟩ := h.cell j (by rw [← h.size]; exact hj)
 obtain rfl := Option.some.inj ha
 rw [Addr.add_lit, hc]
 simp [hj] at hu ⊢
 exact hu
theorem Reads.tail {k : IntKind} {w : World} {b off len cap : Nat} {zs : List Int} (h : Reads k w (some ⟨b, off, none⟩) len cap zs) {p : Nat} (hp : p < len) :
  Reads k w (some ⟨b, off + p, none⟩) (len - p) (cap - p) (zs.drop p) :=
 ⟨by rw [List.length_drop, h.size], (by have := h.room; omega), (by have := h.most; omega), (fun e => by cases e), fun i hi => by
  obtain ⟨b', off', ha, hc⟩ := h.cell (p + i) (by omega)
  cases ha
  exact ⟨b, off + p, rfl, by rw [Nat.add_assoc, hc, List.getElem?_drop]⟩⟩
theorem Reads.own {k : IntKind} {w : World} {base e n : Nat} {v : Value} {zs : List Int} (h : w.ownsRow base e 1 v n (zs.map (Value.int k))) :
  ∃ a cap, v = .slice a n cap ∧ Reads k w a n cap zs := by
 have hl : zs.length = n := by have := h.1; simpa using this
 rcases h.2 with ⟨rfl, rfl⟩ | ⟨g, cap, cur, rfl, hb, hg, hnc, hm, hs, ht⟩
 ·exact ⟨none, 0, rfl, hl, Nat.le_refl _, by omega, fun _ => ⟨rfl, rfl⟩, fun i hi => by omega⟩
 ·refine ⟨some ⟨g, 0, none⟩, cap, rfl, hl, hnc, by unfold maxLen at hm; omega, (fun e => by cases e), fun i hi => ⟨g, 0, rfl, ?_⟩⟩
  have hi' : i < zs.length := by omega
  have := h.cells (g := g) rfl i (.int k (zs[i]?.getD 0)) (by simp [hi'])
  rwa [Addr.add_lit] at this
def IsRow' (k : IntKind) (w : World) (a : Option Addr) (len cap : Nat) (zs : List Int) : Prop :=
 (a = none ∧ len = 0 ∧ cap = 0 ∧ zs = []) ∨
 ∃ x, a = some x ∧ len ≤ cap ∧ cap ≤ maxLen ∧ zs.length = cap ∧ (∀ i, i < zs.length → w.cell? (x.add i) = some (.int k (zs.getD i 0))) ∧ ∀ n ∈ zs, (Lit.int k n).wf = true
theorem Reads.row {k : IntKind} {w : World} {a : Option Addr} {len cap : Nat} {zs : List Int} (h : IsRow' k w a len cap zs) :
  Reads k w a len cap (zs.take len) ∧ ∀ n ∈ zs.take len, (Lit.int k n).wf = true := by
 rcases h with ⟨rfl, rfl, rfl, rfl⟩ | ⟨x, rfl, hl, hm, hz, hc, hw⟩
 ·exact ⟨Reads.nil _ _, fun n hn => by simp at hn⟩
 ·refine ⟨⟨by simp; omega, hl, by unfold maxLen at hm; omega, (fun e => by cases e), fun i hi => ?_⟩, fun n hn => hw n (List.mem_of_mem_take hn)⟩
  obtain ⟨b, off, rfl, hc'⟩ := ints_at hc (by omega)
  have hi' : i < zs.length := by omega
  exact ⟨b, off, rfl, by rw [hc' i hi', List.getD_eq_getElem?_getD, List.getElem?_take_of_lt hi]⟩
theorem append_any {P : Program} (w : World) {ops : Array Oper} {rest : List Oper} {o : Oper} {a : Act} {Q : Exit → Act → World → Prop} (hgd : o.guard = none) (s x : Operand) (t : TypeId)
  (ho : o.op = .call { callee := .builtin .append, args := #[s, x], argTypes := #[t, t] })
  (base : Nat) (e : TypeId) (i : TypeInfo) (z : Value) (bytes : Nat) (ht : P.underlying t = some (.slice e)) (hi : P.info? e = some i) (hz : i.zero = some z)
  (hsize : i.size = 1) (hby : i.bytes = bytes) (hzs : z.cells.size = 1) (k : IntKind)
  (v : Value) (n : Nat) (xs : List Int) (hs : a.eval s = v) (hown : w.ownsRow base e 1 v n (xs.map (Value.int k)))
  (ao : Option Addr) (m c : Nat) (news : List Int) (hx : a.eval x = .slice ao m c) (hr : Reads k w ao m c news)
  (h63 : n + m ≤ 9223372036854775807) (hbytes : (n + m) * bytes ≤ 140737488355328) (hbase : base ≤ w.heap.size)
  (h : ∀ v' w', w'.ownsRow base e 1 v' (n + m) ((xs ++ news).map (Value.int k)) → Below base w w' → wpList P ops Q rest (a.put o.dst v') w') : wpList P ops Q (o :: rest) a w := by
 cases ao with
 | none =>
  obtain ⟨rfl, rfl⟩ := hr.bare rfl
  have hn : news = [] := List.eq_nil_of_length_eq_zero hr.size
  subst hn
  exact wpList_append_own_none hgd s x t ho base e i 1 ht hi v n _ hs hown hx (h v w (by simpa using hown) (Below.refl _ _))
 | some ad =>
  refine wpList_append_own w hgd s x t ho base e i z 1 bytes ht hi hz hsize hby hzs (by decide) v n _ hs hown ad m c (news.map (Value.int k)) hx (by simpa using hr.size) hr.news (ints_oneCell k news) (by unfold maxLen; omega) hbytes hbase ?_
  intro v' w' h1 h2 _
  refine h v' w' (by rw [List.map_append]; exact h1) ((Below.refl _ _).grown h2 hbase fun g hg => (hown.lt g hg).1)
end Go.Proofs.YtjgggialnegddaaGreat
namespace Go.Proofs.YtjgggialnegddaaGreat
open Go.RowKit
structure But (S : List Nat) (w w' : World) : Prop where
 os : w'.os = w.os
 tape : w'.tape = w.tape
 output : w'.output = w.output
 size : w.heap.size ≤ w'.heap.size
 block : ∀ k, k < w.heap.size → k ∉ S → w'.heap[k]? = w.heap[k]?
theorem But.refl (S : List Nat) (w : World) : But S w w := ⟨rfl, rfl, rfl, Nat.le_refl _, fun _ _ _ => rfl⟩
theorem But.trans {S : List Nat} {a b c : World} (h : But S a b) (k : But S b c) : But S a c :=
 ⟨k.os.trans h.os, k.tape.trans h.tape, k.output.trans h.output, Nat.le_trans h.size k.size, fun i hi hn => (k.block i (Nat.lt_of_lt_of_le hi h.size) hn).trans (h.block i hi hn)⟩
theorem But.mono {S S' : List Nat} {a b : World} (h : But S a b) (hS : ∀ s ∈ S, s ∈ S') : But S' a b := ⟨h.os, h.tape, h.output, h.size, fun i hi hn => h.block i hi fun hs => hn (hS i hs)⟩
theorem But.below {S : List Nat} {a b c : World} (h : But S a b) (k : Below a.heap.size b c) : But S a c :=
 ⟨k.os.trans h.os, k.tape.trans h.tape, k.output.trans h.output, Nat.le_trans h.size k.size, fun i hi hn => (k.block i hi).trans (h.block i hi hn)⟩
theorem But.of {S : List Nat} {a b : World} (k : Below a.heap.size a b) : But S a b := (But.refl S a).below k
theorem But.set {S : List Nat} {a b : World} (h : But S a b) {p : Addr} (hp : p.block ∈ S) (u : Value) : But S a (b.setCell p u) :=
 h.trans ⟨rfl, rfl, rfl, by simp [World.setCell], fun k _ hk => Below.heap_setCell _ _ _ _ (fun e => hk (e ▸ hp))⟩
theorem But.drew {S : List Nat} {a b : World} (h : But S a b) : But S a b.drew := ⟨h.os, h.tape, h.output, h.size, h.block⟩
theorem But.alloc {S : List Nat} {a b : World} (h : But S a b) (o : Obj) : But S a (b.alloc o) := h.below ((Below.refl _ _).alloc h.size o)
theorem But.to {S : List Nat} {a b : World} {B : Nat} (h : But S a b) (hS : ∀ s ∈ S, B ≤ s) (hB : B ≤ a.heap.size) : Below B a b :=
 ⟨h.os, h.tape, h.output, h.size, fun k hk => h.block k (by omega) fun hs => by have := hS k hs; omega⟩
theorem But.cell {S : List Nat} {w w' : World} (h : But S w w') {p : Addr} {v : Value} (hc : w.cell? p = some v) (hp : p.block ∉ S) : w'.cell? p = some v :=
 (World.cell?_of_block (w := w) (h.block p.block (World.block_lt_of_cell? _ _ hc) hp)).trans hc
theorem But.one {S : List Nat} {w w' : World} (h : But S w w') {B : Nat} {o : Obj} (hc : w.heap[B]? = some o) (hp : B ∉ S) : w'.heap[B]? = some o := (h.block B (lt_of_block hc) hp).trans hc
def Off (S : List Nat) (a : Option Addr) (len : Nat) : Prop := 0 < len → ∀ ad, a = some ad → ad.block ∉ S
theorem Reads.cut {k : IntKind} {w : World} {a : Option Addr} {len cap : Nat} {zs : List Int} (h : Reads k w a len cap zs) {m : Nat} (hm : m ≤ len) : Reads k w a m cap (zs.take m) :=
 ⟨by rw [List.length_take, h.size]; omega, by have := h.room; omega, h.most, fun e => by have := h.bare e; omega, fun i hi => by
  obtain ⟨b, off, e, hc⟩ := h.cell i (by omega)
  exact ⟨b, off, e, by rw [hc, List.getElem?_take_of_lt hi]⟩⟩
theorem Reads.but {k : IntKind} {w w' : World} {a : Option Addr} {len cap : Nat} {zs : List Int} {S : List Nat} (h : Reads k w a len cap zs) (hb : But S w w') (hS : Off S a len) : Reads k w' a len cap zs :=
 ⟨h.size, h.room, h.most, h.bare, fun i hi => by
  obtain ⟨b, off, e, hc⟩ := h.cell i hi
  exact ⟨b, off, e, hb.cell hc (show b ∉ S from hS (by omega) ⟨b, off, none⟩ e)⟩⟩
theorem Reads.past {k : IntKind} {w : World} {a : Option Addr} {len cap : Nat} {zs : List Int} (h : Reads k w a len cap zs) {S : List Nat} (hS : ∀ s ∈ S, w.heap.size ≤ s) : Off S a len := by
 intro h0 ad hd hs
 obtain ⟨b, off, e, hc⟩ := h.cell 0 h0
 have h1 : b < w.heap.size := World.block_lt_of_cell? _ _ hc
 have h2 := hS _ hs
 rw [hd] at e
 cases e
 exact absurd h1 (Nat.not_lt.2 h2)
def OwnK (t : TypeId) (base g m cap : Nat) (xs : List Int) (w : World) : Prop := w.ownsRow base t 1 (.slice (some ⟨g, 0, none⟩) m cap) m (xs.map (Value.int .i64))
theorem OwnK.len {t : TypeId} {base g m cap : Nat} {xs : List Int} {w : World} (h : OwnK t base g m cap xs w) : xs.length = m := by have := h.1; simpa using this
theorem OwnK.cell {t : TypeId} {base g m cap : Nat} {xs : List Int} {w : World} (h : OwnK t base g m cap xs w) {k : Nat} (hk : k < m) : w.cell? ⟨g, k, none⟩ = some (.int .i64 (xs[k]?.getD 0)) := by
 have hl := h.len
 have := World.ownsRow.cellAt h k (by omega)
 rw [this]
 simp [(by omega : k < xs.length)]
theorem OwnK.frozen {t : TypeId} {base g m cap : Nat} {xs : List Int} {w : World} (h : OwnK t base g m cap xs w) (k : Nat) : w.frozen? ⟨g, k, none⟩ = false := World.ownsRow.frozenAt h k
theorem OwnK.set {t : TypeId} {base g m cap : Nat} {xs : List Int} {w : World} (h : OwnK t base g m cap xs w) (k : Nat) (v : Int) : OwnK t base g m cap (xs.set k v) (w.setCell ⟨g, k, none⟩ (.int .i64 v)) := by
 have := (World.ownsRow.stored h k (.int .i64 v)).1
 unfold OwnK
 rw [List.map_set]
 exact this
theorem OwnK.base {t : TypeId} {base g m cap : Nat} {xs : List Int} {w : World} (h : OwnK t base g m cap xs w) : base ≤ g := (World.ownsRow.lt h g rfl).1
theorem OwnK.lt {t : TypeId} {base g m cap : Nat} {xs : List Int} {w : World} (h : OwnK t base g m cap xs w) : g < w.heap.size := (World.ownsRow.lt h g rfl).2
theorem OwnK.same {t : TypeId} {base g m cap : Nat} {xs : List Int} {w w' : World} (h : OwnK t base g m cap xs w) (hb : w'.heap[g]? = w.heap[g]?) : OwnK t base g m cap xs w' := by
 refine ⟨h.1, ?_⟩
 rcases h.2 with h' | ⟨g', c, cur, hv, hB, hg, rest⟩
 ·exact .inl h'
 ·cases hv
  exact .inr ⟨g, cap, cur, rfl, hB, hb.trans hg, rest⟩
theorem OwnK.stays {t : TypeId} {base g m cap : Nat} {xs : List Int} {w w' : World} (h : OwnK t base g m cap xs w) (hb : Below w.heap.size w w') : OwnK t base g m cap xs w' := h.same (hb.block g h.lt)
theorem OwnK.but {t : TypeId} {base g m cap : Nat} {xs : List Int} {w w' : World} {S : List Nat} (h : OwnK t base g m cap xs w) (hb : But S w w') (hg : g ∉ S) : OwnK t base g m cap xs w' := h.same (hb.block g h.lt hg)
theorem OwnK.reads {t : TypeId} {base g m cap : Nat} {xs : List Int} {w : World} (h : OwnK t base g m cap xs w) : Reads .i64 w (some ⟨g, 0, none⟩) m cap xs := by
 obtain ⟨a, c, e, hr⟩ := Reads.own (k := .i64) h
 cases e
 exact hr
theorem OwnK.low {t : TypeId} {base base' g m cap : Nat} {xs : List Int} {w : World} (h : OwnK t base g m cap xs w) (hb : base' ≤ base) : OwnK t base' g m cap xs w := by
 refine ⟨h.1, ?_⟩
 rcases h.2 with h' | ⟨g', c, cur, hv, hB, rest⟩
 ·exact .inl h'
 ·exact .inr ⟨g', c, cur, hv, Nat.le_trans hb hB, rest⟩
theorem Tryz.info2 : (Tryz.prog.info? 2).map (fun i => (i.zero, i.size, i.bytes)) = some (some (.int .i64 0), 1, 8) := by kernel_rfl
theorem Tryz.info3 : (Tryz.prog.info? 3).map (fun i => (i.zero, i.size, i.bytes)) = some (some (.int .i64 0), 1, 8) := by kernel_rfl
theorem info_parts {t : TypeId} {z : Value} {a b : Nat} (h : (Tryz.prog.info? t).map (fun i => (i.zero, i.size, i.bytes)) = some (some z, a, b)) :
  ∃ i, Tryz.prog.info? t = some i ∧ i.zero = some z ∧ i.size = a ∧ i.bytes = b := by
 cases hi : Tryz.prog.info? t with
 | none => rw [hi] at h; simp at h
 | some i => rw [hi] at h; simp at h; exact ⟨i, rfl, h.1, h.2.1, h.2.2⟩
theorem make_ints (w : World) (m : Nat) (hm : m ≤ 1001) : (Instr.makeSlice 131 (.int .i64 (m : Int)) (.int .i64 (m : Int))).run Tryz.prog w = .ok (.slice (some ⟨w.heap.size, 0, none⟩) m m) (w.alloc (.cells (madeCells #[.int .i64 0] m) 2)) := by
 obtain ⟨i0, hi, hz0, hz1, hz2⟩ := info_parts Tryz.info2
 have := run_make (P := Tryz.prog) w 131 2 i0 (.int .i64 0) Tryz.underlying131 hi hz0 .i64 .i64 (m : Int) (m : Int) (by omega) (Int.le_refl _) (by rw [hz2]; omega) (by omega)
 rw [this, hz1, Int.toNat_natCast, Nat.mul_one]
 rfl
theorem own_made (t : TypeId) (w : World) (m : Nat) (hm : m ≤ 1001) : OwnK t w.heap.size w.heap.size m m (List.replicate m 0) (w.alloc (.cells (madeCells #[.int .i64 0] m) t)) := by
 have := World.ownsRow_lit (base := w.heap.size) (e := t) (size := 1) w (madeCells #[.int .i64 0] m) m (Nat.le_refl _) (by unfold maxLen; omega) (by simp [madeCells])
 unfold OwnK
 rw [List.map_replicate, ← toList_madeCells_one]
 exact this
theorem take_snoc {zs : List Int} {k : Nat} (h : k < zs.length) : zs.take (k + 1) = zs.take k ++ [zs[k]?.getD 0] := by
 rw [List.take_succ_eq_append_getElem h]; simp [h]
theorem one_le {w : World} : ∀ s ∈ [w.heap.size], w.heap.size ≤ s := fun s hs => by rw [List.mem_singleton.1 hs]; exact Nat.le_refl _
def Made (w : World) (len : Nat) (xs : List Int) (e : Ending) (w' : World) : Prop := ∃ g cap, e = .returned (.slice (some ⟨g, 0, none⟩) len cap) ∧ OwnK 2 w.heap.size g len cap xs w' ∧ Below w.heap.size w w'
def Gives (w : World) (len : Nat) (xs : List Int) (e : Ending) (w' : World) : Prop := ∃ a cap, e = .returned (.slice a len cap) ∧ Reads .i64 w' a len cap xs ∧ Below w.heap.size w w'
theorem step_append_fits {P : Program} {w : World} {ops : Array Oper} {o : Oper} {a : Act} {K : Act → World → Prop} {Q : Exit → Act → World → Prop} {E : Prop} (hgd : o.guard = none) (d : Tmp) (hd : o.dst = some d) (s x : Operand) (t : TypeId)
  (ho : o.op = .call { callee := .builtin .append, args := #[s, x], argTypes := #[t, t] })
  (base : Nat) (e : TypeId) (i : TypeInfo) (size : Nat) (ht : P.underlying t = some (.slice e)) (hi : P.info? e = some i) (hsize : i.size = size)
  (g n cap : Nat) (xs : List Value) (hs : a.eval s = .slice (some ⟨g, 0, none⟩) n cap) (hown : w.ownsRow base e size (.slice (some ⟨g, 0, none⟩) n cap) n xs)
  (ad : Addr) (m c : Nat) (news : List Value) (hx : a.eval x = .slice (some ad) m c) (hl : news.length = m * size) (hnews : ∀ j u, news[j]? = some u → w.cell? (ad.add j) = some u) (h1 : ∀ u ∈ news, u.oneCell' = true)
  (hroom : n + m ≤ cap)
  (h : ∀ w', w'.ownsRow base e size (.slice (some ⟨g, 0, none⟩) (n + m) cap) (n + m) (xs ++ news) → w.grownBy w' (some g) → K (a.put (some d) (.slice (some ⟨g, 0, none⟩) (n + m) cap)) w') :
  if Region.wanted o (yielded ops a.tmps) = true then Oper.wp P o a w K Q else E := by
 have hw : Region.wanted o (yielded ops a.tmps) = true := by simp [Region.wanted, hgd]
 rw [if_pos hw]
 obtain ⟨w', hr, h2, h3⟩ := run_append_fits (P := P) w base t o.type e i size ht hi hsize g n cap xs hown ad m c news hl hnews h1 hroom
 unfold Oper.wp execOp
 simp only [ho, resolve, invoke, builtin, Sem.run_bind, Sem.run_pure, Result.andThen_ok, List.map_toArray, List.map_cons, List.map_nil, hs, hx, hr]
 show K (a.put o.dst _) w'
 rw [hd]
 exact h w' h2 h3
theorem step_call2 {P : Program} {w : World} {ops : Array Oper} {o : Oper} {a : Act} {K : Act → World → Prop} {Q : Exit → Act → World → Prop} {E : Prop} (hgd : o.guard = none) (d : Tmp) (hd : o.dst = some d) (s x y : Operand) (tx ty : TypeId)
  (ho : o.op = .call { callee := .value s, args := #[x, y], argTypes := #[tx, ty] }) (fn : Nat) (caps : Array Value) (hs : a.eval s = .func (.func fn) #[] caps) (hE : ∀ args w, (callFunc fn args).run P w = .ok (.enter fn args) w)
  (u v : Value) (hx : a.eval x = u) (hy : a.eval y = v) (r : Value) (R : World → Prop) (hC : Calls P fn (#[u, v] ++ caps) w fun e w' => e = .returned r ∧ R w') (h : ∀ w', R w' → K (a.put (some d) r) w') :
  if Region.wanted o (yielded ops a.tmps) = true then Oper.wp P o a w K Q else E := by
 have hw : Region.wanted o (yielded ops a.tmps) = true := by simp [Region.wanted, hgd]
 rw [if_pos hw]
 unfold Oper.wp execOp
 simp [ho, resolve, invoke, Deferred.ofValue, hs, hx, hy]
 have hr := hE (#[u, v] ++ caps) w
 rw [hr]
 show Calls P fn (#[u, v] ++ caps) w _
 rw [hd]
 refine hC.mono ?_
 rintro e w' ⟨rfl, hR⟩
 exact h w' hR
theorem but_grown {S : List Nat} {a b c : World} {g : Nat} (h : But S a b) (hg : b.grownBy c (some g)) (hs : g ∈ S) : But S a c :=
 h.trans ⟨hg.os, hg.tape, hg.output, hg.size, fun k hk hn => hg.block k hk (fun e => hn (by cases e; exact hs))⟩
theorem one_cell (k : IntKind) (x : Int) : ∀ u ∈ [Value.int k x], u.oneCell' = true := by intro u hu; simp at hu; subst hu; rfl
theorem news_one (k : IntKind) (x : Int) (w : World) (t : TypeId) : ∀ j u, [Value.int k x][j]? = some u → (w.alloc (.cells #[.int k x] t)).cell? ((⟨w.heap.size, 0, none⟩ : Addr).add j) = some u :=
 World.news_of_block (heap_alloc_new w (.cells #[.int k x] t))
theorem make_room (w : World) (m : Nat) (hm : m ≤ 1001) : (Instr.makeSlice 131 (.int .i64 0) (.int .i64 (m : Int))).run Tryz.prog w = .ok (.slice (some ⟨w.heap.size, 0, none⟩) 0 m) (w.alloc (.cells (madeCells #[.int .i64 0] m) 2)) := by
 obtain ⟨i0, hi, hz0, hz1, hz2⟩ := info_parts Tryz.info2
 have := run_make (P := Tryz.prog) w 131 2 i0 (.int .i64 0) Tryz.underlying131 hi hz0 .i64 .i64 0 (m : Int) (by omega) (by omega) (by rw [hz2]; omega) (by omega)
 rw [this, hz1, Int.toNat_natCast, Nat.mul_one]
 rfl
theorem own_room (t : TypeId) (w : World) (m : Nat) (hm : m ≤ 1001) : OwnK t w.heap.size w.heap.size 0 m [] (w.alloc (.cells (madeCells #[.int .i64 0] m) t)) :=
 World.ownsRow_made (base := w.heap.size) (e := t) (size := 1) w (madeCells #[.int .i64 0] m) m (Nat.le_refl _) (by unfold maxLen; omega) (by simp [madeCells])
theorem Reads.one {k : IntKind} (w : World) (x : Int) (t : TypeId) : Reads k (w.alloc (.cells #[.int k x] t)) (some ⟨w.heap.size, 0, none⟩) 1 1 [x] :=
 ⟨rfl, Nat.le_refl _, by omega, (fun e => by cases e), fun i hi => ⟨w.heap.size, 0, rfl, (by
  have h0 : i = 0 := by omega
  subst h0
  simp)⟩⟩
theorem ret_bool {a b : Bool} (h : a = b) : Ending.returned (.bool a) = .returned (.bool b) := by rw [h]
abbrev Hd := Option Addr × Nat × Nat
structure Rd2 (w : World) (a : Option Addr) (len cap : Nat) (hs : List Hd) : Prop where
 size : hs.length = len
 room : len ≤ cap
 most : cap ≤ 9223372036854775807
 bare : a = none → len = 0 ∧ cap = 0
 cell : ∀ i, i < len → ∃ b off, a = some ⟨b, off, none⟩ ∧ w.cell? ⟨b, off + i, none⟩ = some (.slice (hs[i]?.getD (none, 0, 0)).1 (hs[i]?.getD (none, 0, 0)).2.1 (hs[i]?.getD (none, 0, 0)).2.2)
theorem Rd2.below {w w' : World} {a : Option Addr} {len cap : Nat} {hs : List Hd} (h : Rd2 w a len cap hs) (hb : Below w.heap.size w w') : Rd2 w' a len cap hs :=
 ⟨h.size, h.room, h.most, h.bare, fun i hi => by
  obtain ⟨b, off, ha, hc⟩ := h.cell i hi
  exact ⟨b, off, ha, (hb.cell (World.block_lt_of_cell? _ _ hc)).trans hc⟩⟩
structure Tbl (w : World) (a : Option Addr) (len cap : Nat) (hs : List Hd) (xss : List (List Int)) : Prop where
 rd : Rd2 w a len cap hs
 rows : ∀ i, i < len → Reads .i64 w (hs[i]?.getD (none, 0, 0)).1 (hs[i]?.getD (none, 0, 0)).2.1 (hs[i]?.getD (none, 0, 0)).2.2 (xss[i]?.getD [])
 short : ∀ i, i < len → (hs[i]?.getD (none, 0, 0)).2.1 ≤ 1000
theorem Tbl.below {w w' : World} {a : Option Addr} {len cap : Nat} {hs : List Hd} {xss : List (List Int)} (h : Tbl w a len cap hs xss) (hb : Below w.heap.size w w') : Tbl w' a len cap hs xss :=
 ⟨h.rd.below hb, fun i hi => (h.rows i hi).below hb, h.short⟩
def rowK (f : Nat → Int) (k : Nat) : List Int := (List.range k).map f
theorem rowK_len (f : Nat → Int) (k : Nat) : (rowK f k).length = k := by simp [rowK]
theorem rowK_snoc (f : Nat → Int) (k : Nat) : rowK f k ++ [f k] = rowK f (k + 1) := by unfold rowK; rw [List.range_succ, List.map_append]; rfl
theorem rowK_set (f : Nat → Int) {len k : Nat} (h : k < len) : (rowK f k ++ List.replicate (len - k) 0).set k (f k) = rowK f (k + 1) ++ List.replicate (len - (k + 1)) 0 := by
 rw [List.set_append_right _ _ (by rw [rowK_len]; omega), rowK_len, Nat.sub_self, ← rowK_snoc, List.append_assoc]
 congr 1
 rw [show len - k = len - (k + 1) + 1 by omega, List.replicate_succ]
 rfl
theorem own_below {base e size n : Nat} {v : Value} {xs : List Value} {w w' : World} (h : w.ownsRow base e size v n xs) (hb : Below w.heap.size w w') : w'.ownsRow base e size v n xs := by
 refine ⟨h.1, ?_⟩
 rcases h.2 with h' | ⟨g, c, cur, hv, hB, hg, rest⟩
 ·exact .inl h'
 ·exact .inr ⟨g, c, cur, hv, hB, (hb.block g (lt_of_block hg)).trans hg, rest⟩
theorem Reads.oneB {k : IntKind} (w : World) (x : Int) (t : TypeId) {B : Nat} (h : w.heap.size = B) : Reads k (w.alloc (.cells #[.int k x] t)) (some ⟨B, 0, none⟩) 1 1 [x] := by subst h; exact Reads.one _ _ _
theorem Reads.at {k : IntKind} {w : World} {b o len cap : Nat} {zs : List Int} (h : Reads k w (some ⟨b, o, none⟩) len cap zs) {i : Nat} (hi : i < len) : w.cell? ⟨b, o + i, none⟩ = some (.int k (zs[i]?.getD 0)) := by
 obtain ⟨b', o', e, c⟩ := h.cell i hi
 cases e
 exact c
end Go.Proofs.YtjgggialnegddaaGreat
namespace Go.Proofs.YtjgggialnegddaaGreat
open Go.RowKit
structure Fb (F : Nat → Prop) (w w' : World) : Prop where
 os : w'.os = w.os
 tape : w'.tape = w.tape
 output : w'.output = w.output
 size : w.heap.size ≤ w'.heap.size
 block : ∀ k, k < w.heap.size → ¬ F k → w'.heap[k]? = w.heap[k]?
theorem Fb.refl (F : Nat → Prop) (w : World) : Fb F w w := ⟨rfl, rfl, rfl, Nat.le_refl _, fun _ _ _ => rfl⟩
theorem Fb.of {F : Nat → Prop} {w w' : World} (h : Below w.heap.size w w') : Fb F w w' := ⟨h.os, h.tape, h.output, h.size, fun k hk _ => h.block k hk⟩
theorem Fb.trans {F G : Nat → Prop} {a b c : World} (h : Fb F a b) (k : Fb G b c) (hG : ∀ x, G x → F x ∨ a.heap.size ≤ x) : Fb F a c :=
 ⟨k.os.trans h.os, k.tape.trans h.tape, k.output.trans h.output, Nat.le_trans h.size k.size, fun i hi hn => (k.block i (Nat.lt_of_lt_of_le hi h.size) fun hg => (hG i hg).elim hn fun hl => by omega).trans (h.block i hi hn)⟩
theorem Fb.below {F : Nat → Prop} {a b c : World} (h : Fb F a b) (k : Below b.heap.size b c) : Fb F a c := h.trans (G := fun _ => False) (Fb.of k) fun x hx => hx.elim
theorem Fb.mono {F G : Nat → Prop} {a b : World} (h : Fb F a b) (hG : ∀ x, F x → G x) : Fb G a b := ⟨h.os, h.tape, h.output, h.size, fun k hk hn => h.block k hk fun hf => hn (hG k hf)⟩
theorem Fb.to {F : Nat → Prop} {a b : World} {B : Nat} (h : Fb F a b) (hF : ∀ x, F x → B ≤ x) (hB : B ≤ a.heap.size) : Below B a b :=
 ⟨h.os, h.tape, h.output, h.size, fun k hk => h.block k (by omega) fun hf => by have := hF k hf; omega⟩
theorem Fb.set {F : Nat → Prop} {w : World} {p : Addr} (hp : F p.block) (u : Value) : Fb F w (w.setCell p u) :=
 ⟨rfl, rfl, rfl, by simp [World.setCell], fun k _ hk => Below.heap_setCell _ _ _ _ (fun e => hk (e ▸ hp))⟩
theorem Fb.drew {F : Nat → Prop} {a b : World} (h : Fb F a b) : Fb F a b.drew := ⟨h.os, h.tape, h.output, h.size, h.block⟩
theorem Fb.one {F : Nat → Prop} {w w' : World} (h : Fb F w w') {B : Nat} {o : Obj} (hc : w.heap[B]? = some o) (hp : ¬ F B) : w'.heap[B]? = some o := (h.block B (lt_of_block hc) hp).trans hc
theorem Fb.cell {F : Nat → Prop} {w w' : World} (h : Fb F w w') {p : Addr} {v : Value} (hc : w.cell? p = some v) (hp : ¬ F p.block) : w'.cell? p = some v :=
 (World.cell?_of_block (w := w) (h.block p.block (World.block_lt_of_cell? _ _ hc) hp)).trans hc
theorem cells_two {W : World} {g : Nat} {x y : Value} {T : TypeId} (h : W.heap[g]? = some (.cells #[x, y] T (0, 0))) : W.cell? ⟨g, 0, none⟩ = some x ∧ W.cell? ⟨g, 1, none⟩ = some y :=
 ⟨by rw [cell_of_row _ _ _ _ _ _ h]; rfl, by rw [cell_of_row _ _ _ _ _ _ h]; rfl⟩
theorem wrap64_in {n : Int} (h0 : -9223372036854775808 ≤ n) (h1 : n ≤ 9223372036854775807) : IntKind.i64.wrap n = n := by
 rw [IntKind.wrap_i64]; omega
theorem block_bel {w w' : World} {k : Nat} {o : Obj} (h : w.heap[k]? = some o) (hb : Below w.heap.size w w') : w'.heap[k]? = some o := (hb.block k (lt_of_block h)).trans h
theorem row_set {w : World} {b k : Nat} {cs : Array Value} {u : Value} {T : TypeId} (h : w.heap[b]? = some (.cells cs T (0, 0))) : (w.setCell ⟨b, k, none⟩ u).heap[b]? = some (.cells (cs.setIfInBounds k u) T (0, 0)) := by
 have hlt := lt_of_block h
 have h' : w.heap[b] = .cells cs T (0, 0) := by simpa [Array.getElem?_eq_getElem hlt] using h
 show (w.heap.modify b _)[b]? = _
 rw [Array.getElem?_eq_getElem (by simpa using hlt), Array.getElem_modify_self, h']
 rfl
theorem own_blk {base e size n : Nat} {v : Value} {xs : List Value} {w w' : World} (h : w.ownsRow base e size v n xs) (hb : ∀ b, v.ownBlock = some b → w'.heap[b]? = w.heap[b]?) : w'.ownsRow base e size v n xs := by
 refine ⟨h.1, ?_⟩
 rcases id h.2 with h' | ⟨g, c, cur, hv, hB, hg, rest⟩
 ·exact .inl h'
 ·exact .inr ⟨g, c, cur, hv, hB, (hb g (by rw [hv]; rfl)).trans hg, rest⟩
def at1 (b : Nat) (k : Nat) : Prop := k = b
end Go.Proofs.YtjgggialnegddaaGreat
namespace Go.Proofs.YtjgggialnegddaaGreat
open Go.RowKit
theorem satwithin_any (n : Int) (w : World) :
  Calls Tryz.prog 243 #[.int .i64 n, .int .i64 (-2147483648), .int .i64 2147483647] w fun e w' => e = .returned (.int .i64 (wi n)) ∧ w' = w := by
 by_cases h0 : n < -2147483648
 ·go_enter Tryz.func243, Tryz.ntmps243
  go_wp2
  go_ret
  exact ⟨ret_int (by unfold wi; rw [if_pos h0]), rfl⟩
 ·by_cases h1 : n > 2147483647
  ·go_enter Tryz.func243, Tryz.ntmps243
   go_wp2
   go_ret
   exact ⟨ret_int (by unfold wi; rw [if_neg (by omega), if_pos (by omega)]), rfl⟩
  ·go_enter Tryz.func243, Tryz.ntmps243
   go_wp2
   go_ret
   exact ⟨ret_int (by unfold wi; rw [if_neg (by omega), if_neg (by omega)]), rfl⟩
theorem between_any (n : Int) (w : World) :
  Calls Tryz.prog 229 #[.int .i64 n, .int .i64 (-2147483648), .int .i64 2147483647] w fun e w' => e = .returned (.int .i64 (wi n)) ∧ w' = w := by
 go_enter Tryz.func229, Tryz.ntmps229
 go_wp2_with fail
 refine (satwithin_any _ _).mono ?_
 rintro e w' ⟨rfl, rfl⟩
 go_wp2
 go_ret
 exact ⟨rfl, rfl⟩
theorem within_any (n : Int) (w : World) : Calls Tryz.prog 205 #[.int .i64 n] w fun e w' => e = .returned (.int .i64 (wi n)) ∧ w' = w := by
 go_enter Tryz.func205, Tryz.ntmps205
 go_wp2_with fail
 refine (between_any _ _).mono ?_
 rintro e w' ⟨rfl, rfl⟩
 go_wp2
 go_ret
 exact ⟨rfl, rfl⟩
theorem add_any (a b : Int) (w : World) : Calls Tryz.prog 178 #[.int .i64 a, .int .i64 b] w fun e w' => e = .returned (.int .i64 (addZ a b)) ∧ w' = w := by
 have a0 := wi_0 a
 have a1 := wi_1 a
 have b0 := wi_0 b
 have b1 := wi_1 b
 go_enter Tryz.func178, Tryz.ntmps178
 go_wp2_with fail
 refine (within_any _ _).mono ?_
 rintro e w' ⟨rfl, rfl⟩
 go_wp2_with fail
 refine (within_any _ _).mono ?_
 rintro e w' ⟨rfl, rfl⟩
 go_wp2_with fail
 refine (within_any _ _).mono ?_
 rintro e w' ⟨rfl, rfl⟩
 go_wp2
 go_ret
 exact ⟨rfl, rfl⟩
theorem mul_any (a b : Int) (w : World) : Calls Tryz.prog 195 #[.int .i64 a, .int .i64 b] w fun e w' => e = .returned (.int .i64 (mulZ a b)) ∧ w' = w := by
 have p := prod_bd a b
 have p0 := p.1
 have p1 := p.2
 clear p
 go_enter Tryz.func195, Tryz.ntmps195
 go_wp2_with fail
 refine (within_any _ _).mono ?_
 rintro e w' ⟨rfl, rfl⟩
 go_wp2_with fail
 refine (within_any _ _).mono ?_
 rintro e w' ⟨rfl, rfl⟩
 go_wp2_with fail
 refine (within_any _ _).mono ?_
 rintro e w' ⟨rfl, rfl⟩
 go_wp2
 go_ret
 exact ⟨rfl, rfl⟩
theorem by_any (a b : Int) (w : World) (n0 : -4611686018427387904 ≤ a) (n1 : a ≤ 4611686018427387904) (hb : b ≠ 0) :
  Calls Tryz.prog 219 #[.int .i64 a, .int .i64 b] w fun e w' => e = .returned (.int .i64 (byZ a b)) ∧ w' = w := by
 have HB := hid (tdiv_bd a b (m := 4611686018427387904) n0 n1)
 by_cases ha : a < 0
 ·by_cases h : a.tmod b = 0
  ·have HQ := hid (quo_0 hb h)
   go_enter Tryz.func219, Tryz.ntmps219
   go_wp2
   go_ret
   refine ⟨ret_int ?_, rfl⟩
   unfold Hid at HQ HB
   rw [← HQ]
   generalize a.tdiv b = q at *
   unfold wrap64
   omega
  ·by_cases hb' : b < 0
   ·have HQ := hid (quo_like (a := a) hb (by omega))
    go_enter Tryz.func219, Tryz.ntmps219
    go_wp2
    go_ret
    refine ⟨ret_int ?_, rfl⟩
    unfold Hid at HQ HB
    rw [← HQ]
    generalize a.tdiv b = q at *
    unfold wrap64
    omega
   ·have HQ := hid (quo_unlike hb h (by omega))
    go_enter Tryz.func219, Tryz.ntmps219
    go_wp2
    go_ret
    refine ⟨ret_int ?_, rfl⟩
    unfold Hid at HQ HB
    rw [← HQ]
    generalize a.tdiv b = q at *
    unfold wrap64
    omega
 ·have e2 : a.tmod b = a % b := Int.tmod_eq_emod_of_nonneg (by omega)
  by_cases hb' : b < 0
  ·by_cases h : a % b = 0
   ·have HQ := hid (quo_0 hb (by rw [e2]; exact h))
    clear e2
    go_enter Tryz.func219, Tryz.ntmps219
    go_wp2
    go_ret
    refine ⟨ret_int ?_, rfl⟩
    unfold Hid at HQ HB
    rw [← HQ]
    generalize a.tdiv b = q at *
    unfold wrap64
    omega
   ·have HQ := hid (quo_unlike hb (by rw [e2]; exact h) (by omega))
    clear e2
    go_enter Tryz.func219, Tryz.ntmps219
    go_wp2
    go_ret
    refine ⟨ret_int ?_, rfl⟩
    unfold Hid at HQ HB
    rw [← HQ]
    generalize a.tdiv b = q at *
    unfold wrap64
    omega
  ·have HQ : Hid (a / b = byZ a b) := by unfold byZ; rw [if_neg hb']; exact rfl
   clear e2
   by_cases h : a % b = 0
   ·go_enter Tryz.func219, Tryz.ntmps219
    go_wp2
    go_ret
    exact ⟨ret_int HQ, rfl⟩
   ·go_enter Tryz.func219, Tryz.ntmps219
    go_wp2
    go_ret
    exact ⟨ret_int HQ, rfl⟩
theorem far_any (a : Int) (w : World) : Calls Tryz.prog 218 #[.int .i64 a] w fun e w' => e = .returned (.int .i64 (farZ a)) ∧ w' = w := by
 by_cases h0 : a > 0
 ·go_enter Tryz.func218, Tryz.ntmps218
  go_wp2
  go_ret
  exact ⟨ret_int (by unfold farZ; rw [if_pos (by omega)]), rfl⟩
 ·by_cases h1 : a < 0
  ·go_enter Tryz.func218, Tryz.ntmps218
   go_wp2
   go_ret
   exact ⟨ret_int (by unfold farZ; rw [if_neg (by omega), if_pos (by omega)]), rfl⟩
  ·go_enter Tryz.func218, Tryz.ntmps218
   go_wp2
   go_ret
   exact ⟨ret_int (by unfold farZ; rw [if_neg (by omega), if_neg (by omega)]), rfl⟩
theorem from_any (n : Int) (w : World) : Calls Tryz.prog 196 #[.int .i64 n] w fun e w' => e = .returned (.int .i64 (fromZ n)) ∧ w' = w := by
 have p0 := wi_0 n
 have p1 := wi_1 n
 go_enter Tryz.func196, Tryz.ntmps196
 go_wp2_with fail
 refine (within_any _ _).mono ?_
 rintro e w' ⟨rfl, rfl⟩
 go_wp2_with fail
 refine (within_any _ _).mono ?_
 rintro e w' ⟨rfl, rfl⟩
 go_wp2
 go_ret
 exact ⟨rfl, rfl⟩
theorem div_any (a b : Int) (w : World) : Calls Tryz.prog 194 #[.int .i64 a, .int .i64 b] w fun e w' => e = .returned (.int .i64 (divZ a b)) ∧ w' = w := by
 have a0 := wi_0 a
 have a1 := wi_1 a
 by_cases hb : wi b = 0
 ·have HQ : Hid (farZ (wi a) = divZ a b) := by unfold divZ; rw [if_pos hb]; exact rfl
  go_enter Tryz.func194, Tryz.ntmps194
  go_wp2_with fail
  refine (within_any _ _).mono ?_
  rintro e w' ⟨rfl, rfl⟩
  go_wp2_with fail
  refine (within_any _ _).mono ?_
  rintro e w' ⟨rfl, rfl⟩
  go_wp2_with fail
  refine (far_any _ _).mono ?_
  rintro e w' ⟨rfl, rfl⟩
  go_wp2
  go_ret
  exact ⟨ret_int HQ, rfl⟩
 ·have HQ : Hid (wi (byZ (wi a * 65536) (wi b)) = divZ a b) := by unfold divZ; rw [if_neg hb]; exact rfl
  go_enter Tryz.func194, Tryz.ntmps194
  go_wp2_with fail
  refine (within_any _ _).mono ?_
  rintro e w' ⟨rfl, rfl⟩
  go_wp2_with fail
  refine (within_any _ _).mono ?_
  rintro e w' ⟨rfl, rfl⟩
  go_wp2_with fail
  refine (by_any _ _ _ (by omega) (by omega) hb).mono ?_
  rintro e w' ⟨rfl, rfl⟩
  go_wp2_with fail
  refine (within_any _ _).mono ?_
  rintro e w' ⟨rfl, rfl⟩
  go_wp2
  go_ret
  exact ⟨ret_int HQ, rfl⟩
end Go.Proofs.YtjgggialnegddaaGreat
namespace Go.Proofs.YtjgggialnegddaaGreat
open Go.RowKit
def sx (n k : Int) : Int := bits .xor .u64 n (n / k)
def wr (n : Int) : Int := IntKind.u64.wrap n
def mixZ (n : Int) : Int := sx (wr (sx (wr (sx n 1073741824 * 13787848793156543929)) 134217728 * 10723151780598845931)) 2147483648
def atZ (s n : Int) : Int := mixZ (wr (s + wr (wr (n + 1) * 11400714819323198485)))
def upZ (a b : Int) : Int := a * b / 18446744073709551616
def belowZ (s n m : Int) : Int := upZ (atZ s n) m
def deriveZ (s : Int) (l : List Int) : Int := l.foldl atZ s
theorem wr_eq (n : Int) : wr n = n % 18446744073709551616 := IntKind.wrap_u64 n
theorem wr_0 (n : Int) : 0 ≤ wr n := by rw [wr_eq]; omega
theorem wr_1 (n : Int) : wr n ≤ 18446744073709551615 := by rw [wr_eq]; omega
theorem wr_in {n : Int} (h0 : 0 ≤ n) (h1 : n ≤ 18446744073709551615) : wr n = n := by rw [wr_eq]; omega
theorem div_0 {n k : Int} (h0 : 0 ≤ n) (k0 : 0 < k) : 0 ≤ n / k := Int.ediv_nonneg h0 (by omega)
theorem div_1 {n k : Int} (h0 : 0 ≤ n) (k0 : 0 < k) : n / k ≤ n := Int.ediv_le_self _ h0
theorem sx_nat {n k : Int} (h0 : 0 ≤ n) (h1 : n ≤ 18446744073709551615) (k0 : 0 < k) : sx n k = (n.toNat ^^^ (n / k).toNat : Nat) := by
 have := div_0 h0 k0
 have := div_1 h0 k0
 exact u64_xor _ _ h0 (by omega) (by omega) (by omega)
theorem xor_lt {a b : Nat} (ha : a < 18446744073709551616) (hb : b < 18446744073709551616) : a ^^^ b < 18446744073709551616 :=
 Nat.xor_lt_two_pow (n := 64) ha hb
theorem sx_bd {n k : Int} (h0 : 0 ≤ n) (h1 : n ≤ 18446744073709551615) (k0 : 0 < k) : 0 ≤ sx n k ∧ sx n k ≤ 18446744073709551615 := by
 have := div_0 h0 k0
 have := div_1 h0 k0
 rw [sx_nat h0 h1 k0]
 have := xor_lt (a := n.toNat) (b := (n / k).toNat) (by omega) (by omega)
 omega
theorem mix_bd (n : Int) : 0 ≤ mixZ n ∧ mixZ n ≤ 18446744073709551615 := sx_bd (wr_0 _) (wr_1 _) (by omega)
theorem at_bd (s n : Int) : 0 ≤ atZ s n ∧ atZ s n ≤ 18446744073709551615 := mix_bd _
theorem derive_snoc (s : Int) (l : List Int) (x : Int) : deriveZ s (l ++ [x]) = atZ (deriveZ s l) x := by unfold deriveZ; rw [List.foldl_append]; rfl
/-! ### The product's upper half -/
theorem and_low {a : Int} (h0 : 0 ≤ a) (h1 : a ≤ 18446744073709551615) : bits .and .u64 a 4294967295 = a % 4294967296 := by
 rw [u64_and _ _ h0 (by omega) (by omega) (by omega)]
 rw [show (4294967295 : Int).toNat = 2 ^ 32 - 1 from rfl, Nat.and_two_pow_sub_one_eq_mod]
 omega
theorem up_parts {p q r s : Int} (p0 : 0 ≤ p) (p1 : p ≤ 18446744065119617025) (q0 : 0 ≤ q) (q1 : q ≤ 18446744065119617025) (r0 : 0 ≤ r) (r1 : r ≤ 18446744065119617025) (s0 : 0 ≤ s) (s1 : s ≤ 18446744065119617025) :
  s + (q + p / 4294967296) / 4294967296 + ((q + p / 4294967296) % 4294967296 + r) / 4294967296 = (s * 18446744073709551616 + (q + r) * 4294967296 + p) / 18446744073709551616 := by
 omega
theorem half_bd {a b : Int} (a0 : 0 ≤ a) (a1 : a ≤ 4294967295) (b0 : 0 ≤ b) (b1 : b ≤ 4294967295) : 0 ≤ a * b ∧ a * b ≤ 18446744065119617025 :=
 ⟨Int.mul_nonneg a0 b0, Int.le_trans (Int.mul_le_mul a1 b1 b0 (by omega)) (by omega)⟩
theorem split_mul (a b : Int) : a * b = (a / 4294967296) * (b / 4294967296) * 18446744073709551616 + ((a / 4294967296) * (b % 4294967296) + (a % 4294967296) * (b / 4294967296)) * 4294967296 + (a % 4294967296) * (b % 4294967296) := by
 have ha : a = a / 4294967296 * 4294967296 + a % 4294967296 := by omega
 have hb : b = b / 4294967296 * 4294967296 + b % 4294967296 := by omega
 generalize a / 4294967296 = a1 at *
 generalize a % 4294967296 = a0 at *
 generalize b / 4294967296 = b1 at *
 generalize b % 4294967296 = b0 at *
 subst ha hb
 rw [Int.add_mul, Int.mul_add, Int.mul_add, Int.add_mul]
 have e1 : a1 * 4294967296 * (b1 * 4294967296) = a1 * b1 * 18446744073709551616 := by
  rw [Int.mul_assoc, Int.mul_left_comm 4294967296 b1, ← Int.mul_assoc]; rfl
 have e2 : a1 * 4294967296 * b0 = a1 * b0 * 4294967296 := by rw [Int.mul_assoc, Int.mul_comm 4294967296 b0, ← Int.mul_assoc]
 have e3 : a0 * (b1 * 4294967296) = a0 * b1 * 4294967296 := by rw [← Int.mul_assoc]
 rw [e1, e2, e3]
 omega
theorem up_eq {a b : Int} (a0 : 0 ≤ a) (a1 : a ≤ 18446744073709551615) (b0 : 0 ≤ b) (b1 : b ≤ 18446744073709551615) :
  wr (wr (wr (a / 4294967296 * (b / 4294967296)) + wr (wr (a / 4294967296 * (b % 4294967296)) + wr (a % 4294967296 * (b % 4294967296)) / 4294967296) / 4294967296) +
   wr (wr (wr (a / 4294967296 * (b % 4294967296)) + wr (a % 4294967296 * (b % 4294967296)) / 4294967296) % 4294967296 + wr (a % 4294967296 * (b / 4294967296))) / 4294967296) = upZ a b := by
 have P := half_bd (a := a % 4294967296) (b := b % 4294967296) (by omega) (by omega) (by omega) (by omega)
 have Q := half_bd (a := a / 4294967296) (b := b % 4294967296) (by omega) (by omega) (by omega) (by omega)
 have R := half_bd (a := a % 4294967296) (b := b / 4294967296) (by omega) (by omega) (by omega) (by omega)
 have S := half_bd (a := a / 4294967296) (b := b / 4294967296) (by omega) (by omega) (by omega) (by omega)
 unfold upZ
 rw [split_mul a b]
 generalize a / 4294967296 * (b / 4294967296) = s at *
 generalize a / 4294967296 * (b % 4294967296) = q at *
 generalize a % 4294967296 * (b / 4294967296) = r at *
 generalize a % 4294967296 * (b % 4294967296) = p at *
 rw [← up_parts P.1 P.2 Q.1 Q.2 R.1 R.2 S.1 S.2]
 rw [wr_in P.1 (by omega), wr_in Q.1 (by omega), wr_in R.1 (by omega), wr_in S.1 (by omega)]
 rw [wr_in (n := q + p / 4294967296) (by omega) (by omega)]
 rw [wr_in (n := (q + p / 4294967296) % 4294967296 + r) (by omega) (by omega)]
 rw [wr_in (n := s + (q + p / 4294967296) / 4294967296) (by omega) (by omega)]
 exact wr_in (by omega) (by omega)
theorem up_lt {a b : Int} (a0 : 0 ≤ a) (a1 : a ≤ 18446744073709551615) (b0 : 0 < b) : upZ a b < b := by
 unfold upZ
 refine Int.ediv_lt_of_lt_mul (by omega) ?_
 rw [Int.mul_comm b]
 exact Int.mul_lt_mul_of_pos_right (by omega) b0
theorem up_0 {a b : Int} (a0 : 0 ≤ a) (b0 : 0 ≤ b) : 0 ≤ upZ a b := Int.ediv_nonneg (Int.mul_nonneg a0 b0) (by omega)
theorem below_bd (s n : Int) {m : Int} (m0 : 0 < m) : 0 ≤ belowZ s n m ∧ belowZ s n m < m := ⟨up_0 (at_bd _ _).1 (by omega), up_lt (at_bd _ _).1 (at_bd _ _).2 m0⟩
/-! ### The way back -/
end Go.Proofs.YtjgggialnegddaaGreat
namespace Go.Proofs.YtjgggialnegddaaGreat
open Go.RowKit
theorem mix_any (n : Int) (w : World) (n0 : 0 ≤ n) (n1 : n ≤ 18446744073709551615) :
  Calls Tryz.prog 241 #[.int .u64 n] w fun e w' => e = .returned (.int .u64 (mixZ n)) ∧ w' = w := by
 go_enter Tryz.func241, Tryz.ntmps241
 go_wp2
 go_ret
 exact ⟨rfl, rfl⟩
theorem at_any (s n : Int) (w : World) :
  Calls Tryz.prog 221 #[.int .u64 s, .int .u64 n] w fun e w' => e = .returned (.int .u64 (atZ s n)) ∧ w' = w := by
 go_enter Tryz.func221, Tryz.ntmps221
 go_wp2_with fail
 refine (mix_any _ _ (wr_0 _) (wr_1 _)).mono ?_
 rintro e w' ⟨rfl, rfl⟩
 go_wp2
 go_ret
 exact ⟨rfl, rfl⟩
theorem mul64_any (a b : Int) (w : World) (a0 : 0 ≤ a) (a1 : a ≤ 18446744073709551615) (b0 : 0 ≤ b) (b1 : b ≤ 18446744073709551615) :
  Calls Tryz.prog 220 #[.int .u64 a, .int .u64 b] w fun e w' => e = .returned (.tuple #[.int .u64 (upZ a b), .int .u64 (wr (a * b))]) ∧ w' = w := by
 have HA : Hid (bits .and .u64 a 4294967295 = a % 4294967296) := and_low a0 a1
 have HB : Hid (bits .and .u64 b 4294967295 = b % 4294967296) := and_low b0 b1
 have HU := hid (up_eq a0 a1 b0 b1)
 have HT : Hid (bits .and .u64 (wr (wr (a / 4294967296 * (b % 4294967296)) + wr (a % 4294967296 * (b % 4294967296)) / 4294967296)) 4294967295 = wr (wr (a / 4294967296 * (b % 4294967296)) + wr (a % 4294967296 * (b % 4294967296)) / 4294967296) % 4294967296) := and_low (wr_0 _) (wr_1 _)
 go_enter Tryz.func220, Tryz.ntmps220
 go_wp2
 go_ret2
 refine ⟨?_, rfl⟩
 unfold Hid at HA HB HU HT
 unfold wr at HT HU
 rw [HA, HB, HT, HU]
 rfl
theorem dbelow_any (s n m : Int) (w : World) (m0 : 0 ≤ m) (m1 : m ≤ 18446744073709551615) :
  Calls Tryz.prog 197 #[.int .u64 s, .int .u64 n, .int .u64 m] w fun e w' => e = .returned (.int .u64 (belowZ s n m)) ∧ w' = w := by
 go_enter Tryz.func197, Tryz.ntmps197
 go_wp2_with fail
 refine (at_any _ _ _).mono ?_
 rintro e w' ⟨rfl, rfl⟩
 go_wp2_with fail
 refine (mul64_any _ _ _ (at_bd _ _).1 (at_bd _ _).2 m0 m1).mono ?_
 rintro e w' ⟨rfl, rfl⟩
 go_wp2
 go_ret
 exact ⟨rfl, rfl⟩
end Go.Proofs.YtjgggialnegddaaGreat
