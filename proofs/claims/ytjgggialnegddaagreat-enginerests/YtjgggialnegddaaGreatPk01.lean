/-
  Math: Mathematics of the numbers with 16 bits behind the point: a number within the bounds (wi), sum, product, quotient, power of e (expZ) and square root (rootB, bit by bit), and what follows of them.
  Reads: What it says that a slice reads as a list of numbers (Reads), and how that is carried from one state of memory to a later one, to a part of the slice, and out of an argument or a row that the call owns.
  Base: What the texts of a seat stand on: a frame that says which blocks a callee may have turned (But), rows of numbers that the call owns (OwnK), a slice of slices (Rd2), tables (Tbl), appends, and the statements' own 'same'.
  Frames: A frame for calls that turn what lies at a pointer: of the blocks that are there only those of F may have turned (Fb).
  KvMap: A map from arrays of ints to pointers, as a function (MvAt): looked up, stored into, struck, counted; the array that a part of a text makes (keyV).
  KvKey: LAB: the array that a part of a text makes (the trial's keyOf): a copy into an array.
  KvMath: Mathematics of layer 14's document: entries (tokens, last use) as a list; beginnings, where an entry stands, what is found, which leaf goes, what a text that is put makes of them.
  KvMath2: Mathematics of layer 14: the document's Put, round by round (putK).
  KvMath3: Mathematics of layer 14: what is true of the entries of a cache (OkE: their lengths, their beginnings, no doubles; OkU: their last uses), and that Find and Put keep it; how long the longest one is that is found; how many become entries.
  KvMath4: Mathematics of layer 14: all that is true of a cache (OkK), kept by Find, Put and Clear.
  KvMath5: Mathematics of layer 14: an entry's children in a tree; a leaf is an entry without children; who goes is named by being the least used.
-/
import Derived.Test.YtjgggialnegddaaGreatRows
import Derived.WalkKit
import Derived.ProofKit
import Derived.Below
import Derived.OpenShut
import Derived.Laws.BytesArg
import Derived.Laws.AppendOwnNone
import Derived.Handy
import Derived.Laws.OwnMore
import Derived.OwnWalk
import Derived.OneCell
import Derived.Deep.RegionHeld3
import Derived.Shelf.Abstract
import Derived.Deep.AppendLies
import Derived.Deep.RegionLaw
import Derived.Maps.Own
import Derived.Maps.OwnOps
import Derived.Maps.Views
import Derived.Maps.OwnSet
import Derived.DeepKeys4
import Derived.MapViews
import Derived.Laws.CopyOwn
namespace Go.Proofs.YtjgggialnegddaaGreat
open Go.RowKit
set_option linter.unusedVariables false
set_option maxRecDepth 1000000

theorem hid {p : Prop} (h : p) : Hid p := h
theorem ret_int {k : IntKind} {a b : Int} (h : a = b) : Ending.returned (.int k a) = .returned (.int k b) := by rw [h]

/-- A number within the bounds. -/
def wi (n : Int) : Int := if n < -2147483648 then -2147483648 else if n > 2147483647 then 2147483647 else n
theorem wi_0 (n : Int) : -2147483648 ≤ wi n := by unfold wi; split <;> (try split) <;> omega
theorem wi_1 (n : Int) : wi n ≤ 2147483647 := by unfold wi; split <;> (try split) <;> omega
theorem wi_in {n : Int} (h0 : -2147483648 ≤ n) (h1 : n ≤ 2147483647) : wi n = n := by unfold wi; rw [if_neg (by omega), if_neg (by omega)]
theorem wi_wi (n : Int) : wi (wi n) = wi n := wi_in (wi_0 n) (wi_1 n)
theorem wi_le {a b : Int} (h : a ≤ b) : wi a ≤ wi b := by unfold wi; split <;> split <;> (try split) <;> (try split) <;> omega

/-- The greatest whole number that is not above the quotient. -/
def byZ (a b : Int) : Int := if b < 0 then -a / -b else a / b
/-- The bound on the side of a number. -/
def farZ (a : Int) : Int := if a > 0 then 2147483647 else if a < 0 then -2147483648 else 0
def addZ (a b : Int) : Int := wi (wi a + wi b)
def mulZ (a b : Int) : Int := wi (wi a * wi b / 65536)
def divZ (a b : Int) : Int := if wi b = 0 then farZ (wi a) else wi (byZ (wi a * 65536) (wi b))
def fromZ (n : Int) : Int := wi (wi n * 65536)
def floorZ (n : Int) : Int := wi n / 65536

theorem addZ_comm (a b : Int) : addZ a b = addZ b a := by unfold addZ; rw [Int.add_comm]
theorem mulZ_comm (a b : Int) : mulZ a b = mulZ b a := by unfold mulZ; rw [Int.mul_comm]
theorem addZ_0 (a : Int) : addZ a 0 = wi a := by unfold addZ; rw [show wi 0 = 0 from rfl, Int.add_zero, wi_wi]
theorem mulZ_one (a : Int) : mulZ a 65536 = wi a := by
  unfold mulZ; rw [show wi 65536 = 65536 from rfl, Int.mul_ediv_cancel _ (by omega), wi_wi]
theorem divZ_one (a : Int) : divZ a 65536 = wi a := by
  unfold divZ byZ; rw [show wi 65536 = 65536 from rfl, if_neg (by omega), if_neg (by omega), Int.mul_ediv_cancel _ (by omega), wi_wi]

/-- A product of two numbers within the bounds. -/
theorem prod_bd (a b : Int) : -4611686018427387904 ≤ wi a * wi b ∧ wi a * wi b ≤ 4611686018427387904 := by
  have a0 := wi_0 a
  have a1 := wi_1 a
  have b0 := wi_0 b
  have b1 := wi_1 b
  generalize wi a = x at *
  generalize wi b = y at *
  have h1 : 0 ≤ (2147483648 - x) * (2147483648 + y) := Int.mul_nonneg (by omega) (by omega)
  have h2 : 0 ≤ (2147483648 + x) * (2147483648 - y) := Int.mul_nonneg (by omega) (by omega)
  have h3 : 0 ≤ (2147483648 - x) * (2147483648 - y) := Int.mul_nonneg (by omega) (by omega)
  have h4 : 0 ≤ (2147483648 + x) * (2147483648 + y) := Int.mul_nonneg (by omega) (by omega)
  simp only [Int.sub_mul, Int.add_mul, Int.mul_sub, Int.mul_add] at h1 h2 h3 h4
  rw [Int.mul_comm x 2147483648] at *
  omega

/-- The language's quotient, gone down where it was cut up. -/
theorem quo_pos {n d : Int} (hd : 0 < d) : (if n.tmod d < 0 then n.tdiv d - 1 else n.tdiv d) = n / d := by
  by_cases hn : 0 ≤ n
  · rw [Int.tmod_eq_emod_of_nonneg hn, Int.tdiv_eq_ediv_of_nonneg hn, if_neg]
    have := Int.emod_nonneg n (b := d) (by omega)
    omega
  · have e1 : n.tdiv d = -((-n) / d) := by rw [← Int.tdiv_eq_ediv_of_nonneg (by omega), Int.neg_tdiv, Int.neg_neg]
    have e2 : n.tmod d = -((-n) % d) := by rw [← Int.tmod_eq_emod_of_nonneg (by omega), Int.neg_tmod, Int.neg_neg]
    have e3 := Int.mul_ediv_add_emod (-n) d
    have e4 := Int.emod_nonneg (-n) (b := d) (by omega)
    have e5 := Int.emod_lt_of_pos (-n) hd
    rw [e1, e2]
    generalize -n / d = q at *
    generalize -n % d = r at *
    split
    · refine (Int.ediv_eq_iff_of_pos hd).mpr ?_ |>.symm
      rw [Int.sub_mul, Int.neg_mul, Int.mul_comm q d] 
      constructor <;> omega
    · refine (Int.ediv_eq_iff_of_pos hd).mpr ?_ |>.symm
      rw [Int.neg_mul, Int.mul_comm q d]
      constructor <;> omega
theorem tmod_neg_iff {n d : Int} (hd : 0 < d) : n.tmod d < 0 ↔ n.tmod d ≠ 0 ∧ n < 0 := by
  by_cases hn : 0 ≤ n
  · rw [Int.tmod_eq_emod_of_nonneg hn]
    have := Int.emod_nonneg n (b := d) (by omega)
    omega
  · have e2 : n.tmod d = -((-n) % d) := by rw [← Int.tmod_eq_emod_of_nonneg (by omega), Int.neg_tmod, Int.neg_neg]
    have e4 := Int.emod_nonneg (-n) (b := d) (by omega)
    rw [e2]
    omega
theorem quo_0 {a b : Int} (hb : b ≠ 0) (h : a.tmod b = 0) : a.tdiv b = byZ a b := by
  unfold byZ
  split
  · rw [← quo_pos (n := -a) (d := -b) (by omega), Int.neg_tmod, Int.tmod_neg, h, if_neg (by omega), Int.neg_tdiv, Int.tdiv_neg, Int.neg_neg]
  · rw [← quo_pos (n := a) (d := b) (by omega), h, if_neg (by omega)]
theorem quo_like {a b : Int} (hb : b ≠ 0) (h : a < 0 ↔ b < 0) : a.tdiv b = byZ a b := by
  unfold byZ
  split
  · rw [← quo_pos (n := -a) (d := -b) (by omega), if_neg, Int.neg_tdiv, Int.tdiv_neg, Int.neg_neg]
    rw [tmod_neg_iff (by omega)]
    omega
  · rw [← quo_pos (n := a) (d := b) (by omega), if_neg]
    rw [tmod_neg_iff (by omega)]
    omega
theorem quo_unlike {a b : Int} (hb : b ≠ 0) (h : a.tmod b ≠ 0) (h' : ¬(a < 0 ↔ b < 0)) : a.tdiv b - 1 = byZ a b := by
  unfold byZ
  have h0 : a ≠ 0 := by rintro rfl; simp at h
  split
  · rw [← quo_pos (n := -a) (d := -b) (by omega), if_pos, Int.neg_tdiv, Int.tdiv_neg, Int.neg_neg]
    rw [tmod_neg_iff (by omega), Int.neg_tmod, Int.tmod_neg]
    omega
  · rw [← quo_pos (n := a) (d := b) (by omega), if_pos]
    rw [tmod_neg_iff (by omega)]
    omega
theorem tdiv_bd (a b : Int) {m : Int} (h0 : -m ≤ a) (h1 : a ≤ m) : -m ≤ a.tdiv b ∧ a.tdiv b ≤ m := by
  have := Int.natAbs_tdiv_le_natAbs a b
  omega

/-! ### Powers -/
/-- 2 to the power of a part of One. -/
def pw (f : Int) : Int := 65536 + f * (43691 + f * 21845 / 65536) / 65536
/-- A number times a power of 2, within the bounds. -/
def liftZ (p k : Int) : Int := if k ≥ 16 then 2147483647 else if k < 0 then p / 2 ^ (-k).toNat else wi (p * 2 ^ k.toNat)
/-- e to the power of a number. -/
def expZ (x : Int) : Int := liftZ (pw (wi x * 94548 / 65536 % 65536)) (wi x * 94548 / 65536 / 65536)

theorem pw_le {f g : Int} (f0 : 0 ≤ f) (h : f ≤ g) : pw f ≤ pw g := by
  unfold pw
  have h1 : f * 21845 / 65536 ≤ g * 21845 / 65536 := by omega
  have h2 : f * (43691 + f * 21845 / 65536) ≤ g * (43691 + g * 21845 / 65536) := Int.mul_le_mul h (by omega) (by omega) (by omega)
  omega
theorem pw_0 : pw 0 = 65536 := by decide
theorem pw_bd {f : Int} (f0 : 0 ≤ f) (f1 : f < 65536) : 65536 ≤ pw f ∧ pw f ≤ 131072 := by
  have h1 := pw_le (Int.le_refl 0) f0
  have h2 := pw_le f0 (show f ≤ 65535 by omega)
  rw [pw_0] at h1
  rw [show pw 65535 = 131070 from by decide] at h2
  omega
theorem part_bd {f : Int} (f0 : 0 ≤ f) (f1 : f < 65536) : 0 ≤ f * (43691 + f * 21845 / 65536) ∧ f * (43691 + f * 21845 / 65536) ≤ 4294967296 :=
  ⟨Int.mul_nonneg f0 (by omega), Int.le_trans (Int.mul_le_mul (show f ≤ 65536 by omega) (show 43691 + f * 21845 / 65536 ≤ 65536 by omega) (by omega) (by omega)) (by omega)⟩

theorem two_pos (n : Nat) : (0 : Int) < 2 ^ n := Int.pow_pos (by omega)
theorem two_le {m n : Nat} (h : m ≤ n) : (2 : Int) ^ m ≤ 2 ^ n := by
  induction h with
  | refl => exact Int.le_refl _
  | step _ ih => rw [Int.pow_succ]; have := two_pos m; omega
theorem liftZ_p {p q : Int} (k : Int) (h : p ≤ q) : liftZ p k ≤ liftZ q k := by
  unfold liftZ
  split
  · omega
  · split
    · exact Int.ediv_le_ediv (two_pos _) h
    · exact wi_le (Int.mul_le_mul_of_nonneg_right h (Int.le_of_lt (two_pos _)))
theorem liftZ_k (k : Int) : liftZ 131072 k ≤ liftZ 65536 (k + 1) := by
  unfold liftZ
  by_cases h16 : k ≥ 16
  · rw [if_pos h16, if_pos (by omega)]; omega
  · by_cases h15 : k = 15
    · subst h15; decide
    · rw [if_neg h16, if_neg (show ¬ k + 1 ≥ 16 by omega)]
      by_cases hm : k = -1
      · subst hm; decide
      · by_cases h0 : k < 0
        · rw [if_pos h0, if_pos (by omega)]
          rw [show (-k).toNat = (-(k + 1)).toNat + 1 by omega, Int.pow_succ, show (131072 : Int) = 65536 * 2 from rfl, Int.mul_ediv_mul_of_pos_left _ _ (by omega)]
          omega
        · rw [if_neg h0, if_neg (by omega), show (k + 1).toNat = k.toNat + 1 by omega, Int.pow_succ, show (131072 : Int) * 2 ^ k.toNat = 65536 * (2 ^ k.toNat * 2) by omega]
          omega
theorem liftZ_up (k : Int) (n : Nat) : liftZ 65536 k ≤ liftZ 65536 (k + n) := by
  induction n with
  | zero => simp
  | succ n ih =>
    refine Int.le_trans ih (Int.le_trans (liftZ_p _ (show (65536 : Int) ≤ 131072 by omega)) ?_)
    have := liftZ_k (k + n)
    rw [show k + ((n + 1 : Nat) : Int) = k + n + 1 by omega]
    exact this
theorem expZ_le {a b : Int} (h : a ≤ b) : expZ a ≤ expZ b := by
  unfold expZ
  have hw := wi_le h
  have hy : wi a * 94548 / 65536 ≤ wi b * 94548 / 65536 := by omega
  generalize wi a * 94548 / 65536 = y at *
  generalize wi b * 94548 / 65536 = z at *
  by_cases hk : y / 65536 = z / 65536
  · rw [hk]
    exact liftZ_p _ (pw_le (by omega) (by omega))
  · have p1 := pw_bd (f := y % 65536) (by omega) (by omega)
    have p2 := pw_bd (f := z % 65536) (by omega) (by omega)
    refine Int.le_trans (liftZ_p _ p1.2) (Int.le_trans (liftZ_k _) (Int.le_trans ?_ (liftZ_p _ p2.1)))
    have := liftZ_up (y / 65536 + 1) (z / 65536 - (y / 65536 + 1)).toNat
    rw [show y / 65536 + 1 + (((z / 65536 - (y / 65536 + 1)).toNat : Nat) : Int) = z / 65536 by omega] at this
    exact this
theorem wi_nn {n : Int} (h : 0 ≤ n) : 0 ≤ wi n := by have := wi_le h; rwa [show wi 0 = 0 from rfl] at this
theorem liftZ_nn {p : Int} (k : Int) (h : 0 ≤ p) : 0 ≤ liftZ p k := by
  unfold liftZ
  split
  · omega
  · split
    · exact Int.ediv_nonneg h (Int.le_of_lt (two_pos _))
    · exact wi_nn (Int.mul_nonneg h (Int.le_of_lt (two_pos _)))
theorem liftZ_bd {p : Int} (k : Int) (h : 0 ≤ p) (h1 : p ≤ 131072) : liftZ p k ≤ 2147483647 := by
  unfold liftZ
  split
  · omega
  · split
    · exact Int.le_trans (Int.ediv_le_self _ h) (by omega)
    · exact wi_1 _
theorem expZ_bd (x : Int) : 0 ≤ expZ x ∧ expZ x ≤ 2147483647 := by
  unfold expZ
  have p := pw_bd (f := wi x * 94548 / 65536 % 65536) (by omega) (by omega)
  exact ⟨liftZ_nn _ (by omega), liftZ_bd _ (by omega) (by omega)⟩
/-- A number that is small enough goes to 0. -/
theorem lift_far {p : Int} (p0 : 0 ≤ p) (p1 : p ≤ 131072) {n : Nat} (h : 18 ≤ n) : p / 2 ^ n = 0 := by
  refine Int.ediv_eq_zero_of_lt p0 (Int.lt_of_lt_of_le (show p < 2 ^ 18 by omega) ?_)
  exact two_le h

/-! ### Roots -/
/-- The root of n, its first bits being s, from the bit i on. -/
def rootB (n : Int) : Nat → Int → Int
  | 0, s => s
  | i + 1, s => rootB n i (if (s + 2 ^ i) * (s + 2 ^ i) ≤ n then s + 2 ^ i else s)
/-- s is the root of n. -/
def Root (n s : Int) : Prop := 0 ≤ s ∧ s * s ≤ n ∧ n < (s + 1) * (s + 1)
theorem rootB_root {n : Int} (i : Nat) : ∀ {s : Int}, 0 ≤ s → s * s ≤ n → n < (s + 2 ^ i) * (s + 2 ^ i) → Root n (rootB n i s) := by
  induction i with
  | zero => intro s h0 h1 h2; exact ⟨h0, h1, h2⟩
  | succ i ih =>
    intro s h0 h1 h2
    have := two_pos i
    unfold rootB
    split
    · refine ih (by omega) (by assumption) ?_
      rw [Int.pow_succ] at h2
      rw [show s + 2 ^ i + 2 ^ i = s + 2 ^ i * 2 by omega]
      exact h2
    · exact ih h0 h1 (by omega)
theorem rootB_neg {n : Int} (h : n < 0) (i : Nat) : rootB n i 0 = 0 := by
  induction i with
  | zero => rfl
  | succ i ih =>
    unfold rootB
    rw [if_neg]
    · exact ih
    · have := two_pos i
      have := Int.mul_nonneg (a := 0 + 2 ^ i) (b := 0 + 2 ^ i) (by omega) (by omega)
      omega
theorem Root.lt {n r s : Int} (hr : Root n r) (hs : Root n s) : ¬ r < s := by
  intro h
  have h1 : (r + 1) * (r + 1) ≤ s * s := Int.mul_le_mul (by omega) (by omega) (by have := hr.1; omega) hs.1
  have := hr.2.2
  have := hs.2.1
  omega
theorem Root.one {n r s : Int} (hr : Root n r) (hs : Root n s) : r = s := by
  have := hr.lt hs
  have := hs.lt hr
  omega
/-- The square root of a number. -/
def sqrtZ (x : Int) : Int := rootB (wi x * 65536) 24 0
theorem sq_lt {n : Int} (i : Nat) (hi : 24 ≤ i) (h : n < 281474976710656) : n < (0 + 2 ^ i) * (0 + 2 ^ i) := by
  have h1 : (16777216 : Int) ≤ 2 ^ i := two_le hi
  have h2 : (16777216 : Int) * 16777216 ≤ (0 + 2 ^ i) * (0 + 2 ^ i) := Int.mul_le_mul (by omega) (by omega) (by omega) (by omega)
  omega
theorem sqrtZ_root {x : Int} (h : 0 ≤ wi x) : Root (wi x * 65536) (sqrtZ x) :=
  rootB_root 24 (Int.le_refl 0) (by omega) (sq_lt 24 (by omega) (by have := wi_1 x; omega))
theorem sqrtZ_neg {x : Int} (h : wi x < 0) : sqrtZ x = 0 := rootB_neg (by omega) 24
theorem sqrtZ_eq (x : Int) : rootB (wi x * 65536) 32 0 = sqrtZ x := by
  by_cases h : wi x < 0
  · rw [sqrtZ_neg h]; exact rootB_neg (by omega) 32
  · exact (rootB_root 32 (Int.le_refl 0) (by omega) (sq_lt 32 (by omega) (by have := wi_1 x; omega))).one (sqrtZ_root (by omega))
theorem sq_small {t n : Int} (h : t * t ≤ n) (hn : n < 281474976710656) : t < 16777216 := by
  refine Int.not_le.mp fun hc => ?_
  have : (16777216 : Int) * 16777216 ≤ t * t := Int.mul_le_mul hc hc (by omega) (by omega)
  omega
end Go.Proofs.YtjgggialnegddaaGreat
namespace Go.Proofs.YtjgggialnegddaaGreat
open Go.RowKit
set_option linter.unusedVariables false
set_option maxRecDepth 1000000

/-- Each is a byte. -/
def IsBytes (zs : List Int) : Prop := ∀ x ∈ zs, 0 ≤ x ∧ x ≤ 255
/-- Each is a number of 64 bits without a sign. -/
def IsU64s (zs : List Int) : Prop := ∀ x ∈ zs, 0 ≤ x ∧ x ≤ 18446744073709551615

theorem IsBytes.at {zs : List Int} (h : IsBytes zs) (i : Nat) : 0 ≤ zs[i]?.getD 0 ∧ zs[i]?.getD 0 ≤ 255 := by
  rcases Nat.lt_or_ge i zs.length with hi | hi
  · rw [List.getElem?_eq_getElem hi]; exact h _ (List.getElem_mem hi)
  · rw [List.getElem?_eq_none hi]; simp
theorem IsU64s.at {zs : List Int} (h : IsU64s zs) (i : Nat) : 0 ≤ zs[i]?.getD 0 ∧ zs[i]?.getD 0 ≤ 18446744073709551615 := by
  rcases Nat.lt_or_ge i zs.length with hi | hi
  · rw [List.getElem?_eq_getElem hi]; exact h _ (List.getElem_mem hi)
  · rw [List.getElem?_eq_none hi]; simp
theorem IsBytes.append {xs ys : List Int} (h : IsBytes xs) (k : IsBytes ys) : IsBytes (xs ++ ys) := fun x hx => (List.mem_append.1 hx).elim (h x) (k x)
theorem IsBytes.drop {xs : List Int} (h : IsBytes xs) (n : Nat) : IsBytes (xs.drop n) := fun x hx => h x (List.mem_of_mem_drop hx)
theorem IsBytes.take {xs : List Int} (h : IsBytes xs) (n : Nat) : IsBytes (xs.take n) := fun x hx => h x (List.mem_of_mem_take hx)

/-- The slice reads as these numbers. -/
structure Reads (k : IntKind) (w : World) (a : Option Addr) (len cap : Nat) (zs : List Int) : Prop where
  size : zs.length = len
  room : len ≤ cap
  most : cap ≤ 9223372036854775807
  bare : a = none → len = 0 ∧ cap = 0
  cell : ∀ i, i < len → ∃ b off, a = some ⟨b, off, none⟩ ∧ w.cell? ⟨b, off + i, none⟩ = some (.int k (zs[i]?.getD 0))

theorem Reads.nil (k : IntKind) (w : World) : Reads k w none 0 0 [] := ⟨rfl, Nat.le_refl _, by omega, fun _ => ⟨rfl, rfl⟩, fun i hi => by omega⟩

theorem Reads.below {k : IntKind} {w w' : World} {a : Option Addr} {len cap : Nat} {zs : List Int} (h : Reads k w a len cap zs) (hb : Below w.heap.size w w') : Reads k w' a len cap zs :=
  ⟨h.size, h.room, h.most, h.bare, fun i hi => by
    obtain ⟨b, off, ha, hc⟩ := h.cell i hi
    exact ⟨b, off, ha, (hb.cell (World.block_lt_of_cell? _ _ hc)).trans hc⟩⟩

/-- The cells that an append of the slice reads. -/
theorem Reads.news {k : IntKind} {w : World} {a : Addr} {len cap : Nat} {zs : List Int} (h : Reads k w (some a) len cap zs) :
    ∀ j u, (zs.map (Value.int k))[j]? = some u → w.cell? (a.add j) = some u := by
  intro j u hu
  have hj : j < zs.length := by
    have := (List.getElem?_eq_some_iff.1 hu).1
    simpa using this
  obtain ⟨b, off, ha, hc⟩ := h.cell j (by rw [← h.size]; exact hj)
  obtain rfl := Option.some.inj ha
  rw [Addr.add_lit, hc]
  simp [hj] at hu ⊢
  exact hu

/-- A part of the slice, from a place ahead of its end on. -/
theorem Reads.tail {k : IntKind} {w : World} {b off len cap : Nat} {zs : List Int} (h : Reads k w (some ⟨b, off, none⟩) len cap zs) {p : Nat} (hp : p < len) :
    Reads k w (some ⟨b, off + p, none⟩) (len - p) (cap - p) (zs.drop p) :=
  ⟨by rw [List.length_drop, h.size], (by have := h.room; omega), (by have := h.most; omega), (fun e => by cases e), fun i hi => by
    obtain ⟨b', off', ha, hc⟩ := h.cell (p + i) (by omega)
    cases ha
    exact ⟨b, off + p, rfl, by rw [Nat.add_assoc, hc, List.getElem?_drop]⟩⟩

/-- What lies in a row of the call's own. -/
theorem Reads.own {k : IntKind} {w : World} {base e n : Nat} {v : Value} {zs : List Int} (h : w.ownsRow base e 1 v n (zs.map (Value.int k))) :
    ∃ a cap, v = .slice a n cap ∧ Reads k w a n cap zs := by
  have hl : zs.length = n := by have := h.1; simpa using this
  rcases h.2 with ⟨rfl, rfl⟩ | ⟨g, cap, cur, rfl, hb, hg, hnc, hm, hs, ht⟩
  · exact ⟨none, 0, rfl, hl, Nat.le_refl _, by omega, fun _ => ⟨rfl, rfl⟩, fun i hi => by omega⟩
  · refine ⟨some ⟨g, 0, none⟩, cap, rfl, hl, hnc, by unfold maxLen at hm; omega, (fun e => by cases e), fun i hi => ⟨g, 0, rfl, ?_⟩⟩
    have hi' : i < zs.length := by omega
    have := h.cells (g := g) rfl i (.int k (zs[i]?.getD 0)) (by simp [hi'])
    rwa [Addr.add_lit] at this

/-- A row that came in. -/
def IsRow' (k : IntKind) (w : World) (a : Option Addr) (len cap : Nat) (zs : List Int) : Prop :=
  (a = none ∧ len = 0 ∧ cap = 0 ∧ zs = []) ∨
  ∃ x, a = some x ∧ len ≤ cap ∧ cap ≤ maxLen ∧ zs.length = cap ∧ (∀ i, i < zs.length → w.cell? (x.add i) = some (.int k (zs.getD i 0))) ∧ ∀ n ∈ zs, (Lit.int k n).wf = true

theorem Reads.row {k : IntKind} {w : World} {a : Option Addr} {len cap : Nat} {zs : List Int} (h : IsRow' k w a len cap zs) :
    Reads k w a len cap (zs.take len) ∧ ∀ n ∈ zs.take len, (Lit.int k n).wf = true := by
  rcases h with ⟨rfl, rfl, rfl, rfl⟩ | ⟨x, rfl, hl, hm, hz, hc, hw⟩
  · exact ⟨Reads.nil _ _, fun n hn => by simp at hn⟩
  · refine ⟨⟨by simp; omega, hl, by unfold maxLen at hm; omega, (fun e => by cases e), fun i hi => ?_⟩, fun n hn => hw n (List.mem_of_mem_take hn)⟩
    obtain ⟨b, off, rfl, hc'⟩ := ints_at hc (by omega)
    have hi' : i < zs.length := by omega
    exact ⟨b, off, rfl, by rw [hc' i hi', List.getD_eq_getElem?_getD, List.getElem?_take_of_lt hi]⟩

theorem bytes_of_wf {zs : List Int} (h : ∀ n ∈ zs, (Lit.int .u8 n).wf = true) : IsBytes zs := fun x hx => by have := bounds_u8 (h x hx); omega
theorem u64s_of_wf {zs : List Int} (h : ∀ n ∈ zs, (Lit.int .u64 n).wf = true) : IsU64s zs := fun x hx => by have := bounds_u64 (h x hx); omega

/-- The slice as a string. -/
theorem Reads.conv {P : Program} {w : World} {a : Option Addr} {len cap : Nat} {zs : List Int} (h : Reads .u8 w a len cap zs) (src dst e : TypeId) (hs : P.underlying src = some (.slice e)) (he : P.underlying e = some (.int .u8)) (hd : P.underlying dst = some .string) :
    (convert src dst (.slice a len cap)).run P w = .ok (.string (strOfNums zs)) w := by
  by_cases h0 : len = 0
  · have hz : zs = [] := List.eq_nil_of_length_eq_zero (by rw [h.size, h0])
    subst h0 hz
    rw [run_convert_bytes_string w src dst e _ 0 cap hs he hd]
    cases a with
    | none => simp [Conv.bytesToString]; rfl
    | some a =>
      rw [run_bytesToString w a 0 cap [] (by simp [loadCells, loadCellsFrom])]
      rfl
  · obtain ⟨b, off, rfl, _⟩ := h.cell 0 (by omega)
    refine run_convert_bytes_arg w src e hs he b off len cap zs h.size (fun i hi => ?_) dst hd
    obtain ⟨b', off', ha, hc⟩ := h.cell i hi
    cases ha
    rw [hc, List.getD_eq_getElem?_getD]

/-- An append to a row of the call's own, whatever is appended: nil or not. -/
theorem append_any {P : Program} (w : World) {ops : Array Oper} {rest : List Oper} {o : Oper} {a : Act} {Q : Exit → Act → World → Prop} (hgd : o.guard = none) (s x : Operand) (t : TypeId)
    (ho : o.op = .call { callee := .builtin .append, args := #[s, x], argTypes := #[t, t] })
    (base : Nat) (e : TypeId) (i : TypeInfo) (z : Value) (bytes : Nat) (ht : P.underlying t = some (.slice e)) (hi : P.info? e = some i) (hz : i.zero = some z)
    (hsize : i.size = 1) (hby : i.bytes = bytes) (hzs : z.cells.size = 1) (k : IntKind)
    (v : Value) (n : Nat) (xs : List Int) (hs : a.eval s = v) (hown : w.ownsRow base e 1 v n (xs.map (Value.int k)))
    (ao : Option Addr) (m c : Nat) (news : List Int) (hx : a.eval x = .slice ao m c) (hr : Reads k w ao m c news)
    (h63 : n + m ≤ 9223372036854775807) (hbytes : (n + m) * bytes ≤ 140737488355328) (hbase : base ≤ w.heap.size)
    (h : ∀ v' w', w'.ownsRow base e 1 v' (n + m) ((xs ++ news).map (Value.int k)) → Below base w w' → wpList P ops Q rest (a.put o.dst v') w') : wpList P ops Q (o :: rest) a w := by
  cases ao with
  | none =>
    obtain ⟨rfl, rfl⟩ := hr.bare rfl
    have hn : news = [] := List.eq_nil_of_length_eq_zero hr.size
    subst hn
    exact wpList_append_own_none hgd s x t ho base e i 1 ht hi v n _ hs hown hx (h v w (by simpa using hown) (Below.refl _ _))
  | some ad =>
    refine wpList_append_own w hgd s x t ho base e i z 1 bytes ht hi hz hsize hby hzs (by decide) v n _ hs hown ad m c (news.map (Value.int k)) hx (by simpa using hr.size) hr.news (ints_oneCell k news) (by unfold maxLen; omega) hbytes hbase ?_
    intro v' w' h1 h2 _
    refine h v' w' (by rw [List.map_append]; exact h1) ((Below.refl _ _).grown h2 hbase fun g hg => (hown.lt g hg).1)

end Go.Proofs.YtjgggialnegddaaGreat
namespace Go.Proofs.YtjgggialnegddaaGreat
open Go.RowKit
set_option linter.unusedVariables false
set_option maxRecDepth 1000000
/-- Of the blocks that are there only those of S may have turned. -/
structure But (S : List Nat) (w w' : World) : Prop where
  os : w'.os = w.os
  tape : w'.tape = w.tape
  output : w'.output = w.output
  size : w.heap.size ≤ w'.heap.size
  block : ∀ k, k < w.heap.size → k ∉ S → w'.heap[k]? = w.heap[k]?
theorem But.refl (S : List Nat) (w : World) : But S w w := ⟨rfl, rfl, rfl, Nat.le_refl _, fun _ _ _ => rfl⟩
theorem But.trans {S : List Nat} {a b c : World} (h : But S a b) (k : But S b c) : But S a c :=
  ⟨k.os.trans h.os, k.tape.trans h.tape, k.output.trans h.output, Nat.le_trans h.size k.size, fun i hi hn => (k.block i (Nat.lt_of_lt_of_le hi h.size) hn).trans (h.block i hi hn)⟩
theorem But.mono {S S' : List Nat} {a b : World} (h : But S a b) (hS : ∀ s ∈ S, s ∈ S') : But S' a b := ⟨h.os, h.tape, h.output, h.size, fun i hi hn => h.block i hi fun hs => hn (hS i hs)⟩
theorem But.below {S : List Nat} {a b c : World} (h : But S a b) (k : Below a.heap.size b c) : But S a c :=
  ⟨k.os.trans h.os, k.tape.trans h.tape, k.output.trans h.output, Nat.le_trans h.size k.size, fun i hi hn => (k.block i hi).trans (h.block i hi hn)⟩
theorem But.of {S : List Nat} {a b : World} (k : Below a.heap.size a b) : But S a b := (But.refl S a).below k
theorem But.set {S : List Nat} {a b : World} (h : But S a b) {p : Addr} (hp : p.block ∈ S) (u : Value) : But S a (b.setCell p u) :=
  h.trans ⟨rfl, rfl, rfl, by simp [World.setCell], fun k _ hk => Below.heap_setCell _ _ _ _ (fun e => hk (e ▸ hp))⟩
theorem But.drew {S : List Nat} {a b : World} (h : But S a b) : But S a b.drew := ⟨h.os, h.tape, h.output, h.size, h.block⟩
theorem But.alloc {S : List Nat} {a b : World} (h : But S a b) (o : Obj) : But S a (b.alloc o) := h.below ((Below.refl _ _).alloc h.size o)
theorem But.to {S : List Nat} {a b : World} {B : Nat} (h : But S a b) (hS : ∀ s ∈ S, B ≤ s) (hB : B ≤ a.heap.size) : Below B a b :=
  ⟨h.os, h.tape, h.output, h.size, fun k hk => h.block k (by omega) fun hs => by have := hS k hs; omega⟩
theorem But.cell {S : List Nat} {w w' : World} (h : But S w w') {p : Addr} {v : Value} (hc : w.cell? p = some v) (hp : p.block ∉ S) : w'.cell? p = some v :=
  (World.cell?_of_block (w := w) (h.block p.block (World.block_lt_of_cell? _ _ hc) hp)).trans hc
theorem But.one {S : List Nat} {w w' : World} (h : But S w w') {B : Nat} {o : Obj} (hc : w.heap[B]? = some o) (hp : B ∉ S) : w'.heap[B]? = some o := (h.block B (lt_of_block hc) hp).trans hc
/-- No cell of the slice lies in a block of S. -/
def Off (S : List Nat) (a : Option Addr) (len : Nat) : Prop := 0 < len → ∀ ad, a = some ad → ad.block ∉ S
theorem Reads.cut {k : IntKind} {w : World} {a : Option Addr} {len cap : Nat} {zs : List Int} (h : Reads k w a len cap zs) {m : Nat} (hm : m ≤ len) : Reads k w a m cap (zs.take m) :=
  ⟨by rw [List.length_take, h.size]; omega, by have := h.room; omega, h.most, fun e => by have := h.bare e; omega, fun i hi => by
    obtain ⟨b, off, e, hc⟩ := h.cell i (by omega)
    exact ⟨b, off, e, by rw [hc, List.getElem?_take_of_lt hi]⟩⟩
theorem Reads.but {k : IntKind} {w w' : World} {a : Option Addr} {len cap : Nat} {zs : List Int} {S : List Nat} (h : Reads k w a len cap zs) (hb : But S w w') (hS : Off S a len) : Reads k w' a len cap zs :=
  ⟨h.size, h.room, h.most, h.bare, fun i hi => by
    obtain ⟨b, off, e, hc⟩ := h.cell i hi
    exact ⟨b, off, e, hb.cell hc (show b ∉ S from hS (by omega) ⟨b, off, none⟩ e)⟩⟩
theorem Reads.past {k : IntKind} {w : World} {a : Option Addr} {len cap : Nat} {zs : List Int} (h : Reads k w a len cap zs) {S : List Nat} (hS : ∀ s ∈ S, w.heap.size ≤ s) : Off S a len := by
  intro h0 ad hd hs
  obtain ⟨b, off, e, hc⟩ := h.cell 0 h0
  have h1 : b < w.heap.size := World.block_lt_of_cell? _ _ hc
  have h2 := hS _ hs
  rw [hd] at e
  cases e
  exact absurd h1 (Nat.not_lt.2 h2)
/-- The row in block g, not below base, its elements of type t, holds these numbers. -/
def OwnK (t : TypeId) (base g m cap : Nat) (xs : List Int) (w : World) : Prop := w.ownsRow base t 1 (.slice (some ⟨g, 0, none⟩) m cap) m (xs.map (Value.int .i64))
theorem OwnK.len {t : TypeId} {base g m cap : Nat} {xs : List Int} {w : World} (h : OwnK t base g m cap xs w) : xs.length = m := by have := h.1; simpa using this
theorem OwnK.cell {t : TypeId} {base g m cap : Nat} {xs : List Int} {w : World} (h : OwnK t base g m cap xs w) {k : Nat} (hk : k < m) : w.cell? ⟨g, k, none⟩ = some (.int .i64 (xs[k]?.getD 0)) := by
  have hl := h.len
  have := World.ownsRow.cellAt h k (by omega)
  rw [this]
  simp [(by omega : k < xs.length)]
theorem OwnK.frozen {t : TypeId} {base g m cap : Nat} {xs : List Int} {w : World} (h : OwnK t base g m cap xs w) (k : Nat) : w.frozen? ⟨g, k, none⟩ = false := World.ownsRow.frozenAt h k
theorem OwnK.set {t : TypeId} {base g m cap : Nat} {xs : List Int} {w : World} (h : OwnK t base g m cap xs w) (k : Nat) (v : Int) : OwnK t base g m cap (xs.set k v) (w.setCell ⟨g, k, none⟩ (.int .i64 v)) := by
  have := (World.ownsRow.stored h k (.int .i64 v)).1
  unfold OwnK
  rw [List.map_set]
  exact this
theorem OwnK.base {t : TypeId} {base g m cap : Nat} {xs : List Int} {w : World} (h : OwnK t base g m cap xs w) : base ≤ g := (World.ownsRow.lt h g rfl).1
theorem OwnK.lt {t : TypeId} {base g m cap : Nat} {xs : List Int} {w : World} (h : OwnK t base g m cap xs w) : g < w.heap.size := (World.ownsRow.lt h g rfl).2
theorem OwnK.same {t : TypeId} {base g m cap : Nat} {xs : List Int} {w w' : World} (h : OwnK t base g m cap xs w) (hb : w'.heap[g]? = w.heap[g]?) : OwnK t base g m cap xs w' := by
  refine ⟨h.1, ?_⟩
  rcases h.2 with h' | ⟨g', c, cur, hv, hB, hg, rest⟩
  · exact .inl h'
  · cases hv
    exact .inr ⟨g, cap, cur, rfl, hB, hb.trans hg, rest⟩
theorem OwnK.stays {t : TypeId} {base g m cap : Nat} {xs : List Int} {w w' : World} (h : OwnK t base g m cap xs w) (hb : Below w.heap.size w w') : OwnK t base g m cap xs w' := h.same (hb.block g h.lt)
theorem OwnK.but {t : TypeId} {base g m cap : Nat} {xs : List Int} {w w' : World} {S : List Nat} (h : OwnK t base g m cap xs w) (hb : But S w w') (hg : g ∉ S) : OwnK t base g m cap xs w' := h.same (hb.block g h.lt hg)
theorem OwnK.reads {t : TypeId} {base g m cap : Nat} {xs : List Int} {w : World} (h : OwnK t base g m cap xs w) : Reads .i64 w (some ⟨g, 0, none⟩) m cap xs := by
  obtain ⟨a, c, e, hr⟩ := Reads.own (k := .i64) h
  cases e
  exact hr
theorem OwnK.low {t : TypeId} {base base' g m cap : Nat} {xs : List Int} {w : World} (h : OwnK t base g m cap xs w) (hb : base' ≤ base) : OwnK t base' g m cap xs w := by
  refine ⟨h.1, ?_⟩
  rcases h.2 with h' | ⟨g', c, cur, hv, hB, rest⟩
  · exact .inl h'
  · exact .inr ⟨g', c, cur, hv, Nat.le_trans hb hB, rest⟩
theorem Tryz.info2 : (Tryz.prog.info? 2).map (fun i => (i.zero, i.size, i.bytes)) = some (some (.int .i64 0), 1, 8) := by kernel_rfl
theorem Tryz.info3 : (Tryz.prog.info? 3).map (fun i => (i.zero, i.size, i.bytes)) = some (some (.int .i64 0), 1, 8) := by kernel_rfl
theorem info_parts {t : TypeId} {z : Value} {a b : Nat} (h : (Tryz.prog.info? t).map (fun i => (i.zero, i.size, i.bytes)) = some (some z, a, b)) :
    ∃ i, Tryz.prog.info? t = some i ∧ i.zero = some z ∧ i.size = a ∧ i.bytes = b := by
  cases hi : Tryz.prog.info? t with
  | none => rw [hi] at h; simp at h
  | some i => rw [hi] at h; simp at h; exact ⟨i, rfl, h.1, h.2.1, h.2.2⟩
/-- 'make' of m numbers. -/
theorem make_ints (w : World) (m : Nat) (hm : m ≤ 1001) : (Instr.makeSlice 131 (.int .i64 (m : Int)) (.int .i64 (m : Int))).run Tryz.prog w = .ok (.slice (some ⟨w.heap.size, 0, none⟩) m m) (w.alloc (.cells (madeCells #[.int .i64 0] m) 2)) := by
  obtain ⟨i0, hi, hz0, hz1, hz2⟩ := info_parts Tryz.info2
  have := run_make (P := Tryz.prog) w 131 2 i0 (.int .i64 0) Tryz.underlying131 hi hz0 .i64 .i64 (m : Int) (m : Int) (by omega) (Int.le_refl _) (by rw [hz2]; omega) (by omega)
  rw [this, hz1, Int.toNat_natCast, Nat.mul_one]
  rfl
theorem own_made (t : TypeId) (w : World) (m : Nat) (hm : m ≤ 1001) : OwnK t w.heap.size w.heap.size m m (List.replicate m 0) (w.alloc (.cells (madeCells #[.int .i64 0] m) t)) := by
  have := World.ownsRow_lit (base := w.heap.size) (e := t) (size := 1) w (madeCells #[.int .i64 0] m) m (Nat.le_refl _) (by unfold maxLen; omega) (by simp [madeCells])
  unfold OwnK
  rw [List.map_replicate, ← toList_madeCells_one]
  exact this
theorem take_snoc {zs : List Int} {k : Nat} (h : k < zs.length) : zs.take (k + 1) = zs.take k ++ [zs[k]?.getD 0] := by
  rw [List.take_succ_eq_append_getElem h]; simp [h]
theorem one_le {w : World} : ∀ s ∈ [w.heap.size], w.heap.size ≤ s := fun s hs => by rw [List.mem_singleton.1 hs]; exact Nat.le_refl _
/-- What a call hands back: a row of its own that holds these numbers. -/
def Made (w : World) (len : Nat) (xs : List Int) (e : Ending) (w' : World) : Prop := ∃ g cap, e = .returned (.slice (some ⟨g, 0, none⟩) len cap) ∧ OwnK 2 w.heap.size g len cap xs w' ∧ Below w.heap.size w w'
/-- What a call hands back: a row that reads as these numbers; nothing that was there has turned. -/
def Gives (w : World) (len : Nat) (xs : List Int) (e : Ending) (w' : World) : Prop := ∃ a cap, e = .returned (.slice a len cap) ∧ Reads .i64 w' a len cap xs ∧ Below w.heap.size w w'
/-- An append, for which there is room, at a step of a region that draws its order. -/
theorem step_append_fits {P : Program} {w : World} {ops : Array Oper} {o : Oper} {a : Act} {K : Act → World → Prop} {Q : Exit → Act → World → Prop} {E : Prop} (hgd : o.guard = none) (d : Tmp) (hd : o.dst = some d) (s x : Operand) (t : TypeId)
    (ho : o.op = .call { callee := .builtin .append, args := #[s, x], argTypes := #[t, t] })
    (base : Nat) (e : TypeId) (i : TypeInfo) (size : Nat) (ht : P.underlying t = some (.slice e)) (hi : P.info? e = some i) (hsize : i.size = size)
    (g n cap : Nat) (xs : List Value) (hs : a.eval s = .slice (some ⟨g, 0, none⟩) n cap) (hown : w.ownsRow base e size (.slice (some ⟨g, 0, none⟩) n cap) n xs)
    (ad : Addr) (m c : Nat) (news : List Value) (hx : a.eval x = .slice (some ad) m c) (hl : news.length = m * size) (hnews : ∀ j u, news[j]? = some u → w.cell? (ad.add j) = some u) (h1 : ∀ u ∈ news, u.oneCell' = true)
    (hroom : n + m ≤ cap)
    (h : ∀ w', w'.ownsRow base e size (.slice (some ⟨g, 0, none⟩) (n + m) cap) (n + m) (xs ++ news) → w.grownBy w' (some g) → K (a.put (some d) (.slice (some ⟨g, 0, none⟩) (n + m) cap)) w') :
    if Region.wanted o (yielded ops a.tmps) = true then Oper.wp P o a w K Q else E := by
  have hw : Region.wanted o (yielded ops a.tmps) = true := by simp [Region.wanted, hgd]
  rw [if_pos hw]
  obtain ⟨w', hr, h2, h3⟩ := run_append_fits (P := P) w base t o.type e i size ht hi hsize g n cap xs hown ad m c news hl hnews h1 hroom
  unfold Oper.wp execOp
  simp only [ho, resolve, invoke, builtin, Sem.run_bind, Sem.run_pure, Result.andThen_ok, List.map_toArray, List.map_cons, List.map_nil, hs, hx, hr]
  show K (a.put o.dst _) w'
  rw [hd]
  exact h w' h2 h3
/-- A call of a function value at a step of a region that draws its order. -/
theorem step_call2 {P : Program} {w : World} {ops : Array Oper} {o : Oper} {a : Act} {K : Act → World → Prop} {Q : Exit → Act → World → Prop} {E : Prop} (hgd : o.guard = none) (d : Tmp) (hd : o.dst = some d) (s x y : Operand) (tx ty : TypeId)
    (ho : o.op = .call { callee := .value s, args := #[x, y], argTypes := #[tx, ty] }) (fn : Nat) (caps : Array Value) (hs : a.eval s = .func (.func fn) #[] caps) (hE : ∀ args w, (callFunc fn args).run P w = .ok (.enter fn args) w)
    (u v : Value) (hx : a.eval x = u) (hy : a.eval y = v) (r : Value) (R : World → Prop) (hC : Calls P fn (#[u, v] ++ caps) w fun e w' => e = .returned r ∧ R w') (h : ∀ w', R w' → K (a.put (some d) r) w') :
    if Region.wanted o (yielded ops a.tmps) = true then Oper.wp P o a w K Q else E := by
  have hw : Region.wanted o (yielded ops a.tmps) = true := by simp [Region.wanted, hgd]
  rw [if_pos hw]
  unfold Oper.wp execOp
  simp [ho, resolve, invoke, Deferred.ofValue, hs, hx, hy]
  have hr := hE (#[u, v] ++ caps) w
  rw [hr]
  show Calls P fn (#[u, v] ++ caps) w _
  rw [hd]
  refine hC.mono ?_
  rintro e w' ⟨rfl, hR⟩
  exact h w' hR
theorem but_grown {S : List Nat} {a b c : World} {g : Nat} (h : But S a b) (hg : b.grownBy c (some g)) (hs : g ∈ S) : But S a c :=
  h.trans ⟨hg.os, hg.tape, hg.output, hg.size, fun k hk hn => hg.block k hk (fun e => hn (by cases e; exact hs))⟩
theorem one_cell (k : IntKind) (x : Int) : ∀ u ∈ [Value.int k x], u.oneCell' = true := by intro u hu; simp at hu; subst hu; rfl
theorem news_one (k : IntKind) (x : Int) (w : World) (t : TypeId) : ∀ j u, [Value.int k x][j]? = some u → (w.alloc (.cells #[.int k x] t)).cell? ((⟨w.heap.size, 0, none⟩ : Addr).add j) = some u :=
  World.news_of_block (heap_alloc_new w (.cells #[.int k x] t))
/-- 'make' of none, with room for m. -/
theorem make_room (w : World) (m : Nat) (hm : m ≤ 1001) : (Instr.makeSlice 131 (.int .i64 0) (.int .i64 (m : Int))).run Tryz.prog w = .ok (.slice (some ⟨w.heap.size, 0, none⟩) 0 m) (w.alloc (.cells (madeCells #[.int .i64 0] m) 2)) := by
  obtain ⟨i0, hi, hz0, hz1, hz2⟩ := info_parts Tryz.info2
  have := run_make (P := Tryz.prog) w 131 2 i0 (.int .i64 0) Tryz.underlying131 hi hz0 .i64 .i64 0 (m : Int) (by omega) (by omega) (by rw [hz2]; omega) (by omega)
  rw [this, hz1, Int.toNat_natCast, Nat.mul_one]
  rfl
theorem own_room (t : TypeId) (w : World) (m : Nat) (hm : m ≤ 1001) : OwnK t w.heap.size w.heap.size 0 m [] (w.alloc (.cells (madeCells #[.int .i64 0] m) t)) :=
  World.ownsRow_made (base := w.heap.size) (e := t) (size := 1) w (madeCells #[.int .i64 0] m) m (Nat.le_refl _) (by unfold maxLen; omega) (by simp [madeCells])
/-- An append at a step of a region that draws its order. -/
theorem step_append_reads {P : Program} {w : World} {ops : Array Oper} {o : Oper} {a : Act} {K : Act → World → Prop} {Q : Exit → Act → World → Prop} {E : Prop} (hgd : o.guard = none) (d : Tmp) (hd : o.dst = some d) (s x : Operand) (t : TypeId)
    (ho : o.op = .call { callee := .builtin .append, args := #[s, x], argTypes := #[t, t] })
    (base : Nat) (e : TypeId) (i : TypeInfo) (z : Value) (bytes : Nat) (ht : P.underlying t = some (.slice e)) (hi : P.info? e = some i) (hz : i.zero = some z)
    (hsize : i.size = 1) (hby : i.bytes = bytes) (hzs : z.cells.size = 1) (k : IntKind)
    (v : Value) (n : Nat) (xs : List Int) (hs : a.eval s = v) (hown : w.ownsRow base e 1 v n (xs.map (Value.int k)))
    (ad : Addr) (m c : Nat) (news : List Int) (hx : a.eval x = .slice (some ad) m c) (hr : Reads k w (some ad) m c news) (hm : 0 < m)
    (h63 : n + m ≤ 9223372036854775807) (hbytes : (n + m) * bytes ≤ 140737488355328) (hbase : base ≤ w.heap.size)
    (h : ∀ v' w', w'.ownsRow base e 1 v' (n + m) ((xs ++ news).map (Value.int k)) → Below base w w' → K (a.put (some d) v') w') :
    if Region.wanted o (yielded ops a.tmps) = true then Oper.wp P o a w K Q else E := by
  refine step_append_lies w hgd s x t ho base e i z 1 bytes ht hi hz hsize hby hzs (by decide) v n _ hs hown ad m c (news.map (Value.int k)) hx (by simpa using hr.size) hr.news (ints_oneCell k news) hm (by unfold maxLen; omega) hbytes hbase _ rfl ?_
  intro g cap w' h1 h2 _ _
  rw [hd]
  refine h _ w' (by rw [List.map_append]; exact h1) ((Below.refl _ _).grown h2 hbase fun g hg => (hown.lt g hg).1)
/-- One number in a new block, as an append of one element lays it. -/
theorem Reads.one {k : IntKind} (w : World) (x : Int) (t : TypeId) : Reads k (w.alloc (.cells #[.int k x] t)) (some ⟨w.heap.size, 0, none⟩) 1 1 [x] :=
  ⟨rfl, Nat.le_refl _, by omega, (fun e => by cases e), fun i hi => ⟨w.heap.size, 0, rfl, (by
    have h0 : i = 0 := by omega
    subst h0
    simp)⟩⟩
/-- The like behind a draw. -/
theorem Reads.oned {k : IntKind} (w : World) (x : Int) (t : TypeId) : Reads k (w.alloc (.cells #[.int k x] t)).drew (some ⟨w.heap.size, 0, none⟩) 1 1 [x] :=
  (Reads.one w x t).below ((Below.refl _ _).drew)
theorem ret_bool {a b : Bool} (h : a = b) : Ending.returned (.bool a) = .returned (.bool b) := by rw [h]
/-- A slice of a table: where it lies, its length, its room. -/
abbrev Hd := Option Addr × Nat × Nat
/-- The slice reads as these slices. -/
structure Rd2 (w : World) (a : Option Addr) (len cap : Nat) (hs : List Hd) : Prop where
  size : hs.length = len
  room : len ≤ cap
  most : cap ≤ 9223372036854775807
  bare : a = none → len = 0 ∧ cap = 0
  cell : ∀ i, i < len → ∃ b off, a = some ⟨b, off, none⟩ ∧ w.cell? ⟨b, off + i, none⟩ = some (.slice (hs[i]?.getD (none, 0, 0)).1 (hs[i]?.getD (none, 0, 0)).2.1 (hs[i]?.getD (none, 0, 0)).2.2)
theorem Rd2.below {w w' : World} {a : Option Addr} {len cap : Nat} {hs : List Hd} (h : Rd2 w a len cap hs) (hb : Below w.heap.size w w') : Rd2 w' a len cap hs :=
  ⟨h.size, h.room, h.most, h.bare, fun i hi => by
    obtain ⟨b, off, ha, hc⟩ := h.cell i hi
    exact ⟨b, off, ha, (hb.cell (World.block_lt_of_cell? _ _ hc)).trans hc⟩⟩
/-- A literal in a new block. -/
theorem Reads.lit (w : World) (xs : List Int) (t : TypeId) (n : Nat) (h : xs.length = n) (hn : n ≤ 1000) : Reads .i64 (w.alloc (.cells (xs.map (Value.int .i64)).toArray t)) (some ⟨w.heap.size, 0, none⟩) n n xs := by
  refine ⟨h, Nat.le_refl _, by omega, (fun e => by cases e), fun i hi => ⟨w.heap.size, 0, rfl, ?_⟩⟩
  rw [Nat.zero_add, cell_of_row _ w.heap.size i _ _ _ (heap_alloc_new w _)]
  simp [(by omega : i < xs.length)]
theorem rd2_two (w : World) (a b : Option Addr) (la ca lb cb : Nat) : Rd2 (w.alloc (.cells #[.slice a la ca, .slice b lb cb] 131)) (some ⟨w.heap.size, 0, none⟩) 2 2 [(a, la, ca), (b, lb, cb)] := by
  refine ⟨rfl, Nat.le_refl _, by omega, (fun e => by cases e), fun i hi => ⟨w.heap.size, 0, rfl, ?_⟩⟩
  rw [Nat.zero_add, cell_of_row _ w.heap.size i _ _ _ (heap_alloc_new w _)]
  rcases (by omega : i = 0 ∨ i = 1) with rfl | rfl <;> rfl
theorem rd2_one (w : World) (a : Option Addr) (la ca : Nat) : Rd2 (w.alloc (.cells #[.slice a la ca] 131)) (some ⟨w.heap.size, 0, none⟩) 1 1 [(a, la, ca)] := by
  refine ⟨rfl, Nat.le_refl _, by omega, (fun e => by cases e), fun i hi => ⟨w.heap.size, 0, rfl, ?_⟩⟩
  rw [Nat.zero_add, cell_of_row _ w.heap.size i _ _ _ (heap_alloc_new w _)]
  obtain rfl : i = 0 := by omega
  rfl
/-- The slice reads as a table: these are its rows' slices, and their numbers. -/
structure Tbl (w : World) (a : Option Addr) (len cap : Nat) (hs : List Hd) (xss : List (List Int)) : Prop where
  rd : Rd2 w a len cap hs
  rows : ∀ i, i < len → Reads .i64 w (hs[i]?.getD (none, 0, 0)).1 (hs[i]?.getD (none, 0, 0)).2.1 (hs[i]?.getD (none, 0, 0)).2.2 (xss[i]?.getD [])
  short : ∀ i, i < len → (hs[i]?.getD (none, 0, 0)).2.1 ≤ 1000
theorem Tbl.below {w w' : World} {a : Option Addr} {len cap : Nat} {hs : List Hd} {xss : List (List Int)} (h : Tbl w a len cap hs xss) (hb : Below w.heap.size w w') : Tbl w' a len cap hs xss :=
  ⟨h.rd.below hb, fun i hi => (h.rows i hi).below hb, h.short⟩
/-- The numbers f 0, f 1 .. of the first k places. -/
def rowK (f : Nat → Int) (k : Nat) : List Int := (List.range k).map f
theorem rowK_len (f : Nat → Int) (k : Nat) : (rowK f k).length = k := by simp [rowK]
theorem rowK_snoc (f : Nat → Int) (k : Nat) : rowK f k ++ [f k] = rowK f (k + 1) := by unfold rowK; rw [List.range_succ, List.map_append]; rfl
theorem rowK_set (f : Nat → Int) {len k : Nat} (h : k < len) : (rowK f k ++ List.replicate (len - k) 0).set k (f k) = rowK f (k + 1) ++ List.replicate (len - (k + 1)) 0 := by
  rw [List.set_append_right _ _ (by rw [rowK_len]; omega), rowK_len, Nat.sub_self, ← rowK_snoc, List.append_assoc]
  congr 1
  rw [show len - k = len - (k + 1) + 1 by omega, List.replicate_succ]
  rfl
theorem own_below {base e size n : Nat} {v : Value} {xs : List Value} {w w' : World} (h : w.ownsRow base e size v n xs) (hb : Below w.heap.size w w') : w'.ownsRow base e size v n xs := by
  refine ⟨h.1, ?_⟩
  rcases h.2 with h' | ⟨g, c, cur, hv, hB, hg, rest⟩
  · exact .inl h'
  · exact .inr ⟨g, c, cur, hv, hB, (hb.block g (lt_of_block hg)).trans hg, rest⟩
theorem gives_own {w w' : World} {n : Nat} {v : Value} {xs : List Int} (h : w'.ownsRow w.heap.size 2 1 v n (xs.map (Value.int .i64))) (hb : Below w.heap.size w w') : Gives w n xs (.returned v) w' := by
  obtain ⟨a, cap, rfl, hr⟩ := Reads.own (k := .i64) h
  exact ⟨a, cap, rfl, hr, hb⟩
theorem Reads.oneB {k : IntKind} (w : World) (x : Int) (t : TypeId) {B : Nat} (h : w.heap.size = B) : Reads k (w.alloc (.cells #[.int k x] t)) (some ⟨B, 0, none⟩) 1 1 [x] := by subst h; exact Reads.one _ _ _
theorem Made.gives {w : World} {len : Nat} {xs : List Int} {e : Ending} {w' : World} (h : Made w len xs e w') : Gives w len xs e w' := by
  obtain ⟨g, cap, rfl, hO, hb⟩ := h
  exact ⟨_, _, rfl, hO.reads, hb⟩
/-- Whether a place was met. -/
def mt (bs : List Bool) (i : Nat) : Bool := bs[i]?.getD false
theorem mt_same {bs : List Bool} {B : Nat} (h : B < bs.length) : mt (bs.set B true) B = true := by unfold mt; simp [h]
theorem mt_other {bs : List Bool} {B i : Nat} (h : i ≠ B) : mt (bs.set B true) i = mt bs i := by
  unfold mt
  rw [List.getElem?_set, if_neg (fun e => h e.symm)]
/-- The row in block g holds these truths. -/
def OwnB (g m : Nat) (bs : List Bool) (w : World) : Prop := w.ownsRow g 4 1 (.slice (some ⟨g, 0, none⟩) m m) m (bs.map Value.bool)
theorem OwnB.len {g m : Nat} {bs : List Bool} {w : World} (h : OwnB g m bs w) : bs.length = m := by have := h.1; simpa using this
theorem OwnB.cell {g m : Nat} {bs : List Bool} {w : World} (h : OwnB g m bs w) {k : Nat} (hk : k < m) : w.cell? ⟨g, k, none⟩ = some (.bool (mt bs k)) := by
  have hl : bs.length = m := by have := h.1; simpa using this
  rw [World.ownsRow.cellAt h k (by omega)]
  unfold mt
  simp [(by omega : k < bs.length)]
theorem OwnB.frozen {g m : Nat} {bs : List Bool} {w : World} (h : OwnB g m bs w) (k : Nat) : w.frozen? ⟨g, k, none⟩ = false := World.ownsRow.frozenAt h k
theorem OwnB.set {g m : Nat} {bs : List Bool} {w : World} (h : OwnB g m bs w) (k : Nat) (v : Bool) : OwnB g m (bs.set k v) (w.setCell ⟨g, k, none⟩ (.bool v)) := by
  have := (World.ownsRow.stored h k (.bool v)).1
  unfold OwnB
  rw [List.map_set]
  exact this
theorem OwnB.below {g m B : Nat} {bs : List Bool} {w w' : World} (h : OwnB g m bs w) (hb : Below B w w') (hg : g < B) : OwnB g m bs w' := by
  refine ⟨h.1, ?_⟩
  rcases h.2 with h' | ⟨g', c, cur, hv, hB, hg', rest⟩
  · exact .inl h'
  · cases hv
    exact .inr ⟨g, m, cur, rfl, hB, (hb.block g hg).trans hg', rest⟩
theorem Tryz.info4 : (Tryz.prog.info? 4).map (fun i => (i.zero, i.size, i.bytes)) = some (some (.bool false), 1, 1) := by kernel_rfl
theorem make_bools (w : World) (m : Nat) (hm : m ≤ 1001) : (Instr.makeSlice 238 (.int .i64 (m : Int)) (.int .i64 (m : Int))).run Tryz.prog w = .ok (.slice (some ⟨w.heap.size, 0, none⟩) m m) (w.alloc (.cells (madeCells #[.bool false] m) 4)) := by
  obtain ⟨i0, hi, hz0, hz1, hz2⟩ := info_parts Tryz.info4
  have := run_make (P := Tryz.prog) w 238 4 i0 (.bool false) Tryz.underlying238 hi hz0 .i64 .i64 (m : Int) (m : Int) (by omega) (Int.le_refl _) (by rw [hz2]; omega) (by omega)
  rw [this, hz1, Int.toNat_natCast, Nat.mul_one]
  rfl
theorem own_bools (w : World) (m : Nat) (hm : m ≤ 1001) : OwnB w.heap.size m (List.replicate m false) (w.alloc (.cells (madeCells #[.bool false] m) 4)) := by
  have := World.ownsRow_lit (base := w.heap.size) (e := 4) (size := 1) w (madeCells #[.bool false] m) m (Nat.le_refl _) (by unfold maxLen; omega) (by simp [madeCells])
  unfold OwnB
  rw [List.map_replicate, ← toList_madeCells_one]
  exact this
theorem Reads.at {k : IntKind} {w : World} {b o len cap : Nat} {zs : List Int} (h : Reads k w (some ⟨b, o, none⟩) len cap zs) {i : Nat} (hi : i < len) : w.cell? ⟨b, o + i, none⟩ = some (.int k (zs[i]?.getD 0)) := by
  obtain ⟨b', o', e, c⟩ := h.cell i hi
  cases e
  exact c
end Go.Proofs.YtjgggialnegddaaGreat
namespace Go.Proofs.YtjgggialnegddaaGreat
open Go.RowKit
set_option linter.unusedVariables false
set_option maxRecDepth 1000000

/-- Of the blocks that are there only those of F may have turned. -/
structure Fb (F : Nat → Prop) (w w' : World) : Prop where
  os : w'.os = w.os
  tape : w'.tape = w.tape
  output : w'.output = w.output
  size : w.heap.size ≤ w'.heap.size
  block : ∀ k, k < w.heap.size → ¬ F k → w'.heap[k]? = w.heap[k]?
theorem Fb.refl (F : Nat → Prop) (w : World) : Fb F w w := ⟨rfl, rfl, rfl, Nat.le_refl _, fun _ _ _ => rfl⟩
theorem Fb.of {F : Nat → Prop} {w w' : World} (h : Below w.heap.size w w') : Fb F w w' := ⟨h.os, h.tape, h.output, h.size, fun k hk _ => h.block k hk⟩
theorem Fb.trans {F G : Nat → Prop} {a b c : World} (h : Fb F a b) (k : Fb G b c) (hG : ∀ x, G x → F x ∨ a.heap.size ≤ x) : Fb F a c :=
  ⟨k.os.trans h.os, k.tape.trans h.tape, k.output.trans h.output, Nat.le_trans h.size k.size, fun i hi hn => (k.block i (Nat.lt_of_lt_of_le hi h.size) fun hg => (hG i hg).elim hn fun hl => by omega).trans (h.block i hi hn)⟩
theorem Fb.below {F : Nat → Prop} {a b c : World} (h : Fb F a b) (k : Below b.heap.size b c) : Fb F a c := h.trans (G := fun _ => False) (Fb.of k) fun x hx => hx.elim
theorem Fb.mono {F G : Nat → Prop} {a b : World} (h : Fb F a b) (hG : ∀ x, F x → G x) : Fb G a b := ⟨h.os, h.tape, h.output, h.size, fun k hk hn => h.block k hk fun hf => hn (hG k hf)⟩
/-- All that may have turned is newer. -/
theorem Fb.to {F : Nat → Prop} {a b : World} {B : Nat} (h : Fb F a b) (hF : ∀ x, F x → B ≤ x) (hB : B ≤ a.heap.size) : Below B a b :=
  ⟨h.os, h.tape, h.output, h.size, fun k hk => h.block k (by omega) fun hf => by have := hF k hf; omega⟩
theorem Fb.set {F : Nat → Prop} {w : World} {p : Addr} (hp : F p.block) (u : Value) : Fb F w (w.setCell p u) :=
  ⟨rfl, rfl, rfl, by simp [World.setCell], fun k _ hk => Below.heap_setCell _ _ _ _ (fun e => hk (e ▸ hp))⟩
theorem Fb.drew {F : Nat → Prop} {a b : World} (h : Fb F a b) : Fb F a b.drew := ⟨h.os, h.tape, h.output, h.size, h.block⟩
theorem Fb.alloc {F : Nat → Prop} {a b : World} (h : Fb F a b) (o : Obj) : Fb F a (b.alloc o) := h.below ((Below.refl _ _).alloc (Nat.le_refl _) o)
theorem Fb.one {F : Nat → Prop} {w w' : World} (h : Fb F w w') {B : Nat} {o : Obj} (hc : w.heap[B]? = some o) (hp : ¬ F B) : w'.heap[B]? = some o := (h.block B (lt_of_block hc) hp).trans hc
theorem Fb.cell {F : Nat → Prop} {w w' : World} (h : Fb F w w') {p : Addr} {v : Value} (hc : w.cell? p = some v) (hp : ¬ F p.block) : w'.cell? p = some v :=
  (World.cell?_of_block (w := w) (h.block p.block (World.block_lt_of_cell? _ _ hc) hp)).trans hc
theorem cells_two {W : World} {g : Nat} {x y : Value} {T : TypeId} (h : W.heap[g]? = some (.cells #[x, y] T (0, 0))) : W.cell? ⟨g, 0, none⟩ = some x ∧ W.cell? ⟨g, 1, none⟩ = some y :=
  ⟨by rw [cell_of_row _ _ _ _ _ _ h]; rfl, by rw [cell_of_row _ _ _ _ _ _ h]; rfl⟩
theorem wrap64_in {n : Int} (h0 : -9223372036854775808 ≤ n) (h1 : n ≤ 9223372036854775807) : IntKind.i64.wrap n = n := by
  rw [IntKind.wrap_i64]; omega
theorem block_bel {w w' : World} {k : Nat} {o : Obj} (h : w.heap[k]? = some o) (hb : Below w.heap.size w w') : w'.heap[k]? = some o := (hb.block k (lt_of_block h)).trans h
theorem row_set {w : World} {b k : Nat} {cs : Array Value} {u : Value} {T : TypeId} (h : w.heap[b]? = some (.cells cs T (0, 0))) : (w.setCell ⟨b, k, none⟩ u).heap[b]? = some (.cells (cs.setIfInBounds k u) T (0, 0)) := by
  have hlt := lt_of_block h
  have h' : w.heap[b] = .cells cs T (0, 0) := by simpa [Array.getElem?_eq_getElem hlt] using h
  show (w.heap.modify b _)[b]? = _
  rw [Array.getElem?_eq_getElem (by simpa using hlt), Array.getElem_modify_self, h']
  rfl
theorem own_blk {base e size n : Nat} {v : Value} {xs : List Value} {w w' : World} (h : w.ownsRow base e size v n xs) (hb : ∀ b, v.ownBlock = some b → w'.heap[b]? = w.heap[b]?) : w'.ownsRow base e size v n xs := by
  refine ⟨h.1, ?_⟩
  rcases id h.2 with h' | ⟨g, c, cur, hv, hB, hg, rest⟩
  · exact .inl h'
  · exact .inr ⟨g, c, cur, hv, hB, (hb g (by rw [hv]; rfl)).trans hg, rest⟩
/-- Only blocks of ints stay for sure. -/
def KpI (w w' : World) : Prop := ∀ (k : Nat) (cur : Array Value) (fz : Nat × Nat), w.heap[k]? = some (.cells cur 3 fz) → w'.heap[k]? = some (.cells cur 3 fz)
theorem KpI.refl (w : World) : KpI w w := fun _ _ _ h => h
theorem KpI.trans {a b c : World} (h : KpI a b) (k : KpI b c) : KpI a c := fun i cur fz hi => k i cur fz (h i cur fz hi)
theorem KpI.of {w w' : World} (h : Below w.heap.size w w') : KpI w w' := fun k cur fz hk => (h.block k (lt_of_block hk)).trans hk
theorem KpI.set {w : World} {g k : Nat} {cs : Array Value} {T : TypeId} {fz : Nat × Nat} (h : w.heap[g]? = some (.cells cs T fz)) (hT : T ≠ 3) (u : Value) : KpI w (w.setCell ⟨g, k, none⟩ u) := by
  intro i cur f hi
  by_cases e : i = g
  · subst e
    rw [h] at hi
    simp at hi
    exact absurd hi.2.1 hT
  · rw [Below.heap_setCell _ _ _ _ (by exact e)]
    exact hi
/-- The blocks of one pointer. -/
def at1 (b : Nat) (k : Nat) : Prop := k = b
end Go.Proofs.YtjgggialnegddaaGreat
namespace Go.Proofs.YtjgggialnegddaaGreat
open Go.RowKit Go.Maps
set_option linter.unusedVariables false
set_option maxRecDepth 1000000

theorem Tryz.laidK : laidOutB Tryz.prog = true := by kernel_rfl
theorem Tryz.rowK : (121 : TypeId) < Tryz.prog.types.size := of_decide_eq_true (by kernel_rfl)
theorem Tryz.wideK : (match Tryz.prog.underlying 121 with | some (.array _ _) | some (.struct _) => true | _ => false) = true := by rw [Tryz.underlying121]
theorem klaw : Keyed Tryz.prog 121 := Keyed.of_law (deep_law_laid Tryz.laidK (m := 2) (by omega) Tryz.rowK (by kernel_rfl) Tryz.wideK)
/-- A pointer to a block, read as that block's number. -/
def Rp : Value → Option (DataW Unit × List MemPlace)
  | .pointer none => some (.lit (.int .i64 (-1)), [])
  | .pointer (some a) => if a.off = 0 ∧ a.spot = none then some (.lit (.int .i64 (a.block : Int)), []) else none
  | _ => none
def codeP : Option Nat → Int
  | none => -1
  | some b => b
def ptrP : Option Nat → Option Addr
  | none => none
  | some b => some ⟨b, 0, none⟩
theorem Rp_inv {v : Value} {o : Option Nat} {ps : List MemPlace} (h : Rp v = some (.lit (.int .i64 (codeP o)), ps)) : v = .pointer (ptrP o) := by
  cases v with
  | pointer a =>
    cases a with
    | none =>
      have h1 : (-1 : Int) = codeP o := by simp [Rp] at h; exact h.1
      cases o with
      | none => rfl
      | some b => change (-1 : Int) = (b : Int) at h1; omega
    | some a =>
      obtain ⟨b, off, spot⟩ := a
      simp only [Rp] at h
      split at h
      · rename_i hc
        obtain ⟨h1, h2⟩ := hc
        subst h1 h2
        have h3 : (b : Int) = codeP o := by simp at h; exact h.1
        cases o with
        | none => change (b : Int) = -1 at h3; omega
        | some b' =>
          have : b = b' := by change (b : Int) = (b' : Int) at h3; omega
          rw [this]
          rfl
      · cases h
  | _ => simp [Rp] at h
theorem Rp_mk (b : Nat) : Rp (.pointer (some ⟨b, 0, none⟩)) = some (.lit (.int .i64 (codeP (some b))), []) := by simp [Rp, codeP]
theorem kzero (w : World) : (zeroValue 113).run Tryz.prog w = .ok (.pointer none) w := by kernel_rfl
/-- The key that a value reads as. -/
noncomputable abbrev kOf (v : Value) : Option Lit := keyOf Tryz.prog 121 v
/-- The map in block B, of at most n entries, leads from v to the block f v. -/
def MvAt (W : World) (B n : Nat) (f : Value → Option Nat) : Prop :=
  ∃ D : DataW Unit, W.ownsMap Tryz.prog 121 Rp B n D ∧ ∀ v l, kOf v = some l → D.atKey l (.lit (.int .i64 (-1))) = .lit (.int .i64 (codeP (f v))) ∧ Maps.has D l = (f v).isSome
theorem MvAt.new (w : World) : MvAt (w.alloc (.map #[] 0)) w.heap.size 0 (fun _ => none) := ⟨.map [], World.ownsMap_made _ _ _ _, fun v l _ => ⟨rfl, rfl⟩⟩
theorem MvAt.lt {W : World} {B n : Nat} {f : Value → Option Nat} (h : MvAt W B n f) : B < W.heap.size := by obtain ⟨D, h1, _⟩ := h; exact h1.lt
theorem MvAt.same {W W' : World} {B n : Nat} {f : Value → Option Nat} (h : MvAt W B n f) (hb : W'.heap[B]? = W.heap[B]?) : MvAt W' B n f := by
  obtain ⟨D, ⟨es, clock, h1, h2⟩, h3⟩ := h
  exact ⟨D, ⟨es, clock, hb.trans h1, h2⟩, h3⟩
theorem MvAt.below {W W' : World} {B n : Nat} {f : Value → Option Nat} (h : MvAt W B n f) (hb : Below W.heap.size W W') : MvAt W' B n f := h.same (hb.block _ h.lt)
theorem MvAt.fb {F : Nat → Prop} {W W' : World} {B n : Nat} {f : Value → Option Nat} (h : MvAt W B n f) (hb : Fb F W W') (hF : ¬ F B) : MvAt W' B n f := h.same (hb.block _ h.lt hF)
theorem MvAt.ext {W : World} {B n : Nat} {f g : Value → Option Nat} (h : MvAt W B n f) (he : ∀ v l, kOf v = some l → f v = g v) : MvAt W B n g := by
  obtain ⟨D, h1, h2⟩ := h
  exact ⟨D, h1, fun v l hv => by rw [← he v l hv]; exact h2 v l hv⟩
theorem MvAt.mono {W : World} {B n m : Nat} {f : Value → Option Nat} (h : MvAt W B n f) (hm : n ≤ m) : MvAt W B m f := by
  obtain ⟨D, h1, h2⟩ := h
  exact ⟨D, h1.mono hm, h2⟩
theorem MvAt.look_ok {W : World} {B n : Nat} {f : Value → Option Nat} (h : MvAt W B n f) {v : Value} {l : Lit} (hv : kOf v = some l) : (Instr.lookup 122 (.map (some B)) v true).run Tryz.prog W = .ok (.tuple #[.pointer (ptrP (f v)), .bool (f v).isSome]) W := by
  obtain ⟨D, h1, h2⟩ := h
  obtain ⟨u, ps, hr, hu⟩ := h1.look_ok klaw Tryz.underlying122 (kzero W) (zd := .lit (.int .i64 (-1))) (zp := []) rfl hv
  rw [(h2 v l hv).1] at hu
  rw [hr, Rp_inv hu, (h2 v l hv).2]
theorem MvAt.look {W : World} {B n : Nat} {f : Value → Option Nat} (h : MvAt W B n f) {v : Value} {l : Lit} (hv : kOf v = some l) : (Instr.lookup 122 (.map (some B)) v false).run Tryz.prog W = .ok (.pointer (ptrP (f v))) W := by
  obtain ⟨D, h1, h2⟩ := h
  obtain ⟨u, ps, hr, hu⟩ := h1.lookup klaw Tryz.underlying122 (kzero W) (zd := .lit (.int .i64 (-1))) (zp := []) rfl hv
  rw [(h2 v l hv).1] at hu
  rw [hr, Rp_inv hu]
theorem MvAt.store {W : World} {B n : Nat} {f : Value → Option Nat} (h : MvAt W B n f) (hn : n ≤ 100000) {v : Value} {l : Lit} (hv : kOf v = some l) (b : Nat) :
    ∃ W', (Instr.mapUpdate 122 (.map (some B)) v (.pointer (some ⟨b, 0, none⟩))).run Tryz.prog W = .ok () W' ∧ (∀ g : Value → Option Nat, g v = some b → (∀ u, u ≠ v → g u = f u) → MvAt W' B (n + 1) g) ∧ W.mapTurned W' B := by
  obtain ⟨D, h1, h2⟩ := h
  obtain ⟨W', hr, ho, hg⟩ := h1.store klaw Tryz.underlying122 (by unfold maxLen; omega) hv (Rp_mk b)
  refine ⟨W', hr, fun g g1 g2 => ⟨_, ho, fun u m hu => ?_⟩, hg⟩
  by_cases e : u = v
  · subst e
    have e2 : m = l := by rw [hv] at hu; exact (Option.some.inj hu).symm
    subst e2
    rw [atKey_put_same h1.isMap (klaw.key hv), has_put_same h1.isMap (klaw.key hv), g1]
    exact ⟨rfl, rfl⟩
  · have hne : m ≠ l := fun e2 => e (klaw.inj hu (by rw [e2]; exact hv))
    rw [atKey_put_other hne, has_put_other hne, g2 u e]
    exact h2 u m hu
theorem MvAt.drop {W : World} {B n : Nat} {f : Value → Option Nat} (h : MvAt W B n f) {v : Value} {l : Lit} (hv : kOf v = some l) (ty : TypeId) :
    ∃ W', (Builtin.delete_ #[122, 121] ty #[.map (some B), v]).run Tryz.prog W = .ok (.tuple #[]) W' ∧ (∀ g : Value → Option Nat, g v = none → (∀ u, u ≠ v → g u = f u) → MvAt W' B n g) ∧ W.mapTurned W' B := by
  obtain ⟨D, h1, h2⟩ := h
  obtain ⟨W', hr, ho, hg⟩ := h1.drop klaw Tryz.underlying122 hv ty
  refine ⟨W', hr, fun g g1 g2 => ⟨_, ho, fun u m hu => ?_⟩, hg⟩
  by_cases e : u = v
  · subst e
    have e2 : m = l := by rw [hv] at hu; exact (Option.some.inj hu).symm
    subst e2
    rw [atKey_del_same, has_del_same, g1]
    exact ⟨rfl, rfl⟩
  · have hne : m ≠ l := fun e2 => e (klaw.inj hu (by rw [e2]; exact hv))
    rw [atKey_del_other hne, has_del_other hne, g2 u e]
    exact h2 u m hu
theorem MvAt.len {W : World} {B n : Nat} {f : Value → Option Nat} (h : MvAt W B n f) (ty : TypeId) : ∃ s : Nat, (Builtin.len_ #[122] ty #[.map (some B)]).run Tryz.prog W = .ok (.int .i64 s) W ∧ s ≤ n ∧ (s = 0 ↔ ∀ v l, kOf v = some l → f v = none) := by
  obtain ⟨D, h1, h2⟩ := h
  refine ⟨Maps.size D, h1.len Tryz.underlying122 ty, h1.size_le, fun h0 v l hv => ?_, fun h0 => ?_⟩
  · obtain ⟨es, rfl⟩ := h1.isMap
    rw [size_eq] at h0
    have : es = [] := List.eq_nil_of_length_eq_zero h0
    subst this
    have := (h2 v l hv).2
    rw [has_eq] at this
    simp at this
    cases hf : f v with
    | none => rfl
    | some b => rw [hf] at this; simp at this
  · obtain ⟨es, clock, hb, F, hs, rfl⟩ := h1
    rw [size_eq, length_read]
    cases hes : es.toList with
    | nil => simpa using congrArg List.length hes
    | cons x xs =>
      exfalso
      obtain ⟨y, hy⟩ := F.reads x (by rw [hes]; exact List.mem_cons_self ..)
      have hk := WideElems.rd_key hy
      have := (h2 x.key y.1 hk).2
      rw [h0 x.key y.1 hk] at this
      have ht : Maps.has (DataW.map ((es.toList.map (WideElems.rg Tryz.prog 121 Rp)).foldr DataW.insert [])) y.1 = true := by
        rw [has_eq, List.any_eq_true]
        refine ⟨WideElems.rg Tryz.prog 121 Rp x, (WideShapes.sorted_perm _).symm.subset (List.mem_map.2 ⟨x, by rw [hes]; exact List.mem_cons_self .., rfl⟩), ?_⟩
        rw [WideElems.rg_of hy]
        exact WideAt.sameKey_self (klaw.key hk)
      rw [ht] at this
      simp at this
theorem MvAt.fbm {W W' : World} {B : Nat} (h : W.mapTurned W' B) : Fb (at1 B) W W' := by
  have := h.grown
  exact ⟨this.os, this.tape, this.output, this.size, fun k hk hn => this.block k hk fun e => hn (by cases e; rfl)⟩
/-- The cells of a part of a text in an array of 16. -/
def padL (xs : List Int) : List Int := xs ++ List.replicate (16 - xs.length) 0
theorem padL_len {xs : List Int} (h : xs.length ≤ 16) : (padL xs).length = 16 := by simp [padL]; omega
def keyV (xs : List Int) : Value := .agg ((padL xs).map (Value.int .i64)).toArray
theorem keyV_inj {xs ys : List Int} (h : xs.length = ys.length) (e : keyV xs = keyV ys) : xs = ys := by
  unfold keyV at e
  simp only [Value.agg.injEq] at e
  have e2 : (padL xs).map (Value.int .i64) = (padL ys).map (Value.int .i64) := by simpa using e
  have e3 : padL xs = padL ys := by
    exact (List.map_inj_right (fun a b hab => by cases hab; rfl)).1 e2
  unfold padL at e3
  exact (List.append_inj e3 h).1
theorem Tryz.cellsK : Tryz.prog.cellsOf 121 = 16 := by kernel_rfl
theorem mapM_some {α β : Type} (f : α → Option β) : ∀ l : List α, (∀ a ∈ l, ∃ y, f a = some y) → ∃ ys, l.mapM f = some ys
  | [], _ => ⟨[], rfl⟩
  | a :: l, h => by
    obtain ⟨y, hy⟩ := h a (List.mem_cons_self ..)
    obtain ⟨ys, hys⟩ := mapM_some f l fun b hb => h b (List.mem_cons_of_mem _ hb)
    exact ⟨y :: ys, by rw [List.mapM_cons, hy]; simp [hys]⟩
theorem Tryz.typeK : Tryz.prog.keyType 121 = true := by kernel_rfl
theorem Tryz.cellsIk : Tryz.prog.cellsOf 3 = 1 := by kernel_rfl
/-- Each such array is a key. -/
theorem keyV_key {xs : List Int} (h : xs.length ≤ 16) (hb : ∀ x ∈ xs, -9223372036854775808 ≤ x ∧ x ≤ 9223372036854775807) : ∃ l, kOf (keyV xs) = some l := by
  have hl := padL_len h
  have hbp : ∀ x ∈ padL xs, -9223372036854775808 ≤ x ∧ x ≤ 9223372036854775807 := by
    intro x hx
    unfold padL at hx
    rcases List.mem_append.1 hx with h1 | h1
    · exact hb x h1
    · rw [(List.mem_replicate.1 h1).2]; omega
  unfold kOf keyOf
  simp only [Tryz.underlying121, Tryz.typeK, Bool.true_and]
  have hf : (keyV xs).formed Tryz.prog 121 = true := by
    unfold keyV
    simp [Value.formed, Tryz.underlying121, Tryz.cellsK, hl]
  rw [if_pos hf]
  have hc : (keyV xs).cells.toList = (padL xs).map (Value.int .i64) := by unfold keyV; simp [Value.cells]
  rw [hc]
  obtain ⟨m, hm⟩ : ∃ m, Tryz.prog.types.size = m + 1 := Nat.exists_eq_succ_of_ne_zero (Nat.ne_of_gt (Nat.lt_of_le_of_lt (Nat.zero_le _) Tryz.rowK))
  rw [hm]
  unfold Program.keyLits
  simp only [Tryz.underlying121, List.length_map, hl, Tryz.cellsK, if_true]
  obtain ⟨ys, hys⟩ := mapM_some (fun i => Tryz.prog.keyLits (m + 1) 3 ((((padL xs).map (Value.int .i64)).drop (i * Tryz.prog.cellsOf 3)).take (Tryz.prog.cellsOf 3))) (List.range 16) fun i hi => by
    rw [List.mem_range] at hi
    rw [Tryz.cellsIk, Nat.mul_one]
    have e : (((padL xs).map (Value.int .i64)).drop i).take 1 = [.int .i64 ((padL xs)[i]'(by omega))] := by
      rw [List.take_one, List.head?_drop, List.getElem?_map, List.getElem?_eq_getElem (by omega)]
      rfl
    rw [e]
    unfold Program.keyLits
    simp only [Tryz.underlying3]
    rw [if_pos ⟨trivial, WalkArith.wf_i64 (hbp _ (List.getElem_mem _))⟩]
    exact ⟨_, rfl⟩
  rw [hys]
  exact ⟨_, rfl⟩
end Go.Proofs.YtjgggialnegddaaGreat
namespace Go.Proofs.YtjgggialnegddaaGreat
open Go.RowKit Go.Maps
set_option linter.unusedVariables false
set_option maxRecDepth 1000000

theorem list16 {ps : List Int} (h : ps.length = 16) : ∃ p0 p1 p2 p3 p4 p5 p6 p7 p8 p9 p10 p11 p12 p13 p14 p15, ps = [p0, p1, p2, p3, p4, p5, p6, p7, p8, p9, p10, p11, p12, p13, p14, p15] := by
  match ps, h with
  | [p0, p1, p2, p3, p4, p5, p6, p7, p8, p9, p10, p11, p12, p13, p14, p15], _ => exact ⟨_, _, _, _, _, _, _, _, _, _, _, _, _, _, _, _, rfl⟩
theorem splice_pad {xs : List Int} (h : xs.length ≤ 16) : splice (List.replicate 16 (Value.int .i64 0)) 0 (xs.map (Value.int .i64)) = (padL xs).map (Value.int .i64) := by
  unfold splice padL
  rw [List.take_zero, List.nil_append, List.map_append, List.length_map, Nat.zero_add, List.drop_replicate, List.map_replicate]
theorem cells_16 {W : World} {g : Nat} {v0 v1 v2 v3 v4 v5 v6 v7 v8 v9 v10 v11 v12 v13 v14 v15 : Value} {T : TypeId} (h : W.heap[g]? = some (.cells #[v0, v1, v2, v3, v4, v5, v6, v7, v8, v9, v10, v11, v12, v13, v14, v15] T (0, 0))) :
    W.cell? ⟨g, 0, none⟩ = some v0 ∧ W.cell? ⟨g, 1, none⟩ = some v1 ∧ W.cell? ⟨g, 2, none⟩ = some v2 ∧ W.cell? ⟨g, 3, none⟩ = some v3 ∧ W.cell? ⟨g, 4, none⟩ = some v4 ∧ W.cell? ⟨g, 5, none⟩ = some v5 ∧ W.cell? ⟨g, 6, none⟩ = some v6 ∧ W.cell? ⟨g, 7, none⟩ = some v7 ∧ W.cell? ⟨g, 8, none⟩ = some v8 ∧ W.cell? ⟨g, 9, none⟩ = some v9 ∧ W.cell? ⟨g, 10, none⟩ = some v10 ∧ W.cell? ⟨g, 11, none⟩ = some v11 ∧ W.cell? ⟨g, 12, none⟩ = some v12 ∧ W.cell? ⟨g, 13, none⟩ = some v13 ∧ W.cell? ⟨g, 14, none⟩ = some v14 ∧ W.cell? ⟨g, 15, none⟩ = some v15 := by
  refine ⟨?_, ?_, ?_, ?_, ?_, ?_, ?_, ?_, ?_, ?_, ?_, ?_, ?_, ?_, ?_, ?_⟩ <;> (rw [cell_of_row _ _ _ _ _ _ h]; rfl)
theorem set16 {W : World} {g : Nat} {T : TypeId} (p0 p1 p2 p3 p4 p5 p6 p7 p8 p9 p10 p11 p12 p13 p14 p15 : Int) (h : W.heap[g]? = some (.cells #[Value.int .i64 0, Value.int .i64 0, Value.int .i64 0, Value.int .i64 0, Value.int .i64 0, Value.int .i64 0, Value.int .i64 0, Value.int .i64 0, Value.int .i64 0, Value.int .i64 0, Value.int .i64 0, Value.int .i64 0, Value.int .i64 0, Value.int .i64 0, Value.int .i64 0, Value.int .i64 0] T (0, 0))) :
    ((((((((((((((((W.setCell ⟨g, 0, none⟩ (.int .i64 p0)).setCell ⟨g, 1, none⟩ (.int .i64 p1)).setCell ⟨g, 2, none⟩ (.int .i64 p2)).setCell ⟨g, 3, none⟩ (.int .i64 p3)).setCell ⟨g, 4, none⟩ (.int .i64 p4)).setCell ⟨g, 5, none⟩ (.int .i64 p5)).setCell ⟨g, 6, none⟩ (.int .i64 p6)).setCell ⟨g, 7, none⟩ (.int .i64 p7)).setCell ⟨g, 8, none⟩ (.int .i64 p8)).setCell ⟨g, 9, none⟩ (.int .i64 p9)).setCell ⟨g, 10, none⟩ (.int .i64 p10)).setCell ⟨g, 11, none⟩ (.int .i64 p11)).setCell ⟨g, 12, none⟩ (.int .i64 p12)).setCell ⟨g, 13, none⟩ (.int .i64 p13)).setCell ⟨g, 14, none⟩ (.int .i64 p14)).setCell ⟨g, 15, none⟩ (.int .i64 p15)).heap[g]? = some (.cells #[Value.int .i64 p0, Value.int .i64 p1, Value.int .i64 p2, Value.int .i64 p3, Value.int .i64 p4, Value.int .i64 p5, Value.int .i64 p6, Value.int .i64 p7, Value.int .i64 p8, Value.int .i64 p9, Value.int .i64 p10, Value.int .i64 p11, Value.int .i64 p12, Value.int .i64 p13, Value.int .i64 p14, Value.int .i64 p15] T (0, 0)) := by
  have h1 : (W.setCell ⟨g, 0, none⟩ (.int .i64 p0)).heap[g]? = some (.cells #[Value.int .i64 p0, Value.int .i64 0, Value.int .i64 0, Value.int .i64 0, Value.int .i64 0, Value.int .i64 0, Value.int .i64 0, Value.int .i64 0, Value.int .i64 0, Value.int .i64 0, Value.int .i64 0, Value.int .i64 0, Value.int .i64 0, Value.int .i64 0, Value.int .i64 0, Value.int .i64 0] T (0, 0)) := by
    have := row_set (k := 0) (u := .int .i64 p0) h
    simpa using this
  have h2 : ((W.setCell ⟨g, 0, none⟩ (.int .i64 p0)).setCell ⟨g, 1, none⟩ (.int .i64 p1)).heap[g]? = some (.cells #[Value.int .i64 p0, Value.int .i64 p1, Value.int .i64 0, Value.int .i64 0, Value.int .i64 0, Value.int .i64 0, Value.int .i64 0, Value.int .i64 0, Value.int .i64 0, Value.int .i64 0, Value.int .i64 0, Value.int .i64 0, Value.int .i64 0, Value.int .i64 0, Value.int .i64 0, Value.int .i64 0] T (0, 0)) := by
    have := row_set (k := 1) (u := .int .i64 p1) h1
    simpa using this
  have h3 : (((W.setCell ⟨g, 0, none⟩ (.int .i64 p0)).setCell ⟨g, 1, none⟩ (.int .i64 p1)).setCell ⟨g, 2, none⟩ (.int .i64 p2)).heap[g]? = some (.cells #[Value.int .i64 p0, Value.int .i64 p1, Value.int .i64 p2, Value.int .i64 0, Value.int .i64 0, Value.int .i64 0, Value.int .i64 0, Value.int .i64 0, Value.int .i64 0, Value.int .i64 0, Value.int .i64 0, Value.int .i64 0, Value.int .i64 0, Value.int .i64 0, Value.int .i64 0, Value.int .i64 0] T (0, 0)) := by
    have := row_set (k := 2) (u := .int .i64 p2) h2
    simpa using this
  have h4 : ((((W.setCell ⟨g, 0, none⟩ (.int .i64 p0)).setCell ⟨g, 1, none⟩ (.int .i64 p1)).setCell ⟨g, 2, none⟩ (.int .i64 p2)).setCell ⟨g, 3, none⟩ (.int .i64 p3)).heap[g]? = some (.cells #[Value.int .i64 p0, Value.int .i64 p1, Value.int .i64 p2, Value.int .i64 p3, Value.int .i64 0, Value.int .i64 0, Value.int .i64 0, Value.int .i64 0, Value.int .i64 0, Value.int .i64 0, Value.int .i64 0, Value.int .i64 0, Value.int .i64 0, Value.int .i64 0, Value.int .i64 0, Value.int .i64 0] T (0, 0)) := by
    have := row_set (k := 3) (u := .int .i64 p3) h3
    simpa using this
  have h5 : (((((W.setCell ⟨g, 0, none⟩ (.int .i64 p0)).setCell ⟨g, 1, none⟩ (.int .i64 p1)).setCell ⟨g, 2, none⟩ (.int .i64 p2)).setCell ⟨g, 3, none⟩ (.int .i64 p3)).setCell ⟨g, 4, none⟩ (.int .i64 p4)).heap[g]? = some (.cells #[Value.int .i64 p0, Value.int .i64 p1, Value.int .i64 p2, Value.int .i64 p3, Value.int .i64 p4, Value.int .i64 0, Value.int .i64 0, Value.int .i64 0, Value.int .i64 0, Value.int .i64 0, Value.int .i64 0, Value.int .i64 0, Value.int .i64 0, Value.int .i64 0, Value.int .i64 0, Value.int .i64 0] T (0, 0)) := by
    have := row_set (k := 4) (u := .int .i64 p4) h4
    simpa using this
  have h6 : ((((((W.setCell ⟨g, 0, none⟩ (.int .i64 p0)).setCell ⟨g, 1, none⟩ (.int .i64 p1)).setCell ⟨g, 2, none⟩ (.int .i64 p2)).setCell ⟨g, 3, none⟩ (.int .i64 p3)).setCell ⟨g, 4, none⟩ (.int .i64 p4)).setCell ⟨g, 5, none⟩ (.int .i64 p5)).heap[g]? = some (.cells #[Value.int .i64 p0, Value.int .i64 p1, Value.int .i64 p2, Value.int .i64 p3, Value.int .i64 p4, Value.int .i64 p5, Value.int .i64 0, Value.int .i64 0, Value.int .i64 0, Value.int .i64 0, Value.int .i64 0, Value.int .i64 0, Value.int .i64 0, Value.int .i64 0, Value.int .i64 0, Value.int .i64 0] T (0, 0)) := by
    have := row_set (k := 5) (u := .int .i64 p5) h5
    simpa using this
  have h7 : (((((((W.setCell ⟨g, 0, none⟩ (.int .i64 p0)).setCell ⟨g, 1, none⟩ (.int .i64 p1)).setCell ⟨g, 2, none⟩ (.int .i64 p2)).setCell ⟨g, 3, none⟩ (.int .i64 p3)).setCell ⟨g, 4, none⟩ (.int .i64 p4)).setCell ⟨g, 5, none⟩ (.int .i64 p5)).setCell ⟨g, 6, none⟩ (.int .i64 p6)).heap[g]? = some (.cells #[Value.int .i64 p0, Value.int .i64 p1, Value.int .i64 p2, Value.int .i64 p3, Value.int .i64 p4, Value.int .i64 p5, Value.int .i64 p6, Value.int .i64 0, Value.int .i64 0, Value.int .i64 0, Value.int .i64 0, Value.int .i64 0, Value.int .i64 0, Value.int .i64 0, Value.int .i64 0, Value.int .i64 0] T (0, 0)) := by
    have := row_set (k := 6) (u := .int .i64 p6) h6
    simpa using this
  have h8 : ((((((((W.setCell ⟨g, 0, none⟩ (.int .i64 p0)).setCell ⟨g, 1, none⟩ (.int .i64 p1)).setCell ⟨g, 2, none⟩ (.int .i64 p2)).setCell ⟨g, 3, none⟩ (.int .i64 p3)).setCell ⟨g, 4, none⟩ (.int .i64 p4)).setCell ⟨g, 5, none⟩ (.int .i64 p5)).setCell ⟨g, 6, none⟩ (.int .i64 p6)).setCell ⟨g, 7, none⟩ (.int .i64 p7)).heap[g]? = some (.cells #[Value.int .i64 p0, Value.int .i64 p1, Value.int .i64 p2, Value.int .i64 p3, Value.int .i64 p4, Value.int .i64 p5, Value.int .i64 p6, Value.int .i64 p7, Value.int .i64 0, Value.int .i64 0, Value.int .i64 0, Value.int .i64 0, Value.int .i64 0, Value.int .i64 0, Value.int .i64 0, Value.int .i64 0] T (0, 0)) := by
    have := row_set (k := 7) (u := .int .i64 p7) h7
    simpa using this
  have h9 : (((((((((W.setCell ⟨g, 0, none⟩ (.int .i64 p0)).setCell ⟨g, 1, none⟩ (.int .i64 p1)).setCell ⟨g, 2, none⟩ (.int .i64 p2)).setCell ⟨g, 3, none⟩ (.int .i64 p3)).setCell ⟨g, 4, none⟩ (.int .i64 p4)).setCell ⟨g, 5, none⟩ (.int .i64 p5)).setCell ⟨g, 6, none⟩ (.int .i64 p6)).setCell ⟨g, 7, none⟩ (.int .i64 p7)).setCell ⟨g, 8, none⟩ (.int .i64 p8)).heap[g]? = some (.cells #[Value.int .i64 p0, Value.int .i64 p1, Value.int .i64 p2, Value.int .i64 p3, Value.int .i64 p4, Value.int .i64 p5, Value.int .i64 p6, Value.int .i64 p7, Value.int .i64 p8, Value.int .i64 0, Value.int .i64 0, Value.int .i64 0, Value.int .i64 0, Value.int .i64 0, Value.int .i64 0, Value.int .i64 0] T (0, 0)) := by
    have := row_set (k := 8) (u := .int .i64 p8) h8
    simpa using this
  have h10 : ((((((((((W.setCell ⟨g, 0, none⟩ (.int .i64 p0)).setCell ⟨g, 1, none⟩ (.int .i64 p1)).setCell ⟨g, 2, none⟩ (.int .i64 p2)).setCell ⟨g, 3, none⟩ (.int .i64 p3)).setCell ⟨g, 4, none⟩ (.int .i64 p4)).setCell ⟨g, 5, none⟩ (.int .i64 p5)).setCell ⟨g, 6, none⟩ (.int .i64 p6)).setCell ⟨g, 7, none⟩ (.int .i64 p7)).setCell ⟨g, 8, none⟩ (.int .i64 p8)).setCell ⟨g, 9, none⟩ (.int .i64 p9)).heap[g]? = some (.cells #[Value.int .i64 p0, Value.int .i64 p1, Value.int .i64 p2, Value.int .i64 p3, Value.int .i64 p4, Value.int .i64 p5, Value.int .i64 p6, Value.int .i64 p7, Value.int .i64 p8, Value.int .i64 p9, Value.int .i64 0, Value.int .i64 0, Value.int .i64 0, Value.int .i64 0, Value.int .i64 0, Value.int .i64 0] T (0, 0)) := by
    have := row_set (k := 9) (u := .int .i64 p9) h9
    simpa using this
  have h11 : (((((((((((W.setCell ⟨g, 0, none⟩ (.int .i64 p0)).setCell ⟨g, 1, none⟩ (.int .i64 p1)).setCell ⟨g, 2, none⟩ (.int .i64 p2)).setCell ⟨g, 3, none⟩ (.int .i64 p3)).setCell ⟨g, 4, none⟩ (.int .i64 p4)).setCell ⟨g, 5, none⟩ (.int .i64 p5)).setCell ⟨g, 6, none⟩ (.int .i64 p6)).setCell ⟨g, 7, none⟩ (.int .i64 p7)).setCell ⟨g, 8, none⟩ (.int .i64 p8)).setCell ⟨g, 9, none⟩ (.int .i64 p9)).setCell ⟨g, 10, none⟩ (.int .i64 p10)).heap[g]? = some (.cells #[Value.int .i64 p0, Value.int .i64 p1, Value.int .i64 p2, Value.int .i64 p3, Value.int .i64 p4, Value.int .i64 p5, Value.int .i64 p6, Value.int .i64 p7, Value.int .i64 p8, Value.int .i64 p9, Value.int .i64 p10, Value.int .i64 0, Value.int .i64 0, Value.int .i64 0, Value.int .i64 0, Value.int .i64 0] T (0, 0)) := by
    have := row_set (k := 10) (u := .int .i64 p10) h10
    simpa using this
  have h12 : ((((((((((((W.setCell ⟨g, 0, none⟩ (.int .i64 p0)).setCell ⟨g, 1, none⟩ (.int .i64 p1)).setCell ⟨g, 2, none⟩ (.int .i64 p2)).setCell ⟨g, 3, none⟩ (.int .i64 p3)).setCell ⟨g, 4, none⟩ (.int .i64 p4)).setCell ⟨g, 5, none⟩ (.int .i64 p5)).setCell ⟨g, 6, none⟩ (.int .i64 p6)).setCell ⟨g, 7, none⟩ (.int .i64 p7)).setCell ⟨g, 8, none⟩ (.int .i64 p8)).setCell ⟨g, 9, none⟩ (.int .i64 p9)).setCell ⟨g, 10, none⟩ (.int .i64 p10)).setCell ⟨g, 11, none⟩ (.int .i64 p11)).heap[g]? = some (.cells #[Value.int .i64 p0, Value.int .i64 p1, Value.int .i64 p2, Value.int .i64 p3, Value.int .i64 p4, Value.int .i64 p5, Value.int .i64 p6, Value.int .i64 p7, Value.int .i64 p8, Value.int .i64 p9, Value.int .i64 p10, Value.int .i64 p11, Value.int .i64 0, Value.int .i64 0, Value.int .i64 0, Value.int .i64 0] T (0, 0)) := by
    have := row_set (k := 11) (u := .int .i64 p11) h11
    simpa using this
  have h13 : (((((((((((((W.setCell ⟨g, 0, none⟩ (.int .i64 p0)).setCell ⟨g, 1, none⟩ (.int .i64 p1)).setCell ⟨g, 2, none⟩ (.int .i64 p2)).setCell ⟨g, 3, none⟩ (.int .i64 p3)).setCell ⟨g, 4, none⟩ (.int .i64 p4)).setCell ⟨g, 5, none⟩ (.int .i64 p5)).setCell ⟨g, 6, none⟩ (.int .i64 p6)).setCell ⟨g, 7, none⟩ (.int .i64 p7)).setCell ⟨g, 8, none⟩ (.int .i64 p8)).setCell ⟨g, 9, none⟩ (.int .i64 p9)).setCell ⟨g, 10, none⟩ (.int .i64 p10)).setCell ⟨g, 11, none⟩ (.int .i64 p11)).setCell ⟨g, 12, none⟩ (.int .i64 p12)).heap[g]? = some (.cells #[Value.int .i64 p0, Value.int .i64 p1, Value.int .i64 p2, Value.int .i64 p3, Value.int .i64 p4, Value.int .i64 p5, Value.int .i64 p6, Value.int .i64 p7, Value.int .i64 p8, Value.int .i64 p9, Value.int .i64 p10, Value.int .i64 p11, Value.int .i64 p12, Value.int .i64 0, Value.int .i64 0, Value.int .i64 0] T (0, 0)) := by
    have := row_set (k := 12) (u := .int .i64 p12) h12
    simpa using this
  have h14 : ((((((((((((((W.setCell ⟨g, 0, none⟩ (.int .i64 p0)).setCell ⟨g, 1, none⟩ (.int .i64 p1)).setCell ⟨g, 2, none⟩ (.int .i64 p2)).setCell ⟨g, 3, none⟩ (.int .i64 p3)).setCell ⟨g, 4, none⟩ (.int .i64 p4)).setCell ⟨g, 5, none⟩ (.int .i64 p5)).setCell ⟨g, 6, none⟩ (.int .i64 p6)).setCell ⟨g, 7, none⟩ (.int .i64 p7)).setCell ⟨g, 8, none⟩ (.int .i64 p8)).setCell ⟨g, 9, none⟩ (.int .i64 p9)).setCell ⟨g, 10, none⟩ (.int .i64 p10)).setCell ⟨g, 11, none⟩ (.int .i64 p11)).setCell ⟨g, 12, none⟩ (.int .i64 p12)).setCell ⟨g, 13, none⟩ (.int .i64 p13)).heap[g]? = some (.cells #[Value.int .i64 p0, Value.int .i64 p1, Value.int .i64 p2, Value.int .i64 p3, Value.int .i64 p4, Value.int .i64 p5, Value.int .i64 p6, Value.int .i64 p7, Value.int .i64 p8, Value.int .i64 p9, Value.int .i64 p10, Value.int .i64 p11, Value.int .i64 p12, Value.int .i64 p13, Value.int .i64 0, Value.int .i64 0] T (0, 0)) := by
    have := row_set (k := 13) (u := .int .i64 p13) h13
    simpa using this
  have h15 : (((((((((((((((W.setCell ⟨g, 0, none⟩ (.int .i64 p0)).setCell ⟨g, 1, none⟩ (.int .i64 p1)).setCell ⟨g, 2, none⟩ (.int .i64 p2)).setCell ⟨g, 3, none⟩ (.int .i64 p3)).setCell ⟨g, 4, none⟩ (.int .i64 p4)).setCell ⟨g, 5, none⟩ (.int .i64 p5)).setCell ⟨g, 6, none⟩ (.int .i64 p6)).setCell ⟨g, 7, none⟩ (.int .i64 p7)).setCell ⟨g, 8, none⟩ (.int .i64 p8)).setCell ⟨g, 9, none⟩ (.int .i64 p9)).setCell ⟨g, 10, none⟩ (.int .i64 p10)).setCell ⟨g, 11, none⟩ (.int .i64 p11)).setCell ⟨g, 12, none⟩ (.int .i64 p12)).setCell ⟨g, 13, none⟩ (.int .i64 p13)).setCell ⟨g, 14, none⟩ (.int .i64 p14)).heap[g]? = some (.cells #[Value.int .i64 p0, Value.int .i64 p1, Value.int .i64 p2, Value.int .i64 p3, Value.int .i64 p4, Value.int .i64 p5, Value.int .i64 p6, Value.int .i64 p7, Value.int .i64 p8, Value.int .i64 p9, Value.int .i64 p10, Value.int .i64 p11, Value.int .i64 p12, Value.int .i64 p13, Value.int .i64 p14, Value.int .i64 0] T (0, 0)) := by
    have := row_set (k := 14) (u := .int .i64 p14) h14
    simpa using this
  have h16 : ((((((((((((((((W.setCell ⟨g, 0, none⟩ (.int .i64 p0)).setCell ⟨g, 1, none⟩ (.int .i64 p1)).setCell ⟨g, 2, none⟩ (.int .i64 p2)).setCell ⟨g, 3, none⟩ (.int .i64 p3)).setCell ⟨g, 4, none⟩ (.int .i64 p4)).setCell ⟨g, 5, none⟩ (.int .i64 p5)).setCell ⟨g, 6, none⟩ (.int .i64 p6)).setCell ⟨g, 7, none⟩ (.int .i64 p7)).setCell ⟨g, 8, none⟩ (.int .i64 p8)).setCell ⟨g, 9, none⟩ (.int .i64 p9)).setCell ⟨g, 10, none⟩ (.int .i64 p10)).setCell ⟨g, 11, none⟩ (.int .i64 p11)).setCell ⟨g, 12, none⟩ (.int .i64 p12)).setCell ⟨g, 13, none⟩ (.int .i64 p13)).setCell ⟨g, 14, none⟩ (.int .i64 p14)).setCell ⟨g, 15, none⟩ (.int .i64 p15)).heap[g]? = some (.cells #[Value.int .i64 p0, Value.int .i64 p1, Value.int .i64 p2, Value.int .i64 p3, Value.int .i64 p4, Value.int .i64 p5, Value.int .i64 p6, Value.int .i64 p7, Value.int .i64 p8, Value.int .i64 p9, Value.int .i64 p10, Value.int .i64 p11, Value.int .i64 p12, Value.int .i64 p13, Value.int .i64 p14, Value.int .i64 p15] T (0, 0)) := by
    have := row_set (k := 15) (u := .int .i64 p15) h15
    simpa using this
  exact h16
/-- 'copy' of a list of at most 16 ints into an array of 16. -/
theorem copy_arr (w : World) (g : Nat) (T : TypeId) (hg : w.heap[g]? = some (.cells (List.replicate 16 (Value.int .i64 0)).toArray T (0, 0))) (a : Option Addr) (n cap : Nat) (xs : List Int) (h : Reads .i64 w a n cap xs) (hn : n ≤ 16) (ty : TypeId) :
    ∃ w3, (Builtin.copy_ #[41, 41] ty #[.slice (some ⟨g, 0, none⟩) 16 16, .slice a n cap]).run Tryz.prog w = .ok (.int .i64 n) w3 ∧ w3.heap[g]? = some (.cells ((padL xs).map (Value.int .i64)).toArray T (0, 0)) ∧ Fb (at1 g) w w3 := by
  have hsz : (Tryz.prog.info? 3).map (·.size) = some 1 := by kernel_rfl
  have hz := h.size
  have hmin : Nat.min n 16 = n := Nat.min_eq_left hn
  cases a with
  | none =>
    obtain ⟨h1, h2⟩ := h.bare rfl
    subst h1
    have hx : xs = [] := List.eq_nil_of_length_eq_zero hz
    subst hx
    have := run_copy_none (P := Tryz.prog) w 41 41 ty 3 (some ⟨g, 0, none⟩) none 16 16 0 cap Tryz.underlying41 hsz rfl
    refine ⟨w, this, ?_, Fb.refl _ _⟩
    rw [hg]
    rfl
  | some ad =>
    have := run_copy_row (P := Tryz.prog) w 41 41 ty 3 g 0 16 16 ad n cap (List.replicate 16 (Value.int .i64 0)).toArray T (xs.map (Value.int .i64)) Tryz.underlying41 hsz hg (by rw [List.length_map, hz, hmin]) h.news (by simp; omega) (fun v hv => by obtain ⟨x, _, rfl⟩ := List.mem_map.1 hv; rfl)
    rw [List.length_map, hz] at this
    refine ⟨_, this, (setRow_heap w g _ _ T _ hg).trans ?_, ?_⟩
    · have e := splice_pad (xs := xs) (by omega)
      unfold splice at e
      rw [List.length_map, hz] at e
      congr 2
      rw [← e]
      simp
    · exact ⟨rfl, rfl, rfl, by simp [World.setRow], fun k hk hne => setRow_other w g k _ hne⟩
set_option maxHeartbeats 2000000 in
theorem kkey_any (a : Option Addr) (n cap : Nat) (xs : List Int) (w : World) (h : Reads .i64 w a n cap xs) (hn : n ≤ 16) :
    Calls Tryz.prog 86 #[.slice a n cap] w fun e w' => e = .returned (keyV xs) ∧ Below w.heap.size w w' := by
  obtain ⟨p0, p1, p2, p3, p4, p5, p6, p7, p8, p9, p10, p11, p12, p13, p14, p15, hps⟩ := list16 (padL_len (xs := xs) (by rw [h.size]; exact hn))
  have r1 := h.room
  have m1 := h.most
  obtain ⟨Z, hZ⟩ : ∃ Z, Z = Obj.cells #[Value.int .i64 0, .int .i64 0, .int .i64 0, .int .i64 0, .int .i64 0, .int .i64 0, .int .i64 0, .int .i64 0, .int .i64 0, .int .i64 0, .int .i64 0, .int .i64 0, .int .i64 0, .int .i64 0, .int .i64 0, .int .i64 0] 121 := ⟨_, rfl⟩
  have hb2 : Below w.heap.size w ((w.alloc Z).alloc Z) := ((Below.refl _ _).alloc (Nat.le_refl _) _).alloc (by simp) _
  have hG : ((w.alloc Z).alloc Z).heap[w.heap.size + 1]? = some (.cells (List.replicate 16 (Value.int .i64 0)).toArray 121 (0, 0)) := by
    have := heap_alloc_new (w.alloc Z) Z
    rw [World.size_alloc] at this
    rw [this, hZ]
    rfl
  have hR0 : ((w.alloc Z).alloc Z).heap[w.heap.size]? = some (.cells #[Value.int .i64 0, .int .i64 0, .int .i64 0, .int .i64 0, .int .i64 0, .int .i64 0, .int .i64 0, .int .i64 0, .int .i64 0, .int .i64 0, .int .i64 0, .int .i64 0, .int .i64 0, .int .i64 0, .int .i64 0, .int .i64 0] 121 (0, 0)) := by
    rw [Below.heap_alloc _ _ _ (by simp), heap_alloc_new, hZ]
  obtain ⟨w3, hcp, hg3, hf3⟩ := copy_arr _ _ _ hG a n cap xs (h.below hb2) hn 3
  have hB3 : Below w.heap.size w w3 := hb2.trans (hf3.to (fun x hx => by have e : x = w.heap.size + 1 := hx; omega) hb2.size)
  have hr0 := hf3.one hR0 (fun e => by have e' : w.heap.size = w.heap.size + 1 := e; omega)
  rw [hps] at hg3
  obtain ⟨c0, c1, c2, c3, c4, c5, c6, c7, c8, c9, c10, c11, c12, c13, c14, c15⟩ := cells_16 (by exact hg3)
  obtain ⟨d0, d1, d2, d3, d4, d5, d6, d7, d8, d9, d10, d11, d12, d13, d14, d15⟩ := cells_16 hr0
  have fr := fun k => frozen_of_row _ _ k _ _ hr0
  obtain ⟨wf, hwf⟩ : ∃ wf, wf = ((((((((((((((((w3.setCell ⟨w.heap.size, 0, none⟩ (.int .i64 p0)).setCell ⟨w.heap.size, 1, none⟩ (.int .i64 p1)).setCell ⟨w.heap.size, 2, none⟩ (.int .i64 p2)).setCell ⟨w.heap.size, 3, none⟩ (.int .i64 p3)).setCell ⟨w.heap.size, 4, none⟩ (.int .i64 p4)).setCell ⟨w.heap.size, 5, none⟩ (.int .i64 p5)).setCell ⟨w.heap.size, 6, none⟩ (.int .i64 p6)).setCell ⟨w.heap.size, 7, none⟩ (.int .i64 p7)).setCell ⟨w.heap.size, 8, none⟩ (.int .i64 p8)).setCell ⟨w.heap.size, 9, none⟩ (.int .i64 p9)).setCell ⟨w.heap.size, 10, none⟩ (.int .i64 p10)).setCell ⟨w.heap.size, 11, none⟩ (.int .i64 p11)).setCell ⟨w.heap.size, 12, none⟩ (.int .i64 p12)).setCell ⟨w.heap.size, 13, none⟩ (.int .i64 p13)).setCell ⟨w.heap.size, 14, none⟩ (.int .i64 p14)).setCell ⟨w.heap.size, 15, none⟩ (.int .i64 p15)) := ⟨_, rfl⟩
  have hrf : wf.heap[w.heap.size]? = some (.cells #[Value.int .i64 p0, .int .i64 p1, .int .i64 p2, .int .i64 p3, .int .i64 p4, .int .i64 p5, .int .i64 p6, .int .i64 p7, .int .i64 p8, .int .i64 p9, .int .i64 p10, .int .i64 p11, .int .i64 p12, .int .i64 p13, .int .i64 p14, .int .i64 p15] 121 (0, 0)) := by rw [hwf]; exact set16 p0 p1 p2 p3 p4 p5 p6 p7 p8 p9 p10 p11 p12 p13 p14 p15 hr0
  obtain ⟨x0, x1, x2, x3, x4, x5, x6, x7, x8, x9, x10, x11, x12, x13, x14, x15⟩ := cells_16 hrf
  have HB3 : Hid (Below w.heap.size w wf) := by unfold Hid; rw [hwf]; exact (Below.setCell (Below.setCell (Below.setCell (Below.setCell (Below.setCell (Below.setCell (Below.setCell (Below.setCell (Below.setCell (Below.setCell (Below.setCell (Below.setCell (Below.setCell (Below.setCell (Below.setCell (Below.setCell hB3 (p := ⟨w.heap.size, 0, none⟩) (Nat.le_refl _) (.int .i64 p0)) (p := ⟨w.heap.size, 1, none⟩) (Nat.le_refl _) (.int .i64 p1)) (p := ⟨w.heap.size, 2, none⟩) (Nat.le_refl _) (.int .i64 p2)) (p := ⟨w.heap.size, 3, none⟩) (Nat.le_refl _) (.int .i64 p3)) (p := ⟨w.heap.size, 4, none⟩) (Nat.le_refl _) (.int .i64 p4)) (p := ⟨w.heap.size, 5, none⟩) (Nat.le_refl _) (.int .i64 p5)) (p := ⟨w.heap.size, 6, none⟩) (Nat.le_refl _) (.int .i64 p6)) (p := ⟨w.heap.size, 7, none⟩) (Nat.le_refl _) (.int .i64 p7)) (p := ⟨w.heap.size, 8, none⟩) (Nat.le_refl _) (.int .i64 p8)) (p := ⟨w.heap.size, 9, none⟩) (Nat.le_refl _) (.int .i64 p9)) (p := ⟨w.heap.size, 10, none⟩) (Nat.le_refl _) (.int .i64 p10)) (p := ⟨w.heap.size, 11, none⟩) (Nat.le_refl _) (.int .i64 p11)) (p := ⟨w.heap.size, 12, none⟩) (Nat.le_refl _) (.int .i64 p12)) (p := ⟨w.heap.size, 13, none⟩) (Nat.le_refl _) (.int .i64 p13)) (p := ⟨w.heap.size, 14, none⟩) (Nat.le_refl _) (.int .i64 p14)) (p := ⟨w.heap.size, 15, none⟩) (Nat.le_refl _) (.int .i64 p15))
  have HK : Hid (Ending.returned (.agg #[Value.int .i64 p0, .int .i64 p1, .int .i64 p2, .int .i64 p3, .int .i64 p4, .int .i64 p5, .int .i64 p6, .int .i64 p7, .int .i64 p8, .int .i64 p9, .int .i64 p10, .int .i64 p11, .int .i64 p12, .int .i64 p13, .int .i64 p14, .int .i64 p15]) = .returned (keyV xs)) := by unfold Hid keyV; rw [hps]; rfl
  rw [hZ] at hcp
  clear h hps hZ hb2 hG hR0 hg3 hf3 hB3 hr0 hrf
  go_enter Tryz.func86, Tryz.ntmps86
  go_wp2_with fail
  rw [← hwf]
  clear hwf
  exact bodyPost_ret (v := .agg #[Value.int .i64 p0, .int .i64 p1, .int .i64 p2, .int .i64 p3, .int .i64 p4, .int .i64 p5, .int .i64 p6, .int .i64 p7, .int .i64 p8, .int .i64 p9, .int .i64 p10, .int .i64 p11, .int .i64 p12, .int .i64 p13, .int .i64 p14, .int .i64 p15]) (by simp [results, Tryz.results86, go_sem, x0, x1, x2, x3, x4, x5, x6, x7, x8, x9, x10, x11, x12, x13, x14, x15]) rfl ⟨HK.out, HB3.out⟩
end Go.Proofs.YtjgggialnegddaaGreat
namespace Go.Proofs.YtjgggialnegddaaGreat
open Go.RowKit
set_option linter.unusedVariables false
set_option maxRecDepth 1000000

/-- An entry: its tokens, and when it was used last. -/
abbrev En := List Int × Int
/-- The entry at a place. -/
def en (es : List En) (i : Nat) : En := es[i]?.getD ([], 0)
/-- Is a text a beginning of another one? -/
def begB (a b : List Int) : Bool := a.isPrefixOf b
theorem begB_iff {a b : List Int} : begB a b = true ↔ a.length ≤ b.length ∧ ∀ i, i < a.length → a[i]?.getD 0 = b[i]?.getD 0 := by
  unfold begB
  rw [List.isPrefixOf_iff_prefix]
  constructor
  · rintro ⟨c, rfl⟩
    refine ⟨by simp, fun i hi => ?_⟩
    rw [List.getElem?_append_left hi]
  · rintro ⟨h1, h2⟩
    refine List.prefix_iff_eq_take.2 (List.ext_getElem (by simp; omega) fun i h3 h4 => ?_)
    have := h2 i h3
    rw [List.getElem?_eq_getElem h3, List.getElem?_eq_getElem (by omega)] at this
    simpa using this
theorem begB_no {a b : List Int} {i : Nat} (hi : i < a.length) (h : a[i]?.getD 0 ≠ b[i]?.getD 0) : begB a b = false := by
  rw [Bool.eq_false_iff]; exact fun e => h ((begB_iff.1 e).2 i hi)
theorem begB_long {a b : List Int} (h : b.length < a.length) : begB a b = false := by
  rw [Bool.eq_false_iff]; exact fun e => by have := (begB_iff.1 e).1; omega
theorem begB_like {a b : List Int} (h : a.length = b.length) : begB a b = true ↔ a = b := by
  rw [begB_iff]
  constructor
  · rintro ⟨_, h2⟩
    refine List.ext_getElem h fun i h3 h4 => ?_
    have := h2 i h3
    rw [List.getElem?_eq_getElem h3, List.getElem?_eq_getElem h4] at this
    simpa using this
  · rintro rfl
    exact ⟨Nat.le_refl _, fun _ _ => rfl⟩
/-- Where an entry stands, or how many there are. -/
def plcI (es : List En) (ts : List Int) : Nat := es.findIdx (fun e => e.1 == ts)
def plcZ (es : List En) (ts : List Int) : Int := if plcI es ts < es.length then (plcI es ts : Int) else -1
theorem plc_at {es : List En} {ts : List Int} {i : Nat} (hi : i < es.length) (h0 : (en es i).1 = ts) (hn : ∀ j, j < i → (en es j).1 ≠ ts) : plcZ es ts = i := by
  have e : plcI es ts = i := by
    unfold plcI
    rw [List.findIdx_eq hi]
    unfold en at h0
    rw [List.getElem?_eq_getElem hi] at h0
    refine ⟨by simpa using h0, fun j hj => ?_⟩
    have := hn j hj
    unfold en at this
    rw [List.getElem?_eq_getElem (by omega)] at this
    simpa using this
  unfold plcZ
  rw [if_pos (by omega), e]
theorem plc_none {es : List En} {ts : List Int} (hn : ∀ j, j < es.length → (en es j).1 ≠ ts) : plcZ es ts = -1 := by
  have e : plcI es ts = es.length := by
    unfold plcI
    rw [List.findIdx_eq_length]
    intro x hx
    obtain ⟨j, hj, rfl⟩ := List.getElem_of_mem hx
    have := hn j hj
    unfold en at this
    rw [List.getElem?_eq_getElem hj] at this
    simpa using this
  unfold plcZ
  rw [if_neg (by omega)]
theorem plc_lt {es : List En} {ts : List Int} (h : 0 ≤ plcZ es ts) : ∃ i : Nat, plcZ es ts = i ∧ i < es.length ∧ (en es i).1 = ts := by
  unfold plcZ at h ⊢
  by_cases hl : plcI es ts < es.length
  · rw [if_pos hl]
    refine ⟨_, rfl, hl, ?_⟩
    unfold en
    rw [List.getElem?_eq_getElem hl]
    exact eq_of_beq (List.findIdx_getElem (p := fun e : En => e.1 == ts) (xs := es) (w := hl))
  · rw [if_neg hl] at h; omega
/-- Of the first k entries those that are beginnings are used now. -/
def useK (tm : Int) (ts : List Int) (es : List En) (k : Nat) : List En := (es.take k).map (fun e => if begB e.1 ts then (e.1, tm) else e) ++ es.drop k
/-- Of the first k entries the longest beginning. -/
def bestK (ts : List Int) (es : List En) : Nat → Int
  | 0 => 0
  | k + 1 => if begB (en es k).1 ts then max (bestK ts es k) ((en es k).1.length : Int) else bestK ts es k
theorem useK_0 (tm : Int) (ts : List Int) (es : List En) : useK tm ts es 0 = es := by simp [useK]
theorem useK_len (tm : Int) (ts : List Int) (es : List En) (k : Nat) : (useK tm ts es k).length = es.length := by simp [useK]; omega
theorem en_set {es : List En} {k : Nat} {x : En} (hk : k < es.length) (i : Nat) : en (es.set k x) i = if i = k then x else en es i := by
  unfold en
  rw [List.getElem?_set]
  by_cases e : k = i
  · subst e; rw [if_pos rfl, if_pos hk, if_pos rfl]; rfl
  · rw [if_neg e, if_neg (fun h => e h.symm)]
theorem useK_at (tm : Int) (ts : List Int) {es : List En} {k i : Nat} (hi : i < es.length) : en (useK tm ts es k) i = if i < k ∧ begB (en es i).1 ts = true then ((en es i).1, tm) else en es i := by
  unfold useK en
  by_cases h : i < k
  · rw [List.getElem?_append_left (by simp; omega), List.getElem?_map, List.getElem?_take_of_lt h, List.getElem?_eq_getElem hi]
    simp only [Option.map_some, Option.getD_some, h, true_and]
  · rw [List.getElem?_append_right (by simp; omega), if_neg (fun e => h e.1)]
    simp only [List.length_map, List.length_take, List.getElem?_drop]
    congr 1
    rw [Nat.min_eq_left (by omega)]
    congr 1
    omega
theorem en_ext {es fs : List En} (hl : es.length = fs.length) (h : ∀ i, i < es.length → en es i = en fs i) : es = fs := by
  apply List.ext_getElem hl
  intro i h1 h2
  have := h i h1
  unfold en at this
  rw [List.getElem?_eq_getElem h1, List.getElem?_eq_getElem h2] at this
  exact this
theorem useK_yes (tm : Int) (ts : List Int) {es : List En} {k : Nat} (hk : k < es.length) (h : begB (en es k).1 ts = true) : useK tm ts es (k + 1) = (useK tm ts es k).set k ((en es k).1, tm) := by
  refine en_ext (by rw [useK_len, List.length_set, useK_len]) fun i hi => ?_
  rw [useK_len] at hi
  rw [useK_at tm ts hi, en_set (by rw [useK_len]; exact hk), useK_at tm ts hi]
  by_cases e : i = k
  · subst e; rw [if_pos ⟨by omega, h⟩, if_pos rfl]
  · rw [if_neg e]
    by_cases q : i < k ∧ begB (en es i).1 ts = true
    · rw [if_pos q, if_pos ⟨by omega, q.2⟩]
    · rw [if_neg q, if_neg (fun q' => q ⟨by omega, q'.2⟩)]
theorem useK_no (tm : Int) (ts : List Int) {es : List En} {k : Nat} (hk : k < es.length) (h : begB (en es k).1 ts = false) : useK tm ts es (k + 1) = useK tm ts es k := by
  refine en_ext (by rw [useK_len, useK_len]) fun i hi => ?_
  rw [useK_len] at hi
  rw [useK_at tm ts hi, useK_at tm ts hi]
  by_cases e : i = k
  · subst e; rw [if_neg (fun q => by rw [h] at q; exact absurd q.2 (by decide)), if_neg (fun q => by omega)]
  · by_cases q : i < k ∧ begB (en es i).1 ts = true
    · rw [if_pos q, if_pos ⟨by omega, q.2⟩]
    · rw [if_neg q, if_neg (fun q' => q ⟨by omega, q'.2⟩)]
/-- Is an entry no beginning of another one? -/
def leafB (es : List En) (k : Nat) : Bool := (List.range es.length).all fun i => i == k || !begB (en es k).1 (en es i).1
theorem leaf_yes {es : List En} {k : Nat} (h : ∀ i, i < es.length → i ≠ k → begB (en es k).1 (en es i).1 = false) : leafB es k = true := by
  unfold leafB
  rw [List.all_eq_true]
  intro i hi
  rw [List.mem_range] at hi
  by_cases e : i = k
  · simp [e]
  · simp [h i hi e]
theorem leaf_no {es : List En} {k i : Nat} (hi : i < es.length) (hk : i ≠ k) (h : begB (en es k).1 (en es i).1 = true) : leafB es k = false := by
  rw [Bool.eq_false_iff]
  intro hl
  unfold leafB at hl
  rw [List.all_eq_true] at hl
  have := hl i (List.mem_range.2 hi)
  simp [hk, h] at this
/-- Whether an entry may go for a text. -/
def goB (es : List En) (ts : List Int) (i : Nat) : Bool := leafB es i && !begB (en es i).1 ts
/-- Of the first k entries the one that goes: the one that was used the longest ago, of like ones the first. -/
def oldK (es : List En) (ts : List Int) : Nat → Int
  | 0 => -1
  | k + 1 => if goB es ts k && (decide (oldK es ts k < 0) || decide ((en es k).2 < (en es (oldK es ts k).toNat).2)) then (k : Int) else oldK es ts k
theorem oldK_bd (es : List En) (ts : List Int) (k : Nat) : -1 ≤ oldK es ts k ∧ oldK es ts k < k := by
  induction k with
  | zero => simp [oldK]
  | succ k ih =>
    simp only [oldK]
    split
    · omega
    · omega
end Go.Proofs.YtjgggialnegddaaGreat
namespace Go.Proofs.YtjgggialnegddaaGreat
open Go.RowKit
set_option linter.unusedVariables false

/-- One round of Put: the entries behind it, and how many are new; none: nothing may go. -/
def putE (pg tm : Int) (ts x : List Int) (es : List En) : Option (List En × Int) :=
  if plcI es x < es.length then some (es.set (plcI es x) ((en es (plcI es x)).1, tm), 0)
  else if pg ≤ (es.length : Int) then (if oldK es ts es.length < 0 then none else some (es.eraseIdx (oldK es ts es.length).toNat ++ [(x, tm)], 1))
  else some (es ++ [(x, tm)], 1)
/-- What the rounds so far have left: the entries, how many are new, whether it has ended. -/
def putK (pg tm : Int) (sz : Nat) (ts : List Int) (es : List En) : Nat → List En × Int × Bool
  | 0 => (es, 0, false)
  | j + 1 => if (putK pg tm sz ts es j).2.2 = true then putK pg tm sz ts es j else
    match putE pg tm ts (ts.take ((j + 1) * sz)) (putK pg tm sz ts es j).1 with
    | none => ((putK pg tm sz ts es j).1, (putK pg tm sz ts es j).2.1, true)
    | some p => (p.1, (putK pg tm sz ts es j).2.1 + p.2, false)
section
variable {pg tm : Int} {sz : Nat} {ts : List Int} {es : List En} {j : Nat}
theorem putK_use (hs : (putK pg tm sz ts es j).2.2 = false) {E : List En} (hE : (putK pg tm sz ts es j).1 = E) {p : Nat} (hp : plcZ E (ts.take ((j + 1) * sz)) = (p : Int)) :
    putK pg tm sz ts es (j + 1) = (E.set p ((en E p).1, tm), (putK pg tm sz ts es j).2.1, false) ∧ p < E.length := by
  have h1 : plcI E (ts.take ((j + 1) * sz)) < E.length ∧ plcI E (ts.take ((j + 1) * sz)) = p := by
    unfold plcZ at hp
    split at hp
    · exact ⟨by assumption, by omega⟩
    · omega
  obtain ⟨h1, rfl⟩ := h1
  refine ⟨?_, h1⟩
  rw [putK]
  simp only [hs, hE, Bool.false_eq_true, if_false, putE, if_pos h1, Int.add_zero]
theorem plcZ_neg {E : List En} {x : List Int} (h : plcZ E x < 0) : ¬ plcI E x < E.length := by
  unfold plcZ at h
  split at h
  · omega
  · assumption
theorem putK_add (hs : (putK pg tm sz ts es j).2.2 = false) {E : List En} (hE : (putK pg tm sz ts es j).1 = E) (hp : plcZ E (ts.take ((j + 1) * sz)) < 0) (hl : (E.length : Int) < pg) :
    putK pg tm sz ts es (j + 1) = (E ++ [(ts.take ((j + 1) * sz), tm)], (putK pg tm sz ts es j).2.1 + 1, false) := by
  rw [putK]
  simp only [hs, hE, Bool.false_eq_true, if_false, putE, if_neg (plcZ_neg hp), if_neg (show ¬ pg ≤ (E.length : Int) by omega)]
theorem putK_swap (hs : (putK pg tm sz ts es j).2.2 = false) {E : List En} (hE : (putK pg tm sz ts es j).1 = E) (hp : plcZ E (ts.take ((j + 1) * sz)) < 0) (hl : pg ≤ (E.length : Int)) {o : Nat} (ho : oldK E ts E.length = (o : Int)) :
    putK pg tm sz ts es (j + 1) = (E.eraseIdx o ++ [(ts.take ((j + 1) * sz), tm)], (putK pg tm sz ts es j).2.1 + 1, false) := by
  rw [putK]
  simp only [hs, hE, Bool.false_eq_true, if_false, putE, if_neg (plcZ_neg hp), if_pos hl, ho, if_neg (show ¬ ((o : Int) < 0) by omega), Int.toNat_natCast]
theorem putK_stop (hs : (putK pg tm sz ts es j).2.2 = false) {E : List En} (hE : (putK pg tm sz ts es j).1 = E) (hp : plcZ E (ts.take ((j + 1) * sz)) < 0) (hl : pg ≤ (E.length : Int)) (ho : oldK E ts E.length < 0) :
    putK pg tm sz ts es (j + 1) = (E, (putK pg tm sz ts es j).2.1, true) := by
  rw [putK]
  simp only [hs, hE, Bool.false_eq_true, if_false, putE, if_neg (plcZ_neg hp), if_pos hl, if_pos ho]
theorem putK_stay (h : (putK pg tm sz ts es j).2.2 = true) : ∀ d, putK pg tm sz ts es (j + d) = putK pg tm sz ts es j := by
  intro d
  induction d with
  | zero => rfl
  | succ d ih =>
    rw [← Nat.add_assoc, putK, ih, if_pos h]
theorem putK_new (pg tm : Int) (sz : Nat) (ts : List Int) (es : List En) (j : Nat) : 0 ≤ (putK pg tm sz ts es j).2.1 ∧ (putK pg tm sz ts es j).2.1 ≤ j := by
  induction j with
  | zero => simp [putK]
  | succ j ih =>
    have hb : ∀ p, putE pg tm ts (ts.take ((j + 1) * sz)) (putK pg tm sz ts es j).1 = some p → 0 ≤ p.2 ∧ p.2 ≤ 1 := by
      intro p hp
      unfold putE at hp
      split at hp
      · cases hp; simp
      · split at hp
        · split at hp
          · cases hp
          · cases hp; simp
        · cases hp; simp
    rw [putK]
    split
    · omega
    · split
      · simp only; omega
      · rename_i p hp
        have := hb p hp
        simp only
        omega
theorem putK_len (h : (es.length : Int) ≤ pg) (j : Nat) : ((putK pg tm sz ts es j).1.length : Int) ≤ pg := by
  induction j with
  | zero => simpa [putK] using h
  | succ j ih =>
    have hb : ∀ p, putE pg tm ts (ts.take ((j + 1) * sz)) (putK pg tm sz ts es j).1 = some p → (p.1.length : Int) ≤ pg := by
      intro p hp
      generalize (putK pg tm sz ts es j).1 = E at *
      unfold putE at hp
      split at hp
      · cases hp; simpa using ih
      · split at hp
        · split at hp
          · cases hp
          · cases hp
            have := oldK_bd E ts E.length
            simp only [List.length_append, List.length_singleton, List.length_eraseIdx]
            split <;> omega
        · cases hp; simp; omega
    rw [putK]
    split
    · exact ih
    · split
      · exact ih
      · rename_i p hp
        exact hb p hp
end
end Go.Proofs.YtjgggialnegddaaGreat
namespace Go.Proofs.YtjgggialnegddaaGreat
open Go.RowKit
set_option linter.unusedVariables false

/-- The texts of the entries. -/
def txs (es : List En) : List (List Int) := es.map (·.1)
theorem mem_txs {es : List En} {x : List Int} : x ∈ txs es ↔ ∃ i, i < es.length ∧ (en es i).1 = x := by
  unfold txs
  rw [List.mem_map]
  constructor
  · rintro ⟨e, he, rfl⟩
    obtain ⟨i, hi, rfl⟩ := List.getElem_of_mem he
    exact ⟨i, hi, by unfold en; rw [List.getElem?_eq_getElem hi]; rfl⟩
  · rintro ⟨i, hi, rfl⟩
    refine ⟨es[i], List.getElem_mem hi, ?_⟩
    unfold en
    rw [List.getElem?_eq_getElem hi]
    rfl
theorem en_mem {es : List En} {i : Nat} (hi : i < es.length) : en es i ∈ es := by
  unfold en
  rw [List.getElem?_eq_getElem hi]
  exact List.getElem_mem hi
theorem mem_en {es : List En} {e : En} (h : e ∈ es) : ∃ i, i < es.length ∧ en es i = e := by
  obtain ⟨i, hi, rfl⟩ := List.getElem_of_mem h
  exact ⟨i, hi, by unfold en; rw [List.getElem?_eq_getElem hi]; rfl⟩
theorem txs_len (es : List En) : (txs es).length = es.length := by unfold txs; simp
theorem txs_set {es : List En} {p : Nat} {t : Int} : txs (es.set p ((en es p).1, t)) = txs es := by
  unfold txs
  rw [List.map_set]
  apply List.ext_getElem (by simp)
  intro i h1 h2
  rw [List.getElem_set]
  split
  · rename_i e
    subst e
    simp only [List.length_map] at h2
    simp only [List.getElem_map]
    unfold en
    rw [List.getElem?_eq_getElem h2]
    rfl
  · rfl
theorem txs_use {tm : Int} {ts : List Int} {es : List En} {k : Nat} : txs (useK tm ts es k) = txs es := by
  unfold txs useK
  rw [List.map_append, List.map_map]
  have e : ((fun x : En => x.1) ∘ fun e : En => if begB e.1 ts = true then (e.1, tm) else e) = fun x : En => x.1 := by
    funext e
    simp only [Function.comp]
    split <;> rfl
  rw [e, ← List.map_append, List.take_append_drop]
theorem plcI_lt {es : List En} {x : List Int} : plcI es x < es.length ↔ x ∈ txs es := by
  unfold plcI txs
  rw [List.findIdx_lt_length, List.mem_map]
  constructor
  · rintro ⟨e, he, h⟩
    exact ⟨e, he, eq_of_beq h⟩
  · rintro ⟨e, he, rfl⟩
    exact ⟨e, he, by simp⟩
theorem plcZ_mem {es : List En} {x : List Int} : 0 ≤ plcZ es x ↔ x ∈ txs es := by
  rw [← plcI_lt]
  unfold plcZ
  split
  · constructor
    · intro _; assumption
    · intro _; omega
  · constructor
    · intro h; omega
    · intro h; omega
theorem begB_trans {a b c : List Int} (h : begB a b = true) (k : begB b c = true) : begB a c = true := by
  unfold begB at *
  rw [List.isPrefixOf_iff_prefix] at *
  exact h.trans k
theorem begB_take {a : List Int} (n : Nat) : begB (a.take n) a = true := by
  unfold begB
  rw [List.isPrefixOf_iff_prefix]
  exact List.take_prefix n a
theorem begB_eq {a b : List Int} (h : begB a b = true) : a = b.take a.length := by
  unfold begB at h
  rw [List.isPrefixOf_iff_prefix] at h
  exact List.prefix_iff_eq_take.1 h
theorem begB_two {a b c : List Int} (h : begB a c = true) (k : begB b c = true) : begB a b = true ∨ begB b a = true := by
  unfold begB at *
  simp only [List.isPrefixOf_iff_prefix] at *
  exact List.prefix_or_prefix_of_prefix h k
/-- The entries: each is as long as some pages, with each stand its beginnings, none stands twice. -/
structure OkE (sz : Nat) (es : List En) : Prop where
  mult : ∀ x ∈ txs es, ∃ j, 1 ≤ j ∧ x.length = j * sz
  shut : ∀ x ∈ txs es, ∀ j, 1 ≤ j → j * sz ≤ x.length → x.take (j * sz) ∈ txs es
  one : (txs es).Nodup
theorem oke_nil (sz : Nat) : OkE sz [] := ⟨fun x h => by simp [txs] at h, fun x h => by simp [txs] at h, by simp [txs]⟩
theorem OkE.same {sz : Nat} {es fs : List En} (h : OkE sz es) (e : txs fs = txs es) : OkE sz fs := ⟨by rw [e]; exact h.mult, by rw [e]; exact h.shut, by rw [e]; exact h.one⟩
/-- The last uses: none is behind now, and of like ones one is a beginning of the other. -/
structure OkU (tm : Int) (es : List En) : Prop where
  bd : ∀ e ∈ es, 0 ≤ e.2 ∧ e.2 ≤ tm
  like : ∀ e ∈ es, ∀ f ∈ es, e.2 = f.2 → begB e.1 f.1 = true ∨ begB f.1 e.1 = true
theorem oku_nil (tm : Int) : OkU tm [] := ⟨fun e h => by simp at h, fun e h => by simp at h⟩
/-- In the midst of a call: what is used now is a beginning of its text. -/
structure OkV (tm : Int) (ts : List Int) (es : List En) : Prop where
  bd : ∀ e ∈ es, 0 ≤ e.2 ∧ e.2 ≤ tm
  now : ∀ e ∈ es, e.2 = tm → begB e.1 ts = true
  like : ∀ e ∈ es, ∀ f ∈ es, e.2 = f.2 → begB e.1 f.1 = true ∨ begB f.1 e.1 = true
theorem OkU.next {tm : Int} {es : List En} (h : OkU tm es) (h0 : 0 ≤ tm) (ts : List Int) : OkV (tm + 1) ts es :=
  ⟨fun e he => ⟨(h.bd e he).1, by have := (h.bd e he).2; omega⟩, fun e he k => by have := (h.bd e he).2; omega, h.like⟩
theorem OkV.u {tm : Int} {ts : List Int} {es : List En} (h : OkV tm ts es) : OkU tm es := ⟨h.bd, h.like⟩
/-- One that is a beginning is used, or becomes an entry. -/
theorem OkV.put {tm : Int} {ts : List Int} {es fs : List En} (h : OkV tm ts es) (h0 : 0 ≤ tm) (hf : ∀ e ∈ fs, e ∈ es ∨ (e.2 = tm ∧ begB e.1 ts = true)) : OkV tm ts fs := by
  refine ⟨fun e he => ?_, fun e he k => ?_, fun e he f hf' k => ?_⟩
  · rcases hf e he with h1 | ⟨h1, _⟩
    · exact h.bd e h1
    · omega
  · rcases hf e he with h1 | ⟨_, h1⟩
    · exact h.now e h1 k
    · exact h1
  · rcases hf e he with h1 | ⟨h1, h2⟩
    · rcases hf f hf' with h3 | ⟨h3, h4⟩
      · exact h.like e h1 f h3 k
      · exact begB_two (h.now e h1 (by omega)) h4
    · have h5 : begB f.1 ts = true := by
        rcases hf f hf' with h3 | ⟨h3, h4⟩
        · exact h.now f h3 (by omega)
        · exact h4
      exact begB_two h2 h5
theorem OkU.find {tm : Int} {es : List En} (h : OkU tm es) (h0 : 0 ≤ tm) (ts : List Int) (k : Nat) : OkU (tm + 1) (useK (tm + 1) ts es k) := by
  refine ((h.next h0 ts).put (by omega) fun e he => ?_).u
  obtain ⟨i, hi, rfl⟩ := mem_en he
  rw [useK_len] at hi
  rw [useK_at _ _ hi]
  split
  · rename_i q; exact .inr ⟨rfl, q.2⟩
  · exact .inl (en_mem hi)
theorem leaf_iff {es : List En} {k : Nat} (h : leafB es k = true) {i : Nat} (hi : i < es.length) (hk : i ≠ k) : begB (en es k).1 (en es i).1 = false := by
  rw [Bool.eq_false_iff]
  intro e
  rw [leaf_no hi hk e] at h
  cases h
theorem goB_iff {es : List En} {ts : List Int} {i : Nat} : goB es ts i = true ↔ leafB es i = true ∧ begB (en es i).1 ts = false := by
  unfold goB
  rw [Bool.and_eq_true, Bool.not_eq_true']
/-- The one that goes: it may, and was used the longest ago. -/
theorem oldK_go (es : List En) (ts : List Int) : ∀ k, (oldK es ts k < 0 ∧ (∀ i, i < k → goB es ts i = false)) ∨ (∃ o : Nat, oldK es ts k = o ∧ o < k ∧ goB es ts o = true ∧ ∀ i, i < k → goB es ts i = true → (en es o).2 ≤ (en es i).2) := by
  intro k
  induction k with
  | zero => left; exact ⟨by simp [oldK], fun i hi => by omega⟩
  | succ k ih =>
    by_cases hg : goB es ts k = true
    · rcases ih with ⟨h1, h2⟩ | ⟨o, h1, h2, h3, h4⟩
      · right
        refine ⟨k, ?_, by omega, hg, fun i hi hgi => ?_⟩
        · simp only [oldK]; rw [if_pos (by simp [hg, h1])]
        · rcases (by omega : i < k ∨ i = k) with h5 | rfl
          · rw [h2 i h5] at hgi; cases hgi
          · exact Int.le_refl _
      · by_cases hl : (en es k).2 < (en es o).2
        · right
          refine ⟨k, ?_, by omega, hg, fun i hi hgi => ?_⟩
          · simp only [oldK]; rw [h1, Int.toNat_natCast, if_pos (by simp [hg, hl])]
          · rcases (by omega : i < k ∨ i = k) with h5 | rfl
            · have := h4 i h5 hgi; omega
            · exact Int.le_refl _
        · right
          refine ⟨o, ?_, by omega, h3, fun i hi hgi => ?_⟩
          · simp only [oldK]
            rw [h1, Int.toNat_natCast, if_neg (by simp [hg, hl])]
          · rcases (by omega : i < k ∨ i = k) with h5 | rfl
            · exact h4 i h5 hgi
            · omega
    · have hg' : goB es ts k = false := by simpa using hg
      have e : oldK es ts (k + 1) = oldK es ts k := by simp only [oldK]; rw [if_neg (by simp [hg'])]
      rcases ih with ⟨h1, h2⟩ | ⟨o, h1, h2, h3, h4⟩
      · left
        refine ⟨by rw [e]; exact h1, fun i hi => ?_⟩
        rcases (by omega : i < k ∨ i = k) with h5 | rfl
        · exact h2 i h5
        · exact hg'
      · right
        refine ⟨o, by rw [e]; exact h1, by omega, h3, fun i hi hgi => ?_⟩
        rcases (by omega : i < k ∨ i = k) with h5 | rfl
        · exact h4 i h5 hgi
        · rw [hg'] at hgi; cases hgi
/-- Whoever may go and was used no later is the one that goes. -/
theorem oldK_one {tm : Int} {es : List En} {ts : List Int} (hU : OkU tm es) {i : Nat} (hi : i < es.length) (hg : goB es ts i = true) (hm : ∀ j, j < es.length → goB es ts j = true → (en es i).2 ≤ (en es j).2) : oldK es ts es.length = i := by
  rcases oldK_go es ts es.length with ⟨_, h2⟩ | ⟨o, h1, h2, h3, h4⟩
  · rw [h2 i hi] at hg; cases hg
  · have e1 := h4 i hi hg
    have e2 := hm o h2 h3
    by_cases e : o = i
    · rw [h1, e]
    · exfalso
      rcases hU.like _ (en_mem h2) _ (en_mem hi) (by omega) with h5 | h5
      · have := leaf_iff (goB_iff.1 h3).1 hi (fun h => e h.symm)
        rw [this] at h5; cases h5
      · have := leaf_iff (goB_iff.1 hg).1 h2 e
        rw [this] at h5; cases h5
theorem mem_erase {es : List En} {o : Nat} {e : En} : e ∈ es.eraseIdx o ↔ ∃ i, i < es.length ∧ i ≠ o ∧ en es i = e := by
  rw [List.mem_eraseIdx_iff_getElem]
  constructor
  · rintro ⟨i, h1, h2, rfl⟩
    exact ⟨i, h1, h2, by unfold en; rw [List.getElem?_eq_getElem h1]; rfl⟩
  · rintro ⟨i, h1, h2, rfl⟩
    exact ⟨i, h1, h2, by unfold en; rw [List.getElem?_eq_getElem h1]; rfl⟩
theorem txs_erase {es : List En} {o : Nat} {x : List Int} : x ∈ txs (es.eraseIdx o) ↔ ∃ i, i < es.length ∧ i ≠ o ∧ (en es i).1 = x := by
  unfold txs
  rw [List.mem_map]
  constructor
  · rintro ⟨e, he, rfl⟩
    obtain ⟨i, h1, h2, rfl⟩ := mem_erase.1 he
    exact ⟨i, h1, h2, rfl⟩
  · rintro ⟨i, h1, h2, rfl⟩
    exact ⟨_, mem_erase.2 ⟨i, h1, h2, rfl⟩, rfl⟩
theorem OkE.inj {sz : Nat} {es : List En} (h : OkE sz es) {i j : Nat} (hi : i < es.length) (hj : j < es.length) (e : (en es i).1 = (en es j).1) : i = j := by
  have h1 := h.one
  have e1 : (txs es)[i]'(by rw [txs_len]; exact hi) = (txs es)[j]'(by rw [txs_len]; exact hj) := by
    unfold txs
    rw [List.getElem_map, List.getElem_map]
    unfold en at e
    rw [List.getElem?_eq_getElem hi, List.getElem?_eq_getElem hj] at e
    exact e
  exact (List.getElem_inj h1).1 e1
theorem OkE.erase {sz : Nat} {es : List En} (h : OkE sz es) {o : Nat} (ho : o < es.length) (hl : leafB es o = true) : OkE sz (es.eraseIdx o) ∧ ∀ x, x ∈ txs (es.eraseIdx o) ↔ x ∈ txs es ∧ x ≠ (en es o).1 := by
  have key : ∀ x, x ∈ txs (es.eraseIdx o) ↔ x ∈ txs es ∧ x ≠ (en es o).1 := by
    intro x
    rw [txs_erase, mem_txs]
    constructor
    · rintro ⟨i, h1, h2, rfl⟩
      exact ⟨⟨i, h1, rfl⟩, fun e => h2 (h.inj h1 ho e)⟩
    · rintro ⟨⟨i, h1, rfl⟩, h2⟩
      exact ⟨i, h1, fun e => h2 (by rw [e]), rfl⟩
  refine ⟨⟨fun x hx => h.mult x ((key x).1 hx).1, fun x hx j h1 h2 => ?_, ?_⟩, key⟩
  · obtain ⟨hx1, hx2⟩ := (key x).1 hx
    refine (key _).2 ⟨h.shut x hx1 j h1 h2, fun e => ?_⟩
    obtain ⟨i, hi, rfl⟩ := mem_txs.1 hx1
    have hio : i ≠ o := fun e' => hx2 (by rw [e'])
    have := leaf_iff hl hi hio
    rw [← e, begB_take] at this
    cases this
  · have : txs (es.eraseIdx o) = (txs es).eraseIdx o := by
      unfold txs
      rw [List.eraseIdx_eq_take_drop_succ, List.eraseIdx_eq_take_drop_succ, List.map_append, List.map_take, List.map_drop]
    rw [this]
    exact h.one.sublist (List.eraseIdx_sublist _ _)
/-- A text whose beginnings are there becomes an entry. -/
theorem OkE.add {sz : Nat} {es : List En} (h : OkE sz es) {x : List Int} {t : Int} {j : Nat} (hx : x.length = (j + 1) * sz) (hb : ∀ i, 1 ≤ i → i ≤ j → x.take (i * sz) ∈ txs es) (hz : 1 ≤ sz) (hn : x ∉ txs es) : OkE sz (es ++ [(x, t)]) ∧ ∀ y, y ∈ txs (es ++ [(x, t)]) ↔ y ∈ txs es ∨ y = x := by
  have key : ∀ y, y ∈ txs (es ++ [(x, t)]) ↔ y ∈ txs es ∨ y = x := by intro y; unfold txs; simp
  refine ⟨⟨fun y hy => ?_, fun y hy i h1 h2 => ?_, ?_⟩, key⟩
  · rcases (key y).1 hy with h1 | rfl
    · exact h.mult y h1
    · exact ⟨j + 1, by omega, hx⟩
  · rcases (key y).1 hy with h3 | rfl
    · exact (key _).2 (.inl (h.shut y h3 i h1 h2))
    · have hi : i ≤ j + 1 := by
        rw [hx] at h2
        exact Nat.le_of_mul_le_mul_right h2 (by omega)
      rcases (by omega : i ≤ j ∨ i = j + 1) with h4 | rfl
      · exact (key _).2 (.inl (hb i h1 h4))
      · rw [← hx, List.take_length]
        exact (key _).2 (.inr rfl)
  · unfold txs at hn ⊢
    rw [List.map_append, List.nodup_append]
    refine ⟨h.one, by simp, fun a ha b hb' => ?_⟩
    simp at hb'
    subst hb'
    rintro rfl
    exact hn ha
/-- The longest beginning among the entries. -/
theorem best_is {ts : List Int} {es : List En} {N : Nat} (h1 : ∀ x ∈ txs es, begB x ts = true → x.length ≤ N) (h2 : N = 0 ∨ ts.take N ∈ txs es ∧ N ≤ ts.length) : bestK ts es es.length = N := by
  have a1 : ∀ k, k ≤ es.length → 0 ≤ bestK ts es k ∧ bestK ts es k ≤ N := by
    intro k
    induction k with
    | zero => intro _; simp [bestK]
    | succ k ih =>
      intro hk
      have := ih (by omega)
      simp only [bestK]
      split
      · rename_i hb
        have := h1 _ (mem_txs.2 ⟨k, by omega, rfl⟩) hb
        omega
      · exact this
  have a2 : ∀ i, i < es.length → begB (en es i).1 ts = true → ∀ k, i < k → k ≤ es.length → ((en es i).1.length : Int) ≤ bestK ts es k := by
    intro i hi hb k
    induction k with
    | zero => intro h; omega
    | succ k ih =>
      intro hk hk2
      simp only [bestK]
      rcases (by omega : i < k ∨ i = k) with h | rfl
      · have := ih h (by omega)
        split
        · omega
        · exact this
      · rw [if_pos hb]; omega
  have b1 := a1 es.length (Nat.le_refl _)
  rcases h2 with rfl | ⟨h2, h3⟩
  · omega
  · obtain ⟨i, hi, e⟩ := mem_txs.1 h2
    have := a2 i hi (by rw [e]; exact begB_take N) es.length hi (Nat.le_refl _)
    rw [e, List.length_take, Nat.min_eq_left h3] at this
    omega
/-- Some are there, the next one is not: it is the longest one. -/
theorem OkE.best {sz : Nat} {es : List En} (h : OkE sz es) (hz : 1 ≤ sz) {ts : List Int} {J : Nat} (hJ : ∀ i, 1 ≤ i → i ≤ J → ts.take (i * sz) ∈ txs es) (hl : J * sz ≤ ts.length) (hn : (J + 1) * sz ≤ ts.length → ts.take ((J + 1) * sz) ∉ txs es) : bestK ts es es.length = ((J * sz : Nat) : Int) := by
  refine best_is (fun x hx hb => ?_) ?_
  · obtain ⟨j, hj1, hj2⟩ := h.mult x hx
    rw [hj2]
    have e := begB_eq hb
    have hle := (begB_iff.1 hb).1
    apply Nat.mul_le_mul_right
    apply Nat.le_of_not_lt
    intro hlt
    have hle2 : (J + 1) * sz ≤ j * sz := Nat.mul_le_mul_right _ hlt
    have h5 := h.shut x hx (J + 1) (by omega) (by omega)
    rw [e, List.take_take, Nat.min_eq_left (by omega)] at h5
    exact hn (by omega) h5
  · by_cases h0 : J = 0
    · left; rw [h0]; omega
    · right; exact ⟨hJ J (by omega) (Nat.le_refl _), hl⟩
theorem best_in (ts : List Int) (es : List En) : 0 ≤ bestK ts es es.length ∧ bestK ts es es.length ≤ ts.length ∧ (0 < bestK ts es es.length → ts.take (bestK ts es es.length).toNat ∈ txs es) := by
  have key : ∀ k, k ≤ es.length → 0 ≤ bestK ts es k ∧ bestK ts es k ≤ ts.length ∧ (0 < bestK ts es k → ts.take (bestK ts es k).toNat ∈ txs es) := by
    intro k
    induction k with
    | zero => intro _; exact ⟨by simp [bestK], by simp [bestK], fun h => by simp [bestK] at h⟩
    | succ k ih =>
      intro hk
      obtain ⟨i1, i2, i3⟩ := ih (by omega)
      simp only [bestK]
      split
      · rename_i hb
        have hle := (begB_iff.1 hb).1
        refine ⟨by omega, by omega, fun h => ?_⟩
        by_cases q : bestK ts es k ≤ ((en es k).1.length : Int)
        · rw [show max (bestK ts es k) ((en es k).1.length : Int) = ((en es k).1.length : Int) by omega, Int.toNat_natCast, ← begB_eq hb]
          exact mem_txs.2 ⟨k, by omega, rfl⟩
        · rw [show max (bestK ts es k) ((en es k).1.length : Int) = bestK ts es k by omega]
          exact i3 (by omega)
      · exact ⟨i1, i2, i3⟩
  exact key es.length (Nat.le_refl _)
/-- One round of Put keeps all that. -/
theorem putE_ok {pg tm : Int} {sz j : Nat} {ts : List Int} {E : List En} (hE : OkE sz E) (hz : 1 ≤ sz) (hj : (j + 1) * sz ≤ ts.length) (hp : ∀ i, 1 ≤ i → i ≤ j → ts.take (i * sz) ∈ txs E) :
    (putE pg tm ts (ts.take ((j + 1) * sz)) E = none ∧ ts.take ((j + 1) * sz) ∉ txs E ∧ pg ≤ E.length ∧ oldK E ts E.length < 0) ∨
    ∃ E' d, putE pg tm ts (ts.take ((j + 1) * sz)) E = some (E', d) ∧ OkE sz E' ∧ (∀ y, begB y ts = true → (y ∈ txs E' ↔ y ∈ txs E ∨ y = ts.take ((j + 1) * sz))) ∧ ((d = 0 ∧ ts.take ((j + 1) * sz) ∈ txs E) ∨ (d = 1 ∧ ts.take ((j + 1) * sz) ∉ txs E)) ∧ (∀ e ∈ E', e ∈ E ∨ (e.2 = tm ∧ begB e.1 ts = true)) := by
  obtain ⟨x, hx⟩ : ∃ x, ts.take ((j + 1) * sz) = x := ⟨_, rfl⟩
  have hxl : x.length = (j + 1) * sz := by rw [← hx, List.length_take]; omega
  have hxb : begB x ts = true := by rw [← hx]; exact begB_take _
  have hxt : ∀ i, 1 ≤ i → i ≤ j → x.take (i * sz) ∈ txs E := fun i h1 h2 => by
    have : i * sz ≤ (j + 1) * sz := Nat.mul_le_mul_right _ (by omega)
    rw [← hx, List.take_take, Nat.min_eq_left this]
    exact hp i h1 h2
  rw [hx]
  unfold putE
  by_cases h1 : plcI E x < E.length
  · rw [if_pos h1]
    have hm := plcI_lt.1 h1
    right
    refine ⟨_, _, rfl, hE.same txs_set, fun y hy => ?_, .inl ⟨rfl, hm⟩, fun e he => ?_⟩
    · rw [txs_set]
      constructor
      · exact .inl
      · rintro (h | rfl)
        · exact h
        · exact hm
    · rcases List.mem_or_eq_of_mem_set he with h | rfl
      · exact .inl h
      · right
        refine ⟨rfl, ?_⟩
        have : (en E (plcI E x)).1 = x := by
          unfold en
          rw [List.getElem?_eq_getElem h1]
          exact eq_of_beq (List.findIdx_getElem (p := fun e : En => e.1 == x) (xs := E) (w := h1))
        show begB (en E (plcI E x)).1 ts = true
        rw [this]
        exact hxb
  · rw [if_neg h1]
    have hn : x ∉ txs E := fun h => h1 (plcI_lt.2 h)
    by_cases h2 : pg ≤ (E.length : Int)
    · rw [if_pos h2]
      rcases oldK_go E ts E.length with ⟨h3, _⟩ | ⟨o, h3, h4, h5, _⟩
      · rw [if_pos h3]
        exact .inl ⟨rfl, hn, h2, h3⟩
      · rw [if_neg (by omega), h3, Int.toNat_natCast]
        right
        obtain ⟨g1, g2⟩ := goB_iff.1 h5
        obtain ⟨q1, q2⟩ := hE.erase h4 g1
        have hno : ∀ y, begB y ts = true → y ≠ (en E o).1 := fun y hy e => by rw [e, g2] at hy; cases hy
        obtain ⟨r1, r2⟩ := q1.add (t := tm) hxl (fun i a1 a2 => (q2 _).2 ⟨hxt i a1 a2, hno _ (begB_trans (begB_take _) hxb)⟩) hz (fun h => hn ((q2 _).1 h).1)
        refine ⟨_, _, rfl, r1, fun y hy => ?_, .inr ⟨rfl, hn⟩, fun e he => ?_⟩
        · rw [r2, q2]
          constructor
          · rintro (⟨h, _⟩ | h)
            · exact .inl h
            · exact .inr h
          · rintro (h | h)
            · exact .inl ⟨h, hno y hy⟩
            · exact .inr h
        · rcases List.mem_append.1 he with h | h
          · exact .inl (List.mem_of_mem_eraseIdx h)
          · simp at h; subst h; exact .inr ⟨rfl, hxb⟩
    · rw [if_neg h2]
      right
      obtain ⟨r1, r2⟩ := hE.add (t := tm) hxl hxt hz hn
      refine ⟨_, _, rfl, r1, fun y hy => r2 y, .inr ⟨rfl, hn⟩, fun e he => ?_⟩
      rcases List.mem_append.1 he with h | h
      · exact .inl h
      · simp at h; subst h; exact .inr ⟨rfl, hxb⟩
/-- What the rounds of Put have left, of a text of which just the first j0 beginnings were there. -/
theorem putK_ok {pg tm : Int} {sz j0 : Nat} {ts : List Int} {es : List En} (hE : OkE sz es) (hz : 1 ≤ sz) (hV : OkV tm ts es) (h0 : 0 ≤ tm) (hj0 : ∀ i, 1 ≤ i → i * sz ≤ ts.length → (ts.take (i * sz) ∈ txs es ↔ i ≤ j0)) :
    ∀ j, j * sz ≤ ts.length → ∃ m, m ≤ j ∧ ((putK pg tm sz ts es j).2.2 = false → m = j) ∧ ((putK pg tm sz ts es j).2.2 = true → j0 ≤ m ∧ pg ≤ (putK pg tm sz ts es j).1.length) ∧ OkE sz (putK pg tm sz ts es j).1 ∧ OkV tm ts (putK pg tm sz ts es j).1 ∧
      (∀ i, 1 ≤ i → i * sz ≤ ts.length → (ts.take (i * sz) ∈ txs (putK pg tm sz ts es j).1 ↔ i ≤ j0 ∨ i ≤ m)) ∧ (putK pg tm sz ts es j).2.1 = ((m - j0 : Nat) : Int) := by
  intro j
  induction j with
  | zero => intro _; exact ⟨0, by omega, fun _ => rfl, fun h => by simp [putK] at h, hE, hV, fun i h1 h2 => by rw [show (putK pg tm sz ts es 0).1 = es from rfl, hj0 i h1 h2]; omega, by simp [putK]⟩
  | succ j ih =>
    intro hj
    have hjl : j * sz ≤ ts.length := Nat.le_trans (Nat.mul_le_mul_right _ (by omega)) hj
    obtain ⟨m, m1, m2, m3, m4, m5, m6, m7⟩ := ih hjl
    by_cases hs : (putK pg tm sz ts es j).2.2 = true
    · have e : putK pg tm sz ts es (j + 1) = putK pg tm sz ts es j := putK_stay hs 1
      rw [e]
      exact ⟨m, by omega, (fun h => by rw [hs] at h; cases h), m3, m4, m5, m6, m7⟩
    · have hs' : (putK pg tm sz ts es j).2.2 = false := by simpa using hs
      obtain rfl := m2 hs'
      have hp : ∀ i, 1 ≤ i → i ≤ m → ts.take (i * sz) ∈ txs (putK pg tm sz ts es m).1 := fun i h1 h2 => (m6 i h1 (Nat.le_trans (Nat.mul_le_mul_right _ h2) hjl)).2 (.inr h2)
      have hx := m6 (m + 1) (by omega) hj
      rcases putE_ok (pg := pg) (tm := tm) m4 hz hj hp with ⟨p1, p2, p3, p4⟩ | ⟨E', d, p1, p2, p3, p4, p5⟩
      · have e : putK pg tm sz ts es (m + 1) = ((putK pg tm sz ts es m).1, (putK pg tm sz ts es m).2.1, true) := by
          rw [putK]; simp only [hs', Bool.false_eq_true, if_false, p1]
        rw [e]
        rw [hx] at p2
        exact ⟨m, by omega, fun h => by simp at h, fun _ => ⟨by omega, p3⟩, m4, m5, m6, m7⟩
      · have e : putK pg tm sz ts es (m + 1) = (E', (putK pg tm sz ts es m).2.1 + d, false) := by
          rw [putK]; simp only [hs', Bool.false_eq_true, if_false, p1]
        rw [e]
        refine ⟨m + 1, by omega, fun _ => rfl, fun h => by simp at h, p2, m5.put h0 p5, fun i h1 h2 => ?_, ?_⟩
        · rw [p3 _ (begB_take _), m6 i h1 h2]
          constructor
          · rintro (h | h)
            · omega
            · right
              have hl := congrArg List.length h
              rw [List.length_take, List.length_take, Nat.min_eq_left h2, Nat.min_eq_left hj] at hl
              have := Nat.eq_of_mul_eq_mul_right (by omega) hl
              omega
          · intro h
            rcases (by omega : (i ≤ j0 ∨ i ≤ m) ∨ i = m + 1) with h' | rfl
            · exact .inl h'
            · exact .inr rfl
        · show (putK pg tm sz ts es m).2.1 + d = _
          rw [m7]
          rcases p4 with ⟨rfl, p4⟩ | ⟨rfl, p4⟩
          · rw [hx] at p4; omega
          · rw [hx] at p4; omega
/-- How many beginnings are there. -/
def wasN (sz : Nat) (ts : List Int) (es : List En) : Nat → Nat
  | 0 => 0
  | k + 1 => if wasN sz ts es k = k ∧ ts.take ((k + 1) * sz) ∈ txs es then k + 1 else wasN sz ts es k
theorem OkE.was {sz : Nat} {es : List En} (h : OkE sz es) (hz : 1 ≤ sz) (ts : List Int) : ∃ j0, j0 * sz ≤ ts.length ∧ ∀ i, 1 ≤ i → i * sz ≤ ts.length → (ts.take (i * sz) ∈ txs es ↔ i ≤ j0) := by
  have key : ∀ n, n * sz ≤ ts.length → ∃ j0, j0 ≤ n ∧ ∀ i, 1 ≤ i → i ≤ n → (ts.take (i * sz) ∈ txs es ↔ i ≤ j0) := by
    intro n
    induction n with
    | zero => intro _; exact ⟨0, by omega, fun i h1 h2 => by omega⟩
    | succ n ih =>
      intro hn
      obtain ⟨j0, j1, j2⟩ := ih (Nat.le_trans (Nat.mul_le_mul_right _ (by omega)) hn)
      by_cases hm : ts.take ((n + 1) * sz) ∈ txs es
      · refine ⟨n + 1, by omega, fun i h1 h2 => ⟨fun _ => h2, fun _ => ?_⟩⟩
        have hle : i * sz ≤ (n + 1) * sz := Nat.mul_le_mul_right _ h2
        have := h.shut _ hm i h1 (by rw [List.length_take]; omega)
        rw [List.take_take, Nat.min_eq_left hle] at this
        exact this
      · refine ⟨j0, by omega, fun i h1 h2 => ?_⟩
        rcases (by omega : i ≤ n ∨ i = n + 1) with h3 | rfl
        · exact j2 i h1 h3
        · exact ⟨fun h => absurd h hm, fun h => by omega⟩
  obtain ⟨j0, j1, j2⟩ := key (ts.length / sz) (Nat.div_mul_le_self _ _)
  refine ⟨j0, Nat.le_trans (Nat.mul_le_mul_right _ j1) (Nat.div_mul_le_self _ _), fun i h1 h2 => j2 i h1 ?_⟩
  exact (Nat.le_div_iff_mul_le (by omega)).2 h2
/-- What Put has left, and what is found then. -/
theorem put_all {pg tm : Int} {sz j0 : Nat} {ts : List Int} {es : List En} (hE : OkE sz es) (hz : 1 ≤ sz) (hU : OkU tm es) (h0 : 0 ≤ tm) (hl : j0 * sz ≤ ts.length) (hj0 : ∀ i, 1 ≤ i → i * sz ≤ ts.length → (ts.take (i * sz) ∈ txs es ↔ i ≤ j0)) :
    OkE sz (putK pg (tm + 1) sz ts es (ts.length / sz)).1 ∧ OkU (tm + 1) (putK pg (tm + 1) sz ts es (ts.length / sz)).1 ∧
    ∃ got : Nat, (putK pg (tm + 1) sz ts es (ts.length / sz)).2.1 = got ∧ (j0 + got) * sz ≤ ts.length ∧ bestK ts (putK pg (tm + 1) sz ts es (ts.length / sz)).1 (putK pg (tm + 1) sz ts es (ts.length / sz)).1.length = (((j0 + got) * sz : Nat) : Int) ∧ (got = 0 → (j0 + 1) * sz ≤ ts.length → pg ≤ (putK pg (tm + 1) sz ts es (ts.length / sz)).1.length) := by
  have hd := Nat.div_mul_le_self ts.length sz
  obtain ⟨m, m1, m2, m3, m4, m5, m6, m7⟩ := putK_ok (pg := pg) (tm := tm + 1) hE hz (hU.next h0 ts) (by omega) hj0 (ts.length / sz) hd
  have hj0d : j0 ≤ ts.length / sz := (Nat.le_div_iff_mul_le (by omega)).2 hl
  have hM : (j0 + (m - j0)) * sz ≤ ts.length := by
    refine Nat.le_trans (Nat.mul_le_mul_right _ (?_ : _ ≤ ts.length / sz)) hd
    omega
  refine ⟨m4, m5.u, m - j0, m7, hM, ?_, fun hg hl2 => ?_⟩
  · refine m4.best hz (fun i h1 h2 => ?_) hM fun h h' => ?_
    · exact (m6 i h1 (Nat.le_trans (Nat.mul_le_mul_right _ h2) hM)).2 (by omega)
    · have := (m6 _ (by omega) h).1 h'
      omega
  · by_cases hs : (putK pg (tm + 1) sz ts es (ts.length / sz)).2.2 = true
    · exact (m3 hs).2
    · have := m2 (by simpa using hs)
      have h3 : j0 + 1 ≤ ts.length / sz := (Nat.le_div_iff_mul_le (by omega)).2 hl2
      omega
end Go.Proofs.YtjgggialnegddaaGreat
namespace Go.Proofs.YtjgggialnegddaaGreat
open Go.RowKit
set_option linter.unusedVariables false

/-- All that is true of a cache's entries. -/
structure OkK (pg sz : Nat) (tm : Int) (es : List En) : Prop where
  e : OkE sz es
  u : OkU tm es
  few : es.length ≤ pg
  short : ∀ x ∈ txs es, x.length ≤ 256
  z : 1 ≤ sz ∧ sz ≤ 16
  p : 1 ≤ pg ∧ pg ≤ 256
  t : 0 ≤ tm
theorem okk_new {pg sz : Nat} (hz : 1 ≤ sz ∧ sz ≤ 16) (hp : 1 ≤ pg ∧ pg ≤ 256) : OkK pg sz 0 [] := ⟨oke_nil sz, oku_nil 0, by simp, fun x h => by simp [txs] at h, hz, hp, by omega⟩
theorem OkK.clear {pg sz : Nat} {tm : Int} {es : List En} (h : OkK pg sz tm es) : OkK pg sz tm [] := ⟨oke_nil sz, oku_nil tm, by simp, fun x h => by simp [txs] at h, h.z, h.p, h.t⟩
theorem OkK.find {pg sz : Nat} {tm : Int} {es : List En} (h : OkK pg sz tm es) (ts : List Int) (k : Nat) : OkK pg sz (tm + 1) (useK (tm + 1) ts es k) :=
  ⟨h.e.same txs_use, h.u.find h.t ts k, by rw [useK_len]; exact h.few, by rw [txs_use]; exact h.short, h.z, h.p, by have := h.t; omega⟩
theorem putK_sub (pg tm : Int) (sz : Nat) (ts : List Int) (es : List En) (j : Nat) : ∀ x ∈ txs (putK pg tm sz ts es j).1, x ∈ txs es ∨ begB x ts = true := by
  induction j with
  | zero => intro x hx; exact .inl hx
  | succ j ih =>
    have hb : ∀ p, putE pg tm ts (ts.take ((j + 1) * sz)) (putK pg tm sz ts es j).1 = some p → ∀ x ∈ txs p.1, x ∈ txs es ∨ begB x ts = true := by
      intro p hp
      generalize (putK pg tm sz ts es j).1 = E at *
      have hx : begB (ts.take ((j + 1) * sz)) ts = true := begB_take _
      generalize ts.take ((j + 1) * sz) = y at *
      have hadd : ∀ E' : List En, (∀ x ∈ txs E', x ∈ txs es ∨ begB x ts = true) → ∀ x ∈ txs (E' ++ [(y, tm)]), x ∈ txs es ∨ begB x ts = true := by
        intro E' h' x hx'
        unfold txs at hx'
        rw [List.map_append, List.mem_append] at hx'
        rcases hx' with h | h
        · exact h' x h
        · simp at h; subst h; exact .inr hx
      unfold putE at hp
      split at hp
      · cases hp; rw [txs_set]; exact ih
      · split at hp
        · split at hp
          · cases hp
          · cases hp
            refine hadd _ fun x hx' => ih x ?_
            obtain ⟨i, h1, _, h3⟩ := txs_erase.1 hx'
            exact mem_txs.2 ⟨i, h1, h3⟩
        · cases hp; exact hadd _ ih
    rw [putK]
    split
    · exact ih
    · split
      · exact ih
      · rename_i p hp
        exact hb p hp
theorem OkK.put {pg sz : Nat} {tm : Int} {es : List En} (h : OkK pg sz tm es) (ts : List Int) (hl : ts.length ≤ 256) : OkK pg sz (tm + 1) (putK pg (tm + 1) sz ts es (ts.length / sz)).1 := by
  obtain ⟨j0, j1, j2⟩ := h.e.was h.z.1 ts
  obtain ⟨a1, a2, _⟩ := put_all (pg := pg) h.e h.z.1 h.u h.t j1 j2
  have hf := h.few
  refine ⟨a1, a2, ?_, fun x hx => ?_, h.z, h.p, by have := h.t; omega⟩
  · have := putK_len (pg := (pg : Int)) (tm := tm + 1) (sz := sz) (ts := ts) (es := es) (by omega) (ts.length / sz)
    omega
  · rcases putK_sub _ _ _ _ _ _ x hx with h1 | h1
    · exact h.short x h1
    · have := (begB_iff.1 h1).1; omega
end Go.Proofs.YtjgggialnegddaaGreat
namespace Go.Proofs.YtjgggialnegddaaGreat
open Go.RowKit
set_option linter.unusedVariables false

/-- The part of a text that follows j parts. -/
def chunk (sz j : Nat) (ts : List Int) : List Int := (ts.drop (j * sz)).take sz
theorem chunk_len {sz j : Nat} {ts : List Int} (h : (j + 1) * sz ≤ ts.length) : (chunk sz j ts).length = sz := by
  unfold chunk
  rw [List.length_take, List.length_drop]
  rw [Nat.add_mul] at h
  omega
theorem take_chunk {sz j : Nat} (ts : List Int) : ts.take (j * sz) ++ chunk sz j ts = ts.take ((j + 1) * sz) := by
  unfold chunk
  rw [Nat.add_mul, Nat.one_mul, List.take_add]
/-- A leaf is an entry without children. -/
theorem OkE.leaf {sz : Nat} {es : List En} (h : OkE sz es) (hz : 1 ≤ sz) {i : Nat} (hi : i < es.length) : leafB es i = true ↔ ∀ ch : List Int, ch.length = sz → (en es i).1 ++ ch ∉ txs es := by
  constructor
  · intro hl ch hc hm
    obtain ⟨k, hk, e⟩ := mem_txs.1 hm
    have hne : k ≠ i := fun e' => by
      rw [e'] at e
      have := congrArg List.length e
      rw [List.length_append] at this
      omega
    have := leaf_iff hl hk hne
    rw [e] at this
    have hb : begB (en es i).1 ((en es i).1 ++ ch) = true := by
      unfold begB
      rw [List.isPrefixOf_iff_prefix]
      exact ⟨ch, rfl⟩
    rw [hb] at this
    cases this
  · intro hn
    apply leaf_yes
    intro k hk hki
    rw [Bool.eq_false_iff]
    intro hb
    obtain ⟨a, a1, a2⟩ := h.mult _ (mem_txs.2 ⟨i, hi, rfl⟩)
    obtain ⟨b, b1, b2⟩ := h.mult _ (mem_txs.2 ⟨k, hk, rfl⟩)
    have hle := (begB_iff.1 hb).1
    have hx := begB_eq hb
    have hne : a ≠ b := fun e => hki (h.inj hk hi (by rw [hx, a2, e, ← b2, List.take_length]))
    have hab : a + 1 ≤ b := by
      rw [a2, b2] at hle
      have := Nat.le_of_mul_le_mul_right hle (by omega)
      omega
    have hl2 : (a + 1) * sz ≤ (en es k).1.length := by rw [b2]; exact Nat.mul_le_mul_right _ hab
    have hm := h.shut _ (mem_txs.2 ⟨k, hk, rfl⟩) (a + 1) (by omega) hl2
    refine hn (chunk sz a (en es k).1) (chunk_len hl2) ?_
    rw [hx, a2, take_chunk]
    exact hm
/-- An entry's parts: it is what stands ahead of its last part, and that. -/
theorem OkE.last {sz : Nat} {es : List En} (h : OkE sz es) {x : List Int} (hx : x ∈ txs es) : ∃ j, x.length = (j + 1) * sz ∧ x = x.take (j * sz) ++ chunk sz j x ∧ (chunk sz j x).length = sz ∧ (j = 0 ∨ x.take (j * sz) ∈ txs es) := by
  obtain ⟨a, a1, a2⟩ := h.mult x hx
  refine ⟨a - 1, by rw [a2]; congr 1; omega, ?_, chunk_len (by rw [a2]; exact Nat.mul_le_mul_right _ (by omega)), ?_⟩
  · rw [take_chunk, show a - 1 + 1 = a by omega, ← a2, List.take_length]
  · by_cases h0 : a = 1
    · left; omega
    · right
      exact h.shut x hx (a - 1) (by omega) (by rw [a2]; exact Nat.mul_le_mul_right _ (by omega))
end Go.Proofs.YtjgggialnegddaaGreat
