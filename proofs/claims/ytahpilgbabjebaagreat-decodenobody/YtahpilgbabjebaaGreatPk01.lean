/-
  Math: Mathematics of the numbers with 16 bits behind the point: a number within the bounds (wi), sum, product, quotient, power of e (expZ) and square root (rootB, bit by bit), and what follows of them.
  Reads: What it says that a slice reads as a list of numbers (Reads), and how that is carried from one state of memory to a later one, to a part of the slice, and out of an argument or a row that the call owns.
  Base: What the texts of a seat stand on: a frame that says which blocks a callee may have turned (But), rows of numbers that the call owns (OwnK), a slice of slices (Rd2), tables (Tbl), appends, and the statements' own 'same'.
  Nums: Contracts: the bounds, sums, products, quotients, whole numbers and whole parts, of the program and of the document.
  Exps: Contracts: the power of e, of the program and of the document, hands back expZ.
  Roots: Contracts: the square root, of the program and of the document, hands back sqrtZ.
  Eachs: A frame that says which blocks a callee may have turned (But), and contracts: count, each (with whatever function it is handed).
  Boths: Contracts: eachOfBoth (with whatever function it is handed), Dot: the product of two vectors, dotL.
-/
import Derived.Test.YtahpilgbabjebaaGreatRows
import Derived.WalkKit
import Derived.ProofKit
import Derived.Below
import Derived.OpenShut
import Derived.Laws.BytesArg
import Derived.Laws.AppendOwnNone
import Derived.Handy
import Derived.Laws.OwnMore
import Derived.OwnWalk
import Derived.OneCell
import Derived.Deep.RegionHeld3
import Derived.Shelf.Abstract
import Derived.Deep.AppendLies
import Derived.Deep.RegionLaw
import Derived.Laws.Shifts
namespace Go.Proofs.YtahpilgbabjebaaGreat
open Go.RowKit
set_option linter.unusedVariables false
set_option maxRecDepth 1000000

theorem hid {p : Prop} (h : p) : Hid p := h
theorem ret_int {k : IntKind} {a b : Int} (h : a = b) : Ending.returned (.int k a) = .returned (.int k b) := by rw [h]

/-- A number within the bounds. -/
def wi (n : Int) : Int := if n < -2147483648 then -2147483648 else if n > 2147483647 then 2147483647 else n
theorem wi_0 (n : Int) : -2147483648 ≤ wi n := by unfold wi; split <;> (try split) <;> omega
theorem wi_1 (n : Int) : wi n ≤ 2147483647 := by unfold wi; split <;> (try split) <;> omega
theorem wi_in {n : Int} (h0 : -2147483648 ≤ n) (h1 : n ≤ 2147483647) : wi n = n := by unfold wi; rw [if_neg (by omega), if_neg (by omega)]
theorem wi_wi (n : Int) : wi (wi n) = wi n := wi_in (wi_0 n) (wi_1 n)
theorem wi_le {a b : Int} (h : a ≤ b) : wi a ≤ wi b := by unfold wi; split <;> split <;> (try split) <;> (try split) <;> omega

/-- The greatest whole number that is not above the quotient. -/
def byZ (a b : Int) : Int := if b < 0 then -a / -b else a / b
/-- The bound on the side of a number. -/
def farZ (a : Int) : Int := if a > 0 then 2147483647 else if a < 0 then -2147483648 else 0
def addZ (a b : Int) : Int := wi (wi a + wi b)
def mulZ (a b : Int) : Int := wi (wi a * wi b / 65536)
def divZ (a b : Int) : Int := if wi b = 0 then farZ (wi a) else wi (byZ (wi a * 65536) (wi b))
def fromZ (n : Int) : Int := wi (wi n * 65536)
def floorZ (n : Int) : Int := wi n / 65536

theorem addZ_comm (a b : Int) : addZ a b = addZ b a := by unfold addZ; rw [Int.add_comm]
theorem mulZ_comm (a b : Int) : mulZ a b = mulZ b a := by unfold mulZ; rw [Int.mul_comm]
theorem addZ_0 (a : Int) : addZ a 0 = wi a := by unfold addZ; rw [show wi 0 = 0 from rfl, Int.add_zero, wi_wi]
theorem mulZ_one (a : Int) : mulZ a 65536 = wi a := by
  unfold mulZ; rw [show wi 65536 = 65536 from rfl, Int.mul_ediv_cancel _ (by omega), wi_wi]
theorem divZ_one (a : Int) : divZ a 65536 = wi a := by
  unfold divZ byZ; rw [show wi 65536 = 65536 from rfl, if_neg (by omega), if_neg (by omega), Int.mul_ediv_cancel _ (by omega), wi_wi]

/-- A product of two numbers within the bounds. -/
theorem prod_bd (a b : Int) : -4611686018427387904 ≤ wi a * wi b ∧ wi a * wi b ≤ 4611686018427387904 := by
  have a0 := wi_0 a
  have a1 := wi_1 a
  have b0 := wi_0 b
  have b1 := wi_1 b
  generalize wi a = x at *
  generalize wi b = y at *
  have h1 : 0 ≤ (2147483648 - x) * (2147483648 + y) := Int.mul_nonneg (by omega) (by omega)
  have h2 : 0 ≤ (2147483648 + x) * (2147483648 - y) := Int.mul_nonneg (by omega) (by omega)
  have h3 : 0 ≤ (2147483648 - x) * (2147483648 - y) := Int.mul_nonneg (by omega) (by omega)
  have h4 : 0 ≤ (2147483648 + x) * (2147483648 + y) := Int.mul_nonneg (by omega) (by omega)
  simp only [Int.sub_mul, Int.add_mul, Int.mul_sub, Int.mul_add] at h1 h2 h3 h4
  rw [Int.mul_comm x 2147483648] at *
  omega

/-- The language's quotient, gone down where it was cut up. -/
theorem quo_pos {n d : Int} (hd : 0 < d) : (if n.tmod d < 0 then n.tdiv d - 1 else n.tdiv d) = n / d := by
  by_cases hn : 0 ≤ n
  · rw [Int.tmod_eq_emod_of_nonneg hn, Int.tdiv_eq_ediv_of_nonneg hn, if_neg]
    have := Int.emod_nonneg n (b := d) (by omega)
    omega
  · have e1 : n.tdiv d = -((-n) / d) := by rw [← Int.tdiv_eq_ediv_of_nonneg (by omega), Int.neg_tdiv, Int.neg_neg]
    have e2 : n.tmod d = -((-n) % d) := by rw [← Int.tmod_eq_emod_of_nonneg (by omega), Int.neg_tmod, Int.neg_neg]
    have e3 := Int.mul_ediv_add_emod (-n) d
    have e4 := Int.emod_nonneg (-n) (b := d) (by omega)
    have e5 := Int.emod_lt_of_pos (-n) hd
    rw [e1, e2]
    generalize -n / d = q at *
    generalize -n % d = r at *
    split
    · refine (Int.ediv_eq_iff_of_pos hd).mpr ?_ |>.symm
      rw [Int.sub_mul, Int.neg_mul, Int.mul_comm q d] 
      constructor <;> omega
    · refine (Int.ediv_eq_iff_of_pos hd).mpr ?_ |>.symm
      rw [Int.neg_mul, Int.mul_comm q d]
      constructor <;> omega
theorem tmod_neg_iff {n d : Int} (hd : 0 < d) : n.tmod d < 0 ↔ n.tmod d ≠ 0 ∧ n < 0 := by
  by_cases hn : 0 ≤ n
  · rw [Int.tmod_eq_emod_of_nonneg hn]
    have := Int.emod_nonneg n (b := d) (by omega)
    omega
  · have e2 : n.tmod d = -((-n) % d) := by rw [← Int.tmod_eq_emod_of_nonneg (by omega), Int.neg_tmod, Int.neg_neg]
    have e4 := Int.emod_nonneg (-n) (b := d) (by omega)
    rw [e2]
    omega
theorem quo_0 {a b : Int} (hb : b ≠ 0) (h : a.tmod b = 0) : a.tdiv b = byZ a b := by
  unfold byZ
  split
  · rw [← quo_pos (n := -a) (d := -b) (by omega), Int.neg_tmod, Int.tmod_neg, h, if_neg (by omega), Int.neg_tdiv, Int.tdiv_neg, Int.neg_neg]
  · rw [← quo_pos (n := a) (d := b) (by omega), h, if_neg (by omega)]
theorem quo_like {a b : Int} (hb : b ≠ 0) (h : a < 0 ↔ b < 0) : a.tdiv b = byZ a b := by
  unfold byZ
  split
  · rw [← quo_pos (n := -a) (d := -b) (by omega), if_neg, Int.neg_tdiv, Int.tdiv_neg, Int.neg_neg]
    rw [tmod_neg_iff (by omega)]
    omega
  · rw [← quo_pos (n := a) (d := b) (by omega), if_neg]
    rw [tmod_neg_iff (by omega)]
    omega
theorem quo_unlike {a b : Int} (hb : b ≠ 0) (h : a.tmod b ≠ 0) (h' : ¬(a < 0 ↔ b < 0)) : a.tdiv b - 1 = byZ a b := by
  unfold byZ
  have h0 : a ≠ 0 := by rintro rfl; simp at h
  split
  · rw [← quo_pos (n := -a) (d := -b) (by omega), if_pos, Int.neg_tdiv, Int.tdiv_neg, Int.neg_neg]
    rw [tmod_neg_iff (by omega), Int.neg_tmod, Int.tmod_neg]
    omega
  · rw [← quo_pos (n := a) (d := b) (by omega), if_pos]
    rw [tmod_neg_iff (by omega)]
    omega
theorem tdiv_bd (a b : Int) {m : Int} (h0 : -m ≤ a) (h1 : a ≤ m) : -m ≤ a.tdiv b ∧ a.tdiv b ≤ m := by
  have := Int.natAbs_tdiv_le_natAbs a b
  omega

/-! ### Powers -/
/-- 2 to the power of a part of One. -/
def pw (f : Int) : Int := 65536 + f * (43691 + f * 21845 / 65536) / 65536
/-- A number times a power of 2, within the bounds. -/
def liftZ (p k : Int) : Int := if k ≥ 16 then 2147483647 else if k < 0 then p / 2 ^ (-k).toNat else wi (p * 2 ^ k.toNat)
/-- e to the power of a number. -/
def expZ (x : Int) : Int := liftZ (pw (wi x * 94548 / 65536 % 65536)) (wi x * 94548 / 65536 / 65536)

theorem pw_le {f g : Int} (f0 : 0 ≤ f) (h : f ≤ g) : pw f ≤ pw g := by
  unfold pw
  have h1 : f * 21845 / 65536 ≤ g * 21845 / 65536 := by omega
  have h2 : f * (43691 + f * 21845 / 65536) ≤ g * (43691 + g * 21845 / 65536) := Int.mul_le_mul h (by omega) (by omega) (by omega)
  omega
theorem pw_0 : pw 0 = 65536 := by decide
theorem pw_bd {f : Int} (f0 : 0 ≤ f) (f1 : f < 65536) : 65536 ≤ pw f ∧ pw f ≤ 131072 := by
  have h1 := pw_le (Int.le_refl 0) f0
  have h2 := pw_le f0 (show f ≤ 65535 by omega)
  rw [pw_0] at h1
  rw [show pw 65535 = 131070 from by decide] at h2
  omega
theorem part_bd {f : Int} (f0 : 0 ≤ f) (f1 : f < 65536) : 0 ≤ f * (43691 + f * 21845 / 65536) ∧ f * (43691 + f * 21845 / 65536) ≤ 4294967296 :=
  ⟨Int.mul_nonneg f0 (by omega), Int.le_trans (Int.mul_le_mul (show f ≤ 65536 by omega) (show 43691 + f * 21845 / 65536 ≤ 65536 by omega) (by omega) (by omega)) (by omega)⟩

theorem two_pos (n : Nat) : (0 : Int) < 2 ^ n := Int.pow_pos (by omega)
theorem two_le {m n : Nat} (h : m ≤ n) : (2 : Int) ^ m ≤ 2 ^ n := by
  induction h with
  | refl => exact Int.le_refl _
  | step _ ih => rw [Int.pow_succ]; have := two_pos m; omega
theorem liftZ_p {p q : Int} (k : Int) (h : p ≤ q) : liftZ p k ≤ liftZ q k := by
  unfold liftZ
  split
  · omega
  · split
    · exact Int.ediv_le_ediv (two_pos _) h
    · exact wi_le (Int.mul_le_mul_of_nonneg_right h (Int.le_of_lt (two_pos _)))
theorem liftZ_k (k : Int) : liftZ 131072 k ≤ liftZ 65536 (k + 1) := by
  unfold liftZ
  by_cases h16 : k ≥ 16
  · rw [if_pos h16, if_pos (by omega)]; omega
  · by_cases h15 : k = 15
    · subst h15; decide
    · rw [if_neg h16, if_neg (show ¬ k + 1 ≥ 16 by omega)]
      by_cases hm : k = -1
      · subst hm; decide
      · by_cases h0 : k < 0
        · rw [if_pos h0, if_pos (by omega)]
          rw [show (-k).toNat = (-(k + 1)).toNat + 1 by omega, Int.pow_succ, show (131072 : Int) = 65536 * 2 from rfl, Int.mul_ediv_mul_of_pos_left _ _ (by omega)]
          omega
        · rw [if_neg h0, if_neg (by omega), show (k + 1).toNat = k.toNat + 1 by omega, Int.pow_succ, show (131072 : Int) * 2 ^ k.toNat = 65536 * (2 ^ k.toNat * 2) by omega]
          omega
theorem liftZ_up (k : Int) (n : Nat) : liftZ 65536 k ≤ liftZ 65536 (k + n) := by
  induction n with
  | zero => simp
  | succ n ih =>
    refine Int.le_trans ih (Int.le_trans (liftZ_p _ (show (65536 : Int) ≤ 131072 by omega)) ?_)
    have := liftZ_k (k + n)
    rw [show k + ((n + 1 : Nat) : Int) = k + n + 1 by omega]
    exact this
theorem expZ_le {a b : Int} (h : a ≤ b) : expZ a ≤ expZ b := by
  unfold expZ
  have hw := wi_le h
  have hy : wi a * 94548 / 65536 ≤ wi b * 94548 / 65536 := by omega
  generalize wi a * 94548 / 65536 = y at *
  generalize wi b * 94548 / 65536 = z at *
  by_cases hk : y / 65536 = z / 65536
  · rw [hk]
    exact liftZ_p _ (pw_le (by omega) (by omega))
  · have p1 := pw_bd (f := y % 65536) (by omega) (by omega)
    have p2 := pw_bd (f := z % 65536) (by omega) (by omega)
    refine Int.le_trans (liftZ_p _ p1.2) (Int.le_trans (liftZ_k _) (Int.le_trans ?_ (liftZ_p _ p2.1)))
    have := liftZ_up (y / 65536 + 1) (z / 65536 - (y / 65536 + 1)).toNat
    rw [show y / 65536 + 1 + (((z / 65536 - (y / 65536 + 1)).toNat : Nat) : Int) = z / 65536 by omega] at this
    exact this
theorem wi_nn {n : Int} (h : 0 ≤ n) : 0 ≤ wi n := by have := wi_le h; rwa [show wi 0 = 0 from rfl] at this
theorem liftZ_nn {p : Int} (k : Int) (h : 0 ≤ p) : 0 ≤ liftZ p k := by
  unfold liftZ
  split
  · omega
  · split
    · exact Int.ediv_nonneg h (Int.le_of_lt (two_pos _))
    · exact wi_nn (Int.mul_nonneg h (Int.le_of_lt (two_pos _)))
theorem liftZ_bd {p : Int} (k : Int) (h : 0 ≤ p) (h1 : p ≤ 131072) : liftZ p k ≤ 2147483647 := by
  unfold liftZ
  split
  · omega
  · split
    · exact Int.le_trans (Int.ediv_le_self _ h) (by omega)
    · exact wi_1 _
theorem expZ_bd (x : Int) : 0 ≤ expZ x ∧ expZ x ≤ 2147483647 := by
  unfold expZ
  have p := pw_bd (f := wi x * 94548 / 65536 % 65536) (by omega) (by omega)
  exact ⟨liftZ_nn _ (by omega), liftZ_bd _ (by omega) (by omega)⟩
/-- A number that is small enough goes to 0. -/
theorem lift_far {p : Int} (p0 : 0 ≤ p) (p1 : p ≤ 131072) {n : Nat} (h : 18 ≤ n) : p / 2 ^ n = 0 := by
  refine Int.ediv_eq_zero_of_lt p0 (Int.lt_of_lt_of_le (show p < 2 ^ 18 by omega) ?_)
  exact two_le h

/-! ### Roots -/
/-- The root of n, its first bits being s, from the bit i on. -/
def rootB (n : Int) : Nat → Int → Int
  | 0, s => s
  | i + 1, s => rootB n i (if (s + 2 ^ i) * (s + 2 ^ i) ≤ n then s + 2 ^ i else s)
/-- s is the root of n. -/
def Root (n s : Int) : Prop := 0 ≤ s ∧ s * s ≤ n ∧ n < (s + 1) * (s + 1)
theorem rootB_root {n : Int} (i : Nat) : ∀ {s : Int}, 0 ≤ s → s * s ≤ n → n < (s + 2 ^ i) * (s + 2 ^ i) → Root n (rootB n i s) := by
  induction i with
  | zero => intro s h0 h1 h2; exact ⟨h0, h1, h2⟩
  | succ i ih =>
    intro s h0 h1 h2
    have := two_pos i
    unfold rootB
    split
    · refine ih (by omega) (by assumption) ?_
      rw [Int.pow_succ] at h2
      rw [show s + 2 ^ i + 2 ^ i = s + 2 ^ i * 2 by omega]
      exact h2
    · exact ih h0 h1 (by omega)
theorem rootB_neg {n : Int} (h : n < 0) (i : Nat) : rootB n i 0 = 0 := by
  induction i with
  | zero => rfl
  | succ i ih =>
    unfold rootB
    rw [if_neg]
    · exact ih
    · have := two_pos i
      have := Int.mul_nonneg (a := 0 + 2 ^ i) (b := 0 + 2 ^ i) (by omega) (by omega)
      omega
theorem Root.lt {n r s : Int} (hr : Root n r) (hs : Root n s) : ¬ r < s := by
  intro h
  have h1 : (r + 1) * (r + 1) ≤ s * s := Int.mul_le_mul (by omega) (by omega) (by have := hr.1; omega) hs.1
  have := hr.2.2
  have := hs.2.1
  omega
theorem Root.one {n r s : Int} (hr : Root n r) (hs : Root n s) : r = s := by
  have := hr.lt hs
  have := hs.lt hr
  omega
/-- The square root of a number. -/
def sqrtZ (x : Int) : Int := rootB (wi x * 65536) 24 0
theorem sq_lt {n : Int} (i : Nat) (hi : 24 ≤ i) (h : n < 281474976710656) : n < (0 + 2 ^ i) * (0 + 2 ^ i) := by
  have h1 : (16777216 : Int) ≤ 2 ^ i := two_le hi
  have h2 : (16777216 : Int) * 16777216 ≤ (0 + 2 ^ i) * (0 + 2 ^ i) := Int.mul_le_mul (by omega) (by omega) (by omega) (by omega)
  omega
theorem sqrtZ_root {x : Int} (h : 0 ≤ wi x) : Root (wi x * 65536) (sqrtZ x) :=
  rootB_root 24 (Int.le_refl 0) (by omega) (sq_lt 24 (by omega) (by have := wi_1 x; omega))
theorem sqrtZ_neg {x : Int} (h : wi x < 0) : sqrtZ x = 0 := rootB_neg (by omega) 24
theorem sqrtZ_eq (x : Int) : rootB (wi x * 65536) 32 0 = sqrtZ x := by
  by_cases h : wi x < 0
  · rw [sqrtZ_neg h]; exact rootB_neg (by omega) 32
  · exact (rootB_root 32 (Int.le_refl 0) (by omega) (sq_lt 32 (by omega) (by have := wi_1 x; omega))).one (sqrtZ_root (by omega))
theorem sq_small {t n : Int} (h : t * t ≤ n) (hn : n < 281474976710656) : t < 16777216 := by
  refine Int.not_le.mp fun hc => ?_
  have : (16777216 : Int) * 16777216 ≤ t * t := Int.mul_le_mul hc hc (by omega) (by omega)
  omega
end Go.Proofs.YtahpilgbabjebaaGreat
namespace Go.Proofs.YtahpilgbabjebaaGreat
open Go.RowKit
set_option linter.unusedVariables false
set_option maxRecDepth 1000000

/-- Each is a byte. -/
def IsBytes (zs : List Int) : Prop := ∀ x ∈ zs, 0 ≤ x ∧ x ≤ 255
/-- Each is a number of 64 bits without a sign. -/
def IsU64s (zs : List Int) : Prop := ∀ x ∈ zs, 0 ≤ x ∧ x ≤ 18446744073709551615

theorem IsBytes.at {zs : List Int} (h : IsBytes zs) (i : Nat) : 0 ≤ zs[i]?.getD 0 ∧ zs[i]?.getD 0 ≤ 255 := by
  rcases Nat.lt_or_ge i zs.length with hi | hi
  · rw [List.getElem?_eq_getElem hi]; exact h _ (List.getElem_mem hi)
  · rw [List.getElem?_eq_none hi]; simp
theorem IsU64s.at {zs : List Int} (h : IsU64s zs) (i : Nat) : 0 ≤ zs[i]?.getD 0 ∧ zs[i]?.getD 0 ≤ 18446744073709551615 := by
  rcases Nat.lt_or_ge i zs.length with hi | hi
  · rw [List.getElem?_eq_getElem hi]; exact h _ (List.getElem_mem hi)
  · rw [List.getElem?_eq_none hi]; simp
theorem IsBytes.append {xs ys : List Int} (h : IsBytes xs) (k : IsBytes ys) : IsBytes (xs ++ ys) := fun x hx => (List.mem_append.1 hx).elim (h x) (k x)
theorem IsBytes.drop {xs : List Int} (h : IsBytes xs) (n : Nat) : IsBytes (xs.drop n) := fun x hx => h x (List.mem_of_mem_drop hx)
theorem IsBytes.take {xs : List Int} (h : IsBytes xs) (n : Nat) : IsBytes (xs.take n) := fun x hx => h x (List.mem_of_mem_take hx)

/-- The slice reads as these numbers. -/
structure Reads (k : IntKind) (w : World) (a : Option Addr) (len cap : Nat) (zs : List Int) : Prop where
  size : zs.length = len
  room : len ≤ cap
  most : cap ≤ 9223372036854775807
  bare : a = none → len = 0 ∧ cap = 0
  cell : ∀ i, i < len → ∃ b off, a = some ⟨b, off, none⟩ ∧ w.cell? ⟨b, off + i, none⟩ = some (.int k (zs[i]?.getD 0))

theorem Reads.nil (k : IntKind) (w : World) : Reads k w none 0 0 [] := ⟨rfl, Nat.le_refl _, by omega, fun _ => ⟨rfl, rfl⟩, fun i hi => by omega⟩

theorem Reads.below {k : IntKind} {w w' : World} {a : Option Addr} {len cap : Nat} {zs : List Int} (h : Reads k w a len cap zs) (hb : Below w.heap.size w w') : Reads k w' a len cap zs :=
  ⟨h.size, h.room, h.most, h.bare, fun i hi => by
    obtain ⟨b, off, ha, hc⟩ := h.cell i hi
    exact ⟨b, off, ha, (hb.cell (World.block_lt_of_cell? _ _ hc)).trans hc⟩⟩

/-- The cells that an append of the slice reads. -/
theorem Reads.news {k : IntKind} {w : World} {a : Addr} {len cap : Nat} {zs : List Int} (h : Reads k w (some a) len cap zs) :
    ∀ j u, (zs.map (Value.int k))[j]? = some u → w.cell? (a.add j) = some u := by
  intro j u hu
  have hj : j < zs.length := by
    have := (List.getElem?_eq_some_iff.1 hu).1
    simpa using this
  obtain ⟨b, off, ha, hc⟩ := h.cell j (by rw [← h.size]; exact hj)
  obtain rfl := Option.some.inj ha
  rw [Addr.add_lit, hc]
  simp [hj] at hu ⊢
  exact hu

/-- A part of the slice, from a place ahead of its end on. -/
theorem Reads.tail {k : IntKind} {w : World} {b off len cap : Nat} {zs : List Int} (h : Reads k w (some ⟨b, off, none⟩) len cap zs) {p : Nat} (hp : p < len) :
    Reads k w (some ⟨b, off + p, none⟩) (len - p) (cap - p) (zs.drop p) :=
  ⟨by rw [List.length_drop, h.size], (by have := h.room; omega), (by have := h.most; omega), (fun e => by cases e), fun i hi => by
    obtain ⟨b', off', ha, hc⟩ := h.cell (p + i) (by omega)
    cases ha
    exact ⟨b, off + p, rfl, by rw [Nat.add_assoc, hc, List.getElem?_drop]⟩⟩

/-- What lies in a row of the call's own. -/
theorem Reads.own {k : IntKind} {w : World} {base e n : Nat} {v : Value} {zs : List Int} (h : w.ownsRow base e 1 v n (zs.map (Value.int k))) :
    ∃ a cap, v = .slice a n cap ∧ Reads k w a n cap zs := by
  have hl : zs.length = n := by have := h.1; simpa using this
  rcases h.2 with ⟨rfl, rfl⟩ | ⟨g, cap, cur, rfl, hb, hg, hnc, hm, hs, ht⟩
  · exact ⟨none, 0, rfl, hl, Nat.le_refl _, by omega, fun _ => ⟨rfl, rfl⟩, fun i hi => by omega⟩
  · refine ⟨some ⟨g, 0, none⟩, cap, rfl, hl, hnc, by unfold maxLen at hm; omega, (fun e => by cases e), fun i hi => ⟨g, 0, rfl, ?_⟩⟩
    have hi' : i < zs.length := by omega
    have := h.cells (g := g) rfl i (.int k (zs[i]?.getD 0)) (by simp [hi'])
    rwa [Addr.add_lit] at this

/-- A row that came in. -/
def IsRow' (k : IntKind) (w : World) (a : Option Addr) (len cap : Nat) (zs : List Int) : Prop :=
  (a = none ∧ len = 0 ∧ cap = 0 ∧ zs = []) ∨
  ∃ x, a = some x ∧ len ≤ cap ∧ cap ≤ maxLen ∧ zs.length = cap ∧ (∀ i, i < zs.length → w.cell? (x.add i) = some (.int k (zs.getD i 0))) ∧ ∀ n ∈ zs, (Lit.int k n).wf = true

theorem Reads.row {k : IntKind} {w : World} {a : Option Addr} {len cap : Nat} {zs : List Int} (h : IsRow' k w a len cap zs) :
    Reads k w a len cap (zs.take len) ∧ ∀ n ∈ zs.take len, (Lit.int k n).wf = true := by
  rcases h with ⟨rfl, rfl, rfl, rfl⟩ | ⟨x, rfl, hl, hm, hz, hc, hw⟩
  · exact ⟨Reads.nil _ _, fun n hn => by simp at hn⟩
  · refine ⟨⟨by simp; omega, hl, by unfold maxLen at hm; omega, (fun e => by cases e), fun i hi => ?_⟩, fun n hn => hw n (List.mem_of_mem_take hn)⟩
    obtain ⟨b, off, rfl, hc'⟩ := ints_at hc (by omega)
    have hi' : i < zs.length := by omega
    exact ⟨b, off, rfl, by rw [hc' i hi', List.getD_eq_getElem?_getD, List.getElem?_take_of_lt hi]⟩

theorem bytes_of_wf {zs : List Int} (h : ∀ n ∈ zs, (Lit.int .u8 n).wf = true) : IsBytes zs := fun x hx => by have := bounds_u8 (h x hx); omega
theorem u64s_of_wf {zs : List Int} (h : ∀ n ∈ zs, (Lit.int .u64 n).wf = true) : IsU64s zs := fun x hx => by have := bounds_u64 (h x hx); omega

/-- The slice as a string. -/
theorem Reads.conv {P : Program} {w : World} {a : Option Addr} {len cap : Nat} {zs : List Int} (h : Reads .u8 w a len cap zs) (src dst e : TypeId) (hs : P.underlying src = some (.slice e)) (he : P.underlying e = some (.int .u8)) (hd : P.underlying dst = some .string) :
    (convert src dst (.slice a len cap)).run P w = .ok (.string (strOfNums zs)) w := by
  by_cases h0 : len = 0
  · have hz : zs = [] := List.eq_nil_of_length_eq_zero (by rw [h.size, h0])
    subst h0 hz
    rw [run_convert_bytes_string w src dst e _ 0 cap hs he hd]
    cases a with
    | none => simp [Conv.bytesToString]; rfl
    | some a =>
      rw [run_bytesToString w a 0 cap [] (by simp [loadCells, loadCellsFrom])]
      rfl
  · obtain ⟨b, off, rfl, _⟩ := h.cell 0 (by omega)
    refine run_convert_bytes_arg w src e hs he b off len cap zs h.size (fun i hi => ?_) dst hd
    obtain ⟨b', off', ha, hc⟩ := h.cell i hi
    cases ha
    rw [hc, List.getD_eq_getElem?_getD]

/-- An append to a row of the call's own, whatever is appended: nil or not. -/
theorem append_any {P : Program} (w : World) {ops : Array Oper} {rest : List Oper} {o : Oper} {a : Act} {Q : Exit → Act → World → Prop} (hgd : o.guard = none) (s x : Operand) (t : TypeId)
    (ho : o.op = .call { callee := .builtin .append, args := #[s, x], argTypes := #[t, t] })
    (base : Nat) (e : TypeId) (i : TypeInfo) (z : Value) (bytes : Nat) (ht : P.underlying t = some (.slice e)) (hi : P.info? e = some i) (hz : i.zero = some z)
    (hsize : i.size = 1) (hby : i.bytes = bytes) (hzs : z.cells.size = 1) (k : IntKind)
    (v : Value) (n : Nat) (xs : List Int) (hs : a.eval s = v) (hown : w.ownsRow base e 1 v n (xs.map (Value.int k)))
    (ao : Option Addr) (m c : Nat) (news : List Int) (hx : a.eval x = .slice ao m c) (hr : Reads k w ao m c news)
    (h63 : n + m ≤ 9223372036854775807) (hbytes : (n + m) * bytes ≤ 140737488355328) (hbase : base ≤ w.heap.size)
    (h : ∀ v' w', w'.ownsRow base e 1 v' (n + m) ((xs ++ news).map (Value.int k)) → Below base w w' → wpList P ops Q rest (a.put o.dst v') w') : wpList P ops Q (o :: rest) a w := by
  cases ao with
  | none =>
    obtain ⟨rfl, rfl⟩ := hr.bare rfl
    have hn : news = [] := List.eq_nil_of_length_eq_zero hr.size
    subst hn
    exact wpList_append_own_none hgd s x t ho base e i 1 ht hi v n _ hs hown hx (h v w (by simpa using hown) (Below.refl _ _))
  | some ad =>
    refine wpList_append_own w hgd s x t ho base e i z 1 bytes ht hi hz hsize hby hzs (by decide) v n _ hs hown ad m c (news.map (Value.int k)) hx (by simpa using hr.size) hr.news (ints_oneCell k news) (by unfold maxLen; omega) hbytes hbase ?_
    intro v' w' h1 h2 _
    refine h v' w' (by rw [List.map_append]; exact h1) ((Below.refl _ _).grown h2 hbase fun g hg => (hown.lt g hg).1)

end Go.Proofs.YtahpilgbabjebaaGreat
namespace Go.Proofs.YtahpilgbabjebaaGreat
open Go.RowKit
set_option linter.unusedVariables false
set_option maxRecDepth 1000000
/-- Of the blocks that are there only those of S may have turned. -/
structure But (S : List Nat) (w w' : World) : Prop where
  os : w'.os = w.os
  tape : w'.tape = w.tape
  output : w'.output = w.output
  size : w.heap.size ≤ w'.heap.size
  block : ∀ k, k < w.heap.size → k ∉ S → w'.heap[k]? = w.heap[k]?
theorem But.refl (S : List Nat) (w : World) : But S w w := ⟨rfl, rfl, rfl, Nat.le_refl _, fun _ _ _ => rfl⟩
theorem But.trans {S : List Nat} {a b c : World} (h : But S a b) (k : But S b c) : But S a c :=
  ⟨k.os.trans h.os, k.tape.trans h.tape, k.output.trans h.output, Nat.le_trans h.size k.size, fun i hi hn => (k.block i (Nat.lt_of_lt_of_le hi h.size) hn).trans (h.block i hi hn)⟩
theorem But.mono {S S' : List Nat} {a b : World} (h : But S a b) (hS : ∀ s ∈ S, s ∈ S') : But S' a b := ⟨h.os, h.tape, h.output, h.size, fun i hi hn => h.block i hi fun hs => hn (hS i hs)⟩
theorem But.below {S : List Nat} {a b c : World} (h : But S a b) (k : Below a.heap.size b c) : But S a c :=
  ⟨k.os.trans h.os, k.tape.trans h.tape, k.output.trans h.output, Nat.le_trans h.size k.size, fun i hi hn => (k.block i hi).trans (h.block i hi hn)⟩
theorem But.of {S : List Nat} {a b : World} (k : Below a.heap.size a b) : But S a b := (But.refl S a).below k
theorem But.set {S : List Nat} {a b : World} (h : But S a b) {p : Addr} (hp : p.block ∈ S) (u : Value) : But S a (b.setCell p u) :=
  h.trans ⟨rfl, rfl, rfl, by simp [World.setCell], fun k _ hk => Below.heap_setCell _ _ _ _ (fun e => hk (e ▸ hp))⟩
theorem But.drew {S : List Nat} {a b : World} (h : But S a b) : But S a b.drew := ⟨h.os, h.tape, h.output, h.size, h.block⟩
theorem But.alloc {S : List Nat} {a b : World} (h : But S a b) (o : Obj) : But S a (b.alloc o) := h.below ((Below.refl _ _).alloc h.size o)
theorem But.to {S : List Nat} {a b : World} {B : Nat} (h : But S a b) (hS : ∀ s ∈ S, B ≤ s) (hB : B ≤ a.heap.size) : Below B a b :=
  ⟨h.os, h.tape, h.output, h.size, fun k hk => h.block k (by omega) fun hs => by have := hS k hs; omega⟩
theorem But.cell {S : List Nat} {w w' : World} (h : But S w w') {p : Addr} {v : Value} (hc : w.cell? p = some v) (hp : p.block ∉ S) : w'.cell? p = some v :=
  (World.cell?_of_block (w := w) (h.block p.block (World.block_lt_of_cell? _ _ hc) hp)).trans hc
theorem But.one {S : List Nat} {w w' : World} (h : But S w w') {B : Nat} {o : Obj} (hc : w.heap[B]? = some o) (hp : B ∉ S) : w'.heap[B]? = some o := (h.block B (lt_of_block hc) hp).trans hc
/-- No cell of the slice lies in a block of S. -/
def Off (S : List Nat) (a : Option Addr) (len : Nat) : Prop := 0 < len → ∀ ad, a = some ad → ad.block ∉ S
theorem Reads.cut {k : IntKind} {w : World} {a : Option Addr} {len cap : Nat} {zs : List Int} (h : Reads k w a len cap zs) {m : Nat} (hm : m ≤ len) : Reads k w a m cap (zs.take m) :=
  ⟨by rw [List.length_take, h.size]; omega, by have := h.room; omega, h.most, fun e => by have := h.bare e; omega, fun i hi => by
    obtain ⟨b, off, e, hc⟩ := h.cell i (by omega)
    exact ⟨b, off, e, by rw [hc, List.getElem?_take_of_lt hi]⟩⟩
theorem Reads.but {k : IntKind} {w w' : World} {a : Option Addr} {len cap : Nat} {zs : List Int} {S : List Nat} (h : Reads k w a len cap zs) (hb : But S w w') (hS : Off S a len) : Reads k w' a len cap zs :=
  ⟨h.size, h.room, h.most, h.bare, fun i hi => by
    obtain ⟨b, off, e, hc⟩ := h.cell i hi
    exact ⟨b, off, e, hb.cell hc (show b ∉ S from hS (by omega) ⟨b, off, none⟩ e)⟩⟩
theorem Reads.past {k : IntKind} {w : World} {a : Option Addr} {len cap : Nat} {zs : List Int} (h : Reads k w a len cap zs) {S : List Nat} (hS : ∀ s ∈ S, w.heap.size ≤ s) : Off S a len := by
  intro h0 ad hd hs
  obtain ⟨b, off, e, hc⟩ := h.cell 0 h0
  have h1 : b < w.heap.size := World.block_lt_of_cell? _ _ hc
  have h2 := hS _ hs
  rw [hd] at e
  cases e
  exact absurd h1 (Nat.not_lt.2 h2)
/-- The row in block g, not below base, its elements of type t, holds these numbers. -/
def OwnK (t : TypeId) (base g m cap : Nat) (xs : List Int) (w : World) : Prop := w.ownsRow base t 1 (.slice (some ⟨g, 0, none⟩) m cap) m (xs.map (Value.int .i64))
theorem OwnK.len {t : TypeId} {base g m cap : Nat} {xs : List Int} {w : World} (h : OwnK t base g m cap xs w) : xs.length = m := by have := h.1; simpa using this
theorem OwnK.cell {t : TypeId} {base g m cap : Nat} {xs : List Int} {w : World} (h : OwnK t base g m cap xs w) {k : Nat} (hk : k < m) : w.cell? ⟨g, k, none⟩ = some (.int .i64 (xs[k]?.getD 0)) := by
  have hl := h.len
  have := World.ownsRow.cellAt h k (by omega)
  rw [this]
  simp [(by omega : k < xs.length)]
theorem OwnK.frozen {t : TypeId} {base g m cap : Nat} {xs : List Int} {w : World} (h : OwnK t base g m cap xs w) (k : Nat) : w.frozen? ⟨g, k, none⟩ = false := World.ownsRow.frozenAt h k
theorem OwnK.set {t : TypeId} {base g m cap : Nat} {xs : List Int} {w : World} (h : OwnK t base g m cap xs w) (k : Nat) (v : Int) : OwnK t base g m cap (xs.set k v) (w.setCell ⟨g, k, none⟩ (.int .i64 v)) := by
  have := (World.ownsRow.stored h k (.int .i64 v)).1
  unfold OwnK
  rw [List.map_set]
  exact this
theorem OwnK.base {t : TypeId} {base g m cap : Nat} {xs : List Int} {w : World} (h : OwnK t base g m cap xs w) : base ≤ g := (World.ownsRow.lt h g rfl).1
theorem OwnK.lt {t : TypeId} {base g m cap : Nat} {xs : List Int} {w : World} (h : OwnK t base g m cap xs w) : g < w.heap.size := (World.ownsRow.lt h g rfl).2
theorem OwnK.same {t : TypeId} {base g m cap : Nat} {xs : List Int} {w w' : World} (h : OwnK t base g m cap xs w) (hb : w'.heap[g]? = w.heap[g]?) : OwnK t base g m cap xs w' := by
  refine ⟨h.1, ?_⟩
  rcases h.2 with h' | ⟨g', c, cur, hv, hB, hg, rest⟩
  · exact .inl h'
  · cases hv
    exact .inr ⟨g, cap, cur, rfl, hB, hb.trans hg, rest⟩
theorem OwnK.stays {t : TypeId} {base g m cap : Nat} {xs : List Int} {w w' : World} (h : OwnK t base g m cap xs w) (hb : Below w.heap.size w w') : OwnK t base g m cap xs w' := h.same (hb.block g h.lt)
theorem OwnK.but {t : TypeId} {base g m cap : Nat} {xs : List Int} {w w' : World} {S : List Nat} (h : OwnK t base g m cap xs w) (hb : But S w w') (hg : g ∉ S) : OwnK t base g m cap xs w' := h.same (hb.block g h.lt hg)
theorem OwnK.reads {t : TypeId} {base g m cap : Nat} {xs : List Int} {w : World} (h : OwnK t base g m cap xs w) : Reads .i64 w (some ⟨g, 0, none⟩) m cap xs := by
  obtain ⟨a, c, e, hr⟩ := Reads.own (k := .i64) h
  cases e
  exact hr
theorem OwnK.low {t : TypeId} {base base' g m cap : Nat} {xs : List Int} {w : World} (h : OwnK t base g m cap xs w) (hb : base' ≤ base) : OwnK t base' g m cap xs w := by
  refine ⟨h.1, ?_⟩
  rcases h.2 with h' | ⟨g', c, cur, hv, hB, rest⟩
  · exact .inl h'
  · exact .inr ⟨g', c, cur, hv, Nat.le_trans hb hB, rest⟩
theorem Tryz.info2 : (Tryz.prog.info? 2).map (fun i => (i.zero, i.size, i.bytes)) = some (some (.int .i64 0), 1, 8) := by kernel_rfl
theorem Tryz.info3 : (Tryz.prog.info? 3).map (fun i => (i.zero, i.size, i.bytes)) = some (some (.int .i64 0), 1, 8) := by kernel_rfl
theorem info_parts {t : TypeId} {z : Value} {a b : Nat} (h : (Tryz.prog.info? t).map (fun i => (i.zero, i.size, i.bytes)) = some (some z, a, b)) :
    ∃ i, Tryz.prog.info? t = some i ∧ i.zero = some z ∧ i.size = a ∧ i.bytes = b := by
  cases hi : Tryz.prog.info? t with
  | none => rw [hi] at h; simp at h
  | some i => rw [hi] at h; simp at h; exact ⟨i, rfl, h.1, h.2.1, h.2.2⟩
/-- 'make' of m numbers. -/
theorem make_ints (w : World) (m : Nat) (hm : m ≤ 1001) : (Instr.makeSlice 70 (.int .i64 (m : Int)) (.int .i64 (m : Int))).run Tryz.prog w = .ok (.slice (some ⟨w.heap.size, 0, none⟩) m m) (w.alloc (.cells (madeCells #[.int .i64 0] m) 2)) := by
  obtain ⟨i0, hi, hz0, hz1, hz2⟩ := info_parts Tryz.info2
  have := run_make (P := Tryz.prog) w 70 2 i0 (.int .i64 0) Tryz.underlying70 hi hz0 .i64 .i64 (m : Int) (m : Int) (by omega) (Int.le_refl _) (by rw [hz2]; omega) (by omega)
  rw [this, hz1, Int.toNat_natCast, Nat.mul_one]
  rfl
theorem own_made (t : TypeId) (w : World) (m : Nat) (hm : m ≤ 1001) : OwnK t w.heap.size w.heap.size m m (List.replicate m 0) (w.alloc (.cells (madeCells #[.int .i64 0] m) t)) := by
  have := World.ownsRow_lit (base := w.heap.size) (e := t) (size := 1) w (madeCells #[.int .i64 0] m) m (Nat.le_refl _) (by unfold maxLen; omega) (by simp [madeCells])
  unfold OwnK
  rw [List.map_replicate, ← toList_madeCells_one]
  exact this
theorem take_snoc {zs : List Int} {k : Nat} (h : k < zs.length) : zs.take (k + 1) = zs.take k ++ [zs[k]?.getD 0] := by
  rw [List.take_succ_eq_append_getElem h]; simp [h]
theorem one_le {w : World} : ∀ s ∈ [w.heap.size], w.heap.size ≤ s := fun s hs => by rw [List.mem_singleton.1 hs]; exact Nat.le_refl _
/-- What a call hands back: a row of its own that holds these numbers. -/
def Made (w : World) (len : Nat) (xs : List Int) (e : Ending) (w' : World) : Prop := ∃ g cap, e = .returned (.slice (some ⟨g, 0, none⟩) len cap) ∧ OwnK 2 w.heap.size g len cap xs w' ∧ Below w.heap.size w w'
/-- What a call hands back: a row that reads as these numbers; nothing that was there has turned. -/
def Gives (w : World) (len : Nat) (xs : List Int) (e : Ending) (w' : World) : Prop := ∃ a cap, e = .returned (.slice a len cap) ∧ Reads .i64 w' a len cap xs ∧ Below w.heap.size w w'
/-- An append, for which there is room, at a step of a region that draws its order. -/
theorem step_append_fits {P : Program} {w : World} {ops : Array Oper} {o : Oper} {a : Act} {K : Act → World → Prop} {Q : Exit → Act → World → Prop} {E : Prop} (hgd : o.guard = none) (d : Tmp) (hd : o.dst = some d) (s x : Operand) (t : TypeId)
    (ho : o.op = .call { callee := .builtin .append, args := #[s, x], argTypes := #[t, t] })
    (base : Nat) (e : TypeId) (i : TypeInfo) (size : Nat) (ht : P.underlying t = some (.slice e)) (hi : P.info? e = some i) (hsize : i.size = size)
    (g n cap : Nat) (xs : List Value) (hs : a.eval s = .slice (some ⟨g, 0, none⟩) n cap) (hown : w.ownsRow base e size (.slice (some ⟨g, 0, none⟩) n cap) n xs)
    (ad : Addr) (m c : Nat) (news : List Value) (hx : a.eval x = .slice (some ad) m c) (hl : news.length = m * size) (hnews : ∀ j u, news[j]? = some u → w.cell? (ad.add j) = some u) (h1 : ∀ u ∈ news, u.oneCell' = true)
    (hroom : n + m ≤ cap)
    (h : ∀ w', w'.ownsRow base e size (.slice (some ⟨g, 0, none⟩) (n + m) cap) (n + m) (xs ++ news) → w.grownBy w' (some g) → K (a.put (some d) (.slice (some ⟨g, 0, none⟩) (n + m) cap)) w') :
    if Region.wanted o (yielded ops a.tmps) = true then Oper.wp P o a w K Q else E := by
  have hw : Region.wanted o (yielded ops a.tmps) = true := by simp [Region.wanted, hgd]
  rw [if_pos hw]
  obtain ⟨w', hr, h2, h3⟩ := run_append_fits (P := P) w base t o.type e i size ht hi hsize g n cap xs hown ad m c news hl hnews h1 hroom
  unfold Oper.wp execOp
  simp only [ho, resolve, invoke, builtin, Sem.run_bind, Sem.run_pure, Result.andThen_ok, List.map_toArray, List.map_cons, List.map_nil, hs, hx, hr]
  show K (a.put o.dst _) w'
  rw [hd]
  exact h w' h2 h3
/-- A call of a function value at a step of a region that draws its order. -/
theorem step_call2 {P : Program} {w : World} {ops : Array Oper} {o : Oper} {a : Act} {K : Act → World → Prop} {Q : Exit → Act → World → Prop} {E : Prop} (hgd : o.guard = none) (d : Tmp) (hd : o.dst = some d) (s x y : Operand) (tx ty : TypeId)
    (ho : o.op = .call { callee := .value s, args := #[x, y], argTypes := #[tx, ty] }) (fn : Nat) (caps : Array Value) (hs : a.eval s = .func (.func fn) #[] caps) (hE : ∀ args w, (callFunc fn args).run P w = .ok (.enter fn args) w)
    (u v : Value) (hx : a.eval x = u) (hy : a.eval y = v) (r : Value) (R : World → Prop) (hC : Calls P fn (#[u, v] ++ caps) w fun e w' => e = .returned r ∧ R w') (h : ∀ w', R w' → K (a.put (some d) r) w') :
    if Region.wanted o (yielded ops a.tmps) = true then Oper.wp P o a w K Q else E := by
  have hw : Region.wanted o (yielded ops a.tmps) = true := by simp [Region.wanted, hgd]
  rw [if_pos hw]
  unfold Oper.wp execOp
  simp [ho, resolve, invoke, Deferred.ofValue, hs, hx, hy]
  have hr := hE (#[u, v] ++ caps) w
  rw [hr]
  show Calls P fn (#[u, v] ++ caps) w _
  rw [hd]
  refine hC.mono ?_
  rintro e w' ⟨rfl, hR⟩
  exact h w' hR
theorem but_grown {S : List Nat} {a b c : World} {g : Nat} (h : But S a b) (hg : b.grownBy c (some g)) (hs : g ∈ S) : But S a c :=
  h.trans ⟨hg.os, hg.tape, hg.output, hg.size, fun k hk hn => hg.block k hk (fun e => hn (by cases e; exact hs))⟩
theorem one_cell (k : IntKind) (x : Int) : ∀ u ∈ [Value.int k x], u.oneCell' = true := by intro u hu; simp at hu; subst hu; rfl
theorem news_one (k : IntKind) (x : Int) (w : World) (t : TypeId) : ∀ j u, [Value.int k x][j]? = some u → (w.alloc (.cells #[.int k x] t)).cell? ((⟨w.heap.size, 0, none⟩ : Addr).add j) = some u :=
  World.news_of_block (heap_alloc_new w (.cells #[.int k x] t))
/-- 'make' of none, with room for m. -/
theorem make_room (w : World) (m : Nat) (hm : m ≤ 1001) : (Instr.makeSlice 70 (.int .i64 0) (.int .i64 (m : Int))).run Tryz.prog w = .ok (.slice (some ⟨w.heap.size, 0, none⟩) 0 m) (w.alloc (.cells (madeCells #[.int .i64 0] m) 2)) := by
  obtain ⟨i0, hi, hz0, hz1, hz2⟩ := info_parts Tryz.info2
  have := run_make (P := Tryz.prog) w 70 2 i0 (.int .i64 0) Tryz.underlying70 hi hz0 .i64 .i64 0 (m : Int) (by omega) (by omega) (by rw [hz2]; omega) (by omega)
  rw [this, hz1, Int.toNat_natCast, Nat.mul_one]
  rfl
theorem own_room (t : TypeId) (w : World) (m : Nat) (hm : m ≤ 1001) : OwnK t w.heap.size w.heap.size 0 m [] (w.alloc (.cells (madeCells #[.int .i64 0] m) t)) :=
  World.ownsRow_made (base := w.heap.size) (e := t) (size := 1) w (madeCells #[.int .i64 0] m) m (Nat.le_refl _) (by unfold maxLen; omega) (by simp [madeCells])
/-- An append at a step of a region that draws its order. -/
theorem step_append_reads {P : Program} {w : World} {ops : Array Oper} {o : Oper} {a : Act} {K : Act → World → Prop} {Q : Exit → Act → World → Prop} {E : Prop} (hgd : o.guard = none) (d : Tmp) (hd : o.dst = some d) (s x : Operand) (t : TypeId)
    (ho : o.op = .call { callee := .builtin .append, args := #[s, x], argTypes := #[t, t] })
    (base : Nat) (e : TypeId) (i : TypeInfo) (z : Value) (bytes : Nat) (ht : P.underlying t = some (.slice e)) (hi : P.info? e = some i) (hz : i.zero = some z)
    (hsize : i.size = 1) (hby : i.bytes = bytes) (hzs : z.cells.size = 1) (k : IntKind)
    (v : Value) (n : Nat) (xs : List Int) (hs : a.eval s = v) (hown : w.ownsRow base e 1 v n (xs.map (Value.int k)))
    (ad : Addr) (m c : Nat) (news : List Int) (hx : a.eval x = .slice (some ad) m c) (hr : Reads k w (some ad) m c news) (hm : 0 < m)
    (h63 : n + m ≤ 9223372036854775807) (hbytes : (n + m) * bytes ≤ 140737488355328) (hbase : base ≤ w.heap.size)
    (h : ∀ v' w', w'.ownsRow base e 1 v' (n + m) ((xs ++ news).map (Value.int k)) → Below base w w' → K (a.put (some d) v') w') :
    if Region.wanted o (yielded ops a.tmps) = true then Oper.wp P o a w K Q else E := by
  refine step_append_lies w hgd s x t ho base e i z 1 bytes ht hi hz hsize hby hzs (by decide) v n _ hs hown ad m c (news.map (Value.int k)) hx (by simpa using hr.size) hr.news (ints_oneCell k news) hm (by unfold maxLen; omega) hbytes hbase _ rfl ?_
  intro g cap w' h1 h2 _ _
  rw [hd]
  refine h _ w' (by rw [List.map_append]; exact h1) ((Below.refl _ _).grown h2 hbase fun g hg => (hown.lt g hg).1)
/-- One number in a new block, as an append of one element lays it. -/
theorem Reads.one {k : IntKind} (w : World) (x : Int) (t : TypeId) : Reads k (w.alloc (.cells #[.int k x] t)) (some ⟨w.heap.size, 0, none⟩) 1 1 [x] :=
  ⟨rfl, Nat.le_refl _, by omega, (fun e => by cases e), fun i hi => ⟨w.heap.size, 0, rfl, (by
    have h0 : i = 0 := by omega
    subst h0
    simp)⟩⟩
/-- The like behind a draw. -/
theorem Reads.oned {k : IntKind} (w : World) (x : Int) (t : TypeId) : Reads k (w.alloc (.cells #[.int k x] t)).drew (some ⟨w.heap.size, 0, none⟩) 1 1 [x] :=
  (Reads.one w x t).below ((Below.refl _ _).drew)
theorem ret_bool {a b : Bool} (h : a = b) : Ending.returned (.bool a) = .returned (.bool b) := by rw [h]
theorem same_yes (a b : Option Addr) (len ca cb : Nat) (xs : List Int) (w : World) (ha : Reads .i64 w a len ca xs) (hb : Reads .i64 w b len cb xs) (hlen : len ≤ 1000) :
    Calls Tryz.prog 15 #[.slice a len ca, .slice b len cb] w fun e w' => e = .returned (.bool true) ∧ Below w.heap.size w w' := by
  have HA := hid ha
  have HB := hid hb
  clear ha hb
  go_enter Tryz.func15, Tryz.ntmps15
  go_wp2_with fail
  go_loopw [13] (fun i W => ∃ k : Nat, k ≤ len ∧ i = .int .i64 k ∧ Hid (Below w.heap.size w W)) (fun i _ => len - (intOf i).toNat)
  case atStart => exact ⟨0, Nat.zero_le _, rfl, Below.refl _ _⟩
  case round =>
    obtain ⟨k, hk, rfl, HW⟩ := hrel
    by_cases hlt : k < len
    · obtain ⟨b1, o1, rfl, c1⟩ := (HA.out.below HW.out).cell k hlt
      obtain ⟨b2, o2, rfl, c2⟩ := (HB.out.below HW.out).cell k hlt
      have r1 := HA.out.room
      have r2 := HB.out.room
      have m1 := HA.out.most
      have m2 := HB.out.most
      clear HA HB
      generalize xs[k]?.getD 0 = x at *
      go_wp2_with fail
      go_region
      go_wp2_with fail
      go_round
      case rel => exact ⟨k + 1, by omega, by go_num, HW.out.drew⟩
      case measure => simp [intOf]; omega
    · go_wp2
      go_ret
      exact ⟨rfl, HW.out⟩
/-- A slice of a table: where it lies, its length, its room. -/
abbrev Hd := Option Addr × Nat × Nat
/-- The slice reads as these slices. -/
structure Rd2 (w : World) (a : Option Addr) (len cap : Nat) (hs : List Hd) : Prop where
  size : hs.length = len
  room : len ≤ cap
  most : cap ≤ 9223372036854775807
  bare : a = none → len = 0 ∧ cap = 0
  cell : ∀ i, i < len → ∃ b off, a = some ⟨b, off, none⟩ ∧ w.cell? ⟨b, off + i, none⟩ = some (.slice (hs[i]?.getD (none, 0, 0)).1 (hs[i]?.getD (none, 0, 0)).2.1 (hs[i]?.getD (none, 0, 0)).2.2)
theorem Rd2.below {w w' : World} {a : Option Addr} {len cap : Nat} {hs : List Hd} (h : Rd2 w a len cap hs) (hb : Below w.heap.size w w') : Rd2 w' a len cap hs :=
  ⟨h.size, h.room, h.most, h.bare, fun i hi => by
    obtain ⟨b, off, ha, hc⟩ := h.cell i hi
    exact ⟨b, off, ha, (hb.cell (World.block_lt_of_cell? _ _ hc)).trans hc⟩⟩
/-- A literal in a new block. -/
theorem Reads.lit (w : World) (xs : List Int) (t : TypeId) (n : Nat) (h : xs.length = n) (hn : n ≤ 1000) : Reads .i64 (w.alloc (.cells (xs.map (Value.int .i64)).toArray t)) (some ⟨w.heap.size, 0, none⟩) n n xs := by
  refine ⟨h, Nat.le_refl _, by omega, (fun e => by cases e), fun i hi => ⟨w.heap.size, 0, rfl, ?_⟩⟩
  rw [Nat.zero_add, cell_of_row _ w.heap.size i _ _ _ (heap_alloc_new w _)]
  simp [(by omega : i < xs.length)]
theorem rd2_two (w : World) (a b : Option Addr) (la ca lb cb : Nat) : Rd2 (w.alloc (.cells #[.slice a la ca, .slice b lb cb] 70)) (some ⟨w.heap.size, 0, none⟩) 2 2 [(a, la, ca), (b, lb, cb)] := by
  refine ⟨rfl, Nat.le_refl _, by omega, (fun e => by cases e), fun i hi => ⟨w.heap.size, 0, rfl, ?_⟩⟩
  rw [Nat.zero_add, cell_of_row _ w.heap.size i _ _ _ (heap_alloc_new w _)]
  rcases (by omega : i = 0 ∨ i = 1) with rfl | rfl <;> rfl
theorem rd2_one (w : World) (a : Option Addr) (la ca : Nat) : Rd2 (w.alloc (.cells #[.slice a la ca] 70)) (some ⟨w.heap.size, 0, none⟩) 1 1 [(a, la, ca)] := by
  refine ⟨rfl, Nat.le_refl _, by omega, (fun e => by cases e), fun i hi => ⟨w.heap.size, 0, rfl, ?_⟩⟩
  rw [Nat.zero_add, cell_of_row _ w.heap.size i _ _ _ (heap_alloc_new w _)]
  obtain rfl : i = 0 := by omega
  rfl
/-- The slice reads as a table: these are its rows' slices, and their numbers. -/
structure Tbl (w : World) (a : Option Addr) (len cap : Nat) (hs : List Hd) (xss : List (List Int)) : Prop where
  rd : Rd2 w a len cap hs
  rows : ∀ i, i < len → Reads .i64 w (hs[i]?.getD (none, 0, 0)).1 (hs[i]?.getD (none, 0, 0)).2.1 (hs[i]?.getD (none, 0, 0)).2.2 (xss[i]?.getD [])
  short : ∀ i, i < len → (hs[i]?.getD (none, 0, 0)).2.1 ≤ 1000
theorem Tbl.below {w w' : World} {a : Option Addr} {len cap : Nat} {hs : List Hd} {xss : List (List Int)} (h : Tbl w a len cap hs xss) (hb : Below w.heap.size w w') : Tbl w' a len cap hs xss :=
  ⟨h.rd.below hb, fun i hi => (h.rows i hi).below hb, h.short⟩
/-- The numbers f 0, f 1 .. of the first k places. -/
def rowK (f : Nat → Int) (k : Nat) : List Int := (List.range k).map f
theorem rowK_len (f : Nat → Int) (k : Nat) : (rowK f k).length = k := by simp [rowK]
theorem rowK_snoc (f : Nat → Int) (k : Nat) : rowK f k ++ [f k] = rowK f (k + 1) := by unfold rowK; rw [List.range_succ, List.map_append]; rfl
theorem rowK_set (f : Nat → Int) {len k : Nat} (h : k < len) : (rowK f k ++ List.replicate (len - k) 0).set k (f k) = rowK f (k + 1) ++ List.replicate (len - (k + 1)) 0 := by
  rw [List.set_append_right _ _ (by rw [rowK_len]; omega), rowK_len, Nat.sub_self, ← rowK_snoc, List.append_assoc]
  congr 1
  rw [show len - k = len - (k + 1) + 1 by omega, List.replicate_succ]
  rfl
theorem own_below {base e size n : Nat} {v : Value} {xs : List Value} {w w' : World} (h : w.ownsRow base e size v n xs) (hb : Below w.heap.size w w') : w'.ownsRow base e size v n xs := by
  refine ⟨h.1, ?_⟩
  rcases h.2 with h' | ⟨g, c, cur, hv, hB, hg, rest⟩
  · exact .inl h'
  · exact .inr ⟨g, c, cur, hv, hB, (hb.block g (lt_of_block hg)).trans hg, rest⟩
theorem gives_own {w w' : World} {n : Nat} {v : Value} {xs : List Int} (h : w'.ownsRow w.heap.size 2 1 v n (xs.map (Value.int .i64))) (hb : Below w.heap.size w w') : Gives w n xs (.returned v) w' := by
  obtain ⟨a, cap, rfl, hr⟩ := Reads.own (k := .i64) h
  exact ⟨a, cap, rfl, hr, hb⟩
theorem Reads.oneB {k : IntKind} (w : World) (x : Int) (t : TypeId) {B : Nat} (h : w.heap.size = B) : Reads k (w.alloc (.cells #[.int k x] t)) (some ⟨B, 0, none⟩) 1 1 [x] := by subst h; exact Reads.one _ _ _
theorem Made.gives {w : World} {len : Nat} {xs : List Int} {e : Ending} {w' : World} (h : Made w len xs e w') : Gives w len xs e w' := by
  obtain ⟨g, cap, rfl, hO, hb⟩ := h
  exact ⟨_, _, rfl, hO.reads, hb⟩
/-- Whether a place was met. -/
def mt (bs : List Bool) (i : Nat) : Bool := bs[i]?.getD false
theorem mt_same {bs : List Bool} {B : Nat} (h : B < bs.length) : mt (bs.set B true) B = true := by unfold mt; simp [h]
theorem mt_other {bs : List Bool} {B i : Nat} (h : i ≠ B) : mt (bs.set B true) i = mt bs i := by
  unfold mt
  rw [List.getElem?_set, if_neg (fun e => h e.symm)]
/-- The row in block g holds these truths. -/
def OwnB (g m : Nat) (bs : List Bool) (w : World) : Prop := w.ownsRow g 4 1 (.slice (some ⟨g, 0, none⟩) m m) m (bs.map Value.bool)
theorem OwnB.len {g m : Nat} {bs : List Bool} {w : World} (h : OwnB g m bs w) : bs.length = m := by have := h.1; simpa using this
theorem OwnB.cell {g m : Nat} {bs : List Bool} {w : World} (h : OwnB g m bs w) {k : Nat} (hk : k < m) : w.cell? ⟨g, k, none⟩ = some (.bool (mt bs k)) := by
  have hl : bs.length = m := by have := h.1; simpa using this
  rw [World.ownsRow.cellAt h k (by omega)]
  unfold mt
  simp [(by omega : k < bs.length)]
theorem OwnB.frozen {g m : Nat} {bs : List Bool} {w : World} (h : OwnB g m bs w) (k : Nat) : w.frozen? ⟨g, k, none⟩ = false := World.ownsRow.frozenAt h k
theorem OwnB.set {g m : Nat} {bs : List Bool} {w : World} (h : OwnB g m bs w) (k : Nat) (v : Bool) : OwnB g m (bs.set k v) (w.setCell ⟨g, k, none⟩ (.bool v)) := by
  have := (World.ownsRow.stored h k (.bool v)).1
  unfold OwnB
  rw [List.map_set]
  exact this
theorem OwnB.below {g m B : Nat} {bs : List Bool} {w w' : World} (h : OwnB g m bs w) (hb : Below B w w') (hg : g < B) : OwnB g m bs w' := by
  refine ⟨h.1, ?_⟩
  rcases h.2 with h' | ⟨g', c, cur, hv, hB, hg', rest⟩
  · exact .inl h'
  · cases hv
    exact .inr ⟨g, m, cur, rfl, hB, (hb.block g hg).trans hg', rest⟩
theorem Tryz.info4 : (Tryz.prog.info? 4).map (fun i => (i.zero, i.size, i.bytes)) = some (some (.bool false), 1, 1) := by kernel_rfl
theorem make_bools (w : World) (m : Nat) (hm : m ≤ 1001) : (Instr.makeSlice 154 (.int .i64 (m : Int)) (.int .i64 (m : Int))).run Tryz.prog w = .ok (.slice (some ⟨w.heap.size, 0, none⟩) m m) (w.alloc (.cells (madeCells #[.bool false] m) 4)) := by
  obtain ⟨i0, hi, hz0, hz1, hz2⟩ := info_parts Tryz.info4
  have := run_make (P := Tryz.prog) w 154 4 i0 (.bool false) Tryz.underlying154 hi hz0 .i64 .i64 (m : Int) (m : Int) (by omega) (Int.le_refl _) (by rw [hz2]; omega) (by omega)
  rw [this, hz1, Int.toNat_natCast, Nat.mul_one]
  rfl
theorem own_bools (w : World) (m : Nat) (hm : m ≤ 1001) : OwnB w.heap.size m (List.replicate m false) (w.alloc (.cells (madeCells #[.bool false] m) 4)) := by
  have := World.ownsRow_lit (base := w.heap.size) (e := 4) (size := 1) w (madeCells #[.bool false] m) m (Nat.le_refl _) (by unfold maxLen; omega) (by simp [madeCells])
  unfold OwnB
  rw [List.map_replicate, ← toList_madeCells_one]
  exact this
theorem Reads.at {k : IntKind} {w : World} {b o len cap : Nat} {zs : List Int} (h : Reads k w (some ⟨b, o, none⟩) len cap zs) {i : Nat} (hi : i < len) : w.cell? ⟨b, o + i, none⟩ = some (.int k (zs[i]?.getD 0)) := by
  obtain ⟨b', o', e, c⟩ := h.cell i hi
  cases e
  exact c
end Go.Proofs.YtahpilgbabjebaaGreat
namespace Go.Proofs.YtahpilgbabjebaaGreat
open Go.RowKit
set_option linter.unusedVariables false
set_option maxRecDepth 1000000

theorem satwithin_any (n : Int) (w : World) :
    Calls Tryz.prog 152 #[.int .i64 n, .int .i64 (-2147483648), .int .i64 2147483647] w fun e w' => e = .returned (.int .i64 (wi n)) ∧ w' = w := by
  by_cases h0 : n < -2147483648
  · go_enter Tryz.func152, Tryz.ntmps152
    go_wp2
    go_ret
    exact ⟨ret_int (by unfold wi; rw [if_pos h0]), rfl⟩
  · by_cases h1 : n > 2147483647
    · go_enter Tryz.func152, Tryz.ntmps152
      go_wp2
      go_ret
      exact ⟨ret_int (by unfold wi; rw [if_neg (by omega), if_pos (by omega)]), rfl⟩
    · go_enter Tryz.func152, Tryz.ntmps152
      go_wp2
      go_ret
      exact ⟨ret_int (by unfold wi; rw [if_neg (by omega), if_neg (by omega)]), rfl⟩
theorem between_any (n : Int) (w : World) :
    Calls Tryz.prog 134 #[.int .i64 n, .int .i64 (-2147483648), .int .i64 2147483647] w fun e w' => e = .returned (.int .i64 (wi n)) ∧ w' = w := by
  go_enter Tryz.func134, Tryz.ntmps134
  go_wp2_with fail
  refine (satwithin_any _ _).mono ?_
  rintro e w' ⟨rfl, rfl⟩
  go_wp2
  go_ret
  exact ⟨rfl, rfl⟩
theorem within_any (n : Int) (w : World) : Calls Tryz.prog 105 #[.int .i64 n] w fun e w' => e = .returned (.int .i64 (wi n)) ∧ w' = w := by
  go_enter Tryz.func105, Tryz.ntmps105
  go_wp2_with fail
  refine (between_any _ _).mono ?_
  rintro e w' ⟨rfl, rfl⟩
  go_wp2
  go_ret
  exact ⟨rfl, rfl⟩
theorem rwithin_any (n : Int) (w : World) : Calls Tryz.prog 95 #[.int .i64 n] w fun e w' => e = .returned (.int .i64 (wi n)) ∧ w' = w := by
  by_cases h0 : n < -2147483648
  · go_enter Tryz.func95, Tryz.ntmps95
    go_wp2
    go_ret
    exact ⟨ret_int (by unfold wi; rw [if_pos h0]), rfl⟩
  · by_cases h1 : n > 2147483647
    · go_enter Tryz.func95, Tryz.ntmps95
      go_wp2
      go_ret
      exact ⟨ret_int (by unfold wi; rw [if_neg (by omega), if_pos (by omega)]), rfl⟩
    · go_enter Tryz.func95, Tryz.ntmps95
      go_wp2
      go_ret
      exact ⟨ret_int (by unfold wi; rw [if_neg (by omega), if_neg (by omega)]), rfl⟩
theorem add_any (a b : Int) (w : World) : Calls Tryz.prog 64 #[.int .i64 a, .int .i64 b] w fun e w' => e = .returned (.int .i64 (addZ a b)) ∧ w' = w := by
  have a0 := wi_0 a
  have a1 := wi_1 a
  have b0 := wi_0 b
  have b1 := wi_1 b
  go_enter Tryz.func64, Tryz.ntmps64
  go_wp2_with fail
  refine (within_any _ _).mono ?_
  rintro e w' ⟨rfl, rfl⟩
  go_wp2_with fail
  refine (within_any _ _).mono ?_
  rintro e w' ⟨rfl, rfl⟩
  go_wp2_with fail
  refine (within_any _ _).mono ?_
  rintro e w' ⟨rfl, rfl⟩
  go_wp2
  go_ret
  exact ⟨rfl, rfl⟩
theorem mul_any (a b : Int) (w : World) : Calls Tryz.prog 77 #[.int .i64 a, .int .i64 b] w fun e w' => e = .returned (.int .i64 (mulZ a b)) ∧ w' = w := by
  have p := prod_bd a b
  have p0 := p.1
  have p1 := p.2
  clear p
  go_enter Tryz.func77, Tryz.ntmps77
  go_wp2_with fail
  refine (within_any _ _).mono ?_
  rintro e w' ⟨rfl, rfl⟩
  go_wp2_with fail
  refine (within_any _ _).mono ?_
  rintro e w' ⟨rfl, rfl⟩
  go_wp2_with fail
  refine (within_any _ _).mono ?_
  rintro e w' ⟨rfl, rfl⟩
  go_wp2
  go_ret
  exact ⟨rfl, rfl⟩
theorem by_any (a b : Int) (w : World) (n0 : -4611686018427387904 ≤ a) (n1 : a ≤ 4611686018427387904) (hb : b ≠ 0) :
    Calls Tryz.prog 119 #[.int .i64 a, .int .i64 b] w fun e w' => e = .returned (.int .i64 (byZ a b)) ∧ w' = w := by
  have HB := hid (tdiv_bd a b (m := 4611686018427387904) n0 n1)
  by_cases ha : a < 0
  · by_cases h : a.tmod b = 0
    · have HQ := hid (quo_0 hb h)
      go_enter Tryz.func119, Tryz.ntmps119
      go_wp2
      go_ret
      refine ⟨ret_int ?_, rfl⟩
      unfold Hid at HQ HB
      rw [← HQ]
      generalize a.tdiv b = q at *
      unfold wrap64
      omega
    · by_cases hb' : b < 0
      · have HQ := hid (quo_like (a := a) hb (by omega))
        go_enter Tryz.func119, Tryz.ntmps119
        go_wp2
        go_ret
        refine ⟨ret_int ?_, rfl⟩
        unfold Hid at HQ HB
        rw [← HQ]
        generalize a.tdiv b = q at *
        unfold wrap64
        omega
      · have HQ := hid (quo_unlike hb h (by omega))
        go_enter Tryz.func119, Tryz.ntmps119
        go_wp2
        go_ret
        refine ⟨ret_int ?_, rfl⟩
        unfold Hid at HQ HB
        rw [← HQ]
        generalize a.tdiv b = q at *
        unfold wrap64
        omega
  · have e2 : a.tmod b = a % b := Int.tmod_eq_emod_of_nonneg (by omega)
    by_cases hb' : b < 0
    · by_cases h : a % b = 0
      · have HQ := hid (quo_0 hb (by rw [e2]; exact h))
        clear e2
        go_enter Tryz.func119, Tryz.ntmps119
        go_wp2
        go_ret
        refine ⟨ret_int ?_, rfl⟩
        unfold Hid at HQ HB
        rw [← HQ]
        generalize a.tdiv b = q at *
        unfold wrap64
        omega
      · have HQ := hid (quo_unlike hb (by rw [e2]; exact h) (by omega))
        clear e2
        go_enter Tryz.func119, Tryz.ntmps119
        go_wp2
        go_ret
        refine ⟨ret_int ?_, rfl⟩
        unfold Hid at HQ HB
        rw [← HQ]
        generalize a.tdiv b = q at *
        unfold wrap64
        omega
    · have HQ : Hid (a / b = byZ a b) := by unfold byZ; rw [if_neg hb']; exact rfl
      clear e2
      by_cases h : a % b = 0
      · go_enter Tryz.func119, Tryz.ntmps119
        go_wp2
        go_ret
        exact ⟨ret_int HQ, rfl⟩
      · go_enter Tryz.func119, Tryz.ntmps119
        go_wp2
        go_ret
        exact ⟨ret_int HQ, rfl⟩
theorem far_any (a : Int) (w : World) : Calls Tryz.prog 118 #[.int .i64 a] w fun e w' => e = .returned (.int .i64 (farZ a)) ∧ w' = w := by
  by_cases h0 : a > 0
  · go_enter Tryz.func118, Tryz.ntmps118
    go_wp2
    go_ret
    exact ⟨ret_int (by unfold farZ; rw [if_pos (by omega)]), rfl⟩
  · by_cases h1 : a < 0
    · go_enter Tryz.func118, Tryz.ntmps118
      go_wp2
      go_ret
      exact ⟨ret_int (by unfold farZ; rw [if_neg (by omega), if_pos (by omega)]), rfl⟩
    · go_enter Tryz.func118, Tryz.ntmps118
      go_wp2
      go_ret
      exact ⟨ret_int (by unfold farZ; rw [if_neg (by omega), if_neg (by omega)]), rfl⟩
theorem from_any (n : Int) (w : World) : Calls Tryz.prog 78 #[.int .i64 n] w fun e w' => e = .returned (.int .i64 (fromZ n)) ∧ w' = w := by
  have p0 := wi_0 n
  have p1 := wi_1 n
  go_enter Tryz.func78, Tryz.ntmps78
  go_wp2_with fail
  refine (within_any _ _).mono ?_
  rintro e w' ⟨rfl, rfl⟩
  go_wp2_with fail
  refine (within_any _ _).mono ?_
  rintro e w' ⟨rfl, rfl⟩
  go_wp2
  go_ret
  exact ⟨rfl, rfl⟩
theorem wi_big {n : Int} (h : 2147483647 ≤ n) : wi n = 2147483647 := by unfold wi; split <;> (try split) <;> omega
theorem wi_low {n : Int} (h : n ≤ -2147483648) : wi n = -2147483648 := by unfold wi; split <;> (try split) <;> omega
theorem from_hi {n : Int} (h : n > 65536) : wi (65536 * 65536) = fromZ n := by
  have := wi_le (show 65536 ≤ n by omega)
  rw [show wi 65536 = 65536 from rfl] at this
  rw [fromZ, wi_big (by omega), wi_big (by omega)]
theorem from_lo {n : Int} (h : n < -65536) : wi (-65536 * 65536) = fromZ n := by
  have := wi_le (show n ≤ -65536 by omega)
  rw [show wi (-65536) = -65536 from rfl] at this
  rw [fromZ, wi_low (by omega), wi_low (by omega)]
theorem div_any (a b : Int) (w : World) : Calls Tryz.prog 76 #[.int .i64 a, .int .i64 b] w fun e w' => e = .returned (.int .i64 (divZ a b)) ∧ w' = w := by
  have a0 := wi_0 a
  have a1 := wi_1 a
  by_cases hb : wi b = 0
  · have HQ : Hid (farZ (wi a) = divZ a b) := by unfold divZ; rw [if_pos hb]; exact rfl
    go_enter Tryz.func76, Tryz.ntmps76
    go_wp2_with fail
    refine (within_any _ _).mono ?_
    rintro e w' ⟨rfl, rfl⟩
    go_wp2_with fail
    refine (within_any _ _).mono ?_
    rintro e w' ⟨rfl, rfl⟩
    go_wp2_with fail
    refine (far_any _ _).mono ?_
    rintro e w' ⟨rfl, rfl⟩
    go_wp2
    go_ret
    exact ⟨ret_int HQ, rfl⟩
  · have HQ : Hid (wi (byZ (wi a * 65536) (wi b)) = divZ a b) := by unfold divZ; rw [if_neg hb]; exact rfl
    go_enter Tryz.func76, Tryz.ntmps76
    go_wp2_with fail
    refine (within_any _ _).mono ?_
    rintro e w' ⟨rfl, rfl⟩
    go_wp2_with fail
    refine (within_any _ _).mono ?_
    rintro e w' ⟨rfl, rfl⟩
    go_wp2_with fail
    refine (by_any _ _ _ (by omega) (by omega) hb).mono ?_
    rintro e w' ⟨rfl, rfl⟩
    go_wp2_with fail
    refine (within_any _ _).mono ?_
    rintro e w' ⟨rfl, rfl⟩
    go_wp2
    go_ret
    exact ⟨ret_int HQ, rfl⟩
theorem rby_any (n d : Int) (w : World) (n0 : -4611686018427387904 ≤ n) (n1 : n ≤ 4611686018427387904) (hd : 0 < d) :
    Calls Tryz.prog 97 #[.int .i64 n, .int .i64 d] w fun e w' => e = .returned (.int .i64 (n / d)) ∧ w' = w := by
  have HQ := hid (quo_pos (n := n) hd)
  have HB := hid (tdiv_bd n d (m := 4611686018427387904) n0 n1)
  by_cases h : n.tmod d < 0
  · have hn : n < 0 := ((tmod_neg_iff hd).mp h).2
    go_enter Tryz.func97, Tryz.ntmps97
    go_wp2
    go_ret
    refine ⟨ret_int ?_, rfl⟩
    unfold Hid at HQ HB
    rw [if_pos h] at HQ
    rw [← HQ]
    generalize n.tdiv d = q at *
    unfold wrap64
    omega
  · by_cases hn : n < 0
    · go_enter Tryz.func97, Tryz.ntmps97
      go_wp2
      go_ret
      refine ⟨ret_int ?_, rfl⟩
      unfold Hid at HQ HB
      rw [if_neg (by omega)] at HQ
      rw [← HQ]
    · have h2 : 0 ≤ n % d := Int.emod_nonneg n (by omega)
      go_enter Tryz.func97, Tryz.ntmps97
      go_wp2
      go_ret
      exact ⟨rfl, rfl⟩
theorem radd_any (a b : Int) (w : World) : Calls Tryz.prog 53 #[.int .i64 a, .int .i64 b] w fun e w' => e = .returned (.int .i64 (addZ a b)) ∧ w' = w := by
  have a0 := wi_0 a
  have a1 := wi_1 a
  have b0 := wi_0 b
  have b1 := wi_1 b
  go_enter Tryz.func53, Tryz.ntmps53
  go_wp2_with fail
  refine (rwithin_any _ _).mono ?_
  rintro e w' ⟨rfl, rfl⟩
  go_wp2_with fail
  refine (rwithin_any _ _).mono ?_
  rintro e w' ⟨rfl, rfl⟩
  go_wp2_with fail
  refine (rwithin_any _ _).mono ?_
  rintro e w' ⟨rfl, rfl⟩
  go_wp2
  go_ret
  exact ⟨rfl, rfl⟩
theorem rmul_any (a b : Int) (w : World) : Calls Tryz.prog 55 #[.int .i64 a, .int .i64 b] w fun e w' => e = .returned (.int .i64 (mulZ a b)) ∧ w' = w := by
  have p := prod_bd a b
  have p0 := p.1
  have p1 := p.2
  clear p
  go_enter Tryz.func55, Tryz.ntmps55
  go_wp2_with fail
  refine (rwithin_any _ _).mono ?_
  rintro e w' ⟨rfl, rfl⟩
  go_wp2_with fail
  refine (rwithin_any _ _).mono ?_
  rintro e w' ⟨rfl, rfl⟩
  go_wp2_with fail
  refine (rby_any _ _ _ p0 p1 (by omega)).mono ?_
  rintro e w' ⟨rfl, rfl⟩
  go_wp2_with fail
  refine (rwithin_any _ _).mono ?_
  rintro e w' ⟨rfl, rfl⟩
  go_wp2
  go_ret
  exact ⟨rfl, rfl⟩
end Go.Proofs.YtahpilgbabjebaaGreat
namespace Go.Proofs.YtahpilgbabjebaaGreat
open Go.RowKit
set_option linter.unusedVariables false
set_option maxRecDepth 1000000

theorem part_any (f : Int) (w : World) (f0 : 0 ≤ f) (f1 : f < 65536) :
    Calls Tryz.prog 157 #[.int .i64 f] w fun e w' => e = .returned (.int .i64 (pw f)) ∧ w' = w := by
  have p := part_bd f0 f1
  have p0 := p.1
  have p1 := p.2
  clear p
  go_enter Tryz.func157, Tryz.ntmps157
  go_wp2
  go_ret
  exact ⟨rfl, rfl⟩
theorem shr_far {p : Int} (p0 : 0 ≤ p) (p1 : p ≤ 131072) (n : Nat) : p / 2 ^ min n IntKind.i64.bits = p / 2 ^ n := by
  by_cases h : n ≤ 64
  · rw [Nat.min_eq_left (show n ≤ IntKind.i64.bits from h)]
  · rw [lift_far p0 p1 (n := n) (by omega), lift_far p0 p1]
    rw [Nat.min_eq_right (show IntKind.i64.bits ≤ n from Nat.le_of_lt (Nat.lt_of_not_le h))]
    decide
theorem shl_in {p k : Int} (p0 : 0 ≤ p) (p1 : p ≤ 131072) (hk : k < 16) : wrap64 (p * 2 ^ k.toNat) = p * 2 ^ k.toNat := by
  have h1 := two_le (show k.toNat ≤ 15 by omega)
  have h2 := two_pos k.toNat
  have h3 : 0 ≤ p * 2 ^ k.toNat := Int.mul_nonneg p0 (by omega)
  have h4 : p * 2 ^ k.toNat ≤ 131072 * 2 ^ 15 := Int.mul_le_mul p1 h1 (by omega) (by omega)
  exact IntWalk.wrap64_in _ (by omega)
/-- What a power hangs on. -/
theorem exp_parts (x : Int) : ∃ y k f : Int, wi x * 94548 / 65536 = y ∧ y / 65536 = k ∧ y - k * 65536 = f ∧ -47275 ≤ k ∧ k ≤ 47275 ∧ -3098500000 ≤ y ∧ y ≤ 3098500000 ∧ 0 ≤ f ∧ f < 65536 ∧ Hid (expZ x = liftZ (pw f) k) := by
  have x0 := wi_0 x
  have x1 := wi_1 x
  refine ⟨_, _, _, rfl, rfl, rfl, by omega, by omega, by omega, by omega, by omega, by omega, ?_⟩
  unfold expZ
  rw [show wi x * 94548 / 65536 % 65536 = wi x * 94548 / 65536 - wi x * 94548 / 65536 / 65536 * 65536 by omega]
  exact rfl
theorem exp_any (x : Int) (w : World) :
    Calls Tryz.prog 140 #[.int .i64 x] w fun e w' => e = .returned (.int .i64 (expZ x)) ∧ w' = w := by
  have x0 := wi_0 x
  have x1 := wi_1 x
  obtain ⟨y, k, f, hy, hk, hf, k0, k1, y0, y1, f0, f1, HE⟩ := exp_parts x
  have p := pw_bd f0 f1
  have p0 := p.1
  have p1 := p.2
  clear p
  by_cases h16 : k ≥ 16
  · have HL : Hid (liftZ (pw f) k = 2147483647) := by unfold liftZ; rw [if_pos h16]; exact rfl
    go_enter Tryz.func140, Tryz.ntmps140
    go_wp2_with fail
    refine (within_any _ _).mono ?_
    rintro e w' ⟨rfl, rfl⟩
    go_wp2_with fail
    refine (part_any _ _ f0 f1).mono ?_
    rintro e w' ⟨rfl, rfl⟩
    go_wp2
    go_ret
    exact ⟨ret_int (HE.trans HL).symm, rfl⟩
  · by_cases h0 : k < 0
    · have HL : Hid (liftZ (pw f) k = pw f / 2 ^ (-k).toNat) := by unfold liftZ; rw [if_neg h16, if_pos h0]; exact rfl
      have HS : Op.shift .shr .i64 (pw f) .u64 (-k) = pure (.int .i64 (pw f / 2 ^ (-k).toNat)) := by rw [shift_shr_any _ _ _ _ (by omega), shr_far (by omega) p1]
      go_enter Tryz.func140, Tryz.ntmps140
      go_wp2_with fail
      refine (within_any _ _).mono ?_
      rintro e w' ⟨rfl, rfl⟩
      go_wp2_with fail
      refine (part_any _ _ f0 f1).mono ?_
      rintro e w' ⟨rfl, rfl⟩
      go_wp2
      go_ret
      refine ⟨ret_int ?_, rfl⟩
      refine Eq.trans ?_ (HE.trans HL).symm
      exact rfl
    · have HL : Hid (liftZ (pw f) k = wi (pw f * 2 ^ k.toNat)) := by unfold liftZ; rw [if_neg h16, if_neg h0]; exact rfl
      go_enter Tryz.func140, Tryz.ntmps140
      go_wp2_with fail
      refine (within_any _ _).mono ?_
      rintro e w' ⟨rfl, rfl⟩
      go_wp2_with fail
      refine (part_any _ _ f0 f1).mono ?_
      rintro e w' ⟨rfl, rfl⟩
      go_wp2_with fail
      refine (within_any _ _).mono ?_
      rintro e w' ⟨rfl, rfl⟩
      go_wp2
      go_ret
      refine ⟨ret_int ?_, rfl⟩
      refine Eq.trans ?_ (HE.trans HL).symm
      exact congrArg wi (shl_in (by omega) p1 (by omega))
end Go.Proofs.YtahpilgbabjebaaGreat
namespace Go.Proofs.YtahpilgbabjebaaGreat
open Go.RowKit
set_option linter.unusedVariables false
set_option maxRecDepth 1000000

theorem rootB_yes {n s : Int} {j : Nat} (h : (s + 2 ^ j) * (s + 2 ^ j) ≤ n) : rootB n (j + 1) s = rootB n j (s + 2 ^ j) := by rw [rootB, if_pos h]
theorem rootB_no {n s : Int} {j : Nat} (h : ¬ (s + 2 ^ j) * (s + 2 ^ j) ≤ n) : rootB n (j + 1) s = rootB n j s := by rw [rootB, if_neg h]
theorem sq_bd {s m : Int} (s0 : 0 ≤ s) (s1 : s ≤ 16777216) (m0 : 0 ≤ m) (m1 : m ≤ 2147483648) : 0 ≤ (s + m) * (s + m) ∧ (s + m) * (s + m) ≤ 2164260864 * 2164260864 :=
  ⟨Int.mul_nonneg (by omega) (by omega), Int.mul_le_mul (by omega) (by omega) (by omega) (by omega)⟩
set_option maxHeartbeats 1000000 in
theorem sqrt_any (x : Int) (w : World) :
    Calls Tryz.prog 124 #[.int .i64 x] w fun e w' => e = .returned (.int .i64 (sqrtZ x)) ∧ w' = w := by
  have x0 := wi_0 x
  have x1 := wi_1 x
  by_cases hx : x ≤ 0
  · have HZ : Hid (0 = sqrtZ x) := by
      by_cases h0 : wi x < 0
      · rw [sqrtZ_neg h0]; exact rfl
      · have := wi_le hx
        rw [show wi 0 = 0 from rfl] at this
        have e : wi x = 0 := by omega
        unfold sqrtZ; rw [e]; exact (by decide : (0 : Int) = rootB (0 * 65536) 24 0)
    go_enter Tryz.func124, Tryz.ntmps124
    go_wp2
    go_ret
    exact ⟨ret_int HZ, rfl⟩
  · obtain ⟨n, hn⟩ : ∃ n, wi x * 65536 = n := ⟨_, rfl⟩
    have n1 : n < 281474976710656 := by omega
    have HZ : Hid (rootB n 24 0 = sqrtZ x) := by unfold sqrtZ; rw [hn]; exact rfl
    go_enter Tryz.func124, Tryz.ntmps124
    go_wp2_with fail
    refine (within_any _ _).mono ?_
    rintro e w' ⟨rfl, rfl⟩
    go_wp2
    go_loop [4, 5] (fun v i => ∃ (s : Int) (j : Nat), v = .int .i64 s ∧ i = .int .i64 ((j : Int) - 1) ∧ j ≤ 24 ∧ 0 ≤ s ∧ s ≤ 16777216 ∧ Hid (rootB n j s = sqrtZ x)) (fun _ i => (intOf i + 1).toNat)
    case atStart => exact ⟨_, 24, rfl, rfl, by omega, by omega, by omega, HZ⟩
    case round =>
      obtain ⟨s, j, rfl, rfl, hj, s0, s1, HR⟩ := hrel
      rcases j with _ | j
      · go_wp2
        go_ret
        exact ⟨ret_int HR, rfl⟩
      · obtain ⟨m, hm⟩ : ∃ m : Int, 2 ^ j = m := ⟨_, rfl⟩
        have m0 : 0 < m := by rw [← hm]; exact two_pos _
        have m1 : m ≤ 8388608 := by rw [← hm]; exact two_le (n := 23) (by omega)
        have B := sq_bd s0 s1 (by omega) (show m ≤ 2147483648 by omega)
        have b0 := B.1
        have b1 := B.2
        clear B
        by_cases hq : (s + m) * (s + m) ≤ n
        · have HN : Hid (rootB n j (s + m) = sqrtZ x) := by rw [← HR.out, rootB_yes (by rw [hm]; exact hq), hm]; exact rfl
          have := sq_small hq n1
          go_wp2
          go_round
          case rel => exact ⟨_, j, rfl, by go_num, by omega, by omega, by omega, HN⟩
          case measure => simp [intOf]
        · have HN : Hid (rootB n j s = sqrtZ x) := by rw [← HR.out, rootB_no (by rw [hm]; exact hq)]; exact rfl
          go_wp2
          go_round
          case rel => exact ⟨_, j, rfl, by go_num, by omega, by omega, by omega, HN⟩
          case measure => simp [intOf]
end Go.Proofs.YtahpilgbabjebaaGreat
namespace Go.Proofs.YtahpilgbabjebaaGreat
open Go.RowKit
set_option linter.unusedVariables false
set_option maxRecDepth 1000000

theorem count_any (a : Option Addr) (len cap : Nat) (w : World) (hlen : len ≤ 1000) :
    Calls Tryz.prog 102 #[.slice a len cap] w fun e w' => e = .returned (.int .i64 len) ∧ w' = w := by
  go_enter Tryz.func102, Tryz.ntmps102
  go_wp2
  go_ret
  exact ⟨rfl, rfl⟩

theorem each_any (fn : Nat) (caps : Array Value) (a : Option Addr) (len cap : Nat) (zs : List Int) (w : World) (hlen : len ≤ 1000) (I : Nat → World → Prop)
    (hE : ∀ args w, (callFunc fn args).run Tryz.prog w = .ok (.enter fn args) w) (hR : ∀ k wr, I k wr → Reads .i64 wr a len cap zs) (h0 : I 0 w)
    (hS : ∀ k wr, k < len → I k wr → Calls Tryz.prog fn (#[.int .i64 (k : Int), .int .i64 (zs[k]?.getD 0)] ++ caps) wr fun e w' => e = .returned (.tuple #[]) ∧ I (k + 1) w') :
    Calls Tryz.prog 114 #[.slice a len cap, .func (.func fn) #[] caps] w fun e w' => e = .returned (.tuple #[]) ∧ I len w' := by
  have hr0 := hR 0 w h0
  have hroom := hr0.room
  have hmost := hr0.most
  have hbare := hr0.bare
  clear hr0
  have H0 := hid h0
  have HR := hid hR
  have HS := hid hS
  clear h0 hR hS
  go_enter Tryz.func114, Tryz.ntmps114
  cases a with
  | none =>
    obtain ⟨rfl, rfl⟩ := hbare rfl
    go_wp2_with fail
    refine (count_any _ _ _ _ (by omega)).mono ?_
    rintro e w' ⟨rfl, rfl⟩
    go_wp2_with fail
    go_loopw [11] (fun i wr => ∃ k : Nat, k = 0 ∧ i = .int .i64 k ∧ Hid (I k wr)) (fun i _ => 0 - (intOf i).toNat)
    case atStart => exact ⟨0, rfl, rfl, H0⟩
    case round =>
      obtain ⟨k, rfl, rfl, HI⟩ := hrel
      go_wp2
      go_end0
      exact ⟨rfl, HI.out⟩
  | some ad =>
    clear hbare
    go_wp2_with fail
    refine (count_any _ _ _ _ (by omega)).mono ?_
    rintro e w' ⟨rfl, rfl⟩
    go_wp2_with fail
    go_loopw [11] (fun i wr => ∃ k : Nat, k ≤ len ∧ i = .int .i64 k ∧ Hid (I k wr)) (fun i _ => len - (intOf i).toNat)
    case atStart => exact ⟨0, Nat.zero_le _, rfl, H0⟩
    case round =>
      obtain ⟨k, hk, rfl, HI⟩ := hrel
      by_cases hlt : k < len
      · obtain ⟨b, off, hab, hc⟩ := (HR.out k wr HI.out).cell k hlt
        cases hab
        have hC := HS.out k wr hlt HI.out
        generalize zs[k]?.getD 0 = z at *
        go_wp2_with fail
        refine hC.mono ?_
        rintro e w2 ⟨rfl, hI2⟩
        have HI2 := hid hI2
        clear hI2 hC
        go_wp2_with fail
        go_round
        case rel => exact ⟨k + 1, by omega, by go_num, HI2⟩
        case measure => simp [intOf]; omega
      · obtain rfl : k = len := by omega
        go_wp2
        go_end0
        exact ⟨rfl, HI.out⟩
end Go.Proofs.YtahpilgbabjebaaGreat
namespace Go.Proofs.YtahpilgbabjebaaGreat
open Go.RowKit
set_option linter.unusedVariables false
set_option maxRecDepth 1000000

theorem both1_any (fn : Nat) (caps : Array Value) (hE : ∀ args w, (callFunc fn args).run Tryz.prog w = .ok (.enter fn args) w) (S : List Nat) (k : Nat) (x : Int) (Bd Bb : Nat) (b : Option Addr) (lb cb : Nat) (bs : List Int) (wr : World)
    (hd : wr.heap[Bd]? = some (.cells #[.func (.func fn) #[] caps] 129 (0, 0))) (hb : wr.heap[Bb]? = some (.cells #[.slice b lb cb] 70 (0, 0)))
    (hr : Reads .i64 wr b lb cb bs) (hk : k < lb) (hdS : Bd ∉ S) (hbS : Bb ∉ S) (hrS : Off S b lb) (J : World → Prop)
    (hC : Calls Tryz.prog fn (#[.int .i64 x, .int .i64 (bs[k]?.getD 0)] ++ caps) wr.drew fun e w' => e = .returned (.tuple #[]) ∧ J w' ∧ But S wr w') :
    Calls Tryz.prog 133 #[.int .i64 k, .int .i64 x, .pointer (some ⟨Bd, 0, none⟩), .pointer (some ⟨Bb, 0, none⟩)] wr fun e w' => e = .returned (.tuple #[]) ∧ J w' ∧ But S wr w' := by
  have cd := cell_of_one hd
  have cq := cell_of_one hb
  obtain ⟨bb, off, rfl, ce⟩ := hr.cell k hk
  have hroom := hr.room
  have hmost := hr.most
  have HrS := hid (hrS (by omega) _ rfl)
  have HK : Hid (∀ W, But S wr W → W.cell? ⟨Bd, 0, none⟩ = some (.func (.func fn) #[] caps) ∧ W.cell? ⟨Bb, 0, none⟩ = some (.slice (some ⟨bb, off, none⟩) lb cb) ∧ W.cell? ⟨bb, off + k, none⟩ = some (.int .i64 (bs[k]?.getD 0))) :=
    fun W h => ⟨h.cell cd hdS, h.cell cq hbS, h.cell ce HrS.out⟩
  clear hr hd hb hdS hbS hrS HrS
  generalize bs[k]?.getD 0 = y at *
  go_enter Tryz.func133, Tryz.ntmps133
  go_wp2_with fail
  go_region_held3 (fun W : World => W.cell? ⟨Bd, 0, none⟩ = some (.func (.func fn) #[] caps) ∧ W.cell? ⟨Bb, 0, none⟩ = some (.slice (some ⟨bb, off, none⟩) lb cb) ∧ W.cell? ⟨bb, off + k, none⟩ = some (.int .i64 y)) (first | exact ⟨cd, cq, ce⟩ | assumption | exact HK.out _ hB) (first | (refine hC.mono ?_; rintro e w2 ⟨rfl, hJ, hB⟩))
  clear HK cd cq ce
  go_wp2
  go_end0
  exact ⟨rfl, hJ, hB⟩

set_option maxHeartbeats 1000000 in
theorem both_any (fn : Nat) (caps : Array Value) (hE : ∀ args w, (callFunc fn args).run Tryz.prog w = .ok (.enter fn args) w) (S : List Nat) (a b : Option Addr) (la ca lb cb : Nat) (xs ys : List Int) (w : World)
    (ha : Reads .i64 w a la ca xs) (hb : Reads .i64 w b lb cb ys) (hla : la ≤ 1000) (hlb : lb ≤ 1000) (hS : ∀ s ∈ S, s < w.heap.size) (haS : Off S a la) (hbS : Off S b lb)
    (I : Nat → World → Prop) (h0 : I 0 w) (hI : ∀ k W W', I k W → Below W.heap.size W W' → I k W')
    (hC : ∀ k wr, k < la → k < lb → I k wr → Calls Tryz.prog fn (#[.int .i64 (xs[k]?.getD 0), .int .i64 (ys[k]?.getD 0)] ++ caps) wr fun e w' => e = .returned (.tuple #[]) ∧ I (k + 1) w' ∧ But S wr w') :
    Calls Tryz.prog 103 #[.slice a la ca, .slice b lb cb, .func (.func fn) #[] caps] w fun e w' => e = .returned (.tuple #[]) ∧ I (min la lb) w' ∧ But S w w' := by
  obtain ⟨w2, hw2⟩ : ∃ w2, w2 = (w.alloc (.cells #[.slice b lb cb] 70)).alloc (.cells #[.func (.func fn) #[] caps] 129) := ⟨_, rfl⟩
  have hbel : Below w.heap.size w w2 := by rw [hw2]; exact ((Below.refl _ _).alloc (Nat.le_refl _) _).alloc (by simp) _
  have hB1 : w2.heap[w.heap.size]? = some (.cells #[.slice b lb cb] 70 (0, 0)) := by
    rw [hw2, Below.heap_alloc _ _ _ (by simp)]; exact heap_alloc_new w _
  have hB2 : w2.heap[w.heap.size + 1]? = some (.cells #[.func (.func fn) #[] caps] 129 (0, 0)) := by
    have := heap_alloc_new (w.alloc (.cells #[.slice b lb cb] 70)) (.cells #[.func (.func fn) #[] caps] 129)
    rw [hw2]
    simpa using this
  have HE : Hid (Calls Tryz.prog 114 #[.slice a (min la lb) ca, .func (.func 133) #[] #[.pointer (some ⟨w.heap.size + 1, 0, none⟩), .pointer (some ⟨w.heap.size, 0, none⟩)]] w2 fun e w' => e = .returned (.tuple #[]) ∧ (I (min la lb) w' ∧ But S w2 w')) := by
    refine each_any 133 _ a (min la lb) ca (xs.take (min la lb)) w2 (by omega) (fun k W => I k W ∧ But S w2 W) (enters_of Tryz.func133 (by kernel_rfl) rfl) ?_ ⟨hI 0 _ _ h0 hbel, But.refl _ _⟩ ?_
    · rintro k wr ⟨_, hk⟩
      exact ((ha.below hbel).cut (Nat.min_le_left _ _)).but hk (fun h => haS (by omega))
    · rintro k wr hk ⟨hi, hbt⟩
      rw [List.getElem?_take_of_lt hk]
      have h1 : w.heap.size + 1 ∉ S := fun h => by have := hS _ h; omega
      have h2 : w.heap.size ∉ S := fun h => by have := hS _ h; omega
      have hdr : Below wr.heap.size wr wr.drew := (Below.refl _ _).drew
      refine (both1_any fn caps hE S k _ (w.heap.size + 1) w.heap.size b lb cb ys wr (hbt.one hB2 h1) (hbt.one hB1 h2) ((hb.below hbel).but hbt hbS) (by omega) h1 h2 hbS (I (k + 1)) ?_).mono ?_
      · exact (hC k wr.drew (by omega) (by omega) (hI _ _ _ hi hdr)).mono fun e w' ⟨e1, e2, e3⟩ => ⟨e1, e2, (But.of hdr).trans e3⟩
      · rintro e w' ⟨e1, e2, e3⟩
        exact ⟨e1, e2, hbt.trans e3⟩
  have HF : Hid (∀ w', But S w2 w' → But S w w') := fun w' h => (But.of hbel).trans h
  have ra := ha.room
  have rm := ha.most
  have rb := hb.room
  have rc := hb.most
  have bare := ha.bare
  have cq := cell_of_one hB1
  clear hbel hB1 hB2 hC hI h0 haS hbS hS ha hb
  subst hw2
  go_enter Tryz.func103, Tryz.ntmps103
  rcases Nat.lt_or_ge lb la with hl | hl
  · rw [Nat.min_eq_right (by omega)] at HE ⊢
    cases a with
    | none => obtain ⟨rfl, rfl⟩ := bare rfl; omega
    | some ad =>
      clear bare
      go_wp2_with fail
      refine HE.out.mono ?_
      rintro e w' ⟨rfl, hI, hB⟩
      have HI := hid hI
      have HB := hid (HF.out w' hB)
      clear hI hB HE HF cq
      go_wp2
      go_end0
      exact ⟨rfl, HI.out, HB.out⟩
  · rw [Nat.min_eq_left (by omega)] at HE ⊢
    cases a with
    | none =>
      obtain ⟨rfl, rfl⟩ := bare rfl
      clear bare
      go_wp2_with fail
      refine HE.out.mono ?_
      rintro e w' ⟨rfl, hI, hB⟩
      have HI := hid hI
      have HB := hid (HF.out w' hB)
      clear hI hB HE HF cq
      go_wp2
      go_end0
      exact ⟨rfl, HI.out, HB.out⟩
    | some ad =>
      clear bare
      go_wp2_with fail
      refine HE.out.mono ?_
      rintro e w' ⟨rfl, hI, hB⟩
      have HI := hid hI
      have HB := hid (HF.out w' hB)
      clear hI hB HE HF cq
      go_wp2
      go_end0
      exact ⟨rfl, HI.out, HB.out⟩

/-- The product of the first k places. -/
def dotK (xs ys : List Int) : Nat → Int
  | 0 => 0
  | k + 1 => addZ (dotK xs ys k) (mulZ (xs[k]?.getD 0) (ys[k]?.getD 0))

theorem dot1_any (x y s : Int) (B : Nat) (w : World) (hB : w.heap[B]? = some (.cells #[.int .i64 s] 2 (0, 0))) :
    Calls Tryz.prog 127 #[.int .i64 x, .int .i64 y, .pointer (some ⟨B, 0, none⟩)] w fun e w' => e = .returned (.tuple #[]) ∧ w'.heap[B]? = some (.cells #[.int .i64 (addZ s (mulZ x y))] 2 (0, 0)) ∧ But [B] w w' := by
  have cs := cell_of_one hB
  have fs := free_of_one hB
  have HO := hid (one_setCell (u := .int .i64 (addZ s (mulZ x y))) hB)
  clear hB
  go_enter Tryz.func127, Tryz.ntmps127
  go_wp2_with fail
  go_region_with (first | (go_at_call 77; refine (mul_any _ _ _).mono ?_; rintro e w' ⟨rfl, rfl⟩) | (go_at_call 64; refine (add_any _ _ _).mono ?_; rintro e w' ⟨rfl, rfl⟩))
  all_goals
    go_wp2
    go_end0
    exact ⟨rfl, HO.out, ((But.refl _ _).set (p := ⟨B, 0, none⟩) (List.mem_singleton.2 rfl) _).drew⟩

/-- The variable of a literal: B, a block of one number of the call that began in w. -/
def SumAt (w : World) (B : Nat) (s : Int) (W : World) : Prop := W.heap[B]? = some (.cells #[.int .i64 s] 2 (0, 0)) ∧ Below w.heap.size w W
theorem SumAt.below {w : World} {B : Nat} {s : Int} {W W' : World} (h : SumAt w B s W) (hb : Below W.heap.size W W') : SumAt w B s W' :=
  ⟨(hb.block B (lt_of_block h.1)).trans h.1, h.2.trans (hb.mono h.2.size)⟩
theorem SumAt.new (w : World) (s : Int) : SumAt w w.heap.size s (w.alloc (.cells #[.int .i64 s] 2)) := ⟨heap_alloc_new w _, (Below.refl _ _).alloc (Nat.le_refl _) _⟩
theorem dot_any (a b : Option Addr) (la ca lb cb : Nat) (xs ys : List Int) (w : World) (ha : Reads .i64 w a la ca xs) (hb : Reads .i64 w b lb cb ys) (hla : la ≤ 1000) (hlb : lb ≤ 1000) :
    Calls Tryz.prog 83 #[.slice a la ca, .slice b lb cb] w fun e w' => e = .returned (.int .i64 (dotK xs ys (min la lb))) ∧ Below w.heap.size w w' := by
  have hn := SumAt.new w 0
  have HE : Hid (Calls Tryz.prog 103 #[.slice a la ca, .slice b lb cb, .func (.func 127) #[] #[.pointer (some ⟨w.heap.size, 0, none⟩)]] (w.alloc (.cells #[.int .i64 0] 2)) fun e w' => e = .returned (.tuple #[]) ∧ SumAt w w.heap.size (dotK xs ys (min la lb)) w') := by
    have hS : ∀ s ∈ [w.heap.size], w.heap.size ≤ s := fun s hs => by rw [List.mem_singleton.1 hs]; exact Nat.le_refl _
    refine (both_any 127 _ (enters_of Tryz.func127 (by kernel_rfl) rfl) [w.heap.size] a b la ca lb cb xs ys _ (ha.below hn.2) (hb.below hn.2) hla hlb (fun s hs => by rw [List.mem_singleton.1 hs]; simp) (ha.past hS) (hb.past hS)
      (fun k W => SumAt w w.heap.size (dotK xs ys k) W) hn (fun k W W' h hb => h.below hb) ?_).mono fun e w' h => ⟨h.1, h.2.1⟩
    intro k wr hk hk' hi
    exact (dot1_any _ _ _ w.heap.size wr hi.1).mono fun e w' ⟨h1, h2, h3⟩ => ⟨h1, ⟨h2, hi.2.trans (h3.to hS (by exact hi.2.size))⟩, h3⟩
  clear hn ha hb
  go_enter Tryz.func83, Tryz.ntmps83
  go_wp2_with fail
  refine HE.out.mono ?_
  rintro e w' ⟨rfl, hS⟩
  have cs := cell_of_one hS.1
  have HS := hid hS.2
  clear HE hS
  go_wp2
  go_ret
  exact ⟨rfl, HS.out⟩
end Go.Proofs.YtahpilgbabjebaaGreat
