/-
  RSofts: Contract: the document's Soft hands back softL.
  DMath: Mathematics of the draws: a number mixed (mixZ) and the way back, the draw of a seed (atZ), the draw below a number (belowZ), the upper half of a product, a seed made of labels (deriveZ).
  Draws: Contracts: rand.Mix and the document's Mix hand back mixZ, the two At atZ, bits.Mul64 and the document's upper the upper half of the product, the two Below belowZ; alive is true.
  Derives: Contracts: rand.Derive and the document's Derive hand back deriveZ.
  Confs: Configurations (Cf); contracts: between and the document's in, the two May, New, Config.
  Weights: Contracts: tableOf, the weights of the program's and of the document's tables.
  Mrows: A row of slices that the call owns (OwnS), a table that it made (TblMade); contracts: makeRow and makeRows, with whatever method they are handed.
  Models: Contracts: Token, Place and Rows of a model.
  MTables: Contract: Rows of a model, a layer's table that is there.
  RowsI: A row of the call's own whose cells are slices of numbers (RowsI), and an append of one to it; a row that is written over cell by cell.
  RModels: Contracts of the document's model: row, Token, Place, Rows.
  RMTables: Contract of the document's Rows; the statements' own 'alive'.
  Likes: The statements' own 'rows': of like tables it is true.
  Asks: What a model's rows are, whatever is asked (tokL, plL, tabL), and the contracts of Token, Place and Rows, of the program and of the document, put together by them; the arguments of the statements.
  AMath: What a layer makes of a vector (outL), its key and value (keyL, valL), with the keys and values of the places ahead; what all layers make (thrX, thrM), and what follows a list of vectors (memL); contracts: Clone, and behind, a list with a vector behind it.
  Steps: Contracts: marks, forward, Step, of the program: what a layer makes of a vector.
-/
import Derived.Test.YtjgggialnegddaaGreatPk03
import Derived.Test.YtjgggialnegddaaGreatPk01
import Derived.Laws.Bits64
import Derived.Laws.Bits128
import Derived.Laws.BitsAllLaws
import Derived.Test.YtjgggialnegddaaGreatPk02
import Derived.Deep.DeepCutAuto
import Derived.ProofKit
import Derived.ArgAppend
import Derived.Lib.SliceRun
namespace Go.Proofs.YtjgggialnegddaaGreat
open Go.RowKit
set_option linter.unusedVariables false
set_option maxRecDepth 1000000

/-- The greatest, as the document tells it: from the first on. -/
def maxK (zs : List Int) : Nat → Int
  | 0 => wi (zs[0]?.getD 0)
  | k + 1 => max (maxK zs k) (wi (zs[k]?.getD 0))
theorem maxK_great (zs : List Int) (k : Nat) : maxK zs (k + 1) = greatK zs (k + 1) := by
  induction k with
  | zero => simp [maxK, greatK]
  | succ k ih =>
    have e : greatK zs (k + 1 + 1) = if k + 1 = 0 ∨ greatK zs (k + 1) < wi (zs[k + 1]?.getD 0) then wi (zs[k + 1]?.getD 0) else greatK zs (k + 1) := rfl
    rw [maxK, ih, e]
    by_cases h : greatK zs (k + 1) < wi (zs[k + 1]?.getD 0)
    · rw [if_pos (.inr h)]; omega
    · rw [if_neg (by omega)]; omega
theorem maxK_bd (zs : List Int) (k : Nat) : -2147483648 ≤ maxK zs k ∧ maxK zs k ≤ 2147483647 := by
  induction k with
  | zero => exact ⟨wi_0 _, wi_1 _⟩
  | succ k ih =>
    have := wi_0 (zs[k]?.getD 0)
    have := wi_1 (zs[k]?.getD 0)
    simp only [maxK]
    omega
theorem sumK_take {ps : List Int} {n : Nat} : ∀ k, k ≤ n → sumK (ps.take n) k = sumK ps k := by
  intro k
  induction k with
  | zero => intro _; rfl
  | succ k ih =>
    intro h
    simp only [sumK]
    rw [ih (by omega), List.getElem?_take_of_lt (by omega)]
theorem map_at {f : Int → Int} {zs : List Int} {k : Nat} (h : k < zs.length) : ((zs.map f)[k]?).getD 0 = f (zs[k]?.getD 0) := by simp [h]
/-- What the third loop has turned. -/
def turnK (f : Int → Int) (ps : List Int) (k : Nat) : List Int := (ps.take k).map f ++ ps.drop k
theorem turnK_0 (f : Int → Int) (ps : List Int) : turnK f ps 0 = ps := by simp [turnK]
theorem turnK_all {f : Int → Int} {ps : List Int} {n : Nat} (h : ps.length = n) : turnK f ps n = ps.map f := by subst h; simp [turnK]
theorem turnK_at {f : Int → Int} {ps : List Int} {k : Nat} (h : k < ps.length) : (turnK f ps k)[k]?.getD 0 = ps[k]?.getD 0 := by
  unfold turnK
  rw [List.getElem?_append_right (by simp; omega)]
  simp
  rw [show k + (k - min k ps.length) = k by omega]
theorem turnK_set {f : Int → Int} {ps : List Int} {k : Nat} (h : k < ps.length) : (turnK f ps k).set k (f (ps[k]?.getD 0)) = turnK f ps (k + 1) := by
  unfold turnK
  have hl : ((ps.take k).map f).length = k := by simp; omega
  rw [List.set_append_right _ _ (by omega), hl, Nat.sub_self, take_snoc h, List.map_append, List.append_assoc]
  congr 1
  rw [List.drop_eq_getElem_cons h, List.set_cons_zero]
  rfl
/-- A row that is not nil lies in a block. -/
theorem own_block {t : TypeId} {base m : Nat} {v : Value} {xs : List Int} {w : World} (h : w.ownsRow base t 1 v m (xs.map (Value.int .i64))) (hm : 0 < m) : ∃ g cap, v = .slice (some ⟨g, 0, none⟩) m cap ∧ OwnK t base g m cap xs w := by
  rcases h.2 with ⟨h1, h2⟩ | ⟨g, cap, cur, rfl, r⟩
  · omega
  · exact ⟨g, cap, rfl, h⟩

set_option maxHeartbeats 2000000 in
theorem rvsoft_any (a : Option Addr) (len cap : Nat) (zs : List Int) (w : World) (ha : Reads .i64 w a len cap zs) (hlen : len ≤ 1000) :
    Calls Tryz.prog 138 #[.slice a len cap] w fun e w' => Gives w len (softL zs) e w' := by
  obtain ⟨i0, hi, hz0, hz1, hz2⟩ := info_parts Tryz.info2
  have hC := rcut_any a len cap zs w ha hlen
  have HL : Hid (zs.length = len) := ha.size
  have HA := hid ha
  by_cases h0 : len = 0
  · subst h0
    have hz : zs = [] := List.eq_nil_of_length_eq_zero HL.out
    subst hz
    clear HL HA ha
    go_enter Tryz.func138, Tryz.ntmps138
    go_wp2_with fail
    refine hC.mono ?_
    rintro e w' ⟨rfl, rfl⟩
    clear hC
    go_wp2
    go_ret
    exact ⟨none, 0, rfl, Reads.nil _ _, Below.refl _ _⟩
  · obtain ⟨b1, o1, rfl, c0⟩ := ha.cell 0 (by omega)
    have r1 := ha.room
    have m1 := ha.most
    have hne : ¬ (len : Int) = 0 := by omega
    have hne' : ((len : Int) == 0) = false := by simpa using hne
    have HM0 : Hid (wi (zs[0]?.getD 0) = maxK zs 0) := rfl
    rw [Nat.add_zero] at c0
    clear ha
    go_enter Tryz.func138, Tryz.ntmps138
    go_wp2_with fail
    refine hC.mono ?_
    rintro e w' ⟨rfl, rfl⟩
    clear hC
    rename World => w
    go_wp2_with fail
    refine (rwithin_any _ _).mono ?_
    rintro e w' ⟨rfl, rfl⟩
    rw [HM0.out]
    rename World => w
    clear c0
    go_wp2_with fail
    go_loop [3, 4] (fun t i => ∃ k : Nat, k ≤ len ∧ t = .int .i64 (maxK zs k) ∧ i = .int .i64 k) (fun _ i => len - (intOf i).toNat)
    case atStart => exact ⟨0, Nat.zero_le _, rfl, rfl⟩
    case round =>
      obtain ⟨k, hk, rfl, rfl⟩ := hrel
      by_cases hlt : k < len
      · obtain ⟨b, o, e, c1⟩ := HA.out.cell k hlt
        cases e
        have HE : Hid (max (maxK zs k) (wi (zs[k]?.getD 0)) = maxK zs (k + 1)) := rfl
        clear HA
        generalize zs[k]?.getD 0 = x at *
        generalize maxK zs k = t at *
        rcases Int.lt_or_le t (wi x) with hx | hx
        · have HX : Hid (wi x = maxK zs (k + 1)) := by rw [← HE.out]; unfold Hid; omega
          go_wp2_with fail
          refine (rwithin_any _ _).mono ?_
          rintro e w' ⟨rfl, rfl⟩
          go_wp2
          go_round
          case rel => exact ⟨k + 1, by omega, by rw [HX.out], by go_num⟩
          case measure => simp [intOf]; omega
        · have HX : Hid (t = maxK zs (k + 1)) := by rw [← HE.out]; unfold Hid; omega
          go_wp2_with fail
          refine (rwithin_any _ _).mono ?_
          rintro e w' ⟨rfl, rfl⟩
          go_wp2
          go_round
          case rel => exact ⟨k + 1, by omega, by rw [← HX.out], by go_num⟩
          case measure => simp [intOf]; omega
      · obtain rfl : k = len := by omega
        have hbd := maxK_bd zs k
        have t0 := hbd.1
        have t1 := hbd.2
        have HG : Hid (maxK zs k = greatK zs zs.length) := by
          unfold Hid
          rw [HL.out]
          obtain ⟨j, rfl⟩ : ∃ j, k = j + 1 := ⟨k - 1, by omega⟩
          exact maxK_great zs j
        obtain ⟨t, ht⟩ : ∃ t, maxK zs k = t := ⟨_, rfl⟩
        rw [ht] at t0 t1 HG ⊢
        have HPL : Hid (powL zs = zs.map fun x => expZ (addZ x (-t))) := by unfold powL; rw [HG.out]; exact rfl
        have HPN : Hid ((powL zs).length = k) := by rw [powL_len]; exact HL
        clear hbd ht hlt
        go_wp2_with fail
        go_loopw [5, 6, 7] (fun u s i W => ∃ j : Nat, j ≤ k ∧ s = .int .i64 (sumK (powL zs) j) ∧ i = .int .i64 j ∧ Hid (W.ownsRow w.heap.size 2 1 u j (((powL zs).take j).map (Value.int .i64))) ∧ Hid (Below w.heap.size w W)) (fun _ _ i _ => k - (intOf i).toNat)
        case atStart => exact ⟨0, Nat.zero_le _, rfl, rfl, World.ownsRow_nil _ _ _ _, Below.refl _ _⟩
        case round =>
          obtain ⟨j, hj, rfl, rfl, HO, HW⟩ := hrel
          rename World => wr
          by_cases hjl : j < k
          · obtain ⟨b, o, e, c1⟩ := (HA.out.below HW.out).cell j hjl
            cases e
            have HPj : Hid ((powL zs)[j]?.getD 0 = expZ (addZ (zs[j]?.getD 0) (-t))) := by unfold Hid; rw [HPL.out]; exact map_at (f := fun x => expZ (addZ x (-t))) (by have := HL.out; omega)
            have HE : Hid ((powL zs).take j ++ [expZ (addZ (zs[j]?.getD 0) (-t))] = (powL zs).take (j + 1)) := by unfold Hid; rw [← HPj.out, take_snoc (by have := HPN.out; omega)]
            have HSu : Hid (addZ (sumK (powL zs) j) (expZ (addZ (zs[j]?.getD 0) (-t))) = sumK (powL zs) (j + 1)) := by unfold Hid; rw [← HPj.out]; rfl
            have HS : Hid (w.heap.size ≤ wr.heap.size) := HW.out.size
            clear HA HPj
            generalize zs[j]?.getD 0 = x at *
            generalize sumK (powL zs) j = s at *
            generalize (powL zs).take j = us at *
            go_wp2_with fail
            refine (radd_any _ _ _).mono ?_
            rintro e w' ⟨rfl, rfl⟩
            go_wp2_with fail
            refine (rexp_any _ _).mono ?_
            rintro e w' ⟨rfl, rfl⟩
            rename World => wr
            generalize expZ (addZ x (-t)) = p at *
            go_wp2_with (first | (at_builtin; refine append_any _ rfl (.tmp 46) (.tmp 48) 131 rfl w.heap.size 2 i0 (.int .i64 0) 8 Tryz.underlying131 hi hz0 hz1 hz2 rfl .i64 _ j us rfl (HO.out.alloc _) _ 1 1 [p] rfl (Reads.one _ _ _) (by omega) (by omega) (Nat.le_trans HS.out (by simp)) ?_; intro v' w3 hO3 hb3) | fail)
            refine (radd_any _ _ _).mono ?_
            rintro e w' ⟨rfl, rfl⟩
            rename World => w3
            rw [HSu.out]
            have HB3 := hid ((HW.out.alloc HS.out _).trans hb3)
            have HO3 : Hid (w3.ownsRow w.heap.size 2 1 v' (j + 1) (((powL zs).take (j + 1)).map (Value.int .i64))) := by rw [← HE.out]; exact hO3
            clear hO3 hb3
            go_wp2_with fail
            go_round
            case rel => exact ⟨j + 1, by omega, rfl, by go_num, HO3, HB3⟩
            case measure => simp [intOf]; omega
          · obtain rfl : j = k := by omega
            obtain ⟨g, cg, rfl, hO⟩ := own_block HO.out (by omega)
            rw [List.take_of_length_le (by have := HPN.out; omega)] at hO
            obtain ⟨S, hS⟩ : ∃ S, sumK (powL zs) j = S := ⟨_, rfl⟩
            have HSL : Hid (turnK (divZ · S) (powL zs) j = softL zs) := by
              unfold Hid
              rw [turnK_all HPN.out, ← hS]
              unfold softL
              rw [HL.out]
            have H0 : Hid (OwnK 2 w.heap.size g j cg (turnK (divZ · S) (powL zs) 0) wr) := by rw [turnK_0]; exact hO
            have hcg := hO.reads.room
            have hcm := hO.reads.most
            rw [hS]
            clear hO HO hS hjl HA HG HPL
            go_wp2_with fail
            go_loopw [9] (fun i W => ∃ n : Nat, n ≤ j ∧ i = .int .i64 n ∧ Hid (OwnK 2 w.heap.size g j cg (turnK (divZ · S) (powL zs) n) W) ∧ Hid (Below w.heap.size w W)) (fun i _ => j - (intOf i).toNat)
            case atStart => exact ⟨0, Nat.zero_le _, rfl, H0, HW⟩
            case round =>
              obtain ⟨n, hn, rfl, HN, HWn⟩ := hrel
              clear H0 HW
              rename World => wn
              by_cases hnl : n < j
              · have hln : n < (powL zs).length := by have := HPN.out; omega
                have cn := HN.out.cell (k := n) hnl
                rw [turnK_at hln] at cn
                have fn := HN.out.frozen n
                have HT : Hid (OwnK 2 w.heap.size g j cg (turnK (divZ · S) (powL zs) (n + 1)) (wn.setCell ⟨g, n, none⟩ (.int .i64 (divZ ((powL zs)[n]?.getD 0) S)))) := by
                  unfold Hid
                  rw [← turnK_set hln]
                  exact HN.out.set n _
                have HBg : Hid (w.heap.size ≤ g) := HN.out.base
                clear HN hln
                generalize (powL zs)[n]?.getD 0 = x at *
                go_wp2_with fail
                refine (rdiv_any _ _ _).mono ?_
                rintro e w' ⟨rfl, rfl⟩
                go_wp2_with fail
                go_round
                case rel => exact ⟨n + 1, by omega, by go_num, HT, HWn.out.setCell HBg.out _⟩
                case measure => simp [intOf]; omega
              · obtain rfl : n = j := by omega
                have HE : Hid (OwnK 2 w.heap.size g n cg (softL zs) wn) := by rw [← HSL.out]; exact HN.out
                clear HN
                go_wp2
                go_ret
                exact ⟨_, _, rfl, HE.out.reads, HWn.out⟩
end Go.Proofs.YtjgggialnegddaaGreat
namespace Go.Proofs.YtjgggialnegddaaGreat
open Go.RowKit
set_option linter.unusedVariables false
set_option maxRecDepth 1000000

/-- A number turned by itself gone to the right. -/
def sx (n k : Int) : Int := bits .xor .u64 n (n / k)
/-- A number modulo 2 ^ 64. -/
def wr (n : Int) : Int := IntKind.u64.wrap n
/-- A number mixed. -/
def mixZ (n : Int) : Int := sx (wr (sx (wr (sx n 1073741824 * 13787848793156543929)) 134217728 * 10723151780598845931)) 2147483648
/-- The draw n of a seed. -/
def atZ (s n : Int) : Int := mixZ (wr (s + wr (wr (n + 1) * 11400714819323198485)))
/-- The upper half of a product. -/
def upZ (a b : Int) : Int := a * b / 18446744073709551616
/-- The draw n of a seed, below a number. -/
def belowZ (s n m : Int) : Int := upZ (atZ s n) m
/-- A seed made of another one and labels. -/
def deriveZ (s : Int) (l : List Int) : Int := l.foldl atZ s

theorem wr_eq (n : Int) : wr n = n % 18446744073709551616 := IntKind.wrap_u64 n
theorem wr_0 (n : Int) : 0 ≤ wr n := by rw [wr_eq]; omega
theorem wr_1 (n : Int) : wr n ≤ 18446744073709551615 := by rw [wr_eq]; omega
theorem wr_in {n : Int} (h0 : 0 ≤ n) (h1 : n ≤ 18446744073709551615) : wr n = n := by rw [wr_eq]; omega

theorem div_0 {n k : Int} (h0 : 0 ≤ n) (k0 : 0 < k) : 0 ≤ n / k := Int.ediv_nonneg h0 (by omega)
theorem div_1 {n k : Int} (h0 : 0 ≤ n) (k0 : 0 < k) : n / k ≤ n := Int.ediv_le_self _ h0
theorem sx_nat {n k : Int} (h0 : 0 ≤ n) (h1 : n ≤ 18446744073709551615) (k0 : 0 < k) : sx n k = (n.toNat ^^^ (n / k).toNat : Nat) := by
  have := div_0 h0 k0
  have := div_1 h0 k0
  exact u64_xor _ _ h0 (by omega) (by omega) (by omega)
theorem xor_lt {a b : Nat} (ha : a < 18446744073709551616) (hb : b < 18446744073709551616) : a ^^^ b < 18446744073709551616 :=
  Nat.xor_lt_two_pow (n := 64) ha hb
theorem sx_bd {n k : Int} (h0 : 0 ≤ n) (h1 : n ≤ 18446744073709551615) (k0 : 0 < k) : 0 ≤ sx n k ∧ sx n k ≤ 18446744073709551615 := by
  have := div_0 h0 k0
  have := div_1 h0 k0
  rw [sx_nat h0 h1 k0]
  have := xor_lt (a := n.toNat) (b := (n / k).toNat) (by omega) (by omega)
  omega
theorem mix_bd (n : Int) : 0 ≤ mixZ n ∧ mixZ n ≤ 18446744073709551615 := sx_bd (wr_0 _) (wr_1 _) (by omega)
theorem at_bd (s n : Int) : 0 ≤ atZ s n ∧ atZ s n ≤ 18446744073709551615 := mix_bd _
theorem derive_bd {s : Int} (l : List Int) (h : 0 ≤ s ∧ s ≤ 18446744073709551615) : 0 ≤ deriveZ s l ∧ deriveZ s l ≤ 18446744073709551615 := by
  induction l generalizing s with
  | nil => exact h
  | cons x l ih => exact ih (at_bd s x)
theorem derive_snoc (s : Int) (l : List Int) (x : Int) : deriveZ s (l ++ [x]) = atZ (deriveZ s l) x := by unfold deriveZ; rw [List.foldl_append]; rfl

/-! ### The product's upper half -/
theorem and_low {a : Int} (h0 : 0 ≤ a) (h1 : a ≤ 18446744073709551615) : bits .and .u64 a 4294967295 = a % 4294967296 := by
  rw [u64_and _ _ h0 (by omega) (by omega) (by omega)]
  rw [show (4294967295 : Int).toNat = 2 ^ 32 - 1 from rfl, Nat.and_two_pow_sub_one_eq_mod]
  omega
theorem up_parts {p q r s : Int} (p0 : 0 ≤ p) (p1 : p ≤ 18446744065119617025) (q0 : 0 ≤ q) (q1 : q ≤ 18446744065119617025) (r0 : 0 ≤ r) (r1 : r ≤ 18446744065119617025) (s0 : 0 ≤ s) (s1 : s ≤ 18446744065119617025) :
    s + (q + p / 4294967296) / 4294967296 + ((q + p / 4294967296) % 4294967296 + r) / 4294967296 = (s * 18446744073709551616 + (q + r) * 4294967296 + p) / 18446744073709551616 := by
  omega
theorem half_bd {a b : Int} (a0 : 0 ≤ a) (a1 : a ≤ 4294967295) (b0 : 0 ≤ b) (b1 : b ≤ 4294967295) : 0 ≤ a * b ∧ a * b ≤ 18446744065119617025 :=
  ⟨Int.mul_nonneg a0 b0, Int.le_trans (Int.mul_le_mul a1 b1 b0 (by omega)) (by omega)⟩
theorem split_mul (a b : Int) : a * b = (a / 4294967296) * (b / 4294967296) * 18446744073709551616 + ((a / 4294967296) * (b % 4294967296) + (a % 4294967296) * (b / 4294967296)) * 4294967296 + (a % 4294967296) * (b % 4294967296) := by
  have ha : a = a / 4294967296 * 4294967296 + a % 4294967296 := by omega
  have hb : b = b / 4294967296 * 4294967296 + b % 4294967296 := by omega
  generalize a / 4294967296 = a1 at *
  generalize a % 4294967296 = a0 at *
  generalize b / 4294967296 = b1 at *
  generalize b % 4294967296 = b0 at *
  subst ha hb
  rw [Int.add_mul, Int.mul_add, Int.mul_add, Int.add_mul]
  have e1 : a1 * 4294967296 * (b1 * 4294967296) = a1 * b1 * 18446744073709551616 := by
    rw [Int.mul_assoc, Int.mul_left_comm 4294967296 b1, ← Int.mul_assoc]; rfl
  have e2 : a1 * 4294967296 * b0 = a1 * b0 * 4294967296 := by rw [Int.mul_assoc, Int.mul_comm 4294967296 b0, ← Int.mul_assoc]
  have e3 : a0 * (b1 * 4294967296) = a0 * b1 * 4294967296 := by rw [← Int.mul_assoc]
  rw [e1, e2, e3]
  omega
/-- The upper half, as it is reckoned of halves. -/
theorem up_eq {a b : Int} (a0 : 0 ≤ a) (a1 : a ≤ 18446744073709551615) (b0 : 0 ≤ b) (b1 : b ≤ 18446744073709551615) :
    wr (wr (wr (a / 4294967296 * (b / 4294967296)) + wr (wr (a / 4294967296 * (b % 4294967296)) + wr (a % 4294967296 * (b % 4294967296)) / 4294967296) / 4294967296) +
      wr (wr (wr (a / 4294967296 * (b % 4294967296)) + wr (a % 4294967296 * (b % 4294967296)) / 4294967296) % 4294967296 + wr (a % 4294967296 * (b / 4294967296))) / 4294967296) = upZ a b := by
  have P := half_bd (a := a % 4294967296) (b := b % 4294967296) (by omega) (by omega) (by omega) (by omega)
  have Q := half_bd (a := a / 4294967296) (b := b % 4294967296) (by omega) (by omega) (by omega) (by omega)
  have R := half_bd (a := a % 4294967296) (b := b / 4294967296) (by omega) (by omega) (by omega) (by omega)
  have S := half_bd (a := a / 4294967296) (b := b / 4294967296) (by omega) (by omega) (by omega) (by omega)
  unfold upZ
  rw [split_mul a b]
  generalize a / 4294967296 * (b / 4294967296) = s at *
  generalize a / 4294967296 * (b % 4294967296) = q at *
  generalize a % 4294967296 * (b / 4294967296) = r at *
  generalize a % 4294967296 * (b % 4294967296) = p at *
  rw [← up_parts P.1 P.2 Q.1 Q.2 R.1 R.2 S.1 S.2]
  rw [wr_in P.1 (by omega), wr_in Q.1 (by omega), wr_in R.1 (by omega), wr_in S.1 (by omega)]
  rw [wr_in (n := q + p / 4294967296) (by omega) (by omega)]
  rw [wr_in (n := (q + p / 4294967296) % 4294967296 + r) (by omega) (by omega)]
  rw [wr_in (n := s + (q + p / 4294967296) / 4294967296) (by omega) (by omega)]
  exact wr_in (by omega) (by omega)
theorem up_lt {a b : Int} (a0 : 0 ≤ a) (a1 : a ≤ 18446744073709551615) (b0 : 0 < b) : upZ a b < b := by
  unfold upZ
  refine Int.ediv_lt_of_lt_mul (by omega) ?_
  rw [Int.mul_comm b]
  exact Int.mul_lt_mul_of_pos_right (by omega) b0
theorem up_0 {a b : Int} (a0 : 0 ≤ a) (b0 : 0 ≤ b) : 0 ≤ upZ a b := Int.ediv_nonneg (Int.mul_nonneg a0 b0) (by omega)
theorem up_zero (a : Int) : upZ a 0 = 0 := by unfold upZ; simp
theorem below_bd (s n : Int) {m : Int} (m0 : 0 < m) : 0 ≤ belowZ s n m ∧ belowZ s n m < m := ⟨up_0 (at_bd _ _).1 (by omega), up_lt (at_bd _ _).1 (at_bd _ _).2 m0⟩

/-! ### The way back -/
end Go.Proofs.YtjgggialnegddaaGreat
namespace Go.Proofs.YtjgggialnegddaaGreat
open Go.RowKit
set_option linter.unusedVariables false
set_option maxRecDepth 1000000

theorem mix_any (n : Int) (w : World) (n0 : 0 ≤ n) (n1 : n ≤ 18446744073709551615) :
    Calls Tryz.prog 241 #[.int .u64 n] w fun e w' => e = .returned (.int .u64 (mixZ n)) ∧ w' = w := by
  go_enter Tryz.func241, Tryz.ntmps241
  go_wp2
  go_ret
  exact ⟨rfl, rfl⟩
theorem rmix_any (n : Int) (w : World) (n0 : 0 ≤ n) (n1 : n ≤ 18446744073709551615) :
    Calls Tryz.prog 189 #[.int .u64 n] w fun e w' => e = .returned (.int .u64 (mixZ n)) ∧ w' = w := by
  go_enter Tryz.func189, Tryz.ntmps189
  go_wp2
  go_ret
  exact ⟨rfl, rfl⟩
theorem at_any (s n : Int) (w : World) :
    Calls Tryz.prog 221 #[.int .u64 s, .int .u64 n] w fun e w' => e = .returned (.int .u64 (atZ s n)) ∧ w' = w := by
  go_enter Tryz.func221, Tryz.ntmps221
  go_wp2_with fail
  refine (mix_any _ _ (wr_0 _) (wr_1 _)).mono ?_
  rintro e w' ⟨rfl, rfl⟩
  go_wp2
  go_ret
  exact ⟨rfl, rfl⟩
theorem rat_any (s n : Int) (w : World) :
    Calls Tryz.prog 174 #[.int .u64 s, .int .u64 n] w fun e w' => e = .returned (.int .u64 (atZ s n)) ∧ w' = w := by
  go_enter Tryz.func174, Tryz.ntmps174
  go_wp2_with fail
  refine (rmix_any _ _ (wr_0 _) (wr_1 _)).mono ?_
  rintro e w' ⟨rfl, rfl⟩
  go_wp2
  go_ret
  exact ⟨rfl, rfl⟩
theorem mul64_any (a b : Int) (w : World) (a0 : 0 ≤ a) (a1 : a ≤ 18446744073709551615) (b0 : 0 ≤ b) (b1 : b ≤ 18446744073709551615) :
    Calls Tryz.prog 220 #[.int .u64 a, .int .u64 b] w fun e w' => e = .returned (.tuple #[.int .u64 (upZ a b), .int .u64 (wr (a * b))]) ∧ w' = w := by
  have HA : Hid (bits .and .u64 a 4294967295 = a % 4294967296) := and_low a0 a1
  have HB : Hid (bits .and .u64 b 4294967295 = b % 4294967296) := and_low b0 b1
  have HU := hid (up_eq a0 a1 b0 b1)
  have HT : Hid (bits .and .u64 (wr (wr (a / 4294967296 * (b % 4294967296)) + wr (a % 4294967296 * (b % 4294967296)) / 4294967296)) 4294967295 = wr (wr (a / 4294967296 * (b % 4294967296)) + wr (a % 4294967296 * (b % 4294967296)) / 4294967296) % 4294967296) := and_low (wr_0 _) (wr_1 _)
  go_enter Tryz.func220, Tryz.ntmps220
  go_wp2
  go_ret2
  refine ⟨?_, rfl⟩
  unfold Hid at HA HB HU HT
  unfold wr at HT HU
  rw [HA, HB, HT, HU]
  rfl
theorem tq (x : Int) : IntKind.u64.wrap ((IntKind.u64.wrap x).tdiv 4294967296) = IntKind.u64.wrap x / 4294967296 := by
  have h0 := wr_0 x
  have h1 := wr_1 x
  unfold wr at h0 h1
  rw [Int.tdiv_eq_ediv_of_nonneg h0]
  exact wr_in (by omega) (by omega)
theorem tr (x : Int) : (IntKind.u64.wrap x).tmod 4294967296 = IntKind.u64.wrap x % 4294967296 := Int.tmod_eq_emod_of_nonneg (wr_0 x)
theorem upper_any (a b : Int) (w : World) (a0 : 0 ≤ a) (a1 : a ≤ 18446744073709551615) (b0 : 0 ≤ b) (b1 : b ≤ 18446744073709551615) :
    Calls Tryz.prog 173 #[.int .u64 a, .int .u64 b] w fun e w' => e = .returned (.int .u64 (upZ a b)) ∧ w' = w.drew.drew := by
  have HU := hid (up_eq a0 a1 b0 b1)
  have c1 := wr_0 (wr (a / 4294967296 * (b % 4294967296)) + wr (a % 4294967296 * (b % 4294967296)) / 4294967296)
  have c2 := wr_0 (wr (wr (a / 4294967296 * (b % 4294967296)) + wr (a % 4294967296 * (b % 4294967296)) / 4294967296) % 4294967296 + wr (a % 4294967296 * (b / 4294967296)))
  have c3 := wr_0 (a % 4294967296 * (b % 4294967296))
  unfold wr at c1 c2 c3
  go_enter Tryz.func173, Tryz.ntmps173
  go_wp2_with fail
  go_region
  go_wp2_with fail
  go_region
  go_wp2
  go_ret
  refine ⟨?_, rfl⟩
  unfold Hid at HU
  unfold wr at HU
  rw [← HU]
  show Ending.returned (.int .u64 _) = _
  refine ret_int ?_
  simp only [tq, tr]
theorem dbelow_any (s n m : Int) (w : World) (m0 : 0 ≤ m) (m1 : m ≤ 18446744073709551615) :
    Calls Tryz.prog 197 #[.int .u64 s, .int .u64 n, .int .u64 m] w fun e w' => e = .returned (.int .u64 (belowZ s n m)) ∧ w' = w := by
  go_enter Tryz.func197, Tryz.ntmps197
  go_wp2_with fail
  refine (at_any _ _ _).mono ?_
  rintro e w' ⟨rfl, rfl⟩
  go_wp2_with fail
  refine (mul64_any _ _ _ (at_bd _ _).1 (at_bd _ _).2 m0 m1).mono ?_
  rintro e w' ⟨rfl, rfl⟩
  go_wp2
  go_ret
  exact ⟨rfl, rfl⟩
theorem rdbelow_any (s n m : Int) (w : World) (m0 : 0 ≤ m) (m1 : m ≤ 18446744073709551615) :
    Calls Tryz.prog 146 #[.int .u64 s, .int .u64 n, .int .u64 m] w fun e w' => e = .returned (.int .u64 (belowZ s n m)) ∧ w' = w.drew.drew := by
  go_enter Tryz.func146, Tryz.ntmps146
  go_wp2_with fail
  refine (rat_any _ _ _).mono ?_
  rintro e w' ⟨rfl, rfl⟩
  go_wp2_with fail
  refine (upper_any _ _ _ (at_bd _ _).1 (at_bd _ _).2 m0 m1).mono ?_
  rintro e w' ⟨rfl, rfl⟩
  go_wp2
  go_ret
  exact ⟨rfl, rfl⟩
end Go.Proofs.YtjgggialnegddaaGreat
namespace Go.Proofs.YtjgggialnegddaaGreat
open Go.RowKit
set_option linter.unusedVariables false
set_option maxRecDepth 1000000

theorem derive_any (s : Int) (a : Option Addr) (len cap : Nat) (zs : List Int) (w : World) (hr : Reads .u64 w a len cap zs) (hlen : len ≤ 1000000) :
    Calls Tryz.prog 206 #[.int .u64 s, .slice a len cap] w fun e w' => e = .returned (.int .u64 (deriveZ s zs)) ∧ w' = w := by
  have HL : Hid (zs.length = len) := hr.size
  go_enter Tryz.func206, Tryz.ntmps206
  go_wp2_with fail
  go_loop [0, 9] (fun v i => ∃ (n : Int) (k : Nat), v = .int .u64 n ∧ i = .int .i64 k ∧ k ≤ len ∧ Hid (n = deriveZ s (zs.take k))) (fun _ i => len - (intOf i).toNat)
  case atStart => exact ⟨_, 0, rfl, rfl, by omega, by unfold Hid; simp [deriveZ]⟩
  case round =>
    obtain ⟨n, k, rfl, rfl, hk, HM⟩ := hrel
    by_cases hlt : k < len
    · obtain ⟨b, off, rfl, hc⟩ := hr.cell k hlt
      have HS : Hid (atZ n (zs[k]?.getD 0) = deriveZ s (zs.take (k + 1))) := by
        unfold Hid
        rw [take_snoc (by have := HL.out; omega), derive_snoc, HM.out]
      clear hr
      generalize zs[k]?.getD 0 = c at *
      go_wp2_with fail
      refine (at_any _ _ _).mono ?_
      rintro e w' ⟨rfl, rfl⟩
      go_wp2_with fail
      go_round
      case rel => exact ⟨_, k + 1, rfl, by go_num, by omega, HS⟩
      case measure => simp [intOf]; omega
    · have HE : Hid (n = deriveZ s zs) := by
        unfold Hid
        rw [HM.out, List.take_of_length_le (by have := HL.out; omega)]
      clear hr
      go_wp2
      go_ret
      exact ⟨ret_int HE.out, rfl⟩

theorem rderive_any (s : Int) (a : Option Addr) (len cap : Nat) (zs : List Int) (w : World) (hr : Reads .u64 w a len cap zs) (hlen : len ≤ 1000000) :
    Calls Tryz.prog 172 #[.int .u64 s, .slice a len cap] w fun e w' => e = .returned (.int .u64 (deriveZ s zs)) ∧ w' = w := by
  have HL : Hid (zs.length = len) := hr.size
  go_enter Tryz.func172, Tryz.ntmps172
  go_wp2_with fail
  go_loop [0, 5] (fun v i => ∃ (n : Int) (k : Nat), v = .int .u64 n ∧ i = .int .i64 k ∧ k ≤ len ∧ Hid (n = deriveZ s (zs.take k))) (fun _ i => len - (intOf i).toNat)
  case atStart => exact ⟨_, 0, rfl, rfl, by omega, by unfold Hid; simp [deriveZ]⟩
  case round =>
    obtain ⟨n, k, rfl, rfl, hk, HM⟩ := hrel
    by_cases hlt : k < len
    · obtain ⟨b, off, rfl, hc⟩ := hr.cell k hlt
      have HS : Hid (atZ n (zs[k]?.getD 0) = deriveZ s (zs.take (k + 1))) := by
        unfold Hid
        rw [take_snoc (by have := HL.out; omega), derive_snoc, HM.out]
      clear hr
      generalize zs[k]?.getD 0 = c at *
      go_wp2_with fail
      refine (rat_any _ _ _).mono ?_
      rintro e w' ⟨rfl, rfl⟩
      go_wp2_with fail
      go_round
      case rel => exact ⟨_, k + 1, rfl, by go_num, by omega, HS⟩
      case measure => simp [intOf]; omega
    · have HE : Hid (n = deriveZ s zs) := by
        unfold Hid
        rw [HM.out, List.take_of_length_le (by have := HL.out; omega)]
      clear hr
      go_wp2
      go_ret
      exact ⟨ret_int HE.out, rfl⟩
end Go.Proofs.YtjgggialnegddaaGreat
namespace Go.Proofs.YtjgggialnegddaaGreat
open Go.RowKit
set_option linter.unusedVariables false
set_option maxRecDepth 1000000

/-- A configuration. -/
structure Cf where
  seed : Int
  vocab : Int
  dim : Int
  layers : Int
  top : Int
  heat : Int
/-- Its cells. -/
def CfV (c : Cf) : Array Value := #[.int .u64 c.seed, .int .i64 c.vocab, .int .i64 c.dim, .int .i64 c.layers, .int .i64 c.top, .int .i64 c.heat]
/-- A number is from one to another one. -/
def btw (n lo hi : Int) : Bool := decide (lo ≤ n) && decide (n ≤ hi)
theorem btw_iff {n lo hi : Int} : btw n lo hi = true ↔ lo ≤ n ∧ n ≤ hi := by unfold btw; simp
theorem btw_no {n lo hi : Int} : btw n lo hi = false ↔ n < lo ∨ hi < n := by
  unfold btw; simp only [Bool.and_eq_false_iff, decide_eq_false_iff_not]; omega
/-- A configuration may be. -/
def mayB (c : Cf) : Bool := btw c.vocab 2 64 && (btw c.dim 1 16 && (btw c.layers 1 4 && (btw c.top 1 c.vocab && btw c.heat 0 8)))

theorem mbetween_any (n lo hi : Int) (w : World) :
    Calls Tryz.prog 75 #[.int .i64 n, .int .i64 lo, .int .i64 hi] w fun e w' => e = .returned (.bool (btw n lo hi)) ∧ w' = w := by
  by_cases h : lo ≤ n
  · by_cases h2 : n ≤ hi
    · rw [btw_iff.2 ⟨h, h2⟩]
      go_enter Tryz.func75, Tryz.ntmps75
      go_wp2
      go_ret
      exact ⟨rfl, rfl⟩
    · rw [btw_no.2 (.inr (by omega))]
      go_enter Tryz.func75, Tryz.ntmps75
      go_wp2
      go_ret
      exact ⟨rfl, rfl⟩
  · rw [btw_no.2 (.inl (by omega))]
    go_enter Tryz.func75, Tryz.ntmps75
    go_wp2
    go_ret
    exact ⟨rfl, rfl⟩
theorem rin_any (n lo hi : Int) (w : World) :
    Calls Tryz.prog 52 #[.int .i64 n, .int .i64 lo, .int .i64 hi] w fun e w' => e = .returned (.bool (btw n lo hi)) ∧ w' = w := by
  by_cases h : lo ≤ n
  · by_cases h2 : n ≤ hi
    · rw [btw_iff.2 ⟨h, h2⟩]
      go_enter Tryz.func52, Tryz.ntmps52
      go_wp2
      go_ret
      exact ⟨rfl, rfl⟩
    · rw [btw_no.2 (.inr (by omega))]
      go_enter Tryz.func52, Tryz.ntmps52
      go_wp2
      go_ret
      exact ⟨rfl, rfl⟩
  · rw [btw_no.2 (.inl (by omega))]
    go_enter Tryz.func52, Tryz.ntmps52
    go_wp2
    go_ret
    exact ⟨rfl, rfl⟩

theorem may_any (c : Cf) (w : World) :
    Calls Tryz.prog 50 #[.agg (CfV c)] w fun e w' => e = .returned (.bool (mayB c)) ∧ Below w.heap.size w w' := by
  obtain ⟨s, v, d, l, t, h⟩ := c
  have HB : Hid (Below w.heap.size w (w.alloc (.cells (CfV ⟨s, v, d, l, t, h⟩) 24))) := (Below.refl _ _).alloc (Nat.le_refl _) _
  unfold mayB CfV at *
  simp only at HB ⊢
  go_enter Tryz.func50, Tryz.ntmps50
  go_wp2_with fail
  refine (mbetween_any _ _ _ _).mono ?_
  rintro e w' ⟨rfl, rfl⟩
  cases h1 : btw v 2 64 with
  | false =>
    go_wp2
    go_ret
    exact ⟨ret_bool (by simp [h1]), HB.out⟩
  | true =>
  go_wp2_with fail
  refine (mbetween_any _ _ _ _).mono ?_
  rintro e w' ⟨rfl, rfl⟩
  cases h2 : btw d 1 16 with
  | false =>
    go_wp2
    go_ret
    exact ⟨ret_bool (by simp [h1, h2]), HB.out⟩
  | true =>
  go_wp2_with fail
  refine (mbetween_any _ _ _ _).mono ?_
  rintro e w' ⟨rfl, rfl⟩
  cases h3 : btw l 1 4 with
  | false =>
    go_wp2
    go_ret
    exact ⟨ret_bool (by simp [h1, h2, h3]), HB.out⟩
  | true =>
  go_wp2_with fail
  refine (mbetween_any _ _ _ _).mono ?_
  rintro e w' ⟨rfl, rfl⟩
  cases h4 : btw t 1 v with
  | false =>
    go_wp2
    go_ret
    exact ⟨ret_bool (by simp [h1, h2, h3, h4]), HB.out⟩
  | true =>
  go_wp2_with fail
  refine (mbetween_any _ _ _ _).mono ?_
  rintro e w' ⟨rfl, rfl⟩
  go_wp2
  go_ret
  exact ⟨ret_bool (by simp [h1, h2, h3, h4]), HB.out⟩
theorem rmay_any (c : Cf) (w : World) :
    Calls Tryz.prog 31 #[.agg (CfV c)] w fun e w' => e = .returned (.bool (mayB c)) ∧ Below w.heap.size w w' := by
  obtain ⟨s, v, d, l, t, h⟩ := c
  have HB : Hid (Below w.heap.size w (w.alloc (.cells (CfV ⟨s, v, d, l, t, h⟩) 24))) := (Below.refl _ _).alloc (Nat.le_refl _) _
  unfold mayB CfV at *
  simp only at HB ⊢
  go_enter Tryz.func31, Tryz.ntmps31
  go_wp2_with fail
  refine (rin_any _ _ _ _).mono ?_
  rintro e w' ⟨rfl, rfl⟩
  cases h1 : btw v 2 64 with
  | false =>
    go_wp2
    go_ret
    exact ⟨ret_bool (by simp [h1]), HB.out⟩
  | true =>
  go_wp2_with fail
  refine (rin_any _ _ _ _).mono ?_
  rintro e w' ⟨rfl, rfl⟩
  cases h2 : btw d 1 16 with
  | false =>
    go_wp2
    go_ret
    exact ⟨ret_bool (by simp [h1, h2]), HB.out⟩
  | true =>
  go_wp2_with fail
  refine (rin_any _ _ _ _).mono ?_
  rintro e w' ⟨rfl, rfl⟩
  cases h3 : btw l 1 4 with
  | false =>
    go_wp2
    go_ret
    exact ⟨ret_bool (by simp [h1, h2, h3]), HB.out⟩
  | true =>
  go_wp2_with fail
  refine (rin_any _ _ _ _).mono ?_
  rintro e w' ⟨rfl, rfl⟩
  cases h4 : btw t 1 v with
  | false =>
    go_wp2
    go_ret
    exact ⟨ret_bool (by simp [h1, h2, h3, h4]), HB.out⟩
  | true =>
  go_wp2_with fail
  refine (rin_any _ _ _ _).mono ?_
  rintro e w' ⟨rfl, rfl⟩
  go_wp2
  go_ret
  exact ⟨ret_bool (by simp [h1, h2, h3, h4]), HB.out⟩

/-- The model at a pointer has this configuration: a nil one, and one that nobody made, the zero one. -/
def MdAt (W : World) (p : Option Addr) (c : Cf) : Prop :=
  (p = none ∧ c = ⟨0, 0, 0, 0, 0, 0⟩) ∨ ∃ g, p = some ⟨g, 0, none⟩ ∧ W.heap[g]? = some (.cells (CfV c) 100 (0, 0))
theorem MdAt.below {W W' : World} {p : Option Addr} {c : Cf} (h : MdAt W p c) (hb : Below W.heap.size W W') : MdAt W' p c := by
  rcases h with h | ⟨g, hp, hg⟩
  · exact .inl h
  · exact .inr ⟨g, hp, (hb.block g (lt_of_block hg)).trans hg⟩

/-- A configuration's cells, out of its block. -/
theorem Cf_cells {W : World} {g : Nat} {c : Cf} {T : TypeId} (h : W.heap[g]? = some (.cells (CfV c) T (0, 0))) :
    W.cell? ⟨g, 0, none⟩ = some (.int .u64 c.seed) ∧ W.cell? ⟨g, 1, none⟩ = some (.int .i64 c.vocab) ∧ W.cell? ⟨g, 2, none⟩ = some (.int .i64 c.dim) ∧ W.cell? ⟨g, 3, none⟩ = some (.int .i64 c.layers) ∧ W.cell? ⟨g, 4, none⟩ = some (.int .i64 c.top) ∧ W.cell? ⟨g, 5, none⟩ = some (.int .i64 c.heat) := by
  refine ⟨?_, ?_, ?_, ?_, ?_, ?_⟩ <;> (rw [cell_of_row _ _ _ _ _ _ h]; rfl)
theorem block_below {w w' : World} {k : Nat} {o : Obj} (h : w.heap[k]? = some o) (hb : Below w.heap.size w w') : w'.heap[k]? = some o := (hb.block k (lt_of_block h)).trans h

theorem new_yes (c : Cf) (w : World) (hc : mayB c = true) :
    Calls Tryz.prog 29 #[.agg (CfV c)] w fun e w' => ∃ g, e = .returned (.tuple #[.pointer (some ⟨g, 0, none⟩), .int .i64 0]) ∧ w.heap.size ≤ g ∧ w'.heap[g]? = some (.cells (CfV c) 100 (0, 0)) ∧ Below w.heap.size w w' := by
  have HB : Hid (Below w.heap.size w (w.alloc (.cells (CfV c) 24))) := (Below.refl _ _).alloc (Nat.le_refl _) _
  have hM := may_any c (w.alloc (.cells (CfV c) 24))
  rw [hc] at hM
  have HN := hid (heap_alloc_new w (.cells (CfV c) 24))
  obtain ⟨s, v, d, l, t, h⟩ := c
  clear hc
  have HC : Hid (∀ W : World, Below (w.alloc (.cells (CfV ⟨s, v, d, l, t, h⟩) 24)).heap.size (w.alloc (.cells (CfV ⟨s, v, d, l, t, h⟩) 24)) W → _) := fun W hb => Cf_cells (block_below HN.out hb)
  unfold CfV at hM HN HB HC ⊢
  simp only at HB hM HN HC ⊢
  go_enter Tryz.func29, Tryz.ntmps29
  go_wp2_with fail
  refine hM.mono ?_
  rintro e w1 ⟨rfl, hb⟩
  obtain ⟨c0, c1, c2, c3, c4, c5⟩ := HC.out w1 hb
  have HB1 := hid (HB.out.trans (hb.mono (by simp)))
  clear hM HN hb HB HC
  go_wp2
  go_ret2
  exact ⟨_, rfl, HB1.out.size, heap_alloc_new _ _, HB1.out.alloc HB1.out.size _⟩
theorem new_no (c : Cf) (w : World) (hc : mayB c = false) :
    Calls Tryz.prog 29 #[.agg (CfV c)] w fun e w' => e = .returned (.tuple #[.pointer none, .int .i64 1]) ∧ Below w.heap.size w w' := by
  have HB : Hid (Below w.heap.size w (w.alloc (.cells (CfV c) 24))) := (Below.refl _ _).alloc (Nat.le_refl _) _
  have hM := may_any c (w.alloc (.cells (CfV c) 24))
  rw [hc] at hM
  obtain ⟨s, v, d, l, t, h⟩ := c
  clear hc
  unfold CfV at hM HB ⊢
  simp only at HB hM ⊢
  go_enter Tryz.func29, Tryz.ntmps29
  go_wp2_with fail
  refine hM.mono ?_
  rintro e w1 ⟨rfl, hb⟩
  have HB1 := hid (HB.out.trans (hb.mono (by simp)))
  clear hM hb HB
  go_wp2
  go_ret2
  exact ⟨rfl, HB1.out⟩
theorem config_any (p : Option Addr) (c : Cf) (w : World) (h : MdAt w p c) :
    Calls Tryz.prog 76 #[.pointer p] w fun e w' => e = .returned (.agg (CfV c)) ∧ Below w.heap.size w w' := by
  rcases h with ⟨rfl, rfl⟩ | ⟨g, rfl, hg⟩
  · go_enter Tryz.func76, Tryz.ntmps76
    go_wp2
    exact bodyPost_ret (v := .agg (CfV ⟨0, 0, 0, 0, 0, 0⟩)) (by simp [results, Tryz.results76, go_sem, CfV]) rfl ⟨rfl, by go_grown⟩
  · obtain ⟨c0, c1, c2, c3, c4, c5⟩ := Cf_cells hg
    have hlt := lt_of_block hg
    have hne : ¬ g = w.heap.size := by omega
    obtain ⟨s, v, d, l, t, h⟩ := c
    simp only at c0 c1 c2 c3 c4 c5
    clear hg
    go_enter Tryz.func76, Tryz.ntmps76
    go_wp2
    exact bodyPost_ret (v := .agg (CfV ⟨s, v, d, l, t, h⟩)) (by simp [results, Tryz.results76, go_sem, CfV]) rfl ⟨rfl, by go_grown⟩
end Go.Proofs.YtjgggialnegddaaGreat
namespace Go.Proofs.YtjgggialnegddaaGreat
open Go.RowKit
set_option linter.unusedVariables false
set_option maxRecDepth 1000000

/-- What stands at a row and a column of a table. -/
def weightZ (s t r c : Int) : Int := belowZ (deriveZ s [t]) (64 * r + c) 131073 - 65536
theorem weightZ_bd (s t r c : Int) : -65536 ≤ weightZ s t r c ∧ weightZ s t r c ≤ 65536 := by
  unfold weightZ
  have := below_bd (deriveZ s [t]) (64 * r + c) (m := 131073) (by omega)
  omega
theorem tableof_any (c : Cf) (n : Int) (w : World) (n0 : 0 ≤ n) (n1 : n ≤ 1000) :
    Calls Tryz.prog 180 #[.agg (CfV c), .int .i64 n] w fun e w' => e = .returned (.agg #[.int .u64 (deriveZ c.seed [n])]) ∧ Below w.heap.size w w' := by
  obtain ⟨s, v, d, l, t, h⟩ := c
  unfold CfV
  simp only
  have HD := hid fun a W (hr : Reads .u64 W a 1 1 [n]) => derive_any s a 1 1 [n] W hr (by omega)
  generalize deriveZ s [n] = x at *
  go_enter Tryz.func180, Tryz.ntmps180
  go_wp2_with fail
  refine (HD.out _ _ (Reads.oneB _ _ _ (by simp))).mono ?_
  rintro e w' ⟨rfl, rfl⟩
  clear HD
  go_wp2
  exact bodyPost_ret (v := .agg #[.int .u64 x]) (by simp [results, Tryz.results180, go_sem]) rfl ⟨rfl, by go_grown⟩
theorem weight_any (s t r c : Int) (w : World) (r0 : 0 ≤ r) (r1 : r ≤ 1000) (c0 : 0 ≤ c) (c1 : c ≤ 1000) :
    Calls Tryz.prog 181 #[.agg #[.int .u64 (deriveZ s [t])], .int .i64 r, .int .i64 c] w fun e w' => e = .returned (.int .i64 (weightZ s t r c)) ∧ Below w.heap.size w w' := by
  have HW : Hid (weightZ s t r c = belowZ (deriveZ s [t]) (64 * r + c) 131073 - 65536) := rfl
  have hb := below_bd (deriveZ s [t]) (64 * r + c) (m := 131073) (by omega)
  obtain ⟨hb0, hb1⟩ := hb
  generalize deriveZ s [t] = x at *
  go_enter Tryz.func181, Tryz.ntmps181
  go_wp2_with fail
  refine (dbelow_any _ _ _ _ (by omega) (by omega)).mono ?_
  rintro e w' ⟨rfl, rfl⟩
  go_wp2
  go_ret
  exact ⟨ret_int HW.out.symm, by go_grown⟩
theorem placeweight_any (s t r c : Int) (w : World) (r0 : 0 ≤ r) (r1 : r ≤ 1000) (c0 : 0 ≤ c) (c1 : c ≤ 1000) :
    Calls Tryz.prog 182 #[.agg #[.int .u64 (deriveZ s [t])], .int .i64 r, .int .i64 c] w fun e w' => e = .returned (.int .i64 (mulZ (weightZ s t r c) 16384)) ∧ Below w.heap.size w w' := by
  have hC := weight_any s t r c (w.alloc (.cells #[.int .u64 (deriveZ s [t])] 245)) r0 r1 c0 c1
  have HB : Hid (Below w.heap.size w (w.alloc (.cells #[.int .u64 (deriveZ s [t])] 245))) := (Below.refl _ _).alloc (Nat.le_refl _) _
  generalize deriveZ s [t] = x at *
  go_enter Tryz.func182, Tryz.ntmps182
  go_wp2_with fail
  refine hC.mono ?_
  rintro e w1 ⟨rfl, hb⟩
  have HB1 := hid (HB.out.trans (hb.mono HB.out.size))
  clear hb hC HB
  go_wp2_with fail
  refine (mul_any _ _ _).mono ?_
  rintro e w' ⟨rfl, rfl⟩
  go_wp2
  go_ret
  exact ⟨rfl, HB1.out⟩
theorem rweight_any (s t r c : Int) (w : World) (t0 : 0 ≤ t) (t1 : t ≤ 1000) (r0 : 0 ≤ r) (r1 : r ≤ 1000) (c0 : 0 ≤ c) (c1 : c ≤ 1000) :
    Calls Tryz.prog 142 #[.int .u64 s, .int .i64 t, .int .i64 r, .int .i64 c] w fun e w' => e = .returned (.int .i64 (weightZ s t r c)) ∧ Below w.heap.size w w' := by
  have HW : Hid (weightZ s t r c = belowZ (deriveZ s [t]) (64 * r + c) 131073 - 65536) := rfl
  have hb := below_bd (deriveZ s [t]) (64 * r + c) (m := 131073) (by omega)
  obtain ⟨hb0, hb1⟩ := hb
  go_enter Tryz.func142, Tryz.ntmps142
  go_wp2_with fail
  refine (rderive_any s _ 1 1 [t] _ (Reads.oneB _ _ _ (by simp)) (by omega)).mono ?_
  rintro e w' ⟨rfl, rfl⟩
  generalize deriveZ s [t] = x at *
  go_wp2_with fail
  refine (rdbelow_any _ _ _ _ (by omega) (by omega)).mono ?_
  rintro e w' ⟨rfl, rfl⟩
  go_wp2
  go_ret
  exact ⟨ret_int HW.out.symm, by go_grown⟩
end Go.Proofs.YtjgggialnegddaaGreat
namespace Go.Proofs.YtjgggialnegddaaGreat
open Go.RowKit
set_option linter.unusedVariables false
set_option maxRecDepth 1000000

/-- A slice as a value. -/
def hdV (h : Hd) : Value := .slice h.1 h.2.1 h.2.2
/-- The row in block g, not below base, holds these slices. -/
def OwnS (base g m cap : Nat) (hs : List Hd) (w : World) : Prop := w.ownsRow base 131 1 (.slice (some ⟨g, 0, none⟩) m cap) m (hs.map hdV)
theorem OwnS.len {base g m cap : Nat} {hs : List Hd} {w : World} (h : OwnS base g m cap hs w) : hs.length = m := by have := h.1; simpa using this
theorem OwnS.cell {base g m cap : Nat} {hs : List Hd} {w : World} (h : OwnS base g m cap hs w) {k : Nat} (hk : k < m) : w.cell? ⟨g, k, none⟩ = some (hdV (hs[k]?.getD (none, 0, 0))) := by
  have hl := h.len
  have := World.ownsRow.cellAt h k (by omega)
  rw [this]
  simp [(by omega : k < hs.length)]
theorem OwnS.frozen {base g m cap : Nat} {hs : List Hd} {w : World} (h : OwnS base g m cap hs w) (k : Nat) : w.frozen? ⟨g, k, none⟩ = false := World.ownsRow.frozenAt h k
theorem OwnS.set {base g m cap : Nat} {hs : List Hd} {w : World} (h : OwnS base g m cap hs w) (k : Nat) (v : Hd) : OwnS base g m cap (hs.set k v) (w.setCell ⟨g, k, none⟩ (hdV v)) := by
  have := (World.ownsRow.stored h k (hdV v)).1
  unfold OwnS
  rw [List.map_set]
  exact this
theorem OwnS.base {base g m cap : Nat} {hs : List Hd} {w : World} (h : OwnS base g m cap hs w) : base ≤ g := (World.ownsRow.lt h g rfl).1
theorem OwnS.lt {base g m cap : Nat} {hs : List Hd} {w : World} (h : OwnS base g m cap hs w) : g < w.heap.size := (World.ownsRow.lt h g rfl).2
theorem OwnS.stays {base g m cap : Nat} {hs : List Hd} {w w' : World} (h : OwnS base g m cap hs w) (hb : Below w.heap.size w w') : OwnS base g m cap hs w' := own_below h hb
theorem OwnS.rd {base g m cap : Nat} {hs : List Hd} {w : World} (h : OwnS base g m cap hs w) : Rd2 w (some ⟨g, 0, none⟩) m cap hs := by
  rcases h.2 with ⟨h', _⟩ | ⟨g', c, cur, hv, hB, hg, hnc, hm, _⟩
  · cases h'
  · cases hv
    refine ⟨h.len, hnc, by unfold maxLen at hm; omega, (fun e => by cases e), fun i hi => ⟨g, 0, rfl, ?_⟩⟩
    rw [Nat.zero_add]
    exact h.cell hi
theorem OwnS.low {base base' g m cap : Nat} {hs : List Hd} {w : World} (h : OwnS base g m cap hs w) (hb : base' ≤ base) : OwnS base' g m cap hs w := by
  refine ⟨h.1, ?_⟩
  rcases h.2 with h' | ⟨g', c, cur, hv, hB, rest⟩
  · exact .inl h'
  · exact .inr ⟨g', c, cur, hv, Nat.le_trans hb hB, rest⟩
theorem Tryz.infoS : (Tryz.prog.info? 131).map (fun i => (i.zero, i.size, i.bytes)) = some (some (.slice none 0 0), 1, 24) := by kernel_rfl
/-- 'make' of m slices. -/
theorem make_rows (w : World) (m : Nat) (hm : m ≤ 1001) : (Instr.makeSlice 132 (.int .i64 (m : Int)) (.int .i64 (m : Int))).run Tryz.prog w = .ok (.slice (some ⟨w.heap.size, 0, none⟩) m m) (w.alloc (.cells (madeCells #[.slice none 0 0] m) 131)) := by
  obtain ⟨i0, hi, hz0, hz1, hz2⟩ := info_parts Tryz.infoS
  have := run_make (P := Tryz.prog) w 132 131 i0 (.slice none 0 0) Tryz.underlying132 hi hz0 .i64 .i64 (m : Int) (m : Int) (by omega) (Int.le_refl _) (by rw [hz2]; omega) (by omega)
  rw [this, hz1, Int.toNat_natCast, Nat.mul_one]
  rfl
theorem own_rows (w : World) (m : Nat) (hm : m ≤ 1001) : OwnS w.heap.size w.heap.size m m (List.replicate m (none, 0, 0)) (w.alloc (.cells (madeCells #[.slice none 0 0] m) 131)) := by
  have := World.ownsRow_lit (base := w.heap.size) (e := 131) (size := 1) w (madeCells #[.slice none 0 0] m) m (Nat.le_refl _) (by unfold maxLen; omega) (by simp [madeCells])
  unfold OwnS
  rw [List.map_replicate, show hdV (none, 0, 0) = .slice none 0 0 from rfl, ← toList_madeCells_one]
  exact this

theorem makerow_any (fn : Nat) (recv : Value) (hE : ∀ args w, (callFunc fn args).run Tryz.prog w = .ok (.enter fn args) w) (r : Int) (n : Nat) (w : World) (hn : n ≤ 1000) (f : Nat → Int)
    (hC : ∀ k wr, k < n → Below w.heap.size w wr → Calls Tryz.prog fn #[recv, .int .i64 r, .int .i64 (k : Int)] wr fun e w' => e = .returned (.int .i64 (f k)) ∧ Below wr.heap.size wr w') :
    Calls Tryz.prog 179 #[.int .i64 r, .int .i64 n, .func (.func fn) #[recv] #[]] w fun e w' => Made w n (rowK f n) e w' := by
  have hmk := make_ints w n (by omega)
  have HO0 : Hid (OwnK 2 w.heap.size w.heap.size n n (rowK f 0 ++ List.replicate (n - 0) 0) (w.alloc (.cells (madeCells #[.int .i64 0] n) 2))) := own_made _ w n (by omega)
  have HB0 : Hid (Below w.heap.size w (w.alloc (.cells (madeCells #[.int .i64 0] n) 2))) := (Below.refl _ _).alloc (Nat.le_refl _) _
  have HC := hid hC
  clear hC
  go_enter Tryz.func179, Tryz.ntmps179
  go_wp2_with fail
  go_loopw [13] (fun i W => ∃ k : Nat, k ≤ n ∧ i = .int .i64 k ∧ Hid (OwnK 2 w.heap.size w.heap.size n n (rowK f k ++ List.replicate (n - k) 0) W) ∧ Hid (Below w.heap.size w W)) (fun i _ => n - (intOf i).toNat)
  case atStart => exact ⟨0, Nat.zero_le _, rfl, HO0, HB0⟩
  case round =>
    obtain ⟨k, hk, rfl, HO, HB⟩ := hrel
    clear HO0 HB0 hmk
    by_cases hlt : k < n
    · have hC := HC.out k wr hlt HB.out
      have HS := hid (rowK_set f hlt)
      clear HC
      go_wp2_with fail
      refine hC.mono ?_
      rintro e w2 ⟨rfl, hb⟩
      have HO2 := hid (HO.out.stays hb)
      have HB2 := hid (HB.out.trans (hb.mono HB.out.size))
      have ck := HO2.out.cell hlt
      have fk := HO2.out.frozen k
      have HO3 : Hid (OwnK 2 w.heap.size w.heap.size n n (rowK f (k + 1) ++ List.replicate (n - (k + 1)) 0) (w2.setCell ⟨w.heap.size, k, none⟩ (.int .i64 (f k)))) := by
        have := HO2.out.set k (f k)
        rw [HS.out] at this
        exact this
      have HB3 := hid (HB2.out.setCell (p := ⟨w.heap.size, k, none⟩) (Nat.le_refl _) (.int .i64 (f k)))
      clear hb hC HO HO2 HB HB2 HS
      go_wp2_with fail
      go_round
      case rel => exact ⟨k + 1, by omega, by go_num, HO3, HB3⟩
      case measure => simp [intOf]; omega
    · obtain rfl : k = n := by omega
      have HO3 : Hid (OwnK 2 w.heap.size w.heap.size k k (rowK f k) wr) := by
        have := HO.out
        rw [Nat.sub_self, List.replicate_zero, List.append_nil] at this
        exact this
      clear HO HC
      go_wp2
      go_ret
      exact ⟨_, _, rfl, HO3.out, HB.out⟩

/-- A table of n rows in block G: of the first k rows each lies in memory of its own, and has these numbers. -/
structure TblUp (w : World) (G n m : Nat) (F : Nat → List Int) (k : Nat) (hs : List Hd) (W : World) : Prop where
  own : OwnS w.heap.size G n n hs W
  rows : ∀ j, j < k → ∃ g c, hs[j]?.getD (none, 0, 0) = (some ⟨g, 0, none⟩, m, c) ∧ g ≠ G ∧ OwnK 2 w.heap.size g m c (F j) W
  old : Below w.heap.size w W
theorem TblUp.below {w : World} {G n m : Nat} {F : Nat → List Int} {k : Nat} {hs : List Hd} {W W' : World} (h : TblUp w G n m F k hs W) (hb : Below W.heap.size W W') : TblUp w G n m F k hs W' :=
  ⟨h.own.stays hb, fun j hj => by
    obtain ⟨g, c, h1, h2, h3⟩ := h.rows j hj
    exact ⟨g, c, h1, h2, h3.stays hb⟩, h.old.trans (hb.mono h.old.size)⟩
theorem TblUp.low {w w0 : World} {G n m : Nat} {F : Nat → List Int} {k : Nat} {hs : List Hd} {W : World} (h : TblUp w G n m F k hs W) (hb : Below w0.heap.size w0 w) : TblUp w0 G n m F k hs W :=
  ⟨h.own.low hb.size, fun j hj => by
    obtain ⟨g, c, h1, h2, h3⟩ := h.rows j hj
    exact ⟨g, c, h1, h2, h3.low hb.size⟩, hb.trans (h.old.mono hb.size)⟩
theorem TblUp.step {w : World} {G n m : Nat} {F : Nat → List Int} {k : Nat} {hs : List Hd} {W : World} (h : TblUp w G n m F k hs W) (hk : k < n) {g c : Nat} (hg : g ≠ G) (hw : OwnK 2 w.heap.size g m c (F k) W) :
    TblUp w G n m F (k + 1) (hs.set k (some ⟨g, 0, none⟩, m, c)) (W.setCell ⟨G, k, none⟩ (.slice (some ⟨g, 0, none⟩) m c)) := by
  have hl := h.own.len
  refine ⟨h.own.set k (some ⟨g, 0, none⟩, m, c), fun j hj => ?_, h.old.setCell h.own.base _⟩
  by_cases e : j = k
  · subst e
    refine ⟨g, c, by simp [(by omega : j < hs.length)], hg, hw.same (Below.heap_setCell _ _ _ _ ?_)⟩
    exact hg
  · obtain ⟨g', c', h1, h2, h3⟩ := h.rows j (by omega)
    refine ⟨g', c', ?_, h2, h3.same (Below.heap_setCell _ _ _ _ h2)⟩
    rw [List.getElem?_set_ne (by omega)]
    exact h1
/-- The rows of a table. -/
def tblK (F : Nat → List Int) (n : Nat) : List (List Int) := (List.range n).map F
theorem tblK_at (F : Nat → List Int) {n i : Nat} (h : i < n) : (tblK F n)[i]?.getD [] = F i := by simp [tblK, h]
theorem TblUp.tbl {w : World} {G n m : Nat} {F : Nat → List Int} {hs : List Hd} {W : World} (h : TblUp w G n m F n hs W) (hm : m ≤ 1000) : Tbl W (some ⟨G, 0, none⟩) n n hs (tblK F n) := by
  refine ⟨h.own.rd, fun i hi => ?_, fun i hi => ?_⟩
  · obtain ⟨g, c, h1, h2, h3⟩ := h.rows i hi
    rw [h1, tblK_at F hi]
    exact h3.reads
  · obtain ⟨g, c, h1, h2, h3⟩ := h.rows i hi
    rw [h1]
    exact hm
/-- The call made this table. -/
def MadeT (w : World) (n m : Nat) (F : Nat → List Int) (e : Ending) (w' : World) : Prop := ∃ G hs, e = .returned (.slice (some ⟨G, 0, none⟩) n n) ∧ TblUp w G n m F n hs w'

theorem makerows_any (fn : Nat) (recv : Value) (hE : ∀ args w, (callFunc fn args).run Tryz.prog w = .ok (.enter fn args) w) (n m : Nat) (w : World) (hn : n ≤ 1000) (hm : m ≤ 1000) (f : Nat → Nat → Int)
    (hC : ∀ r k wr, r < n → k < m → Below w.heap.size w wr → Calls Tryz.prog fn #[recv, .int .i64 (r : Int), .int .i64 (k : Int)] wr fun e w' => e = .returned (.int .i64 (f r k)) ∧ Below wr.heap.size wr w') :
    Calls Tryz.prog 232 #[.int .i64 n, .int .i64 m, .func (.func fn) #[recv] #[]] w fun e w' => MadeT w n m (fun r => rowK (f r) m) e w' := by
  have hmk := make_rows w n (by omega)
  have HU0 : Hid (TblUp w w.heap.size n m (fun r => rowK (f r) m) 0 (List.replicate n (none, 0, 0)) (w.alloc (.cells (madeCells #[.slice none 0 0] n) 131))) :=
    ⟨own_rows w n (by omega), fun j hj => absurd hj (by omega), (Below.refl _ _).alloc (Nat.le_refl _) _⟩
  have HR : Hid (∀ r W, r < n → Below w.heap.size w W → Calls Tryz.prog 179 #[.int .i64 (r : Int), .int .i64 m, .func (.func fn) #[recv] #[]] W fun e w' => Made W m (rowK (f r) m) e w') :=
    fun r W hr hW => makerow_any fn recv hE r m W hm (f r) fun k wr hk hb => hC r k wr hr hk (hW.trans (hb.mono hW.size))
  clear hC
  go_enter Tryz.func232, Tryz.ntmps232
  go_wp2_with fail
  go_loopw [13] (fun i W => ∃ (k : Nat) (hs : List Hd), k ≤ n ∧ i = .int .i64 k ∧ Hid (TblUp w w.heap.size n m (fun r => rowK (f r) m) k hs W)) (fun i _ => n - (intOf i).toNat)
  case atStart => exact ⟨0, _, Nat.zero_le _, rfl, HU0⟩
  case round =>
    obtain ⟨k, hs, hk, rfl, HU⟩ := hrel
    clear HU0 hmk
    by_cases hlt : k < n
    · have hC := HR.out k wr hlt HU.out.old
      clear HR
      go_wp2_with fail
      refine hC.mono ?_
      rintro e w2 ⟨g, c, rfl, hO, hb⟩
      have HU2 := hid (HU.out.below hb)
      have hGlt := HU.out.own.lt
      have hgb := hO.base
      have hgG : g ≠ w.heap.size := by omega
      have HU3 := hid (HU2.out.step hlt hgG (hO.low HU.out.old.size))
      have ck := HU2.out.own.cell hlt
      have fk := HU2.out.own.frozen k
      generalize hs[k]?.getD (none, 0, 0) = z at *
      obtain ⟨z1, z2, z3⟩ := z
      unfold hdV at ck
      simp only at ck
      clear hb hC HU HU2 hO hGlt hgb hgG
      go_wp2_with fail
      go_round
      case rel => exact ⟨k + 1, _, by omega, by go_num, HU3⟩
      case measure => simp [intOf]; omega
    · obtain rfl : k = n := by omega
      clear HR
      go_wp2
      go_ret
      exact ⟨_, _, rfl, HU.out⟩
end Go.Proofs.YtjgggialnegddaaGreat
namespace Go.Proofs.YtjgggialnegddaaGreat
open Go.RowKit
set_option linter.unusedVariables false
set_option maxRecDepth 1000000

/-- What a configuration's block holds, behind a call. -/
theorem Cf_keep {W W' : World} {g : Nat} {v0 v1 v2 v3 v4 v5 : Value} (hb : Below W.heap.size W W')
    (h : W.cell? ⟨g, 0, none⟩ = some v0 ∧ W.cell? ⟨g, 1, none⟩ = some v1 ∧ W.cell? ⟨g, 2, none⟩ = some v2 ∧ W.cell? ⟨g, 3, none⟩ = some v3 ∧ W.cell? ⟨g, 4, none⟩ = some v4 ∧ W.cell? ⟨g, 5, none⟩ = some v5) :
    W'.cell? ⟨g, 0, none⟩ = some v0 ∧ W'.cell? ⟨g, 1, none⟩ = some v1 ∧ W'.cell? ⟨g, 2, none⟩ = some v2 ∧ W'.cell? ⟨g, 3, none⟩ = some v3 ∧ W'.cell? ⟨g, 4, none⟩ = some v4 ∧ W'.cell? ⟨g, 5, none⟩ = some v5 :=
  ⟨(hb.cell (World.block_lt_of_cell? _ _ h.1)).trans h.1, (hb.cell (World.block_lt_of_cell? _ _ h.2.1)).trans h.2.1, (hb.cell (World.block_lt_of_cell? _ _ h.2.2.1)).trans h.2.2.1, (hb.cell (World.block_lt_of_cell? _ _ h.2.2.2.1)).trans h.2.2.2.1, (hb.cell (World.block_lt_of_cell? _ _ h.2.2.2.2.1)).trans h.2.2.2.2.1, (hb.cell (World.block_lt_of_cell? _ _ h.2.2.2.2.2)).trans h.2.2.2.2.2⟩
theorem token_no (p : Option Addr) (c : Cf) (t : Int) (w : World) (hp : MdAt w p c) (hb : t < 0 ∨ c.vocab ≤ t) (v0 : 0 ≤ c.vocab) (v1 : c.vocab ≤ 64) :
    Calls Tryz.prog 151 #[.pointer p, .int .i64 t] w fun e w' => e = .returned (.slice none 0 0) ∧ Below w.heap.size w w' := by
  have hC := config_any p c w hp
  obtain ⟨s, v, d, l, tt, h⟩ := c
  clear hp
  unfold CfV at hC
  simp only at hC hb v0 v1
  have hb : btw t 0 (v - 1) = false := btw_no.2 (by omega)
  go_enter Tryz.func151, Tryz.ntmps151
  go_wp2_with fail
  refine hC.mono ?_
  rintro e w1 ⟨rfl, hb1⟩
  have HB1 := hid hb1
  clear hb1 hC
  go_wp2_with fail
  refine (mbetween_any _ _ _ _).mono ?_
  rintro e w' ⟨rfl, rfl⟩
  rw [hb]
  go_wp2
  go_ret
  exact ⟨rfl, HB1.out.alloc HB1.out.size _⟩
theorem token_yes (p : Option Addr) (s v l tt h t : Int) (D : Nat) (w : World) (hp : MdAt w p ⟨s, v, D, l, tt, h⟩) (t0 : 0 ≤ t) (t1 : t < v) (v1 : v ≤ 64) (hD : D ≤ 16) :
    Calls Tryz.prog 151 #[.pointer p, .int .i64 t] w fun e w' => Made w D (rowK (fun k => weightZ s 0 t k) D) e w' := by
  have hC := config_any p _ w hp
  have HT := hid fun W => tableof_any ⟨s, v, D, l, tt, h⟩ 0 W (by omega) (by omega)
  have HR := hid fun W => makerow_any 181 (.agg #[.int .u64 (deriveZ s [0])]) (enters_of Tryz.func181 (by kernel_rfl) rfl) t D W (by omega) (fun k => weightZ s 0 t k) fun k wr hk hb => weight_any s 0 t k wr t0 (by omega) (by omega) (by omega)
  generalize rowK (fun k => weightZ s 0 t k) D = row at *
  clear hp
  unfold CfV at hC HT
  simp only at hC HT
  generalize deriveZ s [0] = x at *
  have hb : btw t 0 (v - 1) = true := btw_iff.2 (by omega)
  go_enter Tryz.func151, Tryz.ntmps151
  go_wp2_with fail
  refine hC.mono ?_
  rintro e w1 ⟨rfl, hb1⟩
  have HB1 := hid hb1
  have HN : Hid ((w1.alloc (.cells (CfV ⟨s, v, D, l, tt, h⟩) 24)).heap[w1.heap.size]? = some (.cells (CfV ⟨s, v, D, l, tt, h⟩) 24)) := heap_alloc_new w1 _
  have HK := hid (Cf_cells HN.out)
  unfold CfV at HK
  simp only at HK
  clear hb1 hC HN
  go_wp2_with fail
  refine (mbetween_any _ _ _ _).mono ?_
  rintro e w' ⟨rfl, rfl⟩
  rw [hb]
  have HB2 : Hid (Below w.heap.size w (w1.alloc (.cells #[.int .u64 s, .int .i64 v, .int .i64 D, .int .i64 l, .int .i64 tt, .int .i64 h] 24))) := HB1.out.alloc HB1.out.size _
  generalize hW : w1.alloc (.cells #[.int .u64 s, .int .i64 v, .int .i64 D, .int .i64 l, .int .i64 tt, .int .i64 h] 24) = W2 at *
  clear hW HB1
  go_wp2_with fail
  go_region_held3 (fun W : World => W.cell? ⟨w1.heap.size, 0, none⟩ = some (.int .u64 s) ∧ W.cell? ⟨w1.heap.size, 1, none⟩ = some (.int .i64 v) ∧ W.cell? ⟨w1.heap.size, 2, none⟩ = some (.int .i64 D) ∧ W.cell? ⟨w1.heap.size, 3, none⟩ = some (.int .i64 l) ∧ W.cell? ⟨w1.heap.size, 4, none⟩ = some (.int .i64 tt) ∧ W.cell? ⟨w1.heap.size, 5, none⟩ = some (.int .i64 h))
    (first | exact HK.out | exact Cf_keep hb4 (by assumption) | exact Cf_keep hb3 (by assumption))
    (first | (go_at_call 180; refine (HT.out _).mono ?_; rintro e w3 ⟨rfl, hb3⟩) | (go_at_call 179; refine (HR.out _).mono ?_; rintro e w4 ⟨g, c, rfl, hO, hb4⟩))
  have HB3 := hid (HB2.out.drew.trans (hb3.mono HB2.out.size))
  have HO := hid (hO.low HB3.out.size)
  have HB4 := hid (HB3.out.trans (hb4.mono HB3.out.size))
  clear hO hb3 hb4 HB2 HB3 HT HR HK
  go_wp2
  go_ret
  exact ⟨_, _, rfl, HO.out, HB4.out⟩
theorem place_off (p : Option Addr) (c : Cf) (t : Int) (w : World) (hp : MdAt w p c) (hb : mayB c = false) :
    Calls Tryz.prog 152 #[.pointer p, .int .i64 t] w fun e w' => e = .returned (.slice none 0 0) ∧ Below w.heap.size w w' := by
  have hC := config_any p c w hp
  have HM := hid (may_any c)
  obtain ⟨s, v, d, l, tt, h⟩ := c
  rw [hb] at HM
  clear hp hb
  unfold CfV at hC HM
  simp only at hC HM
  go_enter Tryz.func152, Tryz.ntmps152
  go_wp2_with fail
  refine hC.mono ?_
  rintro e w1 ⟨rfl, hb1⟩
  have HB1 := hid hb1
  clear hb1 hC
  go_wp2_with fail
  refine (HM.out _).mono ?_
  rintro e w2 ⟨rfl, hb2⟩
  have HB2 := hid ((HB1.out.alloc HB1.out.size _).trans (hb2.mono (Nat.le_trans HB1.out.size (by simp))))
  clear HB1 hb2 HM
  go_wp2
  go_ret
  exact ⟨rfl, HB2.out⟩
theorem place_no (p : Option Addr) (c : Cf) (t : Int) (w : World) (hp : MdAt w p c) (hm : mayB c = true) (hb : t < 0 ∨ 256 ≤ t) :
    Calls Tryz.prog 152 #[.pointer p, .int .i64 t] w fun e w' => e = .returned (.slice none 0 0) ∧ Below w.heap.size w w' := by
  have hC := config_any p c w hp
  have HM := hid (may_any c)
  obtain ⟨s, v, d, l, tt, h⟩ := c
  rw [hm] at HM
  clear hp hm
  have hb : btw t 0 255 = false := btw_no.2 (by omega)
  unfold CfV at hC HM
  simp only at hC HM
  go_enter Tryz.func152, Tryz.ntmps152
  go_wp2_with fail
  refine hC.mono ?_
  rintro e w1 ⟨rfl, hb1⟩
  have HB1 := hid hb1
  clear hb1 hC
  go_wp2_with fail
  refine (HM.out _).mono ?_
  rintro e w2 ⟨rfl, hb2⟩
  have HB2 := hid ((HB1.out.alloc HB1.out.size _).trans (hb2.mono (Nat.le_trans HB1.out.size (by simp))))
  clear HB1 hb2 HM
  go_wp2_with fail
  refine (mbetween_any _ _ _ _).mono ?_
  rintro e w' ⟨rfl, rfl⟩
  rw [hb]
  go_wp2
  go_ret
  exact ⟨rfl, HB2.out⟩
theorem place_yes (p : Option Addr) (s v l tt h t : Int) (D : Nat) (w : World) (hp : MdAt w p ⟨s, v, D, l, tt, h⟩) (hm : mayB ⟨s, v, D, l, tt, h⟩ = true) (t0 : 0 ≤ t) (t1 : t < 256) (hD : D ≤ 16) :
    Calls Tryz.prog 152 #[.pointer p, .int .i64 t] w fun e w' => Made w D (rowK (fun k => mulZ (weightZ s 1 t k) 16384) D) e w' := by
  have hC := config_any p _ w hp
  have HM := hid (may_any ⟨s, v, D, l, tt, h⟩)
  rw [hm] at HM
  have HT := hid fun W => tableof_any ⟨s, v, D, l, tt, h⟩ 1 W (by omega) (by omega)
  have HR := hid fun W => makerow_any 182 (.agg #[.int .u64 (deriveZ s [1])]) (enters_of Tryz.func182 (by kernel_rfl) rfl) t D W (by omega) (fun k => mulZ (weightZ s 1 t k) 16384) fun k wr hk hb => placeweight_any s 1 t k wr t0 (by omega) (by omega) (by omega)
  generalize rowK (fun k => mulZ (weightZ s 1 t k) 16384) D = row at *
  clear hp hm
  unfold CfV at hC HT HM
  simp only at hC HT HM
  generalize deriveZ s [1] = x at *
  have hb : btw t 0 255 = true := btw_iff.2 (by omega)
  go_enter Tryz.func152, Tryz.ntmps152
  go_wp2_with fail
  refine hC.mono ?_
  rintro e w1 ⟨rfl, hb1⟩
  have HB1 := hid hb1
  have HN : Hid ((w1.alloc (.cells (CfV ⟨s, v, D, l, tt, h⟩) 24)).heap[w1.heap.size]? = some (.cells (CfV ⟨s, v, D, l, tt, h⟩) 24)) := heap_alloc_new w1 _
  have HK := hid (Cf_cells HN.out)
  unfold CfV at HK
  simp only at HK
  clear hb1 hC HN
  go_wp2_with fail
  refine (HM.out _).mono ?_
  rintro e W2 ⟨rfl, hb2⟩
  have HB2 := hid ((HB1.out.alloc HB1.out.size _).trans (hb2.mono (Nat.le_trans HB1.out.size (by simp))))
  replace HK := hid (Cf_keep hb2 HK.out)
  clear HB1 hb2 HM
  go_wp2_with fail
  refine (mbetween_any _ _ _ _).mono ?_
  rintro e w' ⟨rfl, rfl⟩
  rename World => W2
  rw [hb]
  go_wp2_with fail
  go_region_held3 (fun W : World => W.cell? ⟨w1.heap.size, 0, none⟩ = some (.int .u64 s) ∧ W.cell? ⟨w1.heap.size, 1, none⟩ = some (.int .i64 v) ∧ W.cell? ⟨w1.heap.size, 2, none⟩ = some (.int .i64 D) ∧ W.cell? ⟨w1.heap.size, 3, none⟩ = some (.int .i64 l) ∧ W.cell? ⟨w1.heap.size, 4, none⟩ = some (.int .i64 tt) ∧ W.cell? ⟨w1.heap.size, 5, none⟩ = some (.int .i64 h))
    (first | exact HK.out | exact Cf_keep hb4 (by assumption) | exact Cf_keep hb3 (by assumption))
    (first | (go_at_call 180; refine (HT.out _).mono ?_; rintro e w3 ⟨rfl, hb3⟩) | (go_at_call 179; refine (HR.out _).mono ?_; rintro e w4 ⟨g, c, rfl, hO, hb4⟩))
  have HB3 := hid (HB2.out.drew.trans (hb3.mono HB2.out.size))
  have HO := hid (hO.low HB3.out.size)
  have HB4 := hid (HB3.out.trans (hb4.mono HB3.out.size))
  clear hO hb3 hb4 HB2 HB3 HT HR HK
  go_wp2
  go_ret
  exact ⟨_, _, rfl, HO.out, HB4.out⟩
theorem rows_no (p : Option Addr) (c : Cf) (la wh : Int) (w : World) (hp : MdAt w p c) (hb : (la < 0 ∨ c.layers ≤ la) ∨ (wh < 0 ∨ 5 < wh)) (v0 : 0 ≤ c.layers) (v1 : c.layers ≤ 4) :
    Calls Tryz.prog 208 #[.pointer p, .int .i64 la, .int .i64 wh] w fun e w' => e = .returned (.slice none 0 0) ∧ Below w.heap.size w w' := by
  have hC := config_any p c w hp
  obtain ⟨s, v, d, l, tt, h⟩ := c
  clear hp
  unfold CfV at hC
  simp only at hC hb v0 v1
  by_cases h1 : la < 0 ∨ l ≤ la
  · have hb : btw la 0 (l - 1) = false := btw_no.2 (by omega)
    clear h1
    go_enter Tryz.func208, Tryz.ntmps208
    go_wp2_with fail
    refine hC.mono ?_
    rintro e w1 ⟨rfl, hb1⟩
    have HB1 := hid hb1
    clear hb1 hC
    go_wp2_with fail
    refine (mbetween_any _ _ _ _).mono ?_
    rintro e w' ⟨rfl, rfl⟩
    rw [hb]
    go_wp2
    go_ret
    exact ⟨rfl, HB1.out.alloc HB1.out.size _⟩
  · have hb1 : btw la 0 (l - 1) = true := btw_iff.2 (by omega)
    have hb2 : btw wh 0 5 = false := btw_no.2 (by omega)
    clear h1 hb
    go_enter Tryz.func208, Tryz.ntmps208
    go_wp2_with fail
    refine hC.mono ?_
    rintro e w1 ⟨rfl, hbl⟩
    have HB1 := hid hbl
    clear hbl hC
    go_wp2_with fail
    refine (mbetween_any _ _ _ _).mono ?_
    rintro e w' ⟨rfl, rfl⟩
    rw [hb1]
    go_wp2_with fail
    refine (mbetween_any _ _ _ _).mono ?_
    rintro e w' ⟨rfl, rfl⟩
    rw [hb2]
    go_wp2
    go_ret
    exact ⟨rfl, HB1.out.alloc HB1.out.size _⟩
end Go.Proofs.YtjgggialnegddaaGreat
namespace Go.Proofs.YtjgggialnegddaaGreat
open Go.RowKit
set_option linter.unusedVariables false
set_option maxRecDepth 1000000

theorem wrap_in {n : Int} (h0 : -9223372036854775808 ≤ n) (h1 : n ≤ 9223372036854775807) : IntKind.i64.wrap n = n := by
  rw [IntKind.wrap_i64]; omega
theorem rows_yes (p : Option Addr) (s v l tt h la wh : Int) (D : Nat) (w : World) (hp : MdAt w p ⟨s, v, D, l, tt, h⟩) (l0 : 0 ≤ la) (l1 : la < l) (l2 : l ≤ 4) (k0 : 0 ≤ wh) (k1 : wh ≤ 5) (hD : D ≤ 16) :
    Calls Tryz.prog 208 #[.pointer p, .int .i64 la, .int .i64 wh] w fun e w' => MadeT w D D (fun r => rowK (fun k => weightZ s (2 + 6 * la + wh) r k) D) e w' := by
  have hC := config_any p _ w hp
  have HT := hid fun W => tableof_any ⟨s, v, D, l, tt, h⟩ (2 + 6 * la + wh) W (by omega) (by omega)
  have HR := hid fun W => makerows_any 181 (.agg #[.int .u64 (deriveZ s [2 + 6 * la + wh])]) (enters_of Tryz.func181 (by kernel_rfl) rfl) D D W (by omega) (by omega) (fun r k => weightZ s (2 + 6 * la + wh) r k) fun r k wr hr hk hb => weight_any s _ r k wr (by omega) (by omega) (by omega) (by omega)
  generalize (fun r : Nat => rowK (fun k => weightZ s (2 + 6 * la + wh) r k) D) = F at *
  clear hp
  unfold CfV at hC HT
  simp only at hC HT
  generalize deriveZ s [2 + 6 * la + wh] = x at *
  have hw : 2 + 6 * la + wh = IntKind.i64.wrap (IntKind.i64.wrap (2 + IntKind.i64.wrap (6 * la)) + wh) := by
    rw [wrap_in (n := 6 * la) (by omega) (by omega), wrap_in (n := 2 + 6 * la) (by omega) (by omega), wrap_in (by omega) (by omega)]
  rw [hw] at HT
  clear hw
  have hb1 : btw la 0 (l - 1) = true := btw_iff.2 (by omega)
  have hb2 : btw wh 0 5 = true := btw_iff.2 (by omega)
  go_enter Tryz.func208, Tryz.ntmps208
  go_wp2_with fail
  refine hC.mono ?_
  rintro e w1 ⟨rfl, hbl⟩
  have HB1 := hid hbl
  have HN : Hid ((w1.alloc (.cells (CfV ⟨s, v, D, l, tt, h⟩) 24)).heap[w1.heap.size]? = some (.cells (CfV ⟨s, v, D, l, tt, h⟩) 24)) := heap_alloc_new w1 _
  have HK := hid (Cf_cells HN.out)
  unfold CfV at HK
  simp only at HK
  clear hbl hC HN
  go_wp2_with fail
  refine (mbetween_any _ _ _ _).mono ?_
  rintro e w' ⟨rfl, rfl⟩
  rw [hb1]
  go_wp2_with fail
  refine (mbetween_any _ _ _ _).mono ?_
  rintro e w' ⟨rfl, rfl⟩
  rw [hb2]
  have HB2 : Hid (Below w.heap.size w (w1.alloc (.cells #[.int .u64 s, .int .i64 v, .int .i64 D, .int .i64 l, .int .i64 tt, .int .i64 h] 24))) := HB1.out.alloc HB1.out.size _
  generalize hW : w1.alloc (.cells #[.int .u64 s, .int .i64 v, .int .i64 D, .int .i64 l, .int .i64 tt, .int .i64 h] 24) = W2 at *
  clear hW HB1
  go_wp2_with fail
  go_region_held3 (fun W : World => W.cell? ⟨w1.heap.size, 0, none⟩ = some (.int .u64 s) ∧ W.cell? ⟨w1.heap.size, 1, none⟩ = some (.int .i64 v) ∧ W.cell? ⟨w1.heap.size, 2, none⟩ = some (.int .i64 D) ∧ W.cell? ⟨w1.heap.size, 3, none⟩ = some (.int .i64 l) ∧ W.cell? ⟨w1.heap.size, 4, none⟩ = some (.int .i64 tt) ∧ W.cell? ⟨w1.heap.size, 5, none⟩ = some (.int .i64 h))
    (first | exact HK.out | exact Cf_keep hb4 (by assumption) | exact Cf_keep hb3 (by assumption))
    (first | (go_at_call 180; refine (HT.out _).mono ?_; rintro e w3 ⟨rfl, hb3⟩) | (go_at_call 232; refine (HR.out _).mono ?_; rintro e w4 ⟨G, hs, rfl, hU⟩; have hb4 := hU.old))
  have HB3 := hid (HB2.out.drew.trans (hb3.mono HB2.out.size))
  have HU := hid (hU.low HB3.out)
  clear hU hb3 hb4 HB2 HB3 HT HR HK
  go_wp2
  go_ret
  exact ⟨_, _, rfl, HU.out⟩
end Go.Proofs.YtjgggialnegddaaGreat
namespace Go.Proofs.YtjgggialnegddaaGreat
open Go.RowKit
set_option linter.unusedVariables false
set_option maxRecDepth 1000000

/-- The slice's block is one of numbers. -/
def BlI (w : World) (a : Option Addr) : Prop := ∀ p, a = some p → ∃ cur fz, w.heap[p.block]? = some (.cells cur 2 fz)
theorem BlI.none (w : World) : BlI w none := fun p h => by cases h
theorem BlI.below {w w' : World} {a : Option Addr} (h : BlI w a) (hb : Below w.heap.size w w') : BlI w' a := fun p hp => by
  obtain ⟨cur, fz, hc⟩ := h p hp
  exact ⟨cur, fz, (hb.block _ (lt_of_block hc)).trans hc⟩
theorem BlI.own {w : World} {B n l c : Nat} {a : Option Addr} {xs : List Value} (h : w.ownsRow B 2 1 (.slice a l c) n xs) : BlI w a := by
  rcases h.2 with ⟨h', _⟩ | ⟨g, cap, cur, h', _, hg, _⟩
  · cases h'; exact BlI.none w
  · cases h'; intro p hp; cases hp; exact ⟨cur, (0, 0), hg⟩
/-- A row of the call's own, whose cells are these slices, and they read as these lists. -/
structure RowsI (w : World) (base : Nat) (v : Value) (n : Nat) (hs : List Hd) (ls : List (List Int)) : Prop where
  own : w.ownsRow base 131 1 v n (hs.map hdV)
  size : ls.length = n
  rows : ∀ j, j < n → Reads .i64 w (hs[j]?.getD (none, 0, 0)).1 (hs[j]?.getD (none, 0, 0)).2.1 (hs[j]?.getD (none, 0, 0)).2.2 (ls[j]?.getD []) ∧ BlI w (hs[j]?.getD (none, 0, 0)).1 ∧ (hs[j]?.getD (none, 0, 0)).2.1 ≤ 1000
theorem RowsI.nil (w : World) (base : Nat) : RowsI w base (.slice none 0 0) 0 [] [] := ⟨World.ownsRow_nil _ _ _ _, rfl, fun j hj => by omega⟩
theorem RowsI.below {w w' : World} {base : Nat} {v : Value} {n : Nat} {hs : List Hd} {ls : List (List Int)} (h : RowsI w base v n hs ls) (hb : Below w.heap.size w w') : RowsI w' base v n hs ls :=
  ⟨own_below h.own hb, h.size, fun j hj => ⟨(h.rows j hj).1.below hb, (h.rows j hj).2.1.below hb, (h.rows j hj).2.2⟩⟩
theorem RowsI.tbl {w : World} {base : Nat} {v : Value} {n : Nat} {hs : List Hd} {ls : List (List Int)} (h : RowsI w base v n hs ls) : ∃ a c, v = .slice a n c ∧ Tbl w a n c hs ls := by
  have hl : hs.length = n := by have := h.own.1; simpa using this
  rcases id h.own.2 with ⟨rfl, rfl⟩ | ⟨g, cap, cur, rfl, hb, hg, hnc, hm, hs', ht⟩
  · exact ⟨none, 0, rfl, ⟨hl, Nat.le_refl _, by omega, fun _ => ⟨rfl, rfl⟩, fun i hi => by omega⟩, fun i hi => (h.rows i hi).1, fun i hi => (h.rows i hi).2.2⟩
  · refine ⟨some ⟨g, 0, none⟩, cap, rfl, ⟨hl, hnc, by unfold maxLen at hm; omega, (fun e => by cases e), fun i hi => ⟨g, 0, rfl, ?_⟩⟩, fun i hi => (h.rows i hi).1, fun i hi => (h.rows i hi).2.2⟩
    have := World.ownsRow.cellAt h.own i (by omega)
    rw [Nat.zero_add, this]
    simp [(by omega : i < hs.length), hdV]
/-- A slice of numbers stays while a row of slices grows. -/
theorem Reads.kept {w w' : World} {base : Nat} {v : Value} {n : Nat} {vals : List Value} {a : Option Addr} {l c : Nat} {zs : List Int} (ho : w.ownsRow base 131 1 v n vals) (hg : w.grownBy w' v.ownBlock)
    (hr : Reads .i64 w a l c zs) (h5 : BlI w a) : Reads .i64 w' a l c zs ∧ BlI w' a := by
  have key : ∀ p, a = some p → w'.heap[p.block]? = w.heap[p.block]? := by
    intro p hp
    obtain ⟨cur, fz, hc⟩ := h5 p hp
    refine hg.block p.block (lt_of_block hc) ?_
    intro e
    rcases ho.2 with ⟨rfl, _⟩ | ⟨g, cap, cur', rfl, _, hgb, _⟩
    · simp [Value.ownBlock] at e
    · simp [Value.ownBlock] at e
      rw [e, hgb] at hc
      simp at hc
  refine ⟨⟨hr.size, hr.room, hr.most, hr.bare, fun i hi => ?_⟩, fun p hp => ?_⟩
  · obtain ⟨b, off, ha, hc⟩ := hr.cell i hi
    exact ⟨b, off, ha, (World.cell?_of_block (a := ⟨b, off + i, none⟩) (key ⟨b, off, none⟩ ha)).trans hc⟩
  · obtain ⟨cur, fz, hc⟩ := h5 p hp
    exact ⟨cur, fz, (key p hp).trans hc⟩
/-- An append of one slice to a row of slices of the call's own. -/
theorem append_rowI {P : Program} (w : World) {ops : Array Oper} {rest : List Oper} {o : Oper} {a : Act} {Q : Exit → Act → World → Prop} (hgd : o.guard = none) (s x : Operand) (t : TypeId)
    (ho : o.op = .call { callee := .builtin .append, args := #[s, x], argTypes := #[t, t] })
    (base : Nat) (i : TypeInfo) (ht : P.underlying t = some (.slice 131)) (hi : P.info? 131 = some i) (hz : i.zero = some (.slice none 0 0)) (hsize : i.size = 1) (hby : i.bytes = 24)
    (v : Value) (n : Nat) (hs : List Hd) (ls : List (List Int)) (hv : a.eval s = v) (hown : RowsI w base v n hs ls) (hn : n ≤ 100000)
    (B : Nat) (y : Hd) (zs : List Int) (hx : a.eval x = .slice (some ⟨B, 0, none⟩) 1 1) (hc : w.cell? ⟨B, 0, none⟩ = some (.slice y.1 y.2.1 y.2.2)) (hr : Reads .i64 w y.1 y.2.1 y.2.2 zs) (h5 : BlI w y.1) (hy : y.2.1 ≤ 1000)
    (hbase : base ≤ w.heap.size)
    (h : ∀ v' w', RowsI w' base v' (n + 1) (hs ++ [y]) (ls ++ [zs]) → Below base w w' → wpList P ops Q rest (a.put o.dst v') w') : wpList P ops Q (o :: rest) a w := by
  have hlen : hs.length = n := by have := hown.own.1; simpa using this
  refine wpList_append_own w hgd s x t ho base 131 i (.slice none 0 0) 1 24 ht hi hz hsize hby rfl (by decide) v n _ hv hown.own ⟨B, 0, none⟩ 1 1 [hdV y] hx rfl ?_ ?_ (by unfold maxLen; omega) (by omega) hbase ?_
  · intro j u hu
    rcases j with _ | j
    · simp at hu
      rw [Addr.add_lit, Nat.zero_add, hc, ← hu]
      rfl
    · simp at hu
  · intro u hu
    simp at hu
    subst hu
    rfl
  · intro v' w' h1 h2 _
    refine h v' w' ⟨by rw [List.map_append]; exact h1, by simp [hown.size], fun j hj => ?_⟩ ((Below.refl _ _).grown h2 hbase fun g hg => (hown.own.lt g hg).1)
    have hsz := hown.size
    rcases Nat.lt_or_ge j n with hj' | hj'
    · obtain ⟨e2, e3, e4⟩ := hown.rows j hj'
      obtain ⟨k1, k2⟩ := Reads.kept hown.own h2 e2 e3
      rw [List.getElem?_append_left (by omega), List.getElem?_append_left (by omega)]
      exact ⟨k1, k2, e4⟩
    · obtain rfl : j = n := by omega
      obtain ⟨k1, k2⟩ := Reads.kept hown.own h2 hr h5
      rw [List.getElem?_append_right (by omega), List.getElem?_append_right (by omega)]
      simp only [hlen, hsz, Nat.sub_self, List.getElem?_cons_zero, Option.getD_some]
      exact ⟨k1, k2, hy⟩
theorem tblK_len (F : Nat → List Int) (n : Nat) : (tblK F n).length = n := by simp [tblK]
theorem tblK_snoc (F : Nat → List Int) (n : Nat) : tblK F n ++ [F n] = tblK F (n + 1) := by unfold tblK; rw [List.range_succ, List.map_append]; rfl
/-- Of a row's places the first k are turned. -/
def overK (f h : Nat → Int) (k n : Nat) : List Int := rowK (fun j => if j < k then h j else f j) n
theorem overK_0 (f h : Nat → Int) (n : Nat) : overK f h 0 n = rowK f n := by unfold overK; congr 1
theorem rowK_at (f : Nat → Int) {n i : Nat} (hi : i < n) : (rowK f n)[i]?.getD 0 = f i := by simp [rowK, hi]
theorem overK_at (f h : Nat → Int) {k n : Nat} (hk : k < n) : (overK f h k n)[k]?.getD 0 = f k := by unfold overK; rw [rowK_at _ hk]; simp
theorem overK_set (f h : Nat → Int) {k n : Nat} (hk : k < n) : (overK f h k n).set k (h k) = overK f h (k + 1) n := by
  apply List.ext_getElem?
  intro i
  unfold overK rowK
  by_cases e : k = i
  · subst e; simp [hk]
  · rw [List.getElem?_set_ne e]
    by_cases hi : i < n
    · simp only [List.getElem?_map, List.getElem?_range hi, Option.map_some]
      by_cases h1 : i < k
      · rw [if_pos h1, if_pos (by omega)]
      · rw [if_neg h1, if_neg (by omega)]
    · simp [hi]
theorem overK_all (f h : Nat → Int) (n : Nat) : overK f h n n = rowK h n := by
  unfold overK rowK
  apply List.map_congr_left
  intro i hi
  simp at hi
  simp [hi]
end Go.Proofs.YtjgggialnegddaaGreat
namespace Go.Proofs.YtjgggialnegddaaGreat
open Go.RowKit
set_option linter.unusedVariables false
set_option maxRecDepth 1000000

/-- The call hands back a row of its own. -/
def GivesO (w : World) (n : Nat) (xs : List Int) (e : Ending) (w' : World) : Prop := ∃ v, e = .returned v ∧ w'.ownsRow w.heap.size 2 1 v n (xs.map (Value.int .i64)) ∧ Below w.heap.size w w'
theorem GivesO.gives {w w' : World} {n : Nat} {xs : List Int} {e : Ending} (h : GivesO w n xs e w') : Gives w n xs e w' := by
  obtain ⟨v, rfl, h1, h2⟩ := h
  exact gives_own h1 h2
theorem own_base {base base' e size n : Nat} {v : Value} {xs : List Value} {w : World} (h : w.ownsRow base e size v n xs) (hb : base' ≤ base) : w.ownsRow base' e size v n xs := by
  refine ⟨h.1, ?_⟩
  rcases h.2 with h' | ⟨g', c, cur, hv, hB, rest⟩
  · exact .inl h'
  · exact .inr ⟨g', c, cur, hv, Nat.le_trans hb hB, rest⟩

set_option maxHeartbeats 1000000 in
theorem rrow_any (s v l tt h t r : Int) (D : Nat) (w : World) (t0 : 0 ≤ t) (t1 : t ≤ 1000) (r0 : 0 ≤ r) (r1 : r ≤ 1000) (hD : D ≤ 16) :
    Calls Tryz.prog 100 #[.agg (CfV ⟨s, v, D, l, tt, h⟩), .int .i64 t, .int .i64 r] w fun e w' => GivesO w D (rowK (fun k => weightZ s t r k) D) e w' := by
  obtain ⟨i0, hi, hz0, hz1, hz2⟩ := info_parts Tryz.info2
  obtain ⟨f, hf⟩ : ∃ f : Nat → Int, f = fun (k : Nat) => weightZ s t r k := ⟨_, rfl⟩
  rw [← hf]
  have HC : Hid (∀ (k : Nat) (W : World), k < D → Calls Tryz.prog 142 #[.int .u64 s, .int .i64 t, .int .i64 r, .int .i64 k] W fun e w' => e = .returned (.int .i64 (f k)) ∧ Below W.heap.size W w') := by
    intro k W hk
    rw [hf]
    exact rweight_any s t r k W t0 t1 r0 r1 (by omega) (by omega)
  have HK := hid fun (W : World) (hb : Below (w.heap.size + 1) (w.alloc (.cells (CfV ⟨s, v, D, l, tt, h⟩) 24)) W) => Cf_cells ((hb.block w.heap.size (by omega)).trans (heap_alloc_new w _))
  have HB0 : Hid (∀ W, Below (w.heap.size + 1) (w.alloc (.cells (CfV ⟨s, v, D, l, tt, h⟩) 24)) W → w.heap.size + 1 ≤ W.heap.size ∧ Below w.heap.size w W) := fun W hb =>
    ⟨by have := hb.size; simpa using this, ((Below.refl _ _).alloc (Nat.le_refl _) _).trans (hb.mono (by omega))⟩
  clear hf
  unfold CfV at HK HB0 ⊢
  simp only at HK HB0 ⊢
  go_enter Tryz.func100, Tryz.ntmps100
  go_wp2_with fail
  go_loopw [7, 8] (fun u i W => ∃ k : Nat, k ≤ D ∧ i = .int .i64 k ∧ Hid (W.ownsRow (w.heap.size + 1) 2 1 u k ((rowK f k).map (Value.int .i64))) ∧ Hid (Below (w.heap.size + 1) (w.alloc (.cells #[.int .u64 s, .int .i64 v, .int .i64 D, .int .i64 l, .int .i64 tt, .int .i64 h] 24)) W)) (fun _ i _ => D - (intOf i).toNat)
  case atStart => exact ⟨0, Nat.zero_le _, rfl, World.ownsRow_nil _ _ _ _, Below.refl _ _⟩
  case round =>
    obtain ⟨k, hk, rfl, HO, HW⟩ := hrel
    obtain ⟨c0, c1, c2, c3, c4, c5⟩ := HK.out wr HW.out
    by_cases hlt : k < D
    · have hC := HC.out k wr hlt
      have q1 : (k : Int) < (D : Int) := by omega
      have HE := hid (rowK_snoc f k)
      clear HC HK
      generalize f k = x at *
      generalize rowK f k = us at *
      go_wp2_with fail
      refine hC.mono ?_
      rintro e w2 ⟨rfl, hb2⟩
      have HO2 := hid (own_below HO.out hb2)
      have HW2 := hid (HW.out.trans (hb2.mono (HB0.out _ HW.out).1))
      have HS : Hid (w.heap.size + 1 ≤ w2.heap.size) := (HB0.out _ HW2.out).1
      clear hb2 hC c0 c1 c2 c3 c4 c5 HO HW
      go_wp2_with (at_builtin; refine append_any _ rfl (.tmp 15) (.tmp 22) 131 rfl (w.heap.size + 1) 2 i0 (.int .i64 0) 8 Tryz.underlying131 hi hz0 hz1 hz2 rfl .i64 _ k us rfl (HO2.out.alloc _) _ 1 1 [x] rfl (Reads.one _ _ _) (by omega) (by omega) (Nat.le_trans HS.out (by simp)) ?_; intro v' w3 hO3 hb3)
      have HB3 := hid ((HW2.out.alloc HS.out _).trans hb3)
      have HO3 : Hid (w3.ownsRow (w.heap.size + 1) 2 1 v' (k + 1) ((rowK f (k + 1)).map (Value.int .i64))) := by rw [← HE.out]; exact hO3
      clear hO3 hb3 HE HO2 HW2 HS
      go_wp2_with fail
      go_round
      case rel => exact ⟨k + 1, by omega, by go_num, HO3, HB3⟩
      case measure => simp [intOf]; omega
    · obtain rfl : k = D := by omega
      clear HC HK
      go_wp2
      go_ret
      exact ⟨_, rfl, own_base HO.out (by omega), (HB0.out _ HW.out).2⟩

theorem rtoken_no (c : Cf) (t : Int) (w : World) (hb : t < 0 ∨ c.vocab ≤ t) :
    Calls Tryz.prog 72 #[.agg (CfV c), .int .i64 t] w fun e w' => e = .returned (.slice none 0 0) ∧ Below w.heap.size w w' := by
  obtain ⟨s, v, d, l, tt, h⟩ := c
  unfold CfV
  simp only at hb ⊢
  have HB : Hid (Below w.heap.size w (w.alloc (.cells #[.int .u64 s, .int .i64 v, .int .i64 d, .int .i64 l, .int .i64 tt, .int .i64 h] 24))) := (Below.refl _ _).alloc (Nat.le_refl _) _
  by_cases h1 : t < 0
  · clear hb
    go_enter Tryz.func72, Tryz.ntmps72
    go_wp2
    go_ret
    exact ⟨rfl, HB.out⟩
  · have h2 : v ≤ t := by omega
    clear hb
    go_enter Tryz.func72, Tryz.ntmps72
    go_wp2
    go_ret
    exact ⟨rfl, HB.out⟩
theorem rtoken_yes (s v l tt h t : Int) (D : Nat) (w : World) (t0 : 0 ≤ t) (t1 : t < v) (v1 : v ≤ 64) (hD : D ≤ 16) :
    Calls Tryz.prog 72 #[.agg (CfV ⟨s, v, D, l, tt, h⟩), .int .i64 t] w fun e w' => GivesO w D (rowK (fun k => weightZ s 0 t k) D) e w' := by
  have hC := rrow_any s v l tt h 0 t D (w.alloc (.cells (CfV ⟨s, v, D, l, tt, h⟩) 24)) (by omega) (by omega) t0 (by omega) hD
  have HB : Hid (Below w.heap.size w (w.alloc (.cells (CfV ⟨s, v, D, l, tt, h⟩) 24))) := (Below.refl _ _).alloc (Nat.le_refl _) _
  generalize rowK (fun k => weightZ s 0 t k) D = row at *
  unfold CfV at *
  simp only at hC HB ⊢
  go_enter Tryz.func72, Tryz.ntmps72
  go_wp2_with fail
  refine hC.mono ?_
  rintro e w1 ⟨v', rfl, hO, hb⟩
  have HO := hid (own_base hO HB.out.size)
  have HB1 := hid (HB.out.trans (hb.mono HB.out.size))
  clear hO hb hC HB
  go_wp2
  go_ret
  exact ⟨_, rfl, HO.out, HB1.out⟩
theorem rplace_no (c : Cf) (t : Int) (w : World) (hb : t < 0 ∨ 256 ≤ t) :
    Calls Tryz.prog 73 #[.agg (CfV c), .int .i64 t] w fun e w' => e = .returned (.slice none 0 0) ∧ Below w.heap.size w w' := by
  obtain ⟨s, v, d, l, tt, h⟩ := c
  unfold CfV
  simp only at hb ⊢
  have HB : Hid (Below w.heap.size w (w.alloc (.cells #[.int .u64 s, .int .i64 v, .int .i64 d, .int .i64 l, .int .i64 tt, .int .i64 h] 24))) := (Below.refl _ _).alloc (Nat.le_refl _) _
  by_cases h1 : t < 0
  · clear hb
    go_enter Tryz.func73, Tryz.ntmps73
    go_wp2
    go_ret
    exact ⟨rfl, HB.out⟩
  · have h2 : 256 ≤ t := by omega
    clear hb
    go_enter Tryz.func73, Tryz.ntmps73
    go_wp2
    go_ret
    exact ⟨rfl, HB.out⟩
theorem ownK_of {base n : Nat} {v : Value} {xs : List Int} {w : World} (h : w.ownsRow base 2 1 v n (xs.map (Value.int .i64))) (hn : 1 ≤ n) : ∃ g c, v = .slice (some ⟨g, 0, none⟩) n c ∧ OwnK 2 base g n c xs w := by
  rcases id h.2 with ⟨rfl, rfl⟩ | ⟨g, cap, cur, rfl, rest⟩
  · omega
  · exact ⟨g, cap, rfl, h⟩
theorem rplace_yes (s v l tt h t : Int) (D : Nat) (w : World) (t0 : 0 ≤ t) (t1 : t < 256) (hD : D ≤ 16) (hD1 : 1 ≤ D) :
    Calls Tryz.prog 73 #[.agg (CfV ⟨s, v, D, l, tt, h⟩), .int .i64 t] w fun e w' => Gives w D (rowK (fun k => mulZ (weightZ s 1 t k) 16384) D) e w' := by
  have hC := rrow_any s v l tt h 1 t D (w.alloc (.cells (CfV ⟨s, v, D, l, tt, h⟩) 24)) (by omega) (by omega) t0 (by omega) hD
  have HB : Hid (Below w.heap.size w (w.alloc (.cells (CfV ⟨s, v, D, l, tt, h⟩) 24))) := (Below.refl _ _).alloc (Nat.le_refl _) _
  obtain ⟨f, hf⟩ : ∃ f : Nat → Int, f = fun (k : Nat) => weightZ s 1 t k := ⟨_, rfl⟩
  rw [← hf] at hC
  have e2 : (fun k : Nat => mulZ (weightZ s 1 t k) 16384) = fun k => mulZ (f k) 16384 := by rw [hf]
  rw [e2]
  clear hf e2
  unfold CfV at *
  simp only at hC HB ⊢
  go_enter Tryz.func73, Tryz.ntmps73
  go_wp2_with fail
  refine hC.mono ?_
  rintro e w1 ⟨v', rfl, hO, hb⟩
  obtain ⟨g, cap, rfl, hO1⟩ := ownK_of (own_base hO HB.out.size) hD1
  have HO : Hid (OwnK 2 w.heap.size g D cap (overK f (fun k => mulZ (f k) 16384) 0 D) w1) := by rw [overK_0]; exact hO1
  have HB1 := hid (HB.out.trans (hb.mono HB.out.size))
  have hcap := hO1.reads.room
  have hcap2 := hO1.reads.most
  clear hO hO1 hb hC HB
  go_wp2_with fail
  go_loopw [6] (fun i W => ∃ k : Nat, k ≤ D ∧ i = .int .i64 k ∧ Hid (OwnK 2 w.heap.size g D cap (overK f (fun k => mulZ (f k) 16384) k D) W) ∧ Hid (Below w.heap.size w W)) (fun i _ => D - (intOf i).toNat)
  case atStart => exact ⟨0, Nat.zero_le _, rfl, HO, HB1⟩
  case round =>
    obtain ⟨k, hk, rfl, HOk, HW⟩ := hrel
    clear HO HB1
    by_cases hlt : k < D
    · have ck := HOk.out.cell hlt
      rw [overK_at _ _ hlt] at ck
      have fk := HOk.out.frozen k
      have HO2 : Hid (OwnK 2 w.heap.size g D cap (overK f (fun k => mulZ (f k) 16384) (k + 1) D) (wr.setCell ⟨g, k, none⟩ (.int .i64 (mulZ (f k) 16384)))) := by
        have := HOk.out.set k (mulZ (f k) 16384)
        rw [overK_set f (fun k => mulZ (f k) 16384) hlt] at this
        exact this
      have HB2 := hid (HW.out.setCell (p := ⟨g, k, none⟩) HOk.out.base (.int .i64 (mulZ (f k) 16384)))
      have q1 : (k : Int) < (D : Int) := by omega
      clear HOk HW
      go_wp2_with fail
      refine (rmul_any _ _ _).mono ?_
      rintro e w' ⟨rfl, rfl⟩
      go_wp2_with fail
      go_round
      case rel => exact ⟨k + 1, by omega, by go_num, HO2, HB2⟩
      case measure => simp [intOf]; omega
    · obtain rfl : k = D := by omega
      have HO3 : Hid (OwnK 2 w.heap.size g k cap (rowK (fun k => mulZ (f k) 16384) k) wr) := by
        have := HOk.out
        rw [overK_all] at this
        exact this
      clear HOk
      go_wp2
      go_ret
      exact ⟨_, _, rfl, HO3.out.reads, HW.out⟩
theorem rrows_no (c : Cf) (la wh : Int) (w : World) (hb : (la < 0 ∨ c.layers ≤ la) ∨ (wh < 0 ∨ 5 < wh)) :
    Calls Tryz.prog 132 #[.agg (CfV c), .int .i64 la, .int .i64 wh] w fun e w' => e = .returned (.slice none 0 0) ∧ Below w.heap.size w w' := by
  obtain ⟨s, v, d, l, tt, h⟩ := c
  unfold CfV
  simp only at hb ⊢
  have HB : Hid (Below w.heap.size w (w.alloc (.cells #[.int .u64 s, .int .i64 v, .int .i64 d, .int .i64 l, .int .i64 tt, .int .i64 h] 24))) := (Below.refl _ _).alloc (Nat.le_refl _) _
  by_cases h1 : la < 0
  · clear hb
    go_enter Tryz.func132, Tryz.ntmps132
    go_wp2
    go_ret
    exact ⟨rfl, HB.out⟩
  · by_cases h2 : l ≤ la
    · clear hb
      go_enter Tryz.func132, Tryz.ntmps132
      go_wp2
      go_ret
      exact ⟨rfl, HB.out⟩
    · by_cases h3 : wh < 0
      · clear hb
        go_enter Tryz.func132, Tryz.ntmps132
        go_wp2
        go_ret
        exact ⟨rfl, HB.out⟩
      · have h4 : 5 < wh := by omega
        clear hb
        go_enter Tryz.func132, Tryz.ntmps132
        go_wp2
        go_ret
        exact ⟨rfl, HB.out⟩
end Go.Proofs.YtjgggialnegddaaGreat
namespace Go.Proofs.YtjgggialnegddaaGreat
open Go.RowKit
set_option linter.unusedVariables false
set_option maxRecDepth 1000000

/-- The call hands back a table. -/
def GivesT (w : World) (n : Nat) (ls : List (List Int)) (e : Ending) (w' : World) : Prop := ∃ a c hs, e = .returned (.slice a n c) ∧ Tbl w' a n c hs ls ∧ Below w.heap.size w w'
theorem MadeT.gives {w w' : World} {n m : Nat} {F : Nat → List Int} {e : Ending} (h : MadeT w n m F e w') (hm : m ≤ 1000) : GivesT w n (tblK F n) e w' := by
  obtain ⟨G, hs, rfl, hU⟩ := h
  exact ⟨_, _, hs, rfl, hU.tbl hm, hU.old⟩
set_option maxHeartbeats 1000000 in
theorem rrows_yes (s v l tt h la wh : Int) (D : Nat) (w : World) (l0 : 0 ≤ la) (l1 : la < l) (l2 : l ≤ 4) (k0 : 0 ≤ wh) (k1 : wh ≤ 5) (hD : D ≤ 16) :
    Calls Tryz.prog 132 #[.agg (CfV ⟨s, v, D, l, tt, h⟩), .int .i64 la, .int .i64 wh] w fun e w' => GivesT w D (tblK (fun r => rowK (fun k => weightZ s (2 + 6 * la + wh) r k) D) D) e w' := by
  obtain ⟨i0, hi, hz0, hz1, hz2⟩ := info_parts Tryz.infoS
  obtain ⟨F, hF⟩ : ∃ F : Nat → List Int, F = fun (r : Nat) => rowK (fun k => weightZ s (2 + 6 * la + wh) r k) D := ⟨_, rfl⟩
  rw [← hF]
  have HC : Hid (∀ (r : Nat) (W : World), r < D → Calls Tryz.prog 100 #[.agg (CfV ⟨s, v, D, l, tt, h⟩), .int .i64 (2 + 6 * la + wh), .int .i64 r] W fun e w' => GivesO W D (F r) e w') := by
    intro r W hr
    rw [hF]
    exact rrow_any s v l tt h _ r D W (by omega) (by omega) (by omega) (by omega) hD
  have HK := hid fun (W : World) (hb : Below (w.heap.size + 1) (w.alloc (.cells (CfV ⟨s, v, D, l, tt, h⟩) 24)) W) => Cf_cells ((hb.block w.heap.size (by omega)).trans (heap_alloc_new w _))
  have HB0 : Hid (∀ W, Below (w.heap.size + 1) (w.alloc (.cells (CfV ⟨s, v, D, l, tt, h⟩) 24)) W → w.heap.size + 1 ≤ W.heap.size ∧ Below w.heap.size w W) := fun W hb =>
    ⟨by have := hb.size; simpa using this, ((Below.refl _ _).alloc (Nat.le_refl _) _).trans (hb.mono (by omega))⟩
  clear hF
  unfold CfV at HK HB0 HC ⊢
  simp only at HK HB0 HC ⊢
  go_enter Tryz.func132, Tryz.ntmps132
  go_wp2_with fail
  go_loopw [7, 8] (fun u i W => ∃ (k : Nat) (hs : List Hd), k ≤ D ∧ i = .int .i64 k ∧ Hid (RowsI W (w.heap.size + 1) u k hs (tblK F k)) ∧ Hid (Below (w.heap.size + 1) (w.alloc (.cells #[.int .u64 s, .int .i64 v, .int .i64 D, .int .i64 l, .int .i64 tt, .int .i64 h] 24)) W)) (fun _ i _ => D - (intOf i).toNat)
  case atStart => exact ⟨0, [], Nat.zero_le _, rfl, RowsI.nil _ _, Below.refl _ _⟩
  case round =>
    obtain ⟨k, hs, hk, rfl, HO, HW⟩ := hrel
    obtain ⟨c0, c1, c2, c3, c4, c5⟩ := HK.out wr HW.out
    by_cases hlt : k < D
    · have hC := HC.out k wr hlt
      have q1 : (k : Int) < (D : Int) := by omega
      have HE := hid (tblK_snoc F k)
      clear HC HK
      generalize F k = x at *
      generalize tblK F k = us at *
      go_wp2_with fail
      refine hC.mono ?_
      rintro e w2 ⟨v2, rfl, hO2, hb2⟩
      have HO2 := hid (HO.out.below hb2)
      have HW2 := hid (HW.out.trans (hb2.mono (HB0.out _ HW.out).1))
      have HS : Hid (w.heap.size + 1 ≤ w2.heap.size) := (HB0.out _ HW2.out).1
      obtain ⟨a2, n2, rfl, hr2⟩ := Reads.own (k := .i64) hO2
      have HR2 := hid hr2
      have HI2 := hid (BlI.own hO2)
      clear hb2 hC c0 c1 c2 c3 c4 c5 HO HW hO2 hr2
      have hal : Hid (∀ o, Below w2.heap.size w2 (w2.alloc o)) := fun o => (Below.refl _ _).alloc (Nat.le_refl _) _
      go_wp2_with (at_builtin; refine append_rowI _ rfl (.tmp 31) (.tmp 40) 132 rfl (w.heap.size + 1) i0 Tryz.underlying132 hi hz0 hz1 hz2 _ k hs us rfl (HO2.out.below (hal.out _)) (by omega) w2.heap.size (a2, D, n2) x rfl (by simp) (HR2.out.below (hal.out _)) (HI2.out.below (hal.out _)) (by simp only; omega) (Nat.le_trans HS.out (by simp)) ?_; intro v' w3 hO3 hb3)
      have HB3 := hid ((HW2.out.alloc HS.out _).trans hb3)
      have HO3 : Hid (RowsI w3 (w.heap.size + 1) v' (k + 1) (hs ++ [(a2, D, n2)]) (tblK F (k + 1))) := by rw [← HE.out]; exact hO3
      clear hO3 hb3 HE HO2 HW2 HS HR2 HI2 hal
      go_wp2_with fail
      go_round
      case rel => exact ⟨k + 1, _, by omega, by go_num, HO3, HB3⟩
      case measure => simp [intOf]; omega
    · obtain rfl : k = D := by omega
      obtain ⟨ra, rc, rfl, hT⟩ := HO.out.tbl
      have HT := hid hT
      clear HC HK hT HO
      go_wp2
      go_ret
      exact ⟨_, _, hs, rfl, HT.out, (HB0.out _ HW.out).2⟩

theorem may_al : mayB ⟨0, 2, 1, 1, 1, 0⟩ = true := by decide
end Go.Proofs.YtjgggialnegddaaGreat
namespace Go.Proofs.YtjgggialnegddaaGreat
open Go.RowKit
set_option linter.unusedVariables false
set_option maxRecDepth 1000000

end Go.Proofs.YtjgggialnegddaaGreat
namespace Go.Proofs.YtjgggialnegddaaGreat
open Go.RowKit
set_option linter.unusedVariables false
set_option maxRecDepth 1000000

/-- A token's vector, nothing of none that is there. -/
def tokL (c : Cf) (t : Int) : List Int := if 0 ≤ t ∧ t < c.vocab then rowK (fun k => weightZ c.seed 0 t k) c.dim.toNat else []
/-- A place's vector. -/
def plL (c : Cf) (p : Int) : List Int := if 0 ≤ p ∧ p < 256 then rowK (fun k => mulZ (weightZ c.seed 1 p k) 16384) c.dim.toNat else []
/-- A layer's table. -/
def tabL (c : Cf) (la wh : Int) : List (List Int) := if 0 ≤ la ∧ la < c.layers ∧ 0 ≤ wh ∧ wh ≤ 5 then tblK (fun r => rowK (fun k => weightZ c.seed (2 + 6 * la + wh) r k) c.dim.toNat) c.dim.toNat else []

theorem may_parts {c : Cf} (h : mayB c = true) : 2 ≤ c.vocab ∧ c.vocab ≤ 64 ∧ 1 ≤ c.dim ∧ c.dim ≤ 16 ∧ 1 ≤ c.layers ∧ c.layers ≤ 4 := by
  unfold mayB at h
  simp only [Bool.and_eq_true, btw_iff] at h
  omega
theorem tokL_len {c : Cf} (h : mayB c = true) (t : Int) : (tokL c t).length ≤ 16 := by
  have := may_parts h
  unfold tokL
  split
  · rw [rowK_len]; omega
  · simp
theorem plL_len {c : Cf} (h : mayB c = true) (t : Int) : (plL c t).length ≤ 16 := by
  have := may_parts h
  unfold plL
  split
  · rw [rowK_len]; omega
  · simp
theorem tabL_len {c : Cf} (h : mayB c = true) (la wh : Int) : (tabL c la wh).length ≤ 16 := by
  have := may_parts h
  unfold tabL
  split
  · rw [tblK_len]; omega
  · simp

theorem Made.giveso {w w' : World} {n : Nat} {xs : List Int} {e : Ending} (h : Made w n xs e w') : GivesO w n xs e w' := by
  obtain ⟨g, c, rfl, hO, hb⟩ := h
  exact ⟨_, rfl, hO, hb⟩
theorem giveso_nil {w w' : World} {e : Ending} (h : e = .returned (.slice none 0 0) ∧ Below w.heap.size w w') : GivesO w 0 [] e w' := ⟨_, h.1, World.ownsRow_nil _ _ _ _, h.2⟩
theorem givest_nil {w w' : World} {e : Ending} (h : e = .returned (.slice none 0 0) ∧ Below w.heap.size w w') : GivesT w 0 [] e w' :=
  ⟨none, 0, [], h.1, ⟨⟨rfl, Nat.le_refl _, by omega, fun _ => ⟨rfl, rfl⟩, fun i hi => by omega⟩, fun i hi => by omega, fun i hi => by omega⟩, h.2⟩

theorem cf_dim {c : Cf} (h : mayB c = true) : ∃ D : Nat, c = ⟨c.seed, c.vocab, (D : Int), c.layers, c.top, c.heat⟩ ∧ c.dim.toNat = D ∧ 1 ≤ D ∧ D ≤ 16 := by
  have := may_parts h
  refine ⟨c.dim.toNat, ?_, rfl, by omega, by omega⟩
  rw [Int.toNat_of_nonneg (by omega)]

theorem token_g (p : Option Addr) (c : Cf) (t : Int) (w : World) (hp : MdAt w p c) (hc : mayB c = true) :
    Calls Tryz.prog 151 #[.pointer p, .int .i64 t] w fun e w' => GivesO w (tokL c t).length (tokL c t) e w' := by
  have hm := may_parts hc
  obtain ⟨D, hD, hD2, h1, h16⟩ := cf_dim hc
  unfold tokL
  by_cases h : 0 ≤ t ∧ t < c.vocab
  · rw [if_pos h, rowK_len, hD2]
    rw [hD] at hp
    exact (token_yes p _ _ _ _ _ t D w hp h.1 h.2 hm.2.1 h16).mono fun e w' h => h.giveso
  · rw [if_neg h]
    exact (token_no p c t w hp (by omega) (by omega) (by omega)).mono fun e w' h => giveso_nil h
theorem place_g (p : Option Addr) (c : Cf) (t : Int) (w : World) (hp : MdAt w p c) (hc : mayB c = true) :
    Calls Tryz.prog 152 #[.pointer p, .int .i64 t] w fun e w' => GivesO w (plL c t).length (plL c t) e w' := by
  have hm := may_parts hc
  obtain ⟨D, hD, hD2, h1, h16⟩ := cf_dim hc
  unfold plL
  by_cases h : 0 ≤ t ∧ t < 256
  · rw [if_pos h, rowK_len, hD2]
    rw [hD] at hp hc
    exact (place_yes p _ _ _ _ _ t D w hp hc h.1 h.2 h16).mono fun e w' h => h.giveso
  · rw [if_neg h]
    exact (place_no p c t w hp hc (by omega)).mono fun e w' h => giveso_nil h
theorem rows_g (p : Option Addr) (c : Cf) (la wh : Int) (w : World) (hp : MdAt w p c) (hc : mayB c = true) :
    Calls Tryz.prog 208 #[.pointer p, .int .i64 la, .int .i64 wh] w fun e w' => GivesT w (tabL c la wh).length (tabL c la wh) e w' := by
  have hm := may_parts hc
  obtain ⟨D, hD, hD2, h1, h16⟩ := cf_dim hc
  unfold tabL
  by_cases h : 0 ≤ la ∧ la < c.layers ∧ 0 ≤ wh ∧ wh ≤ 5
  · rw [if_pos h, tblK_len, hD2]
    rw [hD] at hp
    exact (rows_yes p _ _ _ _ _ la wh D w hp h.1 h.2.1 hm.2.2.2.2.2 h.2.2.1 h.2.2.2 h16).mono fun e w' h => h.gives (by omega)
  · rw [if_neg h]
    exact (rows_no p c la wh w hp (by omega) (by omega) (by omega)).mono fun e w' h => givest_nil h
theorem rtoken_g (c : Cf) (t : Int) (w : World) (hc : mayB c = true) :
    Calls Tryz.prog 72 #[.agg (CfV c), .int .i64 t] w fun e w' => GivesO w (tokL c t).length (tokL c t) e w' := by
  have hm := may_parts hc
  obtain ⟨D, hD, hD2, h1, h16⟩ := cf_dim hc
  unfold tokL
  by_cases h : 0 ≤ t ∧ t < c.vocab
  · rw [if_pos h, rowK_len, hD2]
    have := rtoken_yes c.seed c.vocab c.layers c.top c.heat t D w h.1 h.2 hm.2.1 h16
    rw [← hD] at this
    exact this
  · rw [if_neg h]
    exact (rtoken_no c t w (by omega)).mono fun e w' h => giveso_nil h
theorem rplace_g (c : Cf) (t : Int) (w : World) (hc : mayB c = true) :
    Calls Tryz.prog 73 #[.agg (CfV c), .int .i64 t] w fun e w' => Gives w (plL c t).length (plL c t) e w' := by
  have hm := may_parts hc
  obtain ⟨D, hD, hD2, h1, h16⟩ := cf_dim hc
  unfold plL
  by_cases h : 0 ≤ t ∧ t < 256
  · rw [if_pos h, rowK_len, hD2]
    have := rplace_yes c.seed c.vocab c.layers c.top c.heat t D w h.1 h.2 h16 h1
    rw [← hD] at this
    exact this
  · rw [if_neg h]
    exact (rplace_no c t w (by omega)).mono fun e w' h => (giveso_nil h).gives
theorem rrows_g (c : Cf) (la wh : Int) (w : World) (hc : mayB c = true) :
    Calls Tryz.prog 132 #[.agg (CfV c), .int .i64 la, .int .i64 wh] w fun e w' => GivesT w (tabL c la wh).length (tabL c la wh) e w' := by
  have hm := may_parts hc
  obtain ⟨D, hD, hD2, h1, h16⟩ := cf_dim hc
  unfold tabL
  by_cases h : 0 ≤ la ∧ la < c.layers ∧ 0 ≤ wh ∧ wh ≤ 5
  · rw [if_pos h, tblK_len, hD2]
    have := rrows_yes c.seed c.vocab c.layers c.top c.heat la wh D w h.1 h.2.1 hm.2.2.2.2.2 h.2.2.1 h.2.2.2 h16
    rw [← hD] at this
    exact this
  · rw [if_neg h]
    exact (rrows_no c la wh w (by omega)).mono fun e w' h => givest_nil h

theorem Tryz.cellsI : Tryz.prog.cellsOf 3 = 1 := by kernel_rfl
theorem Tryz.cellsU : Tryz.prog.cellsOf 22 = 1 := by kernel_rfl
theorem Tryz.cellsC : Tryz.prog.cellsOf 24 = 6 := by kernel_rfl
theorem array6 {α : Type} {cs : Array α} (h : cs.size = 6) : ∃ c0 c1 c2 c3 c4 c5, cs = #[c0, c1, c2, c3, c4, c5] := by
  obtain ⟨l⟩ := cs
  match l, h with
  | [c0, c1, c2, c3, c4, c5], _ => exact ⟨c0, c1, c2, c3, c4, c5, rfl⟩
theorem array2 {α : Type} {cs : Array α} (h : cs.size = 2) : ∃ c0 c1, cs = #[c0, c1] := by
  obtain ⟨l⟩ := cs
  match l, h with
  | [c0, c1], _ => exact ⟨c0, c1, rfl⟩
section
open Go.ChangeShapes Go.WideShapes Go.ChangeAt
variable {H : Type} {enc : TypeId × Value → H} {W : World}
theorem u64_open {fuel : Nat} {c : Value} {x : DataW H × List MemPlace} (h : DataW.trod enc Tryz.prog W 0 (fun _ => true) true fuel 22 [c] = some x) : ∃ n : Int, c = .int .u64 n := by
  obtain ⟨n, hcs, _, hw⟩ := DataW.trod_int Tryz.underlying22 h
  simp at hcs
  exact ⟨n, hcs⟩
theorem int_open {fuel : Nat} {c : Value} {x : DataW H × List MemPlace} (h : DataW.trod enc Tryz.prog W 0 (fun _ => true) true fuel 3 [c] = some x) : ∃ n : Int, c = .int .i64 n := by
  obtain ⟨n, hcs, _, hw⟩ := DataW.trod_int Tryz.underlying3 h
  simp at hcs
  exact ⟨n, hcs⟩
theorem at_some {α : Type} {xs : List α} {n : Nat} (h : xs.length = n) {i : Nat} (hi : i < n) : ∃ y, xs[i]? = some y := ⟨_, List.getElem?_eq_getElem (by omega)⟩
theorem okWide_array {P : Program} {w : World} {r : Reach} {base n : Nat} {e t : TypeId} {v : Value} (ht : P.underlying t = some (.array n e)) (h : Value.okWide P w r base t v) : ∃ cs, v = .agg cs ∧ cs.size = P.cellsOf t := by
  simp only [Value.okWide, ht] at h
  obtain ⟨cs, h1, h2, _⟩ := h
  exact ⟨cs, h1, h2⟩
theorem conf_open {b0 : Nat} {v : Value} {d : DataW H} {ps : List MemPlace} (hv : Value.okWide Tryz.prog W .any b0 24 v) (h : DataW.Trod enc Tryz.prog W 0 (fun _ => true) true 24 v d ps) :
    ∃ c : Cf, v = .agg (CfV c) := by
  obtain ⟨cs, rfl, hsz⟩ := okWide_struct Tryz.underlying24 hv
  rw [Tryz.cellsC] at hsz
  obtain ⟨c0, c1, c2, c3, c4, c5, rfl⟩ := array6 hsz
  obtain ⟨fuel, hf⟩ := h
  obtain ⟨xs, n, _, _, _, hl, hF⟩ := DataW.trod_struct Tryz.underlying24 hf
  have hl : xs.length = 6 := hl
  obtain ⟨y0, e0⟩ := at_some hl (i := 0) (by omega)
  obtain ⟨y1, e1⟩ := at_some hl (i := 1) (by omega)
  obtain ⟨y2, e2⟩ := at_some hl (i := 2) (by omega)
  obtain ⟨y3, e3⟩ := at_some hl (i := 3) (by omega)
  obtain ⟨y4, e4⟩ := at_some hl (i := 4) (by omega)
  obtain ⟨y5, e5⟩ := at_some hl (i := 5) (by omega)
  have g0 : DataW.trod enc Tryz.prog W 0 (fun _ => true) true n 22 [c0] = some y0 := by
    have g := hF 0 _ rfl
    change DataW.trod enc Tryz.prog W 0 (fun _ => true) true n 22 (List.take (Tryz.prog.cellsOf 22) (List.drop 0 [c0, c1, c2, c3, c4, c5])) = xs[0]? at g
    rw [Tryz.cellsU, e0] at g
    exact g
  have g1 : DataW.trod enc Tryz.prog W 0 (fun _ => true) true n 3 [c1] = some y1 := by
    have g := hF 1 _ rfl
    change DataW.trod enc Tryz.prog W 0 (fun _ => true) true n 3 (List.take (Tryz.prog.cellsOf 3) (List.drop 1 [c0, c1, c2, c3, c4, c5])) = xs[1]? at g
    rw [Tryz.cellsI, e1] at g
    exact g
  have g2 : DataW.trod enc Tryz.prog W 0 (fun _ => true) true n 3 [c2] = some y2 := by
    have g := hF 2 _ rfl
    change DataW.trod enc Tryz.prog W 0 (fun _ => true) true n 3 (List.take (Tryz.prog.cellsOf 3) (List.drop 2 [c0, c1, c2, c3, c4, c5])) = xs[2]? at g
    rw [Tryz.cellsI, e2] at g
    exact g
  have g3 : DataW.trod enc Tryz.prog W 0 (fun _ => true) true n 3 [c3] = some y3 := by
    have g := hF 3 _ rfl
    change DataW.trod enc Tryz.prog W 0 (fun _ => true) true n 3 (List.take (Tryz.prog.cellsOf 3) (List.drop 3 [c0, c1, c2, c3, c4, c5])) = xs[3]? at g
    rw [Tryz.cellsI, e3] at g
    exact g
  have g4 : DataW.trod enc Tryz.prog W 0 (fun _ => true) true n 3 [c4] = some y4 := by
    have g := hF 4 _ rfl
    change DataW.trod enc Tryz.prog W 0 (fun _ => true) true n 3 (List.take (Tryz.prog.cellsOf 3) (List.drop 4 [c0, c1, c2, c3, c4, c5])) = xs[4]? at g
    rw [Tryz.cellsI, e4] at g
    exact g
  have g5 : DataW.trod enc Tryz.prog W 0 (fun _ => true) true n 3 [c5] = some y5 := by
    have g := hF 5 _ rfl
    change DataW.trod enc Tryz.prog W 0 (fun _ => true) true n 3 (List.take (Tryz.prog.cellsOf 3) (List.drop 5 [c0, c1, c2, c3, c4, c5])) = xs[5]? at g
    rw [Tryz.cellsI, e5] at g
    exact g
  clear hF hv
  obtain ⟨n0, rfl⟩ := u64_open g0
  obtain ⟨n1, rfl⟩ := int_open g1
  obtain ⟨n2, rfl⟩ := int_open g2
  obtain ⟨n3, rfl⟩ := int_open g3
  obtain ⟨n4, rfl⟩ := int_open g4
  obtain ⟨n5, rfl⟩ := int_open g5
  exact ⟨⟨n0, n1, n2, n3, n4, n5⟩, rfl⟩
theorem num_open {b0 : Nat} {v : Value} {d : DataW H} {ps : List MemPlace} (hv : Value.okWide Tryz.prog W .any b0 3 v) (h : DataW.Trod enc Tryz.prog W 0 (fun _ => true) true 3 v d ps) :
    ∃ a : Int, v = .int .i64 a := by
  obtain ⟨a, h1, _, _, _⟩ := open_int Tryz.underlying3 hv h
  exact ⟨a, h1⟩
end
end Go.Proofs.YtjgggialnegddaaGreat
namespace Go.Proofs.YtjgggialnegddaaGreat
open Go.RowKit
set_option linter.unusedVariables false
set_option maxRecDepth 1000000

/-- How near a key is to a query. -/
def markZ (c : Cf) (q y : List Int) : Int := divZ (dotK y q (min y.length q.length)) (sqrtZ (fromZ c.dim))
/-- Of each row of a table its product. -/
def mulT (t : List (List Int)) (ys : List Int) : List Int := rowK (mulF t ys) t.length
def addL (xs ys : List Int) : List Int := pairK addZ xs ys (min xs.length ys.length)
def reluL (zs : List Int) : List Int := zs.map fun n => max (wi n) 0
def qryL (c : Cf) (la : Int) (x : List Int) : List Int := mulT (tabL c la 0) (normL x)
def keyL (c : Cf) (la : Int) (x : List Int) : List Int := mulT (tabL c la 1) (normL x)
def valL (c : Cf) (la : Int) (x : List Int) : List Int := mulT (tabL c la 2) (normL x)
def wtsL (c : Cf) (la : Int) (x : List Int) (ks : List (List Int)) : List Int := softL ((ks ++ [keyL c la x]).map (markZ c (qryL c la x)))
def mixL (ws : List Int) (ls : List (List Int)) : List Int := mixK ws ls (min ws.length ls.length)
def hidL (c : Cf) (la : Int) (x : List Int) (ks vs : List (List Int)) : List Int := addL x (mulT (tabL c la 3) (mixL (wtsL c la x ks) (vs ++ [valL c la x])))
def fwdL (c : Cf) (la : Int) (h : List Int) : List Int := mulT (tabL c la 5) (reluL (mulT (tabL c la 4) (normL h)))
def outL (c : Cf) (la : Int) (x : List Int) (ks vs : List (List Int)) : List Int := addL (hidL c la x ks vs) (fwdL c la (hidL c la x ks vs))
theorem mulT_len (t : List (List Int)) (ys : List Int) : (mulT t ys).length = t.length := by unfold mulT; rw [rowK_len]
theorem addL_len (xs ys : List Int) : (addL xs ys).length = min xs.length ys.length := by unfold addL; rw [pairK_len]
theorem normL_len (zs : List Int) : (normL zs).length = zs.length := by simp [normL]
theorem softL_len (zs : List Int) : (softL zs).length = zs.length := by simp [softL, powL]
theorem reluL_len (zs : List Int) : (reluL zs).length = zs.length := by simp [reluL]
theorem hidL_len (c : Cf) (la : Int) (x : List Int) (ks vs : List (List Int)) : (hidL c la x ks vs).length ≤ x.length := by unfold hidL; rw [addL_len]; omega
theorem outL_len (c : Cf) (la : Int) (x : List Int) (ks vs : List (List Int)) : (outL c la x ks vs).length ≤ x.length := by
  unfold outL; rw [addL_len]; have := hidL_len c la x ks vs; omega
theorem keyL_len {c : Cf} (h : mayB c = true) (la : Int) (x : List Int) : (keyL c la x).length ≤ 16 := by unfold keyL; rw [mulT_len]; exact tabL_len h _ _
theorem valL_len {c : Cf} (h : mayB c = true) (la : Int) (x : List Int) : (valL c la x).length ≤ 16 := by unfold valL; rw [mulT_len]; exact tabL_len h _ _

/-- A layer's keys and values. -/
abbrev KV := List (List Int) × List (List Int)
def kv (M : List KV) (i : Nat) : KV := M[i]?.getD ([], [])
/-- What the first k layers make of a vector. -/
def thrX (c : Cf) (M : List KV) (x : List Int) : Nat → List Int
  | 0 => x
  | k + 1 => outL c k (thrX c M x k) (kv M k).1 (kv M k).2
/-- The keys and values behind it. -/
def thrM (c : Cf) (M : List KV) (x : List Int) (k : Nat) : List KV := (List.range k).map fun j => ((kv M j).1 ++ [keyL c j (thrX c M x j)], (kv M j).2 ++ [valL c j (thrX c M x j)])
theorem thrX_len (c : Cf) (M : List KV) (x : List Int) (k : Nat) : (thrX c M x k).length ≤ x.length := by
  induction k with
  | zero => exact Nat.le_refl _
  | succ k ih => simp only [thrX]; exact Nat.le_trans (outL_len _ _ _ _ _) ih
theorem thrM_len (c : Cf) (M : List KV) (x : List Int) (k : Nat) : (thrM c M x k).length = k := by simp [thrM]
theorem thrM_at (c : Cf) (M : List KV) (x : List Int) {k j : Nat} (h : j < k) : kv (thrM c M x k) j = ((kv M j).1 ++ [keyL c j (thrX c M x j)], (kv M j).2 ++ [valL c j (thrX c M x j)]) := by simp [thrM, kv, h]
/-- A memory of n layers without places. -/
def noneM (n : Nat) : List KV := List.replicate n ([], [])
theorem noneM_len (n : Nat) : (noneM n).length = n := by simp [noneM]
theorem noneM_at (n i : Nat) : kv (noneM n) i = ([], []) := by
  unfold kv noneM
  by_cases h : i < n
  · simp [h]
  · simp [h]
/-- The memory behind the first k vectors of a list. -/
def memL (c : Cf) (L : Nat) (xs : List (List Int)) : Nat → List KV
  | 0 => noneM L
  | k + 1 => thrM c (memL c L xs k) (xs[k]?.getD []) L
/-- What the k-th vector was made to. -/
def madeL (c : Cf) (L : Nat) (xs : List (List Int)) (k : Nat) : List Int := thrX c (memL c L xs k) (xs[k]?.getD []) L
theorem memL_len (c : Cf) (L : Nat) (xs : List (List Int)) (k : Nat) : (memL c L xs k).length = L := by
  cases k with
  | zero => exact noneM_len L
  | succ k => exact thrM_len _ _ _ _
theorem memL_at (c : Cf) (L : Nat) (xs : List (List Int)) (k : Nat) {j : Nat} (h : j < L) : (kv (memL c L xs k) j).1.length = k ∧ (kv (memL c L xs k) j).2.length = k := by
  induction k with
  | zero => simp only [memL]; rw [noneM_at]; exact ⟨rfl, rfl⟩
  | succ k ih => simp only [memL]; rw [thrM_at _ _ _ h]; simp [ih.1, ih.2]
/-- What a memory is cut to. -/
def cutM (M : List KV) (n : Nat) : List KV := M.map fun p => (p.1.take n, p.2.take n)
theorem cutM_len (M : List KV) (n : Nat) : (cutM M n).length = M.length := by simp [cutM]
theorem cutM_at (M : List KV) (n i : Nat) : kv (cutM M n) i = ((kv M i).1.take n, (kv M i).2.take n) := by
  unfold kv cutM
  by_cases h : i < M.length
  · simp [h]
  · simp [h]
theorem kv_ext {M N : List KV} (hl : M.length = N.length) (h : ∀ i, i < M.length → kv M i = kv N i) : M = N := by
  apply List.ext_getElem hl
  intro i h1 h2
  have := h i h1
  unfold kv at this
  rw [List.getElem?_eq_getElem h1, List.getElem?_eq_getElem h2] at this
  exact this
theorem memL_cut (c : Cf) (L : Nat) (xs : List (List Int)) {k n : Nat} (h : k ≤ n) : cutM (memL c L xs n) k = memL c L xs k := by
  induction n with
  | zero =>
    obtain rfl : k = 0 := by omega
    apply kv_ext
    · rw [cutM_len]
    · intro i hi
      rw [cutM_at]
      simp only [memL]
      rw [noneM_at]
      rfl
  | succ n ih =>
    by_cases e : k = n + 1
    · subst e
      apply kv_ext
      · rw [cutM_len]
      · intro i hi
        rw [cutM_len, memL_len] at hi
        have := memL_at c L xs (n + 1) hi
        rw [cutM_at, List.take_of_length_le (by omega), List.take_of_length_le (by omega)]
    · rw [← ih (by omega)]
      apply kv_ext
      · rw [cutM_len, cutM_len, memL_len, memL_len]
      · intro i hi
        rw [cutM_len, memL_len] at hi
        have := memL_at c L xs n hi
        rw [cutM_at, cutM_at]
        simp only [memL]
        rw [thrM_at _ _ _ hi]
        simp only
        rw [List.take_append_of_le_length (by omega), List.take_append_of_le_length (by omega)]

/-- A slice's header reads as these numbers. -/
def RdH (w : World) (h : Hd) (xs : List Int) : Prop := Reads .i64 w h.1 h.2.1 h.2.2 xs
/-- The slice's block is one of slices of numbers. -/
def BlS (w : World) (a : Option Addr) : Prop := ∀ p, a = some p → ∃ cur fz, w.heap[p.block]? = some (.cells cur 131 fz)
theorem BlS.none (w : World) : BlS w none := fun p h => by cases h
theorem BlS.below {w w' : World} {a : Option Addr} (h : BlS w a) (hb : Below w.heap.size w w') : BlS w' a := fun p hp => by
  obtain ⟨cur, fz, hc⟩ := h p hp
  exact ⟨cur, fz, (hb.block _ (lt_of_block hc)).trans hc⟩
/-- A slice's header reads as these vectors; its cells lie in blocks of slices, theirs in blocks of numbers. -/
def TbH (w : World) (h : Hd) (ls : List (List Int)) : Prop := ls.length = h.2.1 ∧ ∃ hs, Tbl w h.1 h.2.1 h.2.2 hs ls ∧ BlS w h.1 ∧ ∀ i, i < h.2.1 → BlI w (hs[i]?.getD (none, 0, 0)).1
theorem RdH.below {w w' : World} {h : Hd} {xs : List Int} (k : RdH w h xs) (hb : Below w.heap.size w w') : RdH w' h xs := Reads.below k hb
theorem TbH.below {w w' : World} {h : Hd} {ls : List (List Int)} (k : TbH w h ls) (hb : Below w.heap.size w w') : TbH w' h ls := by
  obtain ⟨h1, hs, h2, h3, h4⟩ := k
  exact ⟨h1, hs, h2.below hb, h3.below hb, fun i hi => (h4 i hi).below hb⟩
theorem TbH.nil (w : World) : TbH w (none, 0, 0) [] := ⟨rfl, [], ⟨⟨rfl, Nat.le_refl _, by decide, fun _ => ⟨rfl, rfl⟩, fun i hi => absurd hi (by simp)⟩, fun i hi => absurd hi (by simp), fun i hi => absurd hi (by simp)⟩, BlS.none _, fun i hi => absurd hi (by simp)⟩
/-- Only blocks of this type may have turned. -/
def Kp (T : TypeId) (W W' : World) : Prop := ∀ (k : Nat) (cur : Array Value) (t : TypeId) (fz : Nat × Nat), W.heap[k]? = some (.cells cur t fz) → t ≠ T → W'.heap[k]? = some (.cells cur t fz)
theorem Kp.trans {T : TypeId} {A B C : World} (h : Kp T A B) (k : Kp T B C) : Kp T A C := fun i cur t fz hi ht => k i cur t fz (h i cur t fz hi ht) ht
theorem Kp.set {T : TypeId} {W : World} {g k : Nat} {cur : Array Value} {fz : Nat × Nat} (h : W.heap[g]? = some (.cells cur T fz)) (v : Value) : Kp T W (W.setCell ⟨g, k, none⟩ v) := by
  intro i c t f hi ht
  by_cases e : i = g
  · subst e
    rw [h] at hi
    simp at hi
    exact absurd hi.2.1.symm ht
  · rw [Below.heap_setCell _ _ _ _ (by exact e)]
    exact hi
theorem Reads.keep {T : TypeId} {W W' : World} {a : Option Addr} {l c : Nat} {zs : List Int} (hr : Reads .i64 W a l c zs) (h5 : BlI W a) (hk : Kp T W W') (hT : 2 ≠ T) : Reads .i64 W' a l c zs ∧ BlI W' a := by
  have key : ∀ p, a = some p → W'.heap[p.block]? = W.heap[p.block]? := by
    intro p hp
    obtain ⟨cur, fz, hc⟩ := h5 p hp
    rw [hc]
    exact hk _ _ _ _ hc hT
  refine ⟨⟨hr.size, hr.room, hr.most, hr.bare, fun i hi => ?_⟩, fun p hp => ?_⟩
  · obtain ⟨b, off, ha, hc⟩ := hr.cell i hi
    exact ⟨b, off, ha, (World.cell?_of_block (a := ⟨b, off + i, none⟩) (key ⟨b, off, none⟩ ha)).trans hc⟩
  · obtain ⟨cur, fz, hc⟩ := h5 p hp
    exact ⟨cur, fz, (key p hp).trans hc⟩
theorem TbH.keep {T : TypeId} {W W' : World} {h : Hd} {ls : List (List Int)} (k : TbH W h ls) (hk : Kp T W W') (hT : 2 ≠ T) (hS : 131 ≠ T) : TbH W' h ls := by
  obtain ⟨h1, hs, h2, h3, h4⟩ := k
  have key : ∀ p, h.1 = some p → W'.heap[p.block]? = W.heap[p.block]? := by
    intro p hp
    obtain ⟨cur, fz, hc⟩ := h3 p hp
    rw [hc]
    exact hk _ _ _ _ hc hS
  refine ⟨h1, hs, ⟨⟨h2.rd.size, h2.rd.room, h2.rd.most, h2.rd.bare, fun i hi => ?_⟩, fun i hi => (Reads.keep (h2.rows i hi) (h4 i hi) hk hT).1, h2.short⟩, fun p hp => ?_, fun i hi => (Reads.keep (h2.rows i hi) (h4 i hi) hk hT).2⟩
  · obtain ⟨b, off, ha, hc⟩ := h2.rd.cell i hi
    exact ⟨b, off, ha, (World.cell?_of_block (a := ⟨b, off + i, none⟩) (key ⟨b, off, none⟩ ha)).trans hc⟩
  · obtain ⟨cur, fz, hc⟩ := h3 p hp
    exact ⟨cur, fz, (key p hp).trans hc⟩
theorem Rd2.cut {w : World} {a : Option Addr} {len cap : Nat} {hs : List Hd} (h : Rd2 w a len cap hs) {m : Nat} (hm : m ≤ len) : Rd2 w a m cap (hs.take m) :=
  ⟨by rw [List.length_take, h.size]; omega, by have := h.room; omega, h.most, fun e => by have := h.bare e; omega, fun i hi => by
    obtain ⟨b, off, e, hc⟩ := h.cell i (by omega)
    exact ⟨b, off, e, by rw [hc, List.getElem?_take_of_lt hi]⟩⟩
theorem Tbl.cut {w : World} {a : Option Addr} {len cap : Nat} {hs : List Hd} {ls : List (List Int)} (h : Tbl w a len cap hs ls) {m : Nat} (hm : m ≤ len) : Tbl w a m cap (hs.take m) (ls.take m) :=
  ⟨h.rd.cut hm, fun i hi => by
    rw [List.getElem?_take_of_lt hi, List.getElem?_take_of_lt hi]
    exact h.rows i (by omega), fun i hi => by
    rw [List.getElem?_take_of_lt hi]
    exact h.short i (by omega)⟩
theorem TbH.cut {w : World} {a : Option Addr} {n c : Nat} {ls : List (List Int)} (h : TbH w (a, n, c) ls) {m : Nat} (hm : m ≤ n) : TbH w (a, m, m) (ls.take m) := by
  obtain ⟨h1, hs, h2, h3, h4⟩ := h
  simp only at h1 h2 h3 h4
  have hr := h2.rd.room
  have hx := h2.cut hm
  refine ⟨by simp; omega, hs.take m, ⟨⟨hx.rd.size, Nat.le_refl _, by have := hx.rd.most; simp only; omega, fun e => by have := hx.rd.bare e; simp only; omega, hx.rd.cell⟩, hx.rows, hx.short⟩, h3, fun i hi => ?_⟩
  simp only at hi
  rw [List.getElem?_take_of_lt hi]
  exact h4 i (by omega)
theorem Rd2.tight {w : World} {a : Option Addr} {len cap c : Nat} {hs : List Hd} (h : Rd2 w a len cap hs) (h1 : len ≤ c) (h2 : c ≤ cap) : Rd2 w a len c hs :=
  ⟨h.size, h1, by have := h.most; omega, fun e => by have := h.bare e; omega, h.cell⟩
theorem Tbl.tight {w : World} {a : Option Addr} {len cap c : Nat} {hs : List Hd} {ls : List (List Int)} (h : Tbl w a len cap hs ls) (h1 : len ≤ c) (h2 : c ≤ cap) : Tbl w a len c hs ls := ⟨h.rd.tight h1 h2, h.rows, h.short⟩

/-- A copy of a list. -/
theorem clone_any (a : Option Addr) (n cap : Nat) (xs : List Int) (w : World) (ha : Reads .i64 w a n cap xs) (hn : n ≤ 1000) :
    Calls Tryz.prog 183 #[.slice a n cap] w fun e w' => GivesO w n xs e w' := by
  obtain ⟨i0, hi, hz0, hz1, hz2⟩ := info_parts Tryz.info2
  cases a with
  | none =>
    obtain ⟨rfl, rfl⟩ := ha.bare rfl
    obtain rfl : xs = [] := List.eq_nil_of_length_eq_zero ha.size
    have heq : ∀ W : World, (binOp .eql 131 (.slice none 0 0) (.slice none 0 0)).run Tryz.prog W = .ok (.bool true) W := fun W => Lib.run_eql_slice_nil W _ _ none 0 0 0 0 Tryz.underlying131
    clear ha
    go_enter Tryz.func183, Tryz.ntmps183
    go_wp2
    go_ret
    exact ⟨_, rfl, World.ownsRow_nil _ _ _ _, Below.refl _ _⟩
  | some ad =>
    have heq : ∀ W : World, (binOp .eql 131 (.slice (some ad) n cap) (.slice none 0 0)).run Tryz.prog W = .ok (.bool false) W := fun W => Lib.run_eql_slice_nil W _ _ (some ad) n cap 0 0 Tryz.underlying131
    have HA := hid ha
    have HB : Hid (Below w.heap.size w (w.alloc (.cells #[] 2))) := (Below.refl _ _).alloc (Nat.le_refl _) _
    have HO : Hid ((w.alloc (.cells #[] 2)).ownsRow w.heap.size 2 1 (.slice (some ⟨w.heap.size, 0, none⟩) 0 0) 0 (([] : List Int).map (Value.int .i64))) :=
      World.ownsRow_lit (base := w.heap.size) (e := 2) (size := 1) w #[] 0 (Nat.le_refl _) (by unfold maxLen; omega) (by simp)
    clear ha
    go_enter Tryz.func183, Tryz.ntmps183
    go_wp2_with (at_builtin; refine append_any _ rfl (.tmp 5) (.tmp 6) 131 rfl w.heap.size 2 i0 (.int .i64 0) 8 Tryz.underlying131 hi hz0 hz1 hz2 rfl .i64 _ 0 [] rfl HO.out (some ad) n cap xs rfl (HA.out.below HB.out) (by omega) (by omega) HB.out.size ?_; intro v' w3 hO3 hb3)
    rw [Nat.zero_add, List.nil_append] at hO3
    have HO3 := hid hO3
    have HB3 := hid (HB.out.trans hb3)
    clear hO3 hb3 HA HB HO
    go_wp2
    go_ret
    exact ⟨_, rfl, HO3.out, HB3.out⟩

/-- What stands at a place of a list with one behind. -/
theorem at_snoc {α : Type} (xs : List α) (y d : α) {n i : Nat} (h : xs.length = n) (hi : i < n + 1) : (xs ++ [y])[i]?.getD d = if i < n then xs[i]?.getD d else y := by
  by_cases e : i < n
  · rw [List.getElem?_append_left (by omega), if_pos e]
  · obtain rfl : i = n := by omega
    rw [List.getElem?_append_right (by omega), if_neg e]
    simp [h]
/-- A table with a vector behind it. -/
theorem Tbl.snoc {w : World} {a b : Option Addr} {n cap g c : Nat} {hs : List Hd} {ls : List (List Int)} {y : Hd} {ys : List Int} (ht : Tbl w a n cap hs ls) (hl : ls.length = n) (hr : Reads .i64 w y.1 y.2.1 y.2.2 ys) (hy : y.2.1 ≤ 1000)
    (hd : Rd2 w (some ⟨g, 0, none⟩) (n + 1) c (hs ++ [y])) : Tbl w (some ⟨g, 0, none⟩) (n + 1) c (hs ++ [y]) (ls ++ [ys]) := by
  have hz := ht.rd.size
  refine ⟨hd, fun i hi => ?_, fun i hi => ?_⟩
  · rw [at_snoc hs y _ hz hi, at_snoc ls ys _ hl hi]
    by_cases e : i < n
    · rw [if_pos e, if_pos e]; exact ht.rows i e
    · rw [if_neg e, if_neg e]; exact hr
  · rw [at_snoc hs y _ hz hi]
    by_cases e : i < n
    · rw [if_pos e]; exact ht.short i e
    · rw [if_neg e]; exact hy
theorem olds_at {w : World} {a : Option Addr} {n cap : Nat} {hs : List Hd} (h : Rd2 w a n cap hs) : ∀ b, a = some b → ∀ j u, (hs.map hdV)[j]? = some u → w.cell? (b.add j) = some u := by
  intro b hb j u hu
  have hj : j < hs.length := by
    have := (List.getElem?_eq_some_iff.1 hu).1
    simpa using this
  obtain ⟨b', off, e, hc⟩ := h.cell j (by rw [← h.size]; exact hj)
  rw [e] at hb
  obtain rfl := Option.some.inj hb
  rw [Addr.add_lit, hc]
  simp [hj] at hu ⊢
  exact hu
theorem below_grown {w w' : World} (h : w.grownBy w' none) : Below w.heap.size w w' := (Below.refl _ _).grown h (Nat.le_refl _) fun g hg => by cases hg
theorem ownS_of' {base n : Nat} {v : Value} {hs : List Hd} {w : World} (h : w.ownsRow base 131 1 v n (hs.map hdV)) (hn : 1 ≤ n) : ∃ g c, v = .slice (some ⟨g, 0, none⟩) n c ∧ OwnS base g n c hs w := by
  rcases id h.2 with ⟨rfl, rfl⟩ | ⟨g, cap, cur, rfl, rest⟩
  · omega
  · exact ⟨g, cap, rfl, h⟩
/-- A list with a vector behind it. -/
theorem behind_own (a : Option Addr) (n cap : Nat) (hs : List Hd) (b : Option Addr) (lb cb : Nat) (w : World) (ht : Rd2 w a n cap hs) (hn : n ≤ 1000) :
    Calls Tryz.prog 211 #[.slice a n cap, .slice b lb cb] w fun e w' => ∃ g c, e = .returned (.slice (some ⟨g, 0, none⟩) (n + 1) c) ∧ OwnS w.heap.size g (n + 1) c (hs ++ [(b, lb, cb)]) w' ∧ Below w.heap.size w w' := by
  obtain ⟨i0, hi, hz0, hz1, hz2⟩ := info_parts Tryz.infoS
  have HT := hid ht
  have r1 := ht.room
  have m1 := ht.most
  have bare := ht.bare
  have HZ := hid ht.size
  have HB : Hid (Below w.heap.size w (w.alloc (.cells #[.slice b lb cb] 131))) := (Below.refl _ _).alloc (Nat.le_refl _) _
  have HN : Hid (∀ j u, [hdV (b, lb, cb)][j]? = some u → (w.alloc (.cells #[.slice b lb cb] 131)).cell? ((⟨w.heap.size, 0, none⟩ : Addr).add j) = some u) := World.news_of_block (heap_alloc_new w (.cells #[.slice b lb cb] 131))
  clear ht
  have key : ∀ v' w', w'.ownsRow (w.alloc (.cells #[.slice b lb cb] 131)).heap.size 131 1 v' (n + 1) (hs.map hdV ++ [hdV (b, lb, cb)]) → (w.alloc (.cells #[.slice b lb cb] 131)).grownBy w' none →
      ∃ g c, v' = .slice (some ⟨g, 0, none⟩) (n + 1) c ∧ OwnS w.heap.size g (n + 1) c (hs ++ [(b, lb, cb)]) w' ∧ Below w.heap.size w w' := by
    intro v' w' h1 h2
    have hb2 := below_grown h2
    have hbw : Below w.heap.size w w' := HB.out.trans (hb2.mono HB.out.size)
    rw [show hs.map hdV ++ [hdV (b, lb, cb)] = (hs ++ [(b, lb, cb)]).map hdV by simp] at h1
    obtain ⟨g, c, rfl, hO⟩ := ownS_of' h1 (by omega)
    exact ⟨g, c, rfl, hO.low HB.out.size, hbw⟩
  have HKy := hid key
  clear key
  have hone : ∀ u ∈ [hdV (b, lb, cb)], u.oneCell' = true := by intro u hu; simp at hu; subst hu; rfl
  have HC := hid (olds_at (HT.out.below HB.out))
  clear HT
  cases a with
  | none =>
    obtain ⟨rfl, rfl⟩ := bare rfl
    clear bare
    go_enter Tryz.func211, Tryz.ntmps211
    go_wp2_with (at_builtin; refine wpList_append_grows _ rfl (.tmp 10) (.tmp 12) 132 rfl 131 i0 (.slice none 0 0) 1 24 Tryz.underlying132 hi hz0 hz1 hz2 rfl (by decide) none 0 0 (hs.map hdV) rfl (fun _ => ⟨rfl, rfl⟩) (by rw [List.length_map, HZ.out]) HC.out ⟨w.heap.size, 0, none⟩ 1 1 [hdV (b, lb, cb)] rfl rfl HN.out hone (by omega) (by unfold maxLen; omega) (by omega) ?_; intro v' w3 hO3 hg3; obtain ⟨g, c, rfl, hT3, hb3⟩ := HKy.out v' w3 hO3 hg3)
    have HT3 := hid hT3
    have HB3 := hid hb3
    clear hO3 hg3 hT3 hb3 HKy HC HN HB HZ
    go_wp2
    go_ret
    exact ⟨_, _, rfl, HT3.out, HB3.out⟩
  | some ad =>
    clear bare
    go_enter Tryz.func211, Tryz.ntmps211
    go_wp2_with (at_builtin; refine wpList_append_grows _ rfl (.tmp 10) (.tmp 12) 132 rfl 131 i0 (.slice none 0 0) 1 24 Tryz.underlying132 hi hz0 hz1 hz2 rfl (by decide) (some ad) n n (hs.map hdV) rfl (fun h => by cases h) (by rw [List.length_map, HZ.out, Nat.mul_one]) HC.out ⟨w.heap.size, 0, none⟩ 1 1 [hdV (b, lb, cb)] rfl rfl HN.out hone (by omega) (by unfold maxLen; omega) (by omega) ?_; intro v' w3 hO3 hg3; obtain ⟨g, c, rfl, hT3, hb3⟩ := HKy.out v' w3 hO3 hg3)
    have HT3 := hid hT3
    have HB3 := hid hb3
    clear hO3 hg3 hT3 hb3 HKy HC HN HB HZ
    go_wp2
    go_ret
    exact ⟨_, _, rfl, HT3.out, HB3.out⟩
theorem behind_any (a : Option Addr) (n cap : Nat) (hs : List Hd) (ls : List (List Int)) (b : Option Addr) (lb cb : Nat) (ys : List Int) (w : World) (ht : Tbl w a n cap hs ls) (hl : ls.length = n) (hn : n ≤ 1000) (hr : Reads .i64 w b lb cb ys) (hlb : lb ≤ 1000) :
    Calls Tryz.prog 211 #[.slice a n cap, .slice b lb cb] w fun e w' => ∃ g c, e = .returned (.slice (some ⟨g, 0, none⟩) (n + 1) c) ∧ Tbl w' (some ⟨g, 0, none⟩) (n + 1) c (hs ++ [(b, lb, cb)]) (ls ++ [ys]) ∧ Below w.heap.size w w' :=
  (behind_own a n cap hs b lb cb w ht.rd hn).mono fun e w' ⟨g, c, h1, h2, h3⟩ => ⟨g, c, h1, Tbl.snoc (b := b) (ht.below h3) hl (hr.below h3) hlb h2.rd, h3⟩
end Go.Proofs.YtjgggialnegddaaGreat
namespace Go.Proofs.YtjgggialnegddaaGreat
open Go.RowKit
set_option linter.unusedVariables false
set_option maxRecDepth 1000000

theorem fld_dim (s v d l tt h : Int) (W : World) : (Instr.field 24 (.agg #[.int .u64 s, .int .i64 v, .int .i64 d, .int .i64 l, .int .i64 tt, .int .i64 h]) 2).run Tryz.prog W = .ok (.int .i64 d) W := by kernel_rfl
theorem fld_layers (s v d l tt h : Int) (W : World) : (Instr.field 24 (.agg #[.int .u64 s, .int .i64 v, .int .i64 d, .int .i64 l, .int .i64 tt, .int .i64 h]) 3).run Tryz.prog W = .ok (.int .i64 l) W := by kernel_rfl
theorem map_rowK {α : Type} (d : α) (g : α → Int) (ls : List α) {n : Nat} (h : ls.length = n) : rowK (fun k => g (ls[k]?.getD d)) n = ls.map g := by
  subst h
  unfold rowK
  apply List.ext_getElem
  · simp
  · intro i h1 h2
    simp at h1 h2
    simp [h1]

set_option maxHeartbeats 1000000 in
theorem marks_any (p : Option Addr) (c : Cf) (b : Option Addr) (lb cb : Nat) (ys : List Int) (a : Option Addr) (n cap : Nat) (hs : List Hd) (ls : List (List Int)) (w : World) (hp : MdAt w p c) (hq : Reads .i64 w b lb cb ys) (hlb : lb ≤ 1000) (ht : Tbl w a n cap hs ls) (hl : ls.length = n) (hn : n ≤ 1000) :
    Calls Tryz.prog 210 #[.pointer p, .slice b lb cb, .slice a n cap] w fun e w' => Made w n (ls.map (markZ c ys)) e w' := by
  have hC := config_any p c w hp
  obtain ⟨rt, hrt⟩ : ∃ rt, sqrtZ (fromZ c.dim) = rt := ⟨_, rfl⟩
  obtain ⟨d, hd⟩ : ∃ d : Nat → Int, d = fun k => dotK (ls[k]?.getD []) ys (min (ls[k]?.getD []).length ys.length) := ⟨_, rfl⟩
  have HD : Hid (∀ k W, k < n → Below w.heap.size w W → Calls Tryz.prog 201 #[.slice (hs[k]?.getD (none, 0, 0)).1 (hs[k]?.getD (none, 0, 0)).2.1 (hs[k]?.getD (none, 0, 0)).2.2, .slice b lb cb] W fun e w' => e = .returned (.int .i64 (d k)) ∧ Below W.heap.size W w') := by
    intro k W hk hW
    have h1 := (ht.below hW).rows k hk
    have h2 := hq.below hW
    have := dot_any _ b _ _ lb cb _ _ W h1 h2 (ht.short k hk) hlb
    rw [hd]
    simp only
    rw [h1.size, h2.size]
    exact this
  have HF : Hid (rowK (fun k => divZ (d k) rt) n = ls.map (markZ c ys)) := by
    unfold Hid
    rw [← map_rowK [] (markZ c ys) ls hl, hd, ← hrt]
    rfl
  have HT := hid ht
  have r1 := ht.rd.room
  have m1 := ht.rd.most
  obtain ⟨s, v, dm, l, tt, h⟩ := c
  simp only at hrt
  unfold CfV at hC
  simp only at hC
  clear hp hq ht hl hd
  rw [← HF.out]
  clear HF
  have hfd := fld_dim s v dm l tt h
  go_enter Tryz.func210, Tryz.ntmps210
  go_wp2_with fail
  refine hC.mono ?_
  rintro e w1 ⟨rfl, hb1⟩
  have HB1 := hid hb1
  have hmk := make_ints w1 n (by omega)
  have HO0 : Hid (OwnK 2 w.heap.size w1.heap.size n n (rowK (fun k => divZ (d k) rt) 0 ++ List.replicate (n - 0) 0) (w1.alloc (.cells (madeCells #[.int .i64 0] n) 2))) := (own_made _ w1 n (by omega)).low hb1.size
  have HB0 : Hid (Below w.heap.size w (w1.alloc (.cells (madeCells #[.int .i64 0] n) 2))) := hb1.alloc hb1.size _
  clear hb1 hC HB1
  go_wp2_with fail
  refine (from_any _ _).mono ?_
  rintro e w' ⟨rfl, rfl⟩
  rename World => w1
  go_wp2_with fail
  refine (sqrt_any _ _).mono ?_
  rintro e w' ⟨rfl, rfl⟩
  rename World => w1
  rw [hrt]
  have HG : Hid (w.heap.size ≤ w1.heap.size) := HO0.out.base
  clear hrt
  go_wp2_with fail
  go_loopw [21] (fun i W => ∃ k : Nat, k ≤ n ∧ i = .int .i64 k ∧ Hid (OwnK 2 w.heap.size w1.heap.size n n (rowK (fun k => divZ (d k) rt) k ++ List.replicate (n - k) 0) W) ∧ Hid (Below w.heap.size w W)) (fun i _ => n - (intOf i).toNat)
  case atStart => exact ⟨0, Nat.zero_le _, rfl, HO0, HB0⟩
  case round =>
    obtain ⟨k, hk, rfl, HO, HB⟩ := hrel
    clear HO0 HB0 hmk
    by_cases hlt : k < n
    · have hC := HD.out k wr hlt HB.out
      obtain ⟨b1, o1, rfl, c1⟩ := (HT.out.rd.below HB.out).cell k hlt
      have HS := hid (rowK_set (fun k => divZ (d k) rt) hlt)
      have q1 : (k : Int) < (n : Int) := by omega
      clear HD HT
      generalize hs[k]?.getD (none, 0, 0) = y at *
      obtain ⟨y1, y2, y3⟩ := y
      simp only at c1 hC
      go_wp2_with fail
      refine hC.mono ?_
      rintro e w2 ⟨rfl, hb⟩
      have HO2 := hid (HO.out.stays hb)
      have HB2 := hid (HB.out.trans (hb.mono HB.out.size))
      clear hb hC HO HB c1
      go_wp2_with fail
      refine (div_any _ _ _).mono ?_
      rintro e w' ⟨rfl, rfl⟩
      rename World => w2
      have ck := HO2.out.cell hlt
      have fk := HO2.out.frozen k
      have HO3 : Hid (OwnK 2 w.heap.size w1.heap.size n n (rowK (fun k => divZ (d k) rt) (k + 1) ++ List.replicate (n - (k + 1)) 0) (w2.setCell ⟨w1.heap.size, k, none⟩ (.int .i64 (divZ (d k) rt)))) := by
        have := HO2.out.set k (divZ (d k) rt)
        rw [HS.out] at this
        exact this
      have HB3 := hid (HB2.out.setCell (p := ⟨w1.heap.size, k, none⟩) HG.out (.int .i64 (divZ (d k) rt)))
      clear HO2 HB2 HS
      go_wp2_with fail
      go_round
      case rel => exact ⟨k + 1, by omega, by go_num, HO3, HB3⟩
      case measure => simp [intOf]; omega
    · obtain rfl : k = n := by omega
      have HO3 : Hid (OwnK 2 w.heap.size w1.heap.size k k (rowK (fun k => divZ (d k) rt) k) wr) := by
        have := HO.out
        rw [Nat.sub_self, List.replicate_zero, List.append_nil] at this
        exact this
      clear HO HD HT
      go_wp2
      go_ret
      exact ⟨_, _, rfl, HO3.out, HB.out⟩


/-- The call hands back a slice that reads as this list, in a block of numbers. -/
def GH (w : World) (L : List Int) (e : Ending) (w' : World) : Prop := ∃ (a : Option Addr) (n cap : Nat), e = .returned (.slice a n cap) ∧ Reads .i64 w' a n cap L ∧ BlI w' a ∧ Below w.heap.size w w'
theorem Made.gh {w w' : World} {n : Nat} {L : List Int} {e : Ending} (h : Made w n L e w') : GH w L e w' := by
  obtain ⟨g, cap, rfl, h1, h2⟩ := h
  exact ⟨_, n, cap, rfl, h1.reads, BlI.own h1, h2⟩
theorem norm_h (a : Option Addr) (n cap : Nat) (zs : List Int) (w : World) (ha : Reads .i64 w a n cap zs) (hn : n ≤ 1000) :
    Calls Tryz.prog 200 #[.slice a n cap] w fun e w' => GH w (normL zs) e w' := (norm_any a n cap zs w ha hn).mono fun e w' h => h.gh
theorem soft_h (a : Option Addr) (n cap : Nat) (zs : List Int) (w : World) (ha : Reads .i64 w a n cap zs) (hn : n ≤ 1000) :
    Calls Tryz.prog 209 #[.slice a n cap] w fun e w' => GH w (softL zs) e w' := (soft_any a n cap zs w ha hn).mono fun e w' h => h.gh
theorem relu_h (a : Option Addr) (n cap : Nat) (zs : List Int) (w : World) (ha : Reads .i64 w a n cap zs) (hn : n ≤ 1000) :
    Calls Tryz.prog 240 #[.slice a n cap] w fun e w' => GH w (reluL zs) e w' := (relu_any a n cap zs w ha hn).mono fun e w' h => h.gh
theorem add_h (a b : Option Addr) (la ca lb cb : Nat) (xs ys : List Int) (w : World) (ha : Reads .i64 w a la ca xs) (hb : Reads .i64 w b lb cb ys) (hla : la ≤ 1000) (hlb : lb ≤ 1000) :
    Calls Tryz.prog 150 #[.slice a la ca, .slice b lb cb] w fun e w' => GH w (addL xs ys) e w' := by
  unfold addL
  rw [ha.size, hb.size]
  exact (vadd_any a b la ca lb cb xs ys w ha hb hla hlb).mono fun e w' h => h.gh
theorem mul_h (a b : Option Addr) (la ca lb cb : Nat) (hs : List Hd) (t : List (List Int)) (ys : List Int) (w : World) (ha : Tbl w a la ca hs t) (hl : t.length = la) (hb : Reads .i64 w b lb cb ys) (hla : la ≤ 1000) (hlb : lb ≤ 1000) :
    Calls Tryz.prog 207 #[.slice a la ca, .slice b lb cb] w fun e w' => GH w (mulT t ys) e w' := by
  unfold mulT
  rw [hl]
  exact (vmul_any a b la ca lb cb hs t ys w ha hb hla hlb).mono fun e w' h => h.gh
theorem mix_h (a b : Option Addr) (la ca lb cb : Nat) (hs : List Hd) (t : List (List Int)) (ws : List Int) (w : World) (ha : Tbl w a la ca hs t) (hl : t.length = la) (hb : Reads .i64 w b lb cb ws) (hla : la ≤ 1000) (hlb : lb ≤ 1000) (h0 : 0 < la) :
    Calls Tryz.prog 212 #[.slice b lb cb, .slice a la ca] w fun e w' => GH w (mixL ws t) e w' := by
  unfold mixL
  rw [hl, hb.size]
  exact (vmix_made a b la ca lb cb hs t ws w ha hb hla hlb h0).mono fun e w' h => h.gh
theorem mixK_bd {ws : List Int} {ls : List (List Int)} {m : Nat} (h : ∀ i, i < ls.length → (ls[i]?.getD []).length ≤ m) (k : Nat) : (mixK ws ls k).length ≤ m := by
  induction k with
  | zero =>
    simp only [mixK, List.length_replicate]
    by_cases h0 : 0 < ls.length
    · exact h 0 h0
    · rw [List.getElem?_eq_none (by omega)]; exact Nat.zero_le _
  | succ k ih => simp only [mixK]; rw [pairK_len]; omega
/-- The call hands back a slice that reads as this table. -/
def GT (w : World) (L : List (List Int)) (e : Ending) (w' : World) : Prop := ∃ (a : Option Addr) (n cap : Nat) (hs : List Hd), e = .returned (.slice a n cap) ∧ Tbl w' a n cap hs L ∧ L.length = n ∧ Below w.heap.size w w'
theorem rows_h (p : Option Addr) (c : Cf) (la wh : Int) (w : World) (hp : MdAt w p c) (hc : mayB c = true) :
    Calls Tryz.prog 208 #[.pointer p, .int .i64 la, .int .i64 wh] w fun e w' => GT w (tabL c la wh) e w' := (rows_g p c la wh w hp hc).mono fun e w' ⟨a, cap, hs, h1, h2, h3⟩ => ⟨a, _, cap, hs, h1, h2, rfl, h3⟩

theorem forward_h (p : Option Addr) (c : Cf) (la : Int) (a : Option Addr) (n cap : Nat) (zs : List Int) (w : World) (hp : MdAt w p c) (hc : mayB c = true) (hx : Reads .i64 w a n cap zs) (hn : n ≤ 1000) :
    Calls Tryz.prog 213 #[.pointer p, .int .i64 la, .slice a n cap] w fun e w' => GH w (fwdL c la zs) e w' := by
  have h4 := tabL_len hc la 4
  have h5 := tabL_len hc la 5
  have HR := hid fun wh W (hb : Below w.heap.size w W) => rows_h p c la wh W (hp.below hb) hc
  have HX := hid hx
  have HN := hid (normL_len zs)
  have HE : Hid (fwdL c la zs = mulT (tabL c la 5) (reluL (mulT (tabL c la 4) (normL zs)))) := rfl
  have HS := hid hx.size
  clear hp hx
  go_enter Tryz.func213, Tryz.ntmps213
  go_wp2_with fail
  refine (HR.out 4 _ (Below.refl _ _)).mono ?_
  rintro e w1 ⟨a1, n1, c1, hs1, rfl, hT, hl, hb⟩
  have HT := hid hT
  have HTl := hid hl
  have HV := hid hb
  replace HX := hid (HX.out.below hb)
  clear hT hl hb
  go_wp2_with fail
  refine (norm_h a n cap zs _ HX.out hn).mono ?_
  rintro e w2 ⟨a2, n2, c2, rfl, hR, hI, hb⟩
  have HQ := hid hR
  replace HT := hid (HT.out.below hb)
  replace HV := hid (HV.out.trans (hb.mono HV.out.size))
  clear hR hI hb HX
  go_wp2_with fail
  refine (mul_h a1 a2 n1 c1 n2 c2 hs1 _ _ _ HT.out HTl.out HQ.out (by rw [← HTl.out]; omega) (by rw [← HQ.out.size, HN.out, HS.out]; exact hn)).mono ?_
  rintro e w3 ⟨a3, n3, c3, rfl, hR, hI, hb⟩
  have HU := hid hR
  replace HV := hid (HV.out.trans (hb.mono HV.out.size))
  clear hR hI hb HT HTl HQ HN HS
  go_wp2_with fail
  refine (HR.out 5 _ HV.out).mono ?_
  rintro e w4 ⟨a4, n4, c4, hs4, rfl, hT, hl, hb⟩
  have HT := hid hT
  have HTl := hid hl
  replace HU := hid (HU.out.below hb)
  replace HV := hid (HV.out.trans (hb.mono HV.out.size))
  clear hT hl hb HR
  have HUl : Hid (n3 ≤ 1000) := by unfold Hid; rw [← HU.out.size, mulT_len]; omega
  go_wp2_with fail
  refine (relu_h a3 n3 c3 _ _ HU.out HUl.out).mono ?_
  rintro e w5 ⟨a5, n5, c5, rfl, hR, hI, hb⟩
  have HW := hid hR
  replace HT := hid (HT.out.below hb)
  replace HV := hid (HV.out.trans (hb.mono HV.out.size))
  clear hR hI hb HU HUl
  go_wp2_with fail
  refine (mul_h a4 a5 n4 c4 n5 c5 hs4 _ _ _ HT.out HTl.out HW.out (by rw [← HTl.out]; omega) (by rw [← HW.out.size, reluL_len, mulT_len]; omega)).mono ?_
  rintro e w6 ⟨a6, n6, c6, rfl, hR, hI, hb⟩
  have HY := hid hR
  have HYI := hid hI
  replace HV := hid (HV.out.trans (hb.mono HV.out.size))
  clear hR hI hb HT HTl HW
  go_wp2
  go_ret
  refine ⟨_, _, _, rfl, ?_, HYI.out, HV.out⟩
  rw [HE.out]
  exact HY.out

/-- A slice cut to its first ones. -/
theorem slice_to {T e : TypeId} {i : TypeInfo} (a : Option Addr) (len cap m : Nat) (hT : Tryz.prog.underlying T = some (.slice e)) (hi : Tryz.prog.info? e = some i) (hm : m ≤ cap) (W : World) :
    (Instr.sliceAt T (.slice a len cap) none (some (.int .i64 (m : Int))) none).run Tryz.prog W = .ok (.slice a m cap) W := by
  have h1 : (Instr.sliceBound (.int .i64 (m : Int)) cap .sliceAcap).run Tryz.prog W = .ok m W := by
    rw [run_sliceBound W .i64 (m : Int) cap _ (by omega) (by omega)]; simp
  have h2 : (if cap = 0 then a else a.map fun x => x.add 0) = a := by
    split
    · rfl
    · cases a <;> simp [Addr.add]
  simp [Instr.sliceAt, Instr.slice, run_underlying hT, Instr.sliceBounds, h1, sizeOf, typeInfo, hi, h2]

/-- What Step hands back. -/
def Stp (w : World) (X K V : List Int) (e : Ending) (w' : World) : Prop := ∃ (a1 a2 a3 : Option Addr) (n1 n2 n3 c1 c2 c3 : Nat), e = .returned (.tuple #[.slice a1 n1 c1, .slice a2 n2 c2, .slice a3 n3 c3]) ∧
  Reads .i64 w' a1 n1 c1 X ∧ Reads .i64 w' a2 n2 c2 K ∧ Reads .i64 w' a3 n3 c3 V ∧ BlI w' a1 ∧ BlI w' a2 ∧ BlI w' a3 ∧ Below w.heap.size w w'

theorem step_no (p : Option Addr) (c : Cf) (la : Int) (a : Option Addr) (n cap : Nat) (zs : List Int) (k v : Value) (w : World) (hp : MdAt w p c) (hl : la < 0 ∨ c.layers ≤ la) (hx : Reads .i64 w a n cap zs) (hn : n ≤ 1000) :
    Calls Tryz.prog 184 #[.pointer p, .int .i64 la, .slice a n cap, k, v] w fun e w' => Stp w zs [] [] e w' := by
  have hC := config_any p c w hp
  have HX := hid hx
  obtain ⟨s, vo, d, l, tt, h⟩ := c
  unfold CfV at hC
  simp only at hC hl
  clear hp hx
  by_cases h0 : la < 0
  · clear hC hl
    go_enter Tryz.func184, Tryz.ntmps184
    go_wp2_with fail
    refine (clone_any a n cap zs _ HX.out hn).mono ?_
    rintro e w2 ⟨u, rfl, hO, hb⟩
    obtain ⟨a2, c2, rfl, hR⟩ := Reads.own (k := .i64) hO
    have HR := hid hR
    have HI := hid (BlI.own hO)
    have HB := hid hb
    clear hO hb hR HX
    go_wp2
    go_ret3
    exact ⟨_, _, _, _, _, _, _, _, _, rfl, HR.out, Reads.nil _ _, Reads.nil _ _, HI.out, BlI.none _, BlI.none _, HB.out⟩
  · have h1 : l ≤ la := by omega
    clear hl
    have hfd := fld_layers s vo d l tt h
    go_enter Tryz.func184, Tryz.ntmps184
    go_wp2_with fail
    refine hC.mono ?_
    rintro e w1 ⟨rfl, hb⟩
    replace HX := hid (HX.out.below hb)
    have HV := hid hb
    clear hb hC
    go_wp2_with fail
    refine (clone_any a n cap zs _ HX.out hn).mono ?_
    rintro e w2 ⟨u, rfl, hO, hb⟩
    obtain ⟨a2, c2, rfl, hR⟩ := Reads.own (k := .i64) hO
    have HR := hid hR
    have HI := hid (BlI.own hO)
    have HB := hid (HV.out.trans (hb.mono HV.out.size))
    clear hO hb hR HX HV
    go_wp2
    go_ret3
    exact ⟨_, _, _, _, _, _, _, _, _, rfl, HR.out, Reads.nil _ _, Reads.nil _ _, HI.out, BlI.none _, BlI.none _, HB.out⟩
end Go.Proofs.YtjgggialnegddaaGreat
