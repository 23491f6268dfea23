/-
  The texts DeMath, RRef, DeMath2, EnMath, EnWant, EnMath2 of this proof.
-/
import Derived.Test.YtjgggialnegddaaGreatPq20
import Derived.Test.YtjgggialnegddaaGreatPq22
import Derived.Deep.RegionHeld3
import Derived.Test.YtjgggialnegddaaGreatPq10
import Derived.Deep.QuietTactic
import Derived.BigQuiet
import Derived.Test.YtjgggialnegddaaGreatPq11
set_option linter.unusedVariables false
set_option maxRecDepth 1000000
namespace Go.Proofs.YtjgggialnegddaaGreat
open Go.RowKit
def tvL (c : Cf) (ts : List Int) (i : Nat) : List Int := addL (tokL c (ts[i]?.getD 0)) (plL c i)
def tvsL (c : Cf) (ts : List Int) : List (List Int) := tblK (tvL c ts) ts.length
theorem tvsL_at (c : Cf) (ts : List Int) {i : Nat} (h : i < ts.length) : (tvsL c ts)[i]?.getD [] = tvL c ts i := tblK_at _ h
def outK (c : Cf) (ts : List Int) : Nat → List Int
 | 0 => []
 | k + 1 => madeL c c.layers.toNat (tvsL c ts) k
noncomputable def toldZ (c : Cf) (ts : List Int) (seed : Int) : Int := nextZ c (outK c ts ts.length) seed ts.length
noncomputable def refL (c : Cf) (seed : Int) : List Int → Nat → List Int
 | _, 0 => []
 | ts, m + 1 => if 256 ≤ ts.length then [] else if toldZ c ts seed = 0 then [] else toldZ c ts seed :: refL c seed (ts ++ [toldZ c ts seed]) m
def mayJ (v most : Int) (ts : List Int) : Bool := decide (0 ≤ most) && (decide (most ≤ 256) && (decide (ts.length ≤ 255) && ts.all fun t => decide (0 ≤ t) && decide (t < v)))
theorem tvL_len {c : Cf} (h : mayB c = true) (ts : List Int) (i : Nat) : (tvL c ts i).length ≤ 16 := by
 unfold tvL; rw [addL_len]; have := tokL_len h (ts[i]?.getD 0); omega
theorem tvs_len {c : Cf} (h : mayB c = true) (ts : List Int) (i : Nat) : ((tvsL c ts)[i]?.getD []).length ≤ 16 := by
 by_cases hi : i < ts.length
 ·rw [tvsL_at c ts hi]; exact tvL_len h ts i
 ·rw [List.getElem?_eq_none (by unfold tvsL; rw [tblK_len]; omega)]; simp
theorem outK_len {c : Cf} (h : mayB c = true) (ts : List Int) (k : Nat) : (outK c ts k).length ≤ 16 := by
 cases k with
 | zero => simp [outK]
 | succ k => exact Nat.le_trans (thrX_len _ _ _ _) (tvs_len h ts k)
theorem memL_ext (c : Cf) (L : Nat) {xs ys : List (List Int)} : ∀ k, (∀ i, i < k → xs[i]?.getD [] = ys[i]?.getD []) → memL c L xs k = memL c L ys k := by
 intro k
 induction k with
 | zero => intro _; rfl
 | succ k ih => intro h; simp only [memL]; rw [ih fun i hi => h i (by omega), h k (by omega)]
theorem madeL_ext (c : Cf) (L : Nat) {xs ys : List (List Int)} {k : Nat} (h : ∀ i, i < k + 1 → xs[i]?.getD [] = ys[i]?.getD []) : madeL c L xs k = madeL c L ys k := by
 unfold madeL; rw [memL_ext c L k fun i hi => h i (by omega), h k (by omega)]
theorem tvs_app (c : Cf) (ts us : List Int) {i : Nat} (h : i < ts.length) : (tvsL c (ts ++ us))[i]?.getD [] = (tvsL c ts)[i]?.getD [] := by
 rw [tvsL_at _ _ h, tvsL_at _ _ (by rw [List.length_append]; omega)]
 unfold tvL
 rw [List.getElem?_append_left h]
theorem memL_app (c : Cf) (L : Nat) (ts us : List Int) {k : Nat} (h : k ≤ ts.length) : memL c L (tvsL c (ts ++ us)) k = memL c L (tvsL c ts) k := memL_ext c L k fun i hi => tvs_app c ts us (by omega)
theorem outK_app (c : Cf) (ts us : List Int) {k : Nat} (h : k ≤ ts.length) : outK c (ts ++ us) k = outK c ts k := by
 cases k with
 | zero => rfl
 | succ k => exact madeL_ext c _ fun i hi => tvs_app c ts us (by omega)
theorem refL_succ (c : Cf) (seed : Int) (ts : List Int) (m : Nat) : refL c seed ts (m + 1) = if 256 ≤ ts.length then [] else if toldZ c ts seed = 0 then [] else toldZ c ts seed :: refL c seed (ts ++ [toldZ c ts seed]) m := rfl
theorem refL_len (c : Cf) (seed : Int) : ∀ m ts, (refL c seed ts m).length ≤ m := by
 intro m
 induction m with
 | zero => intro ts; simp [refL]
 | succ m ih =>
  intro ts
  rw [refL_succ]
  split
  ·simp
  ·split
   ·simp
   ·have := ih (ts ++ [toldZ c ts seed]); simp; omega
theorem refL_less (c : Cf) (seed : Int) : ∀ m ts k, k ≤ m → refL c seed ts k = (refL c seed ts m).take k := by
 intro m
 induction m with
 | zero =>
  intro ts k hk
  obtain rfl : k = 0 := by omega
  simp [refL]
 | succ m ih =>
  intro ts k hk
  cases k with
  | zero => simp [refL]
  | succ k =>
   rw [refL_succ, refL_succ]
   by_cases h1 : 256 ≤ ts.length
   ·rw [if_pos h1, if_pos h1]; simp
   ·rw [if_neg h1, if_neg h1]
    by_cases h2 : toldZ c ts seed = 0
    ·rw [if_pos h2, if_pos h2]; simp
    ·rw [if_neg h2, if_neg h2, List.take_succ_cons, ih _ k (by omega)]
theorem refL_rest (c : Cf) (seed : Int) : ∀ k m ts, k ≤ (refL c seed ts m).length → (refL c seed ts m).drop k = refL c seed (ts ++ (refL c seed ts m).take k) (m - k) := by
 intro k
 induction k with
 | zero => intro m ts _; simp
 | succ k ih =>
  intro m ts h
  cases m with
  | zero => simp [refL] at h
  | succ m =>
   rw [refL_succ] at h ⊢
   by_cases h1 : 256 ≤ ts.length
   ·rw [if_pos h1] at h; simp at h
   ·rw [if_neg h1] at h ⊢
    by_cases h2 : toldZ c ts seed = 0
    ·rw [if_pos h2] at h; simp at h
    ·rw [if_neg h2] at h ⊢
     simp only [List.length_cons] at h
     rw [List.drop_succ_cons, List.take_succ_cons, Nat.add_sub_add_right, ih m _ (by omega), List.append_assoc]
     rfl
theorem refL_stop {c : Cf} {seed : Int} {ts : List Int} {m : Nat} (h : m = 0 ∨ 256 ≤ ts.length ∨ toldZ c ts seed = 0) : refL c seed ts m = [] := by
 cases m with
 | zero => rfl
 | succ m =>
  rw [refL_succ]
  by_cases h1 : 256 ≤ ts.length
  ·rw [if_pos h1]
  ·rw [if_neg h1, if_pos (by omega)]
theorem refL_go {c : Cf} {seed : Int} {ts : List Int} {m : Nat} (h1 : ts.length < 256) (h2 : toldZ c ts seed ≠ 0) : refL c seed ts (m + 1) = toldZ c ts seed :: refL c seed (ts ++ [toldZ c ts seed]) m := by
 rw [refL_succ, if_neg (by omega), if_neg h2]
end Go.Proofs.YtjgggialnegddaaGreat
namespace Go.Proofs.YtjgggialnegddaaGreat
open Go.RowKit
theorem mayJ_iff {v most : Int} {ts : List Int} : mayJ v most ts = true ↔ 0 ≤ most ∧ most ≤ 256 ∧ ts.length ≤ 255 ∧ ∀ i, i < ts.length → 0 ≤ ts[i]?.getD 0 ∧ ts[i]?.getD 0 < v := by
 unfold mayJ
 simp only [Bool.and_eq_true, decide_eq_true_eq, List.all_eq_true]
 refine ⟨fun ⟨h1, h2, h3, h4⟩ => ⟨h1, h2, h3, fun i hi => ?_⟩, fun ⟨h1, h2, h3, h4⟩ => ⟨h1, h2, h3, fun t ht => ?_⟩⟩
 ·rw [List.getElem?_eq_getElem hi]; exact h4 _ (List.getElem_mem hi)
 ·obtain ⟨i, hi, rfl⟩ := List.getElem_of_mem ht
  have := h4 i hi
  rwa [List.getElem?_eq_getElem hi] at this
theorem mayJ_no {v most : Int} {ts : List Int} (h : ¬ (0 ≤ most ∧ most ≤ 256 ∧ ts.length ≤ 255 ∧ ∀ i, i < ts.length → 0 ≤ ts[i]?.getD 0 ∧ ts[i]?.getD 0 < v)) : mayJ v most ts = false := by
 rw [Bool.eq_false_iff]; exact fun e => h (mayJ_iff.1 e)
def slen : Value → Nat
 | .slice _ n _ => n
 | _ => 0
theorem own_slen {w : World} {base e n : Nat} {v : Value} {xs : List Value} (h : w.ownsRow base e 1 v n xs) : slen v = n := by
 rcases id h.2 with ⟨rfl, rfl⟩ | ⟨g, c, cur, rfl, _⟩
 ·rfl
 ·rfl
end Go.Proofs.YtjgggialnegddaaGreat
namespace Go.Proofs.YtjgggialnegddaaGreat
open Go.RowKit
theorem falls_insert (x : Mk) : ∀ qs : List Mk, Falls qs → ∃ rs : List Mk, rs.Perm (x :: qs) ∧ Falls rs := by
 intro qs
 induction qs with
 | nil => intro _; exact ⟨[x], List.Perm.refl _, List.pairwise_singleton _ _⟩
 | cons q qs ih =>
  intro h
  obtain ⟨h1, h2⟩ := List.pairwise_cons.1 h
  rcases leM_total q x with hq | hq
  ·refine ⟨x :: q :: qs, List.Perm.refl _, List.pairwise_cons.2 ⟨fun y hy => ?_, h⟩⟩
   rcases List.mem_cons.1 hy with rfl | hy
   ·exact hq
   ·exact leM_trans (h1 y hy) hq
  ·obtain ⟨rs, hp, hf⟩ := ih h2
   refine ⟨q :: rs, (hp.cons q).trans (List.Perm.swap _ _ _), List.pairwise_cons.2 ⟨fun y hy => ?_, hf⟩⟩
   rcases List.mem_cons.1 (hp.subset hy) with rfl | hy
   ·exact hq
   ·exact h1 y hy
theorem falls_any (ms : List Mk) : ∃ qs : List Mk, qs.Perm ms ∧ Falls qs := by
 induction ms with
 | nil => exact ⟨[], List.Perm.refl _, List.Pairwise.nil⟩
 | cons m ms ih =>
  obtain ⟨qs, hp, hf⟩ := ih
  obtain ⟨rs, hp2, hf2⟩ := falls_insert m qs hf
  exact ⟨rs, hp2.trans (hp.cons m), hf2⟩
theorem top_ex (zs : List Int) (n K : Nat) (h : K ≤ n) : ∃ ps, TopOf zs n K ps := by
 obtain ⟨qs, hp, hf⟩ := falls_any (marksK zs n)
 have hl : qs.length = n := by rw [hp.length_eq, marksK_len]
 refine ⟨(qs.take K).map Prod.fst, qs.take K, qs.drop K, rfl, by rw [List.length_take]; omega, hf.take, by rw [List.take_append_drop]; exact hp, fun r hr q hq => ?_⟩
 have : Falls (qs.take K ++ qs.drop K) := by rw [List.take_append_drop]; exact hf
 exact (List.pairwise_append.1 this).2.2 q hq r hr
theorem first_ex {ws : List Int} {d : Int} : ∀ n, 0 ≤ d → d < sumK ws n → ∃ k, FirstAt ws n d k := by
 intro n
 induction n with
 | zero => intro d0 hd; simp only [sumK] at hd; omega
 | succ n ih =>
  intro d0 hd
  by_cases h : ∀ j, j < n → sumK ws (j + 1) ≤ d
  ·exact ⟨n, by omega, hd, h⟩
  ·cases n with
   | zero => exact absurd (fun j hj => absurd hj (by omega)) h
   | succ m =>
    by_cases h2 : d < sumK ws (m + 1)
    ·obtain ⟨k, hk⟩ := ih d0 h2
     exact ⟨k, by have := hk.lt; omega, hk.up, hk.low⟩
    ·have : ∃ j, j < m + 1 ∧ d < sumK ws (j + 1) := Classical.byContradiction fun hn => h fun j hj => Int.not_lt.1 fun hlt => hn ⟨j, hj, hlt⟩
     obtain ⟨j, hj, hlt⟩ := this
     -- the least such place
     have key : ∀ j, j < m + 2 → d < sumK ws (j + 1) → ∃ k, FirstAt ws (m + 2) d k := by
      intro j
      induction j using Nat.strongRecOn with
      | _ j ihj =>
       intro hj hlt
       by_cases hl : ∀ i, i < j → sumK ws (i + 1) ≤ d
       ·exact ⟨j, hj, hlt, hl⟩
       ·have : ∃ i, i < j ∧ d < sumK ws (i + 1) := Classical.byContradiction fun hn => hl fun i hi => Int.not_lt.1 fun hlt => hn ⟨i, hi, hlt⟩
        obtain ⟨i, hi, hlt'⟩ := this
        exact ihj i hi (by omega) hlt'
     exact key j (by omega) hlt
theorem best_ex (zs : List Int) : ∃ t, BestOf zs t := by
 by_cases h : zs = []
 ·exact ⟨-1, .inl ⟨h, rfl⟩⟩
 ·have hl : 0 < zs.length := List.length_pos_iff.2 h
  obtain ⟨ps, hp⟩ := top_ex zs zs.length 1 hl
  have := hp.len
  match ps, this with
  | [x], _ => exact ⟨x, .inr ⟨hl, hp⟩⟩
theorem draw_ex (zs : List Int) (top heat s p : Int) : ∃ t, DrawOf zs top heat s p t := by
 by_cases h : zs = [] ∨ heat < 1
 ·obtain ⟨t, ht⟩ := best_ex zs
  exact ⟨t, .inl ⟨h, ht⟩⟩
 ·have h0 : 0 < zs.length := List.length_pos_iff.2 fun e => h (.inl e)
  obtain ⟨K, hK, hKl⟩ := kof_any (mx1 top) zs.length
  have hK0 := kof_pos hK h0
  obtain ⟨ps, hp⟩ := top_ex zs zs.length K hKl
  obtain ⟨d0, d1⟩ := below_sum (zs := zs) (heat := heat) s p hp.len hK0
  obtain ⟨k, hk⟩ := first_ex K d0 d1
  exact ⟨_, .inr ⟨h0, by omega, K, k, ps, hK, hp, hk, rfl⟩⟩
theorem best_bd {zs : List Int} {t : Int} (h : BestOf zs t) (h0 : 0 < zs.length) : 0 ≤ t ∧ t < zs.length := by
 rcases h with ⟨rfl, _⟩ | ⟨_, hp⟩
 ·simp at h0
 ·obtain ⟨m, h1, h2⟩ := hp.at (i := 0) (by omega)
  simp at h1
  omega
theorem draw_bd {zs : List Int} {top heat s p t : Int} (h : DrawOf zs top heat s p t) (h0 : 0 < zs.length) : 0 ≤ t ∧ t < zs.length := by
 rcases h with ⟨_, hb⟩ | ⟨_, _, K, k, ps, _, hp, hk, rfl⟩
 ·exact best_bd hb h0
 ·obtain ⟨m, h1, h2⟩ := hp.at hk.lt
  omega
theorem next_bd {c : Cf} (hc : mayB c = true) (zs : List Int) (s p : Int) : 0 ≤ nextZ c zs s p ∧ nextZ c zs s p < c.vocab := by
 have hm := may_parts hc
 obtain ⟨t, ht⟩ := draw_ex (rowK (smarkZ c zs) c.vocab.toNat) c.top c.heat s p
 unfold nextZ
 rw [ht.eq]
 have := draw_bd ht (by rw [rowK_len]; omega)
 rw [rowK_len] at this
 omega
theorem told_bd {c : Cf} (hc : mayB c = true) (ts : List Int) (seed : Int) : 0 ≤ toldZ c ts seed ∧ toldZ c ts seed < c.vocab := next_bd hc _ _ _
theorem refL_in {c : Cf} (hc : mayB c = true) (seed : Int) : ∀ m ts i, i < (refL c seed ts m).length → 0 ≤ (refL c seed ts m)[i]?.getD 0 ∧ (refL c seed ts m)[i]?.getD 0 < c.vocab := by
 intro m
 induction m with
 | zero => intro ts i h; simp [refL] at h
 | succ m ih =>
  intro ts i h
  rw [refL_succ] at h ⊢
  by_cases h1 : 256 ≤ ts.length
  ·rw [if_pos h1] at h; simp at h
  ·rw [if_neg h1] at h ⊢
   by_cases h2 : toldZ c ts seed = 0
   ·rw [if_pos h2] at h; simp at h
   ·rw [if_neg h2] at h ⊢
    cases i with
    | zero => simpa using told_bd hc ts seed
    | succ i => simpa using ih _ i (by simpa using h)
theorem refL_most (c : Cf) (seed : Int) : ∀ m ts, ts.length ≤ 256 → ts.length + (refL c seed ts m).length ≤ 256 := by
 intro m
 induction m with
 | zero => intro ts h; simp [refL]; omega
 | succ m ih =>
  intro ts h
  rw [refL_succ]
  by_cases h1 : 256 ≤ ts.length
  ·rw [if_pos h1]; simp; omega
  ·rw [if_neg h1]
   by_cases h2 : toldZ c ts seed = 0
   ·rw [if_pos h2]; simp; omega
   ·rw [if_neg h2]
    have := ih (ts ++ [toldZ c ts seed]) (by simp; omega)
    simp at this ⊢
    omega
theorem refL_step (c : Cf) (seed : Int) (ts : List Int) (m k : Nat) : refL c seed ts m = refL c seed ts (min m k) ++ refL c seed (ts ++ refL c seed ts (min m k)) (m - (refL c seed ts (min m k)).length) := by
 have h1 := refL_less c seed m ts (min m k) (Nat.min_le_left _ _)
 have hl : (refL c seed ts (min m k)).length ≤ (refL c seed ts m).length := by rw [h1, List.length_take]; omega
 have h2 := refL_rest c seed (refL c seed ts (min m k)).length m ts hl
 have h3 : (refL c seed ts m).take (refL c seed ts (min m k)).length = refL c seed ts (min m k) := by
  conv => lhs; rw [h1]
  rw [List.length_take]
  conv => rhs; rw [h1]
  rcases Nat.le_total (min m k) (refL c seed ts m).length with hh | hh
  ·rw [Nat.min_eq_left hh]
  ·rw [Nat.min_eq_right hh, List.take_length, List.take_of_length_le hh]
 rw [h3] at h2
 rw [← h2]
 conv => lhs; rw [← List.take_append_drop (refL c seed ts (min m k)).length (refL c seed ts m), h3]
end Go.Proofs.YtjgggialnegddaaGreat
namespace Go.Proofs.YtjgggialnegddaaGreat
open Go.RowKit
structure Mg where
 kind : Int
 att : Int
 inc : Int
 n : Int
 cnt : Int
 why : Int
 li : List Int
def ovM (id inc n why : Int) : Mg := ⟨9, id, inc, n, 0, why, []⟩
def emM (id inc n : Int) (li : List Int) : Mg := ⟨8, id, inc, n, 0, 0, li⟩
def poM (n inc cnt : Int) : Mg := ⟨11, 0, inc, n, cnt, 0, []⟩
structure At where
 id : Int
 seed : Int
 ts : List Int
 most : Nat
 k : Nat
 run : Bool
noncomputable def At.text (c : Cf) (a : At) : List Int := refL c a.seed (0 :: a.ts) a.most
structure Rs where
 s : Sg
 inc : Int
 dr : Bool
 L : List At
 tk : Nat
def setB (s : Sg) : Bool := mayB s.c && (btw s.q 1 64 && (btw s.b 1 16 && (btw s.ch 1 16 && (decide (s.pg = 0) || (btw s.pg 1 256 && btw s.sz 1 16)))))
def waitN (L : List At) : Nat := (L.filter fun a => !a.run).length
def fitB (c : Cf) (m : Ms) : Bool := mayJ c.vocab m.job.most m.job.ts && (decide (m.n ≤ m.job.most) && decide (m.n + m.job.ts.length < 256))
def hasB (L : List At) (id : Int) : Bool := L.any fun a => a.id == id
def newA (m : Ms) : At := ⟨m.att, m.job.seed, m.job.ts, m.job.most.toNat, m.n.toNat, false⟩
def startB (S : Rs) (m : Ms) : Bool := fitB S.s.c m && (!S.dr && decide ((waitN S.L : Int) < S.s.q))
def arrM (S : Rs) (m : Ms) : List Mg :=
 if m.kind = 10 then [poM m.n S.inc S.L.length]
 else if m.kind = 6 then
  if m.inc ≠ S.inc then [ovM m.att m.inc m.n 3]
  else if hasB S.L m.att = true then [] else if startB S m = true then [] else [ovM m.att m.inc m.n 2]
 else []
def arrS (S : Rs) (m : Ms) : Rs :=
 if m.inc ≠ S.inc then S
 else if m.kind = 6 then (if hasB S.L m.att = true then S else if startB S m = true then { S with L := S.L ++ [newA m] } else S)
 else if m.kind = 7 then { S with L := S.L.filter fun a => !(a.id == m.att) }
 else if m.kind = 12 then { S with dr := true }
 else S
def runL (b : Nat) : Nat → List At → List At
 | _, [] => []
 | n, a :: L => if a.run = true then a :: runL b (n + 1) L else if n < b then { a with run := true } :: runL b (n + 1) L else a :: runL b n L
def TellR (c : Cf) (ch : Nat) (inc : Int) (a : At) (ms : List Mg) (o : Option At) : Prop :=
 ((a.text c).length < a.k ∧ ms = [ovM a.id inc a.k 1] ∧ o = none) ∨
 (a.k ≤ (a.text c).length ∧ ∃ told, told = ((a.text c).drop a.k).take ch ∧
  ((told.length = ch ∧ ms = (if told = [] then [] else [emM a.id inc a.k told]) ∧ o = some { a with k := a.k + told.length }) ∨
   (a.k + told.length = (a.text c).length ∧ ms = (if told = [] then [] else [emM a.id inc a.k told]) ++ [ovM a.id inc (a.k + told.length : Nat) 1] ∧ o = none)))
def TellsR (c : Cf) (ch : Nat) (inc : Int) : List At → List Mg → List At → Prop
 | [], ms, L' => ms = [] ∧ L' = []
 | a :: L, ms, L' => (a.run = false ∧ ∃ L2, L' = a :: L2 ∧ TellsR c ch inc L ms L2) ∨ (a.run = true ∧ ∃ m1 m2 o L2, ms = m1 ++ m2 ∧ L' = o.toList ++ L2 ∧ TellR c ch inc a m1 o ∧ TellsR c ch inc L m2 L2)
def StepR (S : Rs) (ms : List Mg) (S' : Rs) : Prop := ∃ L', TellsR S.s.c S.s.ch.toNat S.inc (runL S.s.b.toNat 0 S.L) ms L' ∧ S' = { S with L := L', tk := S.tk + 32 }
end Go.Proofs.YtjgggialnegddaaGreat
namespace Go.Proofs.YtjgggialnegddaaGreat
open Go.RowKit
def MgC (m : Mg) (la : Option Addr) (ll lc : Nat) : Array Value := #[.int .i64 m.kind, .int .u64 0, .int .u64 0, .int .u64 m.att, .int .u64 m.inc, .int .u64 m.n, .int .u64 m.cnt, .int .i64 m.why, .int .u64 0, .slice none 0 0, .int .i64 0, .slice la ll lc]
structure MgsAt (lo : Nat) (W : World) (a : Option Addr) (len cap : Nat) (ms : List Mg) : Prop where
 size : ms.length = len
 room : len ≤ cap
 most : cap ≤ 9223372036854775807
 bare : a = none → len = 0 ∧ cap = 0
 cell : ∀ i (hi : i < ms.length), ∃ b off la ll lc, a = some ⟨b, off, none⟩ ∧ (∀ j, j < 12 → W.cell? ⟨b, off + i * 12 + j, none⟩ = (MgC ms[i] la ll lc)[j]?) ∧ Reads .i64 W la ll lc ms[i].li ∧ ∀ p, la = some p → lo ≤ p.block
theorem MgsAt.below {lo : Nat} {W W' : World} {a : Option Addr} {len cap : Nat} {ms : List Mg} (h : MgsAt lo W a len cap ms) (hb : Below W.heap.size W W') : MgsAt lo W' a len cap ms :=
 ⟨h.size, h.room, h.most, h.bare, fun i hi => by
  obtain ⟨b, off, la, ll, lc, h1, h2, h3, h4⟩ := h.cell i hi
  refine ⟨b, off, la, ll, lc, h1, fun j hj => ?_, h3.below hb, h4⟩
  have h5 := h2 j hj
  have hsz : j < (MgC ms[i] la ll lc).size := hj
  obtain ⟨v, hv⟩ : ∃ v, (MgC ms[i] la ll lc)[j]? = some v := ⟨_, Array.getElem?_eq_getElem hsz⟩
  rw [hv] at h5 ⊢
  exact (hb.cell (World.block_lt_of_cell? _ _ h5)).trans h5⟩
theorem MgsAt.at {lo : Nat} {W : World} {a : Option Addr} {len cap : Nat} {ms : List Mg} (h : MgsAt lo W a len cap ms) {i : Nat} (hi : i < ms.length) : ∃ b off la ll lc, a = some ⟨b, off, none⟩ ∧ Reads .i64 W la ll lc ms[i].li ∧ (∀ p, la = some p → lo ≤ p.block) ∧
  W.cell? ⟨b, off + i * 12 + 0, none⟩ = some (.int .i64 ms[i].kind) ∧ W.cell? ⟨b, off + i * 12 + 1, none⟩ = some (.int .u64 0) ∧ W.cell? ⟨b, off + i * 12 + 2, none⟩ = some (.int .u64 0) ∧ W.cell? ⟨b, off + i * 12 + 3, none⟩ = some (.int .u64 ms[i].att) ∧ W.cell? ⟨b, off + i * 12 + 4, none⟩ = some (.int .u64 ms[i].inc) ∧ W.cell? ⟨b, off + i * 12 + 5, none⟩ = some (.int .u64 ms[i].n) ∧ W.cell? ⟨b, off + i * 12 + 6, none⟩ = some (.int .u64 ms[i].cnt) ∧ W.cell? ⟨b, off + i * 12 + 7, none⟩ = some (.int .i64 ms[i].why) ∧ W.cell? ⟨b, off + i * 12 + 8, none⟩ = some (.int .u64 0) ∧ W.cell? ⟨b, off + i * 12 + 9, none⟩ = some (.slice none 0 0) ∧ W.cell? ⟨b, off + i * 12 + 10, none⟩ = some (.int .i64 0) ∧ W.cell? ⟨b, off + i * 12 + 11, none⟩ = some (.slice la ll lc) := by
 obtain ⟨b, off, la, ll, lc, h1, h2, h3, h4⟩ := h.cell i hi
 exact ⟨b, off, la, ll, lc, h1, h3, h4, h2 0 (by omega), h2 1 (by omega), h2 2 (by omega), h2 3 (by omega), h2 4 (by omega), h2 5 (by omega), h2 6 (by omega), h2 7 (by omega), h2 8 (by omega), h2 9 (by omega), h2 10 (by omega), h2 11 (by omega)⟩
structure OkR (S : Rs) : Prop where
 set : setB S.s = true
 inc : 1 ≤ S.inc ∧ S.inc ≤ 9223372036854775808
 one : (S.L.map (·.id)).Nodup
 few : (S.L.length : Int) ≤ S.s.q + S.s.b
 ok : ∀ a ∈ S.L, isU a.id ∧ isU a.seed ∧ a.most ≤ 256 ∧ a.k ≤ a.most ∧ a.ts.length + a.k < 256
end Go.Proofs.YtjgggialnegddaaGreat
namespace Go.Proofs.YtjgggialnegddaaGreat
open Go.RowKit
theorem runL_ids (b : Nat) : ∀ (L : List At) (n : Nat), (runL b n L).map (·.id) = L.map (·.id)
 | [], n => rfl
 | a :: L, n => by
  simp only [runL]
  split
  ·simp [runL_ids b L]
  ·split <;> simp [runL_ids b L]
theorem step_one {S S' : Rs} {ms : List Mg} {a : At} (h : StepR S ms S') (hL : S.L = [a]) (hb : 1 ≤ S.s.b.toNat) (hk : a.k ≤ (a.text S.s.c).length) :
  ∃ told, told = ((a.text S.s.c).drop a.k).take S.s.ch.toNat ∧
   ((told.length = S.s.ch.toNat ∧ ms = (if told = [] then [] else [emM a.id S.inc a.k told]) ∧ S' = { S with L := [{ a with run := true, k := a.k + told.length }], tk := S.tk + 32 }) ∨
    (a.k + told.length = (a.text S.s.c).length ∧ ms = (if told = [] then [] else [emM a.id S.inc a.k told]) ++ [ovM a.id S.inc (a.k + told.length : Nat) 1] ∧ S' = { S with L := [], tk := S.tk + 32 })) := by
 obtain ⟨L', h1, rfl⟩ := h
 have hr : runL S.s.b.toNat 0 S.L = [{ a with run := true }] := by
  rw [hL]
  obtain ⟨id, sd, ts, mo, k, r⟩ := a
  cases r
  ·simp [runL, show 0 < S.s.b.toNat by omega]
  ·simp [runL]
 rw [hr] at h1
 rcases h1 with ⟨h', _⟩ | ⟨_, m1, m2, o, L2, rfl, rfl, h2, h3, h4⟩
 ·cases h'
 subst h3 h4
 have ht : At.text S.s.c { a with run := true } = a.text S.s.c := rfl
 rcases h2 with ⟨h4, _⟩ | ⟨h4, told, e1, ⟨e2, e3, e4⟩ | ⟨e2, e3, e4⟩⟩
 ·rw [ht] at h4
  exact absurd h4 (by simp only; omega)
 ·rw [ht] at e1
  exact ⟨told, e1, .inl ⟨e2, by rw [e3]; simp, by rw [e4]; simp⟩⟩
 ·rw [ht] at e1 e2
  exact ⟨told, e1, .inr ⟨e2, by rw [e3]; simp, by rw [e4]; simp⟩⟩
def ovT (T : Int → Bool) (m : Mg) : Int → Bool := if m.kind = 9 then fun x => if x = m.att then false else T x else T
def runT : (Int → Bool) → List Mg → Int → Bool
 | T, [] => T
 | T, m :: ms => runT (ovT T m) ms
def okT (inc : Int) : (Int → Bool) → List Mg → Prop
 | T, [] => True
 | T, m :: ms => T m.att = true ∧ m.inc = inc ∧ okT inc (ovT T m) ms
theorem runT_app (T : Int → Bool) (xs bs : List Mg) : runT T (xs ++ bs) = runT (runT T xs) bs := by
 induction xs generalizing T with
 | nil => rfl
 | cons a xs ih => exact ih (ovT T a)
theorem okT_app {inc : Int} {T : Int → Bool} {xs bs : List Mg} (h1 : okT inc T xs) (h2 : okT inc (runT T xs) bs) : okT inc T (xs ++ bs) := by
 induction xs generalizing T with
 | nil => exact h2
 | cons a xs ih => exact ⟨h1.1, h1.2.1, ih h1.2.2 h2⟩
theorem ovT_em (T : Int → Bool) (id inc n : Int) (li : List Int) : ovT T (emM id inc n li) = T := by unfold ovT emM; simp
theorem ovT_ov (T : Int → Bool) (id inc n why : Int) : ovT T (ovM id inc n why) = fun x => if x = id then false else T x := by unfold ovT ovM; simp
theorem tell_ok {c : Cf} {ch : Nat} {inc : Int} {a : At} {ms : List Mg} {o : Option At} (h : TellR c ch inc a ms o) (T : Int → Bool) (hT : T a.id = true) :
  okT inc T ms ∧ (∀ x, x ≠ a.id → runT T ms x = T x) ∧ ((o = none ∧ runT T ms a.id = false) ∨ (∃ a', o = some a' ∧ a'.id = a.id ∧ runT T ms a.id = true)) := by
 have hem : ∀ (told : List Int), okT inc T (if told = [] then [] else [emM a.id inc a.k told]) ∧ runT T (if told = [] then [] else [emM a.id inc a.k told]) = T := fun told => by
  split
  ·exact ⟨trivial, rfl⟩
  ·refine ⟨⟨hT, rfl, trivial⟩, ?_⟩
   simp only [runT, ovT_em]
 have hov : ∀ n : Int, okT inc T [ovM a.id inc n 1] ∧ runT T [ovM a.id inc n 1] = fun x => if x = a.id then false else T x := fun n => ⟨⟨hT, rfl, trivial⟩, by simp only [runT, ovT_ov]⟩
 rcases h with ⟨h1, rfl, rfl⟩ | ⟨h1, told, e1, ⟨e2, rfl, rfl⟩ | ⟨e2, rfl, rfl⟩⟩
 ·exact ⟨(hov _).1, fun x hx => by rw [(hov _).2]; simp [hx], .inl ⟨rfl, by rw [(hov _).2]; simp⟩⟩
 ·exact ⟨(hem told).1, fun x hx => by rw [(hem told).2], .inr ⟨_, rfl, rfl, by rw [(hem told).2]; exact hT⟩⟩
 ·refine ⟨okT_app (hem told).1 (by rw [(hem told).2]; exact (hov _).1), fun x hx => ?_, .inl ⟨rfl, ?_⟩⟩
  ·rw [runT_app, (hem told).2, (hov _).2]; simp [hx]
  ·rw [runT_app, (hem told).2, (hov _).2]; simp
theorem tells_ok {c : Cf} {ch : Nat} {inc : Int} : ∀ {L L' : List At} {ms : List Mg}, TellsR c ch inc L ms L' → (L.map (·.id)).Nodup → ∀ T : Int → Bool, (∀ x ∈ L.map (·.id), T x = true) →
  okT inc T ms ∧ (∀ x, x ∉ L.map (·.id) → runT T ms x = T x) ∧ (∀ x ∈ L.map (·.id), (runT T ms x = true ↔ x ∈ L'.map (·.id))) ∧ ∀ x ∈ L'.map (·.id), x ∈ L.map (·.id) := by
 intro L
 induction L with
 | nil =>
  rintro L' ms ⟨rfl, rfl⟩ _ T _
  exact ⟨trivial, fun x _ => rfl, fun x hx => by simp at hx, fun x hx => hx⟩
 | cons a L ih =>
  intro L' ms h hn T hT
  rcases h with ⟨h, L', rfl, t⟩ | ⟨h, m1, ms, o, L', rfl, rfl, h1, t⟩
  ·rw [List.map_cons, List.nodup_cons] at hn
   obtain ⟨k1, k2, k3, k4⟩ := ih t hn.2 T fun x hx => hT x (List.mem_cons_of_mem _ hx)
   have ha := k2 a.id hn.1
   refine ⟨k1, fun x hx => k2 x fun h' => hx (List.mem_cons_of_mem _ h'), fun x hx => ?_, fun x hx => ?_⟩
   ·rcases List.mem_cons.1 hx with rfl | hx'
    ·rw [ha]
     exact ⟨fun _ => List.mem_cons_self .., fun _ => hT _ (List.mem_cons_self ..)⟩
    ·rw [k3 x hx']
     refine ⟨fun h' => List.mem_cons_of_mem _ h', fun h' => ?_⟩
     rcases List.mem_cons.1 h' with e | h''
     ·have e' : x = a.id := e
      exact absurd (e' ▸ hx') hn.1
     ·exact h''
   ·rcases List.mem_cons.1 hx with rfl | hx'
    ·exact List.mem_cons_self ..
    ·exact List.mem_cons_of_mem _ (k4 x hx')
  ·rw [List.map_cons, List.nodup_cons] at hn
   obtain ⟨j1, j2, j3⟩ := tell_ok h1 T (hT _ (List.mem_cons_self ..))
   have hT1 : ∀ x ∈ L.map (·.id), runT T m1 x = true := fun x hx => by
    rw [j2 x fun e => hn.1 (e ▸ hx)]
    exact hT x (List.mem_cons_of_mem _ hx)
   obtain ⟨k1, k2, k3, k4⟩ := ih t hn.2 (runT T m1) hT1
   have ho : ∀ x, x ∈ (o.toList ++ L').map (·.id) ↔ (x = a.id ∧ runT T m1 a.id = true) ∨ x ∈ L'.map (·.id) := fun x => by
    rw [List.map_append, List.mem_append]
    rcases j3 with ⟨rfl, e⟩ | ⟨a', rfl, e1, e2⟩
    ·simp [e]
    ·simp [e1, e2]
   refine ⟨okT_app j1 k1, fun x hx => ?_, fun x hx => ?_, fun x hx => ?_⟩
   ·rw [runT_app, k2 x fun h' => hx (List.mem_cons_of_mem _ h'), j2 x fun e => hx (e ▸ List.mem_cons_self ..)]
   ·rw [runT_app, ho]
    rcases List.mem_cons.1 hx with rfl | hx'
    ·rw [k2 _ hn.1]
     refine ⟨fun h' => .inl ⟨rfl, h'⟩, fun h' => ?_⟩
     rcases h' with h' | h'
     ·exact h'.2
     ·exact absurd (k4 _ h') hn.1
    ·rw [k3 x hx']
     refine ⟨.inr, fun h' => ?_⟩
     rcases h' with h' | h'
     ·exact absurd (h'.1 ▸ hx') hn.1
     ·exact h'
   ·rcases (ho x).1 hx with h' | h'
    ·exact h'.1 ▸ List.mem_cons_self ..
    ·exact List.mem_cons_of_mem _ (k4 x h')
theorem step_ids {S S' : Rs} {ms : List Mg} (h : StepR S ms S') (hn : (S.L.map (·.id)).Nodup) (T : Int → Bool) (hT : ∀ x, T x = true ↔ x ∈ S.L.map (·.id)) : okT S.inc T ms ∧ (∀ x, runT T ms x = true ↔ x ∈ S'.L.map (·.id)) ∧ S'.inc = S.inc := by
 obtain ⟨L', h1, rfl⟩ := h
 obtain ⟨k1, k2, k3, k4⟩ := tells_ok h1 (by rw [runL_ids]; exact hn) T (fun x hx => (hT x).2 (by rw [runL_ids] at hx; exact hx))
 rw [runL_ids] at k2 k3 k4
 refine ⟨k1, fun x => ?_, rfl⟩
 by_cases hx : x ∈ S.L.map (·.id)
 ·exact k3 x hx
 ·rw [k2 x hx]
  exact ⟨fun h' => absurd ((hT x).1 h') hx, fun h' => absurd (k4 x h') hx⟩
def arrT (S : Rs) (m : Ms) (T : Int → Bool) : Int → Bool := if m.kind = 6 ∧ (arrM S m).length = 0 ∧ m.inc = S.inc then fun x => if x = m.att then true else T x else if m.kind = 7 ∧ m.inc = S.inc then fun x => if x = m.att then false else T x else T
theorem hasB_iff {L : List At} {id : Int} : hasB L id = true ↔ id ∈ L.map (·.id) := by
 unfold hasB
 rw [List.any_eq_true, List.mem_map]
 constructor
 ·rintro ⟨a, h1, h2⟩
  exact ⟨a, h1, by simpa using h2⟩
 ·rintro ⟨a, h1, h2⟩
  exact ⟨a, h1, by simpa using h2⟩
theorem arr_inc (S : Rs) (m : Ms) : (arrS S m).inc = S.inc := by
 unfold arrS
 split
 ·rfl
 ·split
  ·split
   ·rfl
   ·split <;> rfl
  ·split
   ·rfl
   ·split <;> rfl
theorem arr_set (S : Rs) (m : Ms) : (arrS S m).s = S.s := by
 unfold arrS
 split
 ·rfl
 ·split
  ·split
   ·rfl
   ·split <;> rfl
  ·split
   ·rfl
   ·split <;> rfl
theorem arr_ids (S : Rs) (m : Ms) (T : Int → Bool) (hT : ∀ x, T x = true ↔ x ∈ S.L.map (·.id)) : ∀ x, arrT S m T x = true ↔ x ∈ (arrS S m).L.map (·.id) := by
 intro x
 by_cases hi : m.inc = S.inc
 ·by_cases h6 : m.kind = 6
  ·have hm : arrM S m = if hasB S.L m.att = true then [] else if startB S m = true then [] else [ovM m.att m.inc m.n 2] := by
    unfold arrM
    rw [if_neg (by omega), if_pos h6, if_neg (by simp [hi])]
   have hs : arrS S m = if hasB S.L m.att = true then S else if startB S m = true then { S with L := S.L ++ [newA m] } else S := by
    unfold arrS
    rw [if_neg (by simp [hi]), if_pos h6]
   by_cases hh : hasB S.L m.att = true
   ·rw [if_pos hh] at hm hs
    unfold arrT
    rw [hm, hs, if_pos ⟨h6, rfl, hi⟩]
    by_cases e : x = m.att
    ·simp only [e, if_true, true_iff]
     exact hasB_iff.1 hh
    ·simp only [if_neg e]
     exact hT x
   ·rw [if_neg hh] at hm hs
    by_cases hb : startB S m = true
    ·rw [if_pos hb] at hm hs
     unfold arrT
     rw [hm, hs, if_pos ⟨h6, rfl, hi⟩]
     simp only [List.map_append, List.mem_append, List.map_cons, List.map_nil, List.mem_singleton]
     by_cases e : x = m.att
     ·simp [e, newA]
     ·simp only [if_neg e, hT x]
      exact ⟨.inl, fun h => h.resolve_right fun e2 => e e2⟩
    ·rw [if_neg hb] at hm hs
     unfold arrT
     rw [hm, hs, if_neg (by simp), if_neg (by omega)]
     exact hT x
  ·have hs : arrS S m = if m.kind = 7 then { S with L := S.L.filter fun a => !(a.id == m.att) } else if m.kind = 12 then { S with dr := true } else S := by
    unfold arrS
    rw [if_neg (by simp [hi]), if_neg h6]
   unfold arrT
   rw [hs, if_neg (fun h => h6 h.1)]
   by_cases h7 : m.kind = 7
   ·rw [if_pos ⟨h7, hi⟩, if_pos h7]
    simp only [List.mem_map, List.mem_filter]
    by_cases e : x = m.att
    ·simp only [e, if_true, Bool.false_eq_true, false_iff]
     rintro ⟨a, ⟨_, h1⟩, h2⟩
     simp [h2] at h1
    ·simp only [if_neg e, hT x, List.mem_map]
     constructor
     ·rintro ⟨a, h1, h2⟩
      exact ⟨a, ⟨h1, by simp [h2, e]⟩, h2⟩
     ·rintro ⟨a, ⟨h1, _⟩, h2⟩
      exact ⟨a, h1, h2⟩
   ·rw [if_neg (fun h => h7 h.1), if_neg h7]
    split <;> exact hT x
 ·have hs : arrS S m = S := by
   unfold arrS
   rw [if_pos hi]
  unfold arrT
  rw [hs, if_neg (fun h => hi h.2.2), if_neg (fun h => hi h.2)]
  exact hT x
end Go.Proofs.YtjgggialnegddaaGreat
