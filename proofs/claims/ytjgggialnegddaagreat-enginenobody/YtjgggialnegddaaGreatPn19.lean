/-
  The texts AMath, Steps, StepY, Mems, Mems2 of this proof.
-/
import Derived.Test.YtjgggialnegddaaGreatPn13
import Derived.Test.YtjgggialnegddaaGreatPn14
import Derived.ArgAppend
import Derived.Lib.SliceRun
set_option linter.unusedVariables false
set_option maxRecDepth 1000000
namespace Go.Proofs.YtjgggialnegddaaGreat
open Go.RowKit
def markZ (c : Cf) (q y : List Int) : Int := divZ (dotK y q (min y.length q.length)) (sqrtZ (fromZ c.dim))
def mulT (t : List (List Int)) (ys : List Int) : List Int := rowK (mulF t ys) t.length
def addL (xs ys : List Int) : List Int := pairK addZ xs ys (min xs.length ys.length)
def reluL (zs : List Int) : List Int := zs.map fun n => max (wi n) 0
def qryL (c : Cf) (la : Int) (x : List Int) : List Int := mulT (tabL c la 0) (normL x)
def keyL (c : Cf) (la : Int) (x : List Int) : List Int := mulT (tabL c la 1) (normL x)
def valL (c : Cf) (la : Int) (x : List Int) : List Int := mulT (tabL c la 2) (normL x)
def wtsL (c : Cf) (la : Int) (x : List Int) (ks : List (List Int)) : List Int := softL ((ks ++ [keyL c la x]).map (markZ c (qryL c la x)))
def mixL (ws : List Int) (ls : List (List Int)) : List Int := mixK ws ls (min ws.length ls.length)
def hidL (c : Cf) (la : Int) (x : List Int) (ks vs : List (List Int)) : List Int := addL x (mulT (tabL c la 3) (mixL (wtsL c la x ks) (vs ++ [valL c la x])))
def fwdL (c : Cf) (la : Int) (h : List Int) : List Int := mulT (tabL c la 5) (reluL (mulT (tabL c la 4) (normL h)))
def outL (c : Cf) (la : Int) (x : List Int) (ks vs : List (List Int)) : List Int := addL (hidL c la x ks vs) (fwdL c la (hidL c la x ks vs))
theorem mulT_len (t : List (List Int)) (ys : List Int) : (mulT t ys).length = t.length := by unfold mulT; rw [rowK_len]
theorem addL_len (xs ys : List Int) : (addL xs ys).length = min xs.length ys.length := by unfold addL; rw [pairK_len]
theorem normL_len (zs : List Int) : (normL zs).length = zs.length := by simp [normL]
theorem softL_len (zs : List Int) : (softL zs).length = zs.length := by simp [softL, powL]
theorem reluL_len (zs : List Int) : (reluL zs).length = zs.length := by simp [reluL]
theorem hidL_len (c : Cf) (la : Int) (x : List Int) (ks vs : List (List Int)) : (hidL c la x ks vs).length ≤ x.length := by unfold hidL; rw [addL_len]; omega
theorem outL_len (c : Cf) (la : Int) (x : List Int) (ks vs : List (List Int)) : (outL c la x ks vs).length ≤ x.length := by
 unfold outL; rw [addL_len]; have := hidL_len c la x ks vs; omega
theorem keyL_len {c : Cf} (h : mayB c = true) (la : Int) (x : List Int) : (keyL c la x).length ≤ 16 := by unfold keyL; rw [mulT_len]; exact tabL_len h _ _
theorem valL_len {c : Cf} (h : mayB c = true) (la : Int) (x : List Int) : (valL c la x).length ≤ 16 := by unfold valL; rw [mulT_len]; exact tabL_len h _ _
abbrev KV := List (List Int) × List (List Int)
def kv (M : List KV) (i : Nat) : KV := M[i]?.getD ([], [])
def thrX (c : Cf) (M : List KV) (x : List Int) : Nat → List Int
 | 0 => x
 | k + 1 => outL c k (thrX c M x k) (kv M k).1 (kv M k).2
def thrM (c : Cf) (M : List KV) (x : List Int) (k : Nat) : List KV := (List.range k).map fun j => ((kv M j).1 ++ [keyL c j (thrX c M x j)], (kv M j).2 ++ [valL c j (thrX c M x j)])
theorem thrX_len (c : Cf) (M : List KV) (x : List Int) (k : Nat) : (thrX c M x k).length ≤ x.length := by
 induction k with
 | zero => exact Nat.le_refl _
 | succ k ih => simp only [thrX]; exact Nat.le_trans (outL_len _ _ _ _ _) ih
theorem thrM_len (c : Cf) (M : List KV) (x : List Int) (k : Nat) : (thrM c M x k).length = k := by simp [thrM]
theorem thrM_at (c : Cf) (M : List KV) (x : List Int) {k j : Nat} (h : j < k) : kv (thrM c M x k) j = ((kv M j).1 ++ [keyL c j (thrX c M x j)], (kv M j).2 ++ [valL c j (thrX c M x j)]) := by simp [thrM, kv, h]
def noneM (n : Nat) : List KV := List.replicate n ([], [])
theorem noneM_len (n : Nat) : (noneM n).length = n := by simp [noneM]
theorem noneM_at (n i : Nat) : kv (noneM n) i = ([], []) := by
 unfold kv noneM
 by_cases h : i < n
 ·simp [h]
 ·simp [h]
def memL (c : Cf) (L : Nat) (xs : List (List Int)) : Nat → List KV
 | 0 => noneM L
 | k + 1 => thrM c (memL c L xs k) (xs[k]?.getD []) L
def madeL (c : Cf) (L : Nat) (xs : List (List Int)) (k : Nat) : List Int := thrX c (memL c L xs k) (xs[k]?.getD []) L
theorem memL_len (c : Cf) (L : Nat) (xs : List (List Int)) (k : Nat) : (memL c L xs k).length = L := by
 cases k with
 | zero => exact noneM_len L
 | succ k => exact thrM_len _ _ _ _
theorem memL_at (c : Cf) (L : Nat) (xs : List (List Int)) (k : Nat) {j : Nat} (h : j < L) : (kv (memL c L xs k) j).1.length = k ∧ (kv (memL c L xs k) j).2.length = k := by
 induction k with
 | zero => simp only [memL]; rw [noneM_at]; exact ⟨rfl, rfl⟩
 | succ k ih => simp only [memL]; rw [thrM_at _ _ _ h]; simp [ih.1, ih.2]
def cutM (M : List KV) (n : Nat) : List KV := M.map fun p => (p.1.take n, p.2.take n)
theorem cutM_len (M : List KV) (n : Nat) : (cutM M n).length = M.length := by simp [cutM]
theorem cutM_at (M : List KV) (n i : Nat) : kv (cutM M n) i = ((kv M i).1.take n, (kv M i).2.take n) := by
 unfold kv cutM
 by_cases h : i < M.length
 ·simp [h]
 ·simp [h]
theorem kv_ext {M N : List KV} (hl : M.length = N.length) (h : ∀ i, i < M.length → kv M i = kv N i) : M = N := by
 apply List.ext_getElem hl
 intro i h1 h2
 have := h i h1
 unfold kv at this
 rw [List.getElem?_eq_getElem h1, List.getElem?_eq_getElem h2] at this
 exact this
theorem memL_cut (c : Cf) (L : Nat) (xs : List (List Int)) {k n : Nat} (h : k ≤ n) : cutM (memL c L xs n) k = memL c L xs k := by
 induction n with
 | zero =>
  obtain rfl : k = 0 := by omega
  apply kv_ext
  ·rw [cutM_len]
  ·intro i hi
   rw [cutM_at]
   simp only [memL]
   rw [noneM_at]
   rfl
 | succ n ih =>
  by_cases e : k = n + 1
  ·subst e
   apply kv_ext
   ·rw [cutM_len]
   ·intro i hi
    rw [cutM_len, memL_len] at hi
    have := memL_at c L xs (n + 1) hi
    rw [cutM_at, List.take_of_length_le (by omega), List.take_of_length_le (by omega)]
  ·rw [← ih (by omega)]
   apply kv_ext
   ·rw [cutM_len, cutM_len, memL_len, memL_len]
   ·intro i hi
    rw [cutM_len, memL_len] at hi
    have := memL_at c L xs n hi
    rw [cutM_at, cutM_at]
    simp only [memL]
    rw [thrM_at _ _ _ hi]
    simp only
    rw [List.take_append_of_le_length (by omega), List.take_append_of_le_length (by omega)]
def BlS (w : World) (a : Option Addr) : Prop := ∀ p, a = some p → ∃ cur fz, w.heap[p.block]? = some (.cells cur 131 fz)
theorem BlS.none (w : World) : BlS w none := fun p h => by cases h
theorem BlS.below {w w' : World} {a : Option Addr} (h : BlS w a) (hb : Below w.heap.size w w') : BlS w' a := fun p hp => by
 obtain ⟨cur, fz, hc⟩ := h p hp
 exact ⟨cur, fz, (hb.block _ (lt_of_block hc)).trans hc⟩
def TbH (w : World) (h : Hd) (ls : List (List Int)) : Prop := ls.length = h.2.1 ∧ ∃ hs, Tbl w h.1 h.2.1 h.2.2 hs ls ∧ BlS w h.1 ∧ ∀ i, i < h.2.1 → BlI w (hs[i]?.getD (none, 0, 0)).1
theorem TbH.below {w w' : World} {h : Hd} {ls : List (List Int)} (k : TbH w h ls) (hb : Below w.heap.size w w') : TbH w' h ls := by
 obtain ⟨h1, hs, h2, h3, h4⟩ := k
 exact ⟨h1, hs, h2.below hb, h3.below hb, fun i hi => (h4 i hi).below hb⟩
theorem TbH.nil (w : World) : TbH w (none, 0, 0) [] := ⟨rfl, [], ⟨⟨rfl, Nat.le_refl _, by decide, fun _ => ⟨rfl, rfl⟩, fun i hi => absurd hi (by simp)⟩, fun i hi => absurd hi (by simp), fun i hi => absurd hi (by simp)⟩, BlS.none _, fun i hi => absurd hi (by simp)⟩
def Kp (T : TypeId) (W W' : World) : Prop := ∀ (k : Nat) (cur : Array Value) (t : TypeId) (fz : Nat × Nat), W.heap[k]? = some (.cells cur t fz) → t ≠ T → W'.heap[k]? = some (.cells cur t fz)
theorem Kp.trans {T : TypeId} {A B C : World} (h : Kp T A B) (k : Kp T B C) : Kp T A C := fun i cur t fz hi ht => k i cur t fz (h i cur t fz hi ht) ht
theorem Kp.set {T : TypeId} {W : World} {g k : Nat} {cur : Array Value} {fz : Nat × Nat} (h : W.heap[g]? = some (.cells cur T fz)) (v : Value) : Kp T W (W.setCell ⟨g, k, none⟩ v) := by
 intro i c t f hi ht
 by_cases e : i = g
 ·subst e
  rw [h] at hi
  simp at hi
  exact absurd hi.2.1.symm ht
 ·rw [Below.heap_setCell _ _ _ _ (by exact e)]
  exact hi
theorem Reads.keep {T : TypeId} {W W' : World} {a : Option Addr} {l c : Nat} {zs : List Int} (hr : Reads .i64 W a l c zs) (h5 : BlI W a) (hk : Kp T W W') (hT : 2 ≠ T) : Reads .i64 W' a l c zs ∧ BlI W' a := by
 have key : ∀ p, a = some p → W'.heap[p.block]? = W.heap[p.block]? := by
  intro p hp
  obtain ⟨cur, fz, hc⟩ := h5 p hp
  rw [hc]
  exact hk _ _ _ _ hc hT
 refine ⟨⟨hr.size, hr.room, hr.most, hr.bare, fun i hi => ?_⟩, fun p hp => ?_⟩
 ·obtain ⟨b, off, ha, hc⟩ := hr.cell i hi
  exact ⟨b, off, ha, (World.cell?_of_block (a := ⟨b, off + i, none⟩) (key ⟨b, off, none⟩ ha)).trans hc⟩
 ·obtain ⟨cur, fz, hc⟩ := h5 p hp
  exact ⟨cur, fz, (key p hp).trans hc⟩
theorem TbH.keep {T : TypeId} {W W' : World} {h : Hd} {ls : List (List Int)} (k : TbH W h ls) (hk : Kp T W W') (hT : 2 ≠ T) (hS : 131 ≠ T) : TbH W' h ls := by
 obtain ⟨h1, hs, h2, h3, h4⟩ := k
 have key : ∀ p, h.1 = some p → W'.heap[p.block]? = W.heap[p.block]? := by
  intro p hp
  obtain ⟨cur, fz, hc⟩ := h3 p hp
  rw [hc]
  exact hk _ _ _ _ hc hS
 refine ⟨h1, hs, ⟨⟨h2.rd.size, h2.rd.room, h2.rd.most, h2.rd.bare, fun i hi => ?_⟩, fun i hi => (Reads.keep (h2.rows i hi) (h4 i hi) hk hT).1, h2.short⟩, fun p hp => ?_, fun i hi => (Reads.keep (h2.rows i hi) (h4 i hi) hk hT).2⟩
 ·obtain ⟨b, off, ha, hc⟩ := h2.rd.cell i hi
  exact ⟨b, off, ha, (World.cell?_of_block (a := ⟨b, off + i, none⟩) (key ⟨b, off, none⟩ ha)).trans hc⟩
 ·obtain ⟨cur, fz, hc⟩ := h3 p hp
  exact ⟨cur, fz, (key p hp).trans hc⟩
theorem Rd2.cut {w : World} {a : Option Addr} {len cap : Nat} {hs : List Hd} (h : Rd2 w a len cap hs) {m : Nat} (hm : m ≤ len) : Rd2 w a m cap (hs.take m) :=
 ⟨by rw [List.length_take, h.size]; omega, by have := h.room; omega, h.most, fun e => by have := h.bare e; omega, fun i hi => by
  obtain ⟨b, off, e, hc⟩ := h.cell i (by omega)
  exact ⟨b, off, e, by rw [hc, List.getElem?_take_of_lt hi]⟩⟩
theorem Tbl.cut {w : World} {a : Option Addr} {len cap : Nat} {hs : List Hd} {ls : List (List Int)} (h : Tbl w a len cap hs ls) {m : Nat} (hm : m ≤ len) : Tbl w a m cap (hs.take m) (ls.take m) :=
 ⟨h.rd.cut hm, fun i hi => by
  rw [List.getElem?_take_of_lt hi, List.getElem?_take_of_lt hi]
  exact h.rows i (by omega), fun i hi => by
  rw [List.getElem?_take_of_lt hi]
  exact h.short i (by omega)⟩
theorem TbH.cut {w : World} {a : Option Addr} {n c : Nat} {ls : List (List Int)} (h : TbH w (a, n, c) ls) {m : Nat} (hm : m ≤ n) : TbH w (a, m, m) (ls.take m) := by
 obtain ⟨h1, hs, h2, h3, h4⟩ := h
 simp only at h1 h2 h3 h4
 have hr := h2.rd.room
 have hx := h2.cut hm
 refine ⟨by simp; omega, hs.take m, ⟨⟨hx.rd.size, Nat.le_refl _, by have := hx.rd.most; simp only; omega, fun e => by have := hx.rd.bare e; simp only; omega, hx.rd.cell⟩, hx.rows, hx.short⟩, h3, fun i hi => ?_⟩
 simp only at hi
 rw [List.getElem?_take_of_lt hi]
 exact h4 i (by omega)
theorem clone_any (a : Option Addr) (n cap : Nat) (xs : List Int) (w : World) (ha : Reads .i64 w a n cap xs) (hn : n ≤ 1000) :
  Calls Tryz.prog 183 #[.slice a n cap] w fun e w' => GivesO w n xs e w' := by
 obtain ⟨i0, hi, hz0, hz1, hz2⟩ := info_parts Tryz.info2
 cases a with
 | none =>
  obtain ⟨rfl, rfl⟩ := ha.bare rfl
  obtain rfl : xs = [] := List.eq_nil_of_length_eq_zero ha.size
  have heq : ∀ W : World, (binOp .eql 131 (.slice none 0 0) (.slice none 0 0)).run Tryz.prog W = .ok (.bool true) W := fun W => Lib.run_eql_slice_nil W _ _ none 0 0 0 0 Tryz.underlying131
  clear ha
  go_enter Tryz.func183, Tryz.ntmps183
  go_wp2
  go_ret
  exact ⟨_, rfl, World.ownsRow_nil _ _ _ _, Below.refl _ _⟩
 | some ad =>
  have heq : ∀ W : World, (binOp .eql 131 (.slice (some ad) n cap) (.slice none 0 0)).run Tryz.prog W = .ok (.bool false) W := fun W => Lib.run_eql_slice_nil W _ _ (some ad) n cap 0 0 Tryz.underlying131
  have HA := hid ha
  have HB : Hid (Below w.heap.size w (w.alloc (.cells #[] 2))) := (Below.refl _ _).alloc (Nat.le_refl _) _
  have HO : Hid ((w.alloc (.cells #[] 2)).ownsRow w.heap.size 2 1 (.slice (some ⟨w.heap.size, 0, none⟩) 0 0) 0 (([] : List Int).map (Value.int .i64))) :=
   World.ownsRow_lit (base := w.heap.size) (e := 2) (size := 1) w #[] 0 (Nat.le_refl _) (by unfold maxLen; omega) (by simp)
  clear ha
  go_enter Tryz.func183, Tryz.ntmps183
  go_wp2_with (at_builtin; refine append_any _ rfl (.tmp 5) (.tmp 6) 131 rfl w.heap.size 2 i0 (.int .i64 0) 8 Tryz.underlying131 hi hz0 hz1 hz2 rfl .i64 _ 0 [] rfl HO.out (some ad) n cap xs rfl (HA.out.below HB.out) (by omega) (by omega) HB.out.size ?_; intro v' w3 hO3 hb3)
  rw [Nat.zero_add, List.nil_append] at hO3
  have HO3 := hid hO3
  have HB3 := hid (HB.out.trans hb3)
  clear hO3 hb3 HA HB HO
  go_wp2
  go_ret
  exact ⟨_, rfl, HO3.out, HB3.out⟩
theorem at_snoc {α : Type} (xs : List α) (y d : α) {n i : Nat} (h : xs.length = n) (hi : i < n + 1) : (xs ++ [y])[i]?.getD d = if i < n then xs[i]?.getD d else y := by
 by_cases e : i < n
 ·rw [List.getElem?_append_left (by omega), if_pos e]
 ·obtain rfl : i = n := by omega
  rw [List.getElem?_append_right (by omega), if_neg e]
  simp [h]
theorem Tbl.snoc {w : World} {a b : Option Addr} {n cap g c : Nat} {hs : List Hd} {ls : List (List Int)} {y : Hd} {ys : List Int} (ht : Tbl w a n cap hs ls) (hl : ls.length = n) (hr : Reads .i64 w y.1 y.2.1 y.2.2 ys) (hy : y.2.1 ≤ 1000)
  (hd : Rd2 w (some ⟨g, 0, none⟩) (n + 1) c (hs ++ [y])) : Tbl w (some ⟨g, 0, none⟩) (n + 1) c (hs ++ [y]) (ls ++ [ys]) := by
 have hz := ht.rd.size
 refine ⟨hd, fun i hi => ?_, fun i hi => ?_⟩
 ·rw [at_snoc hs y _ hz hi, at_snoc ls ys _ hl hi]
  by_cases e : i < n
  ·rw [if_pos e, if_pos e]; exact ht.rows i e
  ·rw [if_neg e, if_neg e]; exact hr
 ·rw [at_snoc hs y _ hz hi]
  by_cases e : i < n
  ·rw [if_pos e]; exact ht.short i e
  ·rw [if_neg e]; exact hy
theorem olds_at {w : World} {a : Option Addr} {n cap : Nat} {hs : List Hd} (h : Rd2 w a n cap hs) : ∀ b, a = some b → ∀ j u, (hs.map hdV)[j]? = some u → w.cell? (b.add j) = some u := by
 intro b hb j u hu
 have hj : j < hs.length := by
  have := (List.getElem?_eq_some_iff.1 hu).1
  simpa using this
 obtain ⟨b', off, e, hc⟩ := h.cell j (by rw [← h.size]; exact hj)
 rw [e] at hb
 obtain rfl := Option.some.inj hb
 rw [Addr.add_lit, hc]
 simp [hj] at hu ⊢
 exact hu
theorem below_grown {w w' : World} (h : w.grownBy w' none) : Below w.heap.size w w' := (Below.refl _ _).grown h (Nat.le_refl _) fun g hg => by cases hg
theorem ownS_of' {base n : Nat} {v : Value} {hs : List Hd} {w : World} (h : w.ownsRow base 131 1 v n (hs.map hdV)) (hn : 1 ≤ n) : ∃ g c, v = .slice (some ⟨g, 0, none⟩) n c ∧ OwnS base g n c hs w := by
 rcases id h.2 with ⟨rfl, rfl⟩ | ⟨g, cap, cur, rfl, rest⟩
 ·omega
 ·exact ⟨g, cap, rfl, h⟩
theorem behind_own (a : Option Addr) (n cap : Nat) (hs : List Hd) (b : Option Addr) (lb cb : Nat) (w : World) (ht : Rd2 w a n cap hs) (hn : n ≤ 1000) :
  Calls Tryz.prog 211 #[.slice a n cap, .slice b lb cb] w fun e w' => ∃ g c, e = .returned (.slice (some ⟨g, 0, none⟩) (n + 1) c) ∧ OwnS w.heap.size g (n + 1) c (hs ++ [(b, lb, cb)]) w' ∧ Below w.heap.size w w' := by
 obtain ⟨i0, hi, hz0, hz1, hz2⟩ := info_parts Tryz.infoS
 have HT := hid ht
 have r1 := ht.room
 have m1 := ht.most
 have bare := ht.bare
 have HZ := hid ht.size
 have HB : Hid (Below w.heap.size w (w.alloc (.cells #[.slice b lb cb] 131))) := (Below.refl _ _).alloc (Nat.le_refl _) _
 have HN : Hid (∀ j u, [hdV (b, lb, cb)][j]? = some u → (w.alloc (.cells #[.slice b lb cb] 131)).cell? ((⟨w.heap.size, 0, none⟩ : Addr).add j) = some u) := World.news_of_block (heap_alloc_new w (.cells #[.slice b lb cb] 131))
 clear ht
 have key : ∀ v' w', w'.ownsRow (w.alloc (.cells #[.slice b lb cb] 131)).heap.size 131 1 v' (n + 1) (hs.map hdV ++ [hdV (b, lb, cb)]) → (w.alloc (.cells #[.slice b lb cb] 131)).grownBy w' none →
   ∃ g c, v' = .slice (some ⟨g, 0, none⟩) (n + 1) c ∧ OwnS w.heap.size g (n + 1) c (hs ++ [(b, lb, cb)]) w' ∧ Below w.heap.size w w' := by
  intro v' w' h1 h2
  have hb2 := below_grown h2
  have hbw : Below w.heap.size w w' := HB.out.trans (hb2.mono HB.out.size)
  rw [show hs.map hdV ++ [hdV (b, lb, cb)] = (hs ++ [(b, lb, cb)]).map hdV by simp] at h1
  obtain ⟨g, c, rfl, hO⟩ := ownS_of' h1 (by omega)
  exact ⟨g, c, rfl, hO.low HB.out.size, hbw⟩
 have HKy := hid key
 clear key
 have hone : ∀ u ∈ [hdV (b, lb, cb)], u.oneCell' = true := by intro u hu; simp at hu; subst hu; rfl
 have HC := hid (olds_at (HT.out.below HB.out))
 clear HT
 cases a with
 | none =>
  obtain ⟨rfl, rfl⟩ := bare rfl
  clear bare
  go_enter Tryz.func211, Tryz.ntmps211
  go_wp2_with (at_builtin; refine wpList_append_grows _ rfl (.tmp 10) (.tmp 12) 132 rfl 131 i0 (.slice none 0 0) 1 24 Tryz.underlying132 hi hz0 hz1 hz2 rfl (by decide) none 0 0 (hs.map hdV) rfl (fun _ => ⟨rfl, rfl⟩) (by rw [List.length_map, HZ.out]) HC.out ⟨w.heap.size, 0, none⟩ 1 1 [hdV (b, lb, cb)] rfl rfl HN.out hone (by omega) (by unfold maxLen; omega) (by omega) ?_; intro v' w3 hO3 hg3; obtain ⟨g, c, rfl, hT3, hb3⟩ := HKy.out v' w3 hO3 hg3)
  have HT3 := hid hT3
  have HB3 := hid hb3
  clear hO3 hg3 hT3 hb3 HKy HC HN HB HZ
  go_wp2
  go_ret
  exact ⟨_, _, rfl, HT3.out, HB3.out⟩
 | some ad =>
  clear bare
  go_enter Tryz.func211, Tryz.ntmps211
  go_wp2_with (at_builtin; refine wpList_append_grows _ rfl (.tmp 10) (.tmp 12) 132 rfl 131 i0 (.slice none 0 0) 1 24 Tryz.underlying132 hi hz0 hz1 hz2 rfl (by decide) (some ad) n n (hs.map hdV) rfl (fun h => by cases h) (by rw [List.length_map, HZ.out, Nat.mul_one]) HC.out ⟨w.heap.size, 0, none⟩ 1 1 [hdV (b, lb, cb)] rfl rfl HN.out hone (by omega) (by unfold maxLen; omega) (by omega) ?_; intro v' w3 hO3 hg3; obtain ⟨g, c, rfl, hT3, hb3⟩ := HKy.out v' w3 hO3 hg3)
  have HT3 := hid hT3
  have HB3 := hid hb3
  clear hO3 hg3 hT3 hb3 HKy HC HN HB HZ
  go_wp2
  go_ret
  exact ⟨_, _, rfl, HT3.out, HB3.out⟩
theorem behind_any (a : Option Addr) (n cap : Nat) (hs : List Hd) (ls : List (List Int)) (b : Option Addr) (lb cb : Nat) (ys : List Int) (w : World) (ht : Tbl w a n cap hs ls) (hl : ls.length = n) (hn : n ≤ 1000) (hr : Reads .i64 w b lb cb ys) (hlb : lb ≤ 1000) :
  Calls Tryz.prog 211 #[.slice a n cap, .slice b lb cb] w fun e w' => ∃ g c, e = .returned (.slice (some ⟨g, 0, none⟩) (n + 1) c) ∧ Tbl w' (some ⟨g, 0, none⟩) (n + 1) c (hs ++ [(b, lb, cb)]) (ls ++ [ys]) ∧ Below w.heap.size w w' :=
 (behind_own a n cap hs b lb cb w ht.rd hn).mono fun e w' ⟨g, c, h1, h2, h3⟩ => ⟨g, c, h1, Tbl.snoc (b := b) (ht.below h3) hl (hr.below h3) hlb h2.rd, h3⟩
end Go.Proofs.YtjgggialnegddaaGreat
namespace Go.Proofs.YtjgggialnegddaaGreat
open Go.RowKit
theorem fld_dim (s v d l tt h : Int) (W : World) : (Instr.field 24 (.agg #[.int .u64 s, .int .i64 v, .int .i64 d, .int .i64 l, .int .i64 tt, .int .i64 h]) 2).run Tryz.prog W = .ok (.int .i64 d) W := by kernel_rfl
theorem fld_layers (s v d l tt h : Int) (W : World) : (Instr.field 24 (.agg #[.int .u64 s, .int .i64 v, .int .i64 d, .int .i64 l, .int .i64 tt, .int .i64 h]) 3).run Tryz.prog W = .ok (.int .i64 l) W := by kernel_rfl
theorem map_rowK {α : Type} (d : α) (g : α → Int) (ls : List α) {n : Nat} (h : ls.length = n) : rowK (fun k => g (ls[k]?.getD d)) n = ls.map g := by
 subst h
 unfold rowK
 apply List.ext_getElem
 ·simp
 ·intro i h1 h2
  simp at h1 h2
  simp [h1]
set_option maxHeartbeats 1000000 in
theorem marks_any (p : Option Addr) (c : Cf) (b : Option Addr) (lb cb : Nat) (ys : List Int) (a : Option Addr) (n cap : Nat) (hs : List Hd) (ls : List (List Int)) (w : World) (hp : MdAt w p c) (hq : Reads .i64 w b lb cb ys) (hlb : lb ≤ 1000) (ht : Tbl w a n cap hs ls) (hl : ls.length = n) (hn : n ≤ 1000) :
  Calls Tryz.prog 210 #[.pointer p, .slice b lb cb, .slice a n cap] w fun e w' => Made w n (ls.map (markZ c ys)) e w' := by
 have hC := config_any p c w hp
 obtain ⟨rt, hrt⟩ : ∃ rt, sqrtZ (fromZ c.dim) = rt := ⟨_, rfl⟩
 obtain ⟨d, hd⟩ : ∃ d : Nat → Int, d = fun k => dotK (ls[k]?.getD []) ys (min (ls[k]?.getD []).length ys.length) := ⟨_, rfl⟩
 have HD : Hid (∀ k W, k < n → Below w.heap.size w W → Calls Tryz.prog 201 #[.slice (hs[k]?.getD (none, 0, 0)).1 (hs[k]?.getD (none, 0, 0)).2.1 (hs[k]?.getD (none, 0, 0)).2.2, .slice b lb cb] W fun e w' => e = .returned (.int .i64 (d k)) ∧ Below W.heap.size W w') := by
  intro k W hk hW
  have h1 := (ht.below hW).rows k hk
  have h2 := hq.below hW
  have := dot_any _ b _ _ lb cb _ _ W h1 h2 (ht.short k hk) hlb
  rw [hd]
  simp only
  rw [h1.size, h2.size]
  exact this
 have HF : Hid (rowK (fun k => divZ (d k) rt) n = ls.map (markZ c ys)) := by
  unfold Hid
  rw [← map_rowK [] (markZ c ys) ls hl, hd, ← hrt]
  rfl
 have HT := hid ht
 have r1 := ht.rd.room
 have m1 := ht.rd.most
 obtain ⟨s, v, dm, l, tt, h⟩ := c
 simp only at hrt
 unfold CfV at hC
 simp only at hC
 clear hp hq ht hl hd
 rw [← HF.out]
 clear HF
 have hfd := fld_dim s v dm l tt h
 go_enter Tryz.func210, Tryz.ntmps210
 go_wp2_with fail
 refine hC.mono ?_
 rintro e w1 ⟨rfl, hb1⟩
 have HB1 := hid hb1
 have hmk := make_ints w1 n (by omega)
 have HO0 : Hid (OwnK 2 w.heap.size w1.heap.size n n (rowK (fun k => divZ (d k) rt) 0 ++ List.replicate (n - 0) 0) (w1.alloc (.cells (madeCells #[.int .i64 0] n) 2))) := (own_made _ w1 n (by omega)).low hb1.size
 have HB0 : Hid (Below w.heap.size w (w1.alloc (.cells (madeCells #[.int .i64 0] n) 2))) := hb1.alloc hb1.size _
 clear hb1 hC HB1
 go_wp2_with fail
 refine (from_any _ _).mono ?_
 rintro e w' ⟨rfl, rfl⟩
 rename World => w1
 go_wp2_with fail
 refine (sqrt_any _ _).mono ?_
 rintro e w' ⟨rfl, rfl⟩
 rename World => w1
 rw [hrt]
 have HG : Hid (w.heap.size ≤ w1.heap.size) := HO0.out.base
 clear hrt
 go_wp2_with fail
 go_loopw [21] (fun i W => ∃ k : Nat, k ≤ n ∧ i = .int .i64 k ∧ Hid (OwnK 2 w.heap.size w1.heap.size n n (rowK (fun k => divZ (d k) rt) k ++ List.replicate (n - k) 0) W) ∧ Hid (Below w.heap.size w W)) (fun i _ => n - (intOf i).toNat)
 case atStart => exact ⟨0, Nat.zero_le _, rfl, HO0, HB0⟩
 case round =>
  obtain ⟨k, hk, rfl, HO, HB⟩ := hrel
  clear HO0 HB0 hmk
  by_cases hlt : k < n
  ·have hC := HD.out k wr hlt HB.out
   obtain ⟨b1, o1, rfl, c1⟩ := (HT.out.rd.below HB.out).cell k hlt
   have HS := hid (rowK_set (fun k => divZ (d k) rt) hlt)
   have q1 : (k : Int) < (n : Int) := by omega
   clear HD HT
   generalize hs[k]?.getD (none, 0, 0) = y at *
   obtain ⟨y1, y2, y3⟩ := y
   simp only at c1 hC
   go_wp2_with fail
   refine hC.mono ?_
   rintro e w2 ⟨rfl, hb⟩
   have HO2 := hid (HO.out.stays hb)
   have HB2 := hid (HB.out.trans (hb.mono HB.out.size))
   clear hb hC HO HB c1
   go_wp2_with fail
   refine (div_any _ _ _).mono ?_
   rintro e w' ⟨rfl, rfl⟩
   rename World => w2
   have ck := HO2.out.cell hlt
   have fk := HO2.out.frozen k
   have HO3 : Hid (OwnK 2 w.heap.size w1.heap.size n n (rowK (fun k => divZ (d k) rt) (k + 1) ++ List.replicate (n - (k + 1)) 0) (w2.setCell ⟨w1.heap.size, k, none⟩ (.int .i64 (divZ (d k) rt)))) := by
    have := HO2.out.set k (divZ (d k) rt)
    rw [HS.out] at this
    exact this
   have HB3 := hid (HB2.out.setCell (p := ⟨w1.heap.size, k, none⟩) HG.out (.int .i64 (divZ (d k) rt)))
   clear HO2 HB2 HS
   go_wp2_with fail
   go_round
   case rel => exact ⟨k + 1, by omega, by go_num, HO3, HB3⟩
   case measure => simp [intOf]; omega
  ·obtain rfl : k = n := by omega
   have HO3 : Hid (OwnK 2 w.heap.size w1.heap.size k k (rowK (fun k => divZ (d k) rt) k) wr) := by
    have := HO.out
    rw [Nat.sub_self, List.replicate_zero, List.append_nil] at this
    exact this
   clear HO HD HT
   go_wp2
   go_ret
   exact ⟨_, _, rfl, HO3.out, HB.out⟩
def GH (w : World) (L : List Int) (e : Ending) (w' : World) : Prop := ∃ (a : Option Addr) (n cap : Nat), e = .returned (.slice a n cap) ∧ Reads .i64 w' a n cap L ∧ BlI w' a ∧ Below w.heap.size w w'
theorem Made.gh {w w' : World} {n : Nat} {L : List Int} {e : Ending} (h : Made w n L e w') : GH w L e w' := by
 obtain ⟨g, cap, rfl, h1, h2⟩ := h
 exact ⟨_, n, cap, rfl, h1.reads, BlI.own h1, h2⟩
theorem norm_h (a : Option Addr) (n cap : Nat) (zs : List Int) (w : World) (ha : Reads .i64 w a n cap zs) (hn : n ≤ 1000) :
  Calls Tryz.prog 200 #[.slice a n cap] w fun e w' => GH w (normL zs) e w' := (norm_any a n cap zs w ha hn).mono fun e w' h => h.gh
theorem soft_h (a : Option Addr) (n cap : Nat) (zs : List Int) (w : World) (ha : Reads .i64 w a n cap zs) (hn : n ≤ 1000) :
  Calls Tryz.prog 209 #[.slice a n cap] w fun e w' => GH w (softL zs) e w' := (soft_any a n cap zs w ha hn).mono fun e w' h => h.gh
theorem relu_h (a : Option Addr) (n cap : Nat) (zs : List Int) (w : World) (ha : Reads .i64 w a n cap zs) (hn : n ≤ 1000) :
  Calls Tryz.prog 240 #[.slice a n cap] w fun e w' => GH w (reluL zs) e w' := (relu_any a n cap zs w ha hn).mono fun e w' h => h.gh
theorem add_h (a b : Option Addr) (la ca lb cb : Nat) (xs ys : List Int) (w : World) (ha : Reads .i64 w a la ca xs) (hb : Reads .i64 w b lb cb ys) (hla : la ≤ 1000) (hlb : lb ≤ 1000) :
  Calls Tryz.prog 150 #[.slice a la ca, .slice b lb cb] w fun e w' => GH w (addL xs ys) e w' := by
 unfold addL
 rw [ha.size, hb.size]
 exact (vadd_any a b la ca lb cb xs ys w ha hb hla hlb).mono fun e w' h => h.gh
theorem mul_h (a b : Option Addr) (la ca lb cb : Nat) (hs : List Hd) (t : List (List Int)) (ys : List Int) (w : World) (ha : Tbl w a la ca hs t) (hl : t.length = la) (hb : Reads .i64 w b lb cb ys) (hla : la ≤ 1000) (hlb : lb ≤ 1000) :
  Calls Tryz.prog 207 #[.slice a la ca, .slice b lb cb] w fun e w' => GH w (mulT t ys) e w' := by
 unfold mulT
 rw [hl]
 exact (vmul_any a b la ca lb cb hs t ys w ha hb hla hlb).mono fun e w' h => h.gh
theorem mix_h (a b : Option Addr) (la ca lb cb : Nat) (hs : List Hd) (t : List (List Int)) (ws : List Int) (w : World) (ha : Tbl w a la ca hs t) (hl : t.length = la) (hb : Reads .i64 w b lb cb ws) (hla : la ≤ 1000) (hlb : lb ≤ 1000) (h0 : 0 < la) :
  Calls Tryz.prog 212 #[.slice b lb cb, .slice a la ca] w fun e w' => GH w (mixL ws t) e w' := by
 unfold mixL
 rw [hl, hb.size]
 exact (vmix_made a b la ca lb cb hs t ws w ha hb hla hlb h0).mono fun e w' h => h.gh
theorem mixK_bd {ws : List Int} {ls : List (List Int)} {m : Nat} (h : ∀ i, i < ls.length → (ls[i]?.getD []).length ≤ m) (k : Nat) : (mixK ws ls k).length ≤ m := by
 induction k with
 | zero =>
  simp only [mixK, List.length_replicate]
  by_cases h0 : 0 < ls.length
  ·exact h 0 h0
  ·rw [List.getElem?_eq_none (by omega)]; exact Nat.zero_le _
 | succ k ih => simp only [mixK]; rw [pairK_len]; omega
def GT (w : World) (L : List (List Int)) (e : Ending) (w' : World) : Prop := ∃ (a : Option Addr) (n cap : Nat) (hs : List Hd), e = .returned (.slice a n cap) ∧ Tbl w' a n cap hs L ∧ L.length = n ∧ Below w.heap.size w w'
theorem rows_h (p : Option Addr) (c : Cf) (la wh : Int) (w : World) (hp : MdAt w p c) (hc : mayB c = true) :
  Calls Tryz.prog 208 #[.pointer p, .int .i64 la, .int .i64 wh] w fun e w' => GT w (tabL c la wh) e w' := (rows_g p c la wh w hp hc).mono fun e w' ⟨a, cap, hs, h1, h2, h3⟩ => ⟨a, _, cap, hs, h1, h2, rfl, h3⟩
theorem forward_h (p : Option Addr) (c : Cf) (la : Int) (a : Option Addr) (n cap : Nat) (zs : List Int) (w : World) (hp : MdAt w p c) (hc : mayB c = true) (hx : Reads .i64 w a n cap zs) (hn : n ≤ 1000) :
  Calls Tryz.prog 213 #[.pointer p, .int .i64 la, .slice a n cap] w fun e w' => GH w (fwdL c la zs) e w' := by
 have h4 := tabL_len hc la 4
 have h5 := tabL_len hc la 5
 have HR := hid fun wh W (hb : Below w.heap.size w W) => rows_h p c la wh W (hp.below hb) hc
 have HX := hid hx
 have HN := hid (normL_len zs)
 have HE : Hid (fwdL c la zs = mulT (tabL c la 5) (reluL (mulT (tabL c la 4) (normL zs)))) := rfl
 have HS := hid hx.size
 clear hp hx
 go_enter Tryz.func213, Tryz.ntmps213
 go_wp2_with fail
 refine (HR.out 4 _ (Below.refl _ _)).mono ?_
 rintro e w1 ⟨a1, n1, c1, hs1, rfl, hT, hl, hb⟩
 have HT := hid hT
 have HTl := hid hl
 have HV := hid hb
 replace HX := hid (HX.out.below hb)
 clear hT hl hb
 go_wp2_with fail
 refine (norm_h a n cap zs _ HX.out hn).mono ?_
 rintro e w2 ⟨a2, n2, c2, rfl, hR, hI, hb⟩
 have HQ := hid hR
 replace HT := hid (HT.out.below hb)
 replace HV := hid (HV.out.trans (hb.mono HV.out.size))
 clear hR hI hb HX
 go_wp2_with fail
 refine (mul_h a1 a2 n1 c1 n2 c2 hs1 _ _ _ HT.out HTl.out HQ.out (by rw [← HTl.out]; omega) (by rw [← HQ.out.size, HN.out, HS.out]; exact hn)).mono ?_
 rintro e w3 ⟨a3, n3, c3, rfl, hR, hI, hb⟩
 have HU := hid hR
 replace HV := hid (HV.out.trans (hb.mono HV.out.size))
 clear hR hI hb HT HTl HQ HN HS
 go_wp2_with fail
 refine (HR.out 5 _ HV.out).mono ?_
 rintro e w4 ⟨a4, n4, c4, hs4, rfl, hT, hl, hb⟩
 have HT := hid hT
 have HTl := hid hl
 replace HU := hid (HU.out.below hb)
 replace HV := hid (HV.out.trans (hb.mono HV.out.size))
 clear hT hl hb HR
 have HUl : Hid (n3 ≤ 1000) := by unfold Hid; rw [← HU.out.size, mulT_len]; omega
 go_wp2_with fail
 refine (relu_h a3 n3 c3 _ _ HU.out HUl.out).mono ?_
 rintro e w5 ⟨a5, n5, c5, rfl, hR, hI, hb⟩
 have HW := hid hR
 replace HT := hid (HT.out.below hb)
 replace HV := hid (HV.out.trans (hb.mono HV.out.size))
 clear hR hI hb HU HUl
 go_wp2_with fail
 refine (mul_h a4 a5 n4 c4 n5 c5 hs4 _ _ _ HT.out HTl.out HW.out (by rw [← HTl.out]; omega) (by rw [← HW.out.size, reluL_len, mulT_len]; omega)).mono ?_
 rintro e w6 ⟨a6, n6, c6, rfl, hR, hI, hb⟩
 have HY := hid hR
 have HYI := hid hI
 replace HV := hid (HV.out.trans (hb.mono HV.out.size))
 clear hR hI hb HT HTl HW
 go_wp2
 go_ret
 refine ⟨_, _, _, rfl, ?_, HYI.out, HV.out⟩
 rw [HE.out]
 exact HY.out
def Stp (w : World) (X K V : List Int) (e : Ending) (w' : World) : Prop := ∃ (a1 a2 a3 : Option Addr) (n1 n2 n3 c1 c2 c3 : Nat), e = .returned (.tuple #[.slice a1 n1 c1, .slice a2 n2 c2, .slice a3 n3 c3]) ∧
 Reads .i64 w' a1 n1 c1 X ∧ Reads .i64 w' a2 n2 c2 K ∧ Reads .i64 w' a3 n3 c3 V ∧ BlI w' a1 ∧ BlI w' a2 ∧ BlI w' a3 ∧ Below w.heap.size w w'
end Go.Proofs.YtjgggialnegddaaGreat
namespace Go.Proofs.YtjgggialnegddaaGreat
open Go.RowKit
set_option maxHeartbeats 2000000 in
theorem step_yes (p : Option Addr) (c : Cf) (la : Int) (a : Option Addr) (n cap : Nat) (zs : List Int) (ka : Option Addr) (kn kc : Nat) (khs : List Hd) (ks : List (List Int)) (va : Option Addr) (vn vc : Nat) (vhs : List Hd) (vs : List (List Int)) (m : Nat) (w : World)
  (hp : MdAt w p c) (hc : mayB c = true) (l0 : 0 ≤ la) (l1 : la < c.layers) (hx : Reads .i64 w a n cap zs) (hn : n ≤ 1000) (hk : Tbl w ka kn kc khs ks) (hkl : ks.length = kn) (hkn : kn ≤ 900) (hv : Tbl w va vn vc vhs vs) (hvl : vs.length = vn) (hvn : vn ≤ 900) (hm : min kn vn = m) :
  Calls Tryz.prog 184 #[.pointer p, .int .i64 la, .slice a n cap, .slice ka kn kc, .slice va vn vc] w fun e w' => Stp w (outL c la zs (ks.take m) (vs.take m)) (keyL c la zs) (valL c la zs) e w' := by
 have hC := config_any p c w hp
 have HD := hid fun wh => tabL_len hc la wh
 have HR := hid fun wh W (hb : Below w.heap.size w W) => rows_h p c la wh W (hp.below hb) hc
 have HMk := hid fun b lb cb ys a n cap hs ls W (hb : Below w.heap.size w W) => marks_any p c b lb cb ys a n cap hs ls W (hp.below hb)
 have HFw := hid fun a n cap zs W (hb : Below w.heap.size w W) => forward_h p c la a n cap zs W (hp.below hb) hc
 have HX := hid fun W (hb : Below w.heap.size w W) => hx.below hb
 have HK := hid fun W (hb : Below w.heap.size w W) => (hk.below hb).cut (m := m) (by omega)
 have HVs := hid fun W (hb : Below w.heap.size w W) => (hv.below hb).cut (m := m) (by omega)
 have HKl : Hid ((ks.take m).length = m) := by unfold Hid; simp; omega
 have HVl : Hid ((vs.take m).length = m) := by unfold Hid; simp; omega
 have HS := hid hx.size
 have r1 : m ≤ kc := by have := hk.rd.room; omega
 have r2 : m ≤ vc := by have := hv.rd.room; omega
 have hmin : (if vn < kn then (vn : Int) else (kn : Int)) = (m : Int) := by split <;> omega
 have hm9 : m ≤ 900 := by omega
 have HNl := hid (normL_len zs)
 generalize hks : ks.take m = ks' at *
 generalize hvs : vs.take m = vs' at *
 have HOut : Hid (outL c la zs ks' vs' = addL (hidL c la zs ks' vs') (fwdL c la (hidL c la zs ks' vs'))) := rfl
 have HHid : Hid (hidL c la zs ks' vs' = addL zs (mulT (tabL c la 3) (mixL (softL ((ks' ++ [keyL c la zs]).map (markZ c (qryL c la zs)))) (vs' ++ [valL c la zs])))) := rfl
 have HQe : Hid (qryL c la zs = mulT (tabL c la 0) (normL zs)) := rfl
 have HKe : Hid (keyL c la zs = mulT (tabL c la 1) (normL zs)) := rfl
 have HVe : Hid (valL c la zs = mulT (tabL c la 2) (normL zs)) := rfl
 clear hp hx hk hv hkl hvl hks hvs hm
 obtain ⟨s, vo, d, l, tt, h⟩ := c
 have hfd := fld_layers s vo d l tt h
 unfold CfV at hC
 simp only at hC l1
 go_enter Tryz.func184, Tryz.ntmps184
 go_wp2_with fail
 refine hC.mono ?_
 rintro e w1 ⟨rfl, hb⟩
 have HV := hid hb
 clear hb hC
 go_wp2_with fail
 refine (norm_h a n cap zs _ (HX.out _ HV.out) hn).mono ?_
 rintro e w2 ⟨na, nn, nc, rfl, hR, hI, hb⟩
 replace HV := hid (HV.out.trans (hb.mono HV.out.size))
 have HN := hid hR
 have hnn : nn ≤ 1000 := by have := hR.size; have := HNl.out; have := HS.out; omega
 clear hR hI hb HNl hfd
 -- the query
 go_wp2_with fail
 refine (HR.out 0 _ HV.out).mono ?_
 rintro e w3 ⟨ta, tn, tc, ths, rfl, hT, htl, hb⟩
 replace HV := hid (HV.out.trans (hb.mono HV.out.size))
 replace HN := hid (HN.out.below hb)
 have HT := hid hT
 have HTl := hid htl
 have htn : tn ≤ 16 := by have := HD.out 0; omega
 clear hT hb htl
 go_wp2_with fail
 refine (mul_h ta na tn tc nn nc ths _ _ _ HT.out HTl.out HN.out (by omega) hnn).mono ?_
 rintro e w4 ⟨qa, qn, qc, rfl, hR, hI, hb⟩
 replace HV := hid (HV.out.trans (hb.mono HV.out.size))
 replace HN := hid (HN.out.below hb)
 have hqn : qn ≤ 1000 := by have := hR.size; rw [mulT_len] at this; have := HTl.out; omega
 rw [← HQe.out] at hR
 have HQ := hid hR
 clear hR hI hb HT HTl htn HQe
 -- the key
 go_wp2_with fail
 refine (HR.out 1 _ HV.out).mono ?_
 rintro e w5 ⟨ta, tn, tc, ths, rfl, hT, htl, hb⟩
 replace HV := hid (HV.out.trans (hb.mono HV.out.size))
 replace HN := hid (HN.out.below hb)
 replace HQ := hid (HQ.out.below hb)
 have HT := hid hT
 have HTl := hid htl
 have htn : tn ≤ 16 := by have := HD.out 1; omega
 clear hT hb htl
 go_wp2_with fail
 refine (mul_h ta na tn tc nn nc ths _ _ _ HT.out HTl.out HN.out (by omega) hnn).mono ?_
 rintro e w6 ⟨ya, yn, yc, rfl, hR, hI, hb⟩
 replace HV := hid (HV.out.trans (hb.mono HV.out.size))
 replace HN := hid (HN.out.below hb)
 replace HQ := hid (HQ.out.below hb)
 have hyn : yn ≤ 1000 := by have := hR.size; rw [mulT_len] at this; have := HTl.out; omega
 rw [← HKe.out] at hR
 have HY := hid hR
 have HYI := hid hI
 clear hR hI hb HT HTl htn HKe
 -- the value
 go_wp2_with fail
 refine (HR.out 2 _ HV.out).mono ?_
 rintro e w7 ⟨ta, tn, tc, ths, rfl, hT, htl, hb⟩
 replace HV := hid (HV.out.trans (hb.mono HV.out.size))
 replace HN := hid (HN.out.below hb)
 replace HQ := hid (HQ.out.below hb)
 replace HY := hid (HY.out.below hb)
 replace HYI := hid (HYI.out.below hb)
 have HT := hid hT
 have HTl := hid htl
 have htn : tn ≤ 16 := by have := HD.out 2; omega
 clear hT hb htl
 go_wp2_with fail
 refine (mul_h ta na tn tc nn nc ths _ _ _ HT.out HTl.out HN.out (by omega) hnn).mono ?_
 rintro e w8 ⟨za, zn, zc, rfl, hR, hI, hb⟩
 replace HV := hid (HV.out.trans (hb.mono HV.out.size))
 replace HQ := hid (HQ.out.below hb)
 replace HY := hid (HY.out.below hb)
 replace HYI := hid (HYI.out.below hb)
 have hzn : zn ≤ 16 := by have := hR.size; rw [mulT_len] at this; have := HTl.out; omega
 rw [← HVe.out] at hR
 have HZ := hid hR
 have HZI := hid hI
 clear hR hI hb HT HTl htn HN HVe hnn
 -- the marks
 go_wp2_with fail
 refine (behind_any ka m kc _ _ ya yn yc _ _ (HK.out _ HV.out) HKl.out (by omega) HY.out hyn).mono ?_
 rintro e w9 ⟨bg, bc, rfl, hT, hb⟩
 replace HV := hid (HV.out.trans (hb.mono HV.out.size))
 replace HQ := hid (HQ.out.below hb)
 replace HY := hid (HY.out.below hb)
 replace HYI := hid (HYI.out.below hb)
 replace HZ := hid (HZ.out.below hb)
 replace HZI := hid (HZI.out.below hb)
 have HT := hid hT
 clear hT hb HK
 go_wp2_with fail
 refine (HMk.out qa qn qc _ _ _ _ _ _ _ HV.out HQ.out hqn HT.out (by rw [List.length_append, HKl.out]; rfl) (by omega)).mono ?_
 rintro e w10 ⟨mg, mc, rfl, hO, hb⟩
 replace HV := hid (HV.out.trans (hb.mono HV.out.size))
 replace HY := hid (HY.out.below hb)
 replace HYI := hid (HYI.out.below hb)
 replace HZ := hid (HZ.out.below hb)
 replace HZI := hid (HZI.out.below hb)
 have HM := hid hO.reads
 clear hO hb HT HQ HMk
 go_wp2_with fail
 refine (soft_h _ _ _ _ _ HM.out (by omega)).mono ?_
 rintro e w11 ⟨sa, sn, sc, rfl, hR, hI, hb⟩
 replace HV := hid (HV.out.trans (hb.mono HV.out.size))
 replace HY := hid (HY.out.below hb)
 replace HYI := hid (HYI.out.below hb)
 replace HZ := hid (HZ.out.below hb)
 replace HZI := hid (HZI.out.below hb)
 have hsn : sn ≤ 1000 := by have := hR.size; rw [softL_len, HM.out.size] at this; omega
 have HW := hid hR
 clear hR hI hb HM
 -- the mix
 go_wp2_with fail
 refine (behind_any va m vc _ _ za zn zc _ _ (HVs.out _ HV.out) HVl.out (by omega) HZ.out (by omega)).mono ?_
 rintro e w12 ⟨bg, bc, rfl, hT, hb⟩
 replace HV := hid (HV.out.trans (hb.mono HV.out.size))
 replace HY := hid (HY.out.below hb)
 replace HYI := hid (HYI.out.below hb)
 replace HZ := hid (HZ.out.below hb)
 replace HZI := hid (HZI.out.below hb)
 replace HW := hid (HW.out.below hb)
 have HT := hid hT
 clear hT hb HVs
 have HTl : Hid ((vs' ++ [valL ⟨s, vo, d, l, tt, h⟩ la zs]).length = m + 1) := by unfold Hid; rw [List.length_append, HVl.out]; rfl
 go_wp2_with fail
 refine (mix_h _ _ _ _ _ _ _ _ _ _ HT.out HTl.out HW.out (by omega) hsn (by omega)).mono ?_
 rintro e w13 ⟨xa, xn, xc, rfl, hR, hI, hb⟩
 replace HV := hid (HV.out.trans (hb.mono HV.out.size))
 replace HY := hid (HY.out.below hb)
 replace HYI := hid (HYI.out.below hb)
 replace HZ := hid (HZ.out.below hb)
 replace HZI := hid (HZI.out.below hb)
 have hxn : xn ≤ 1000 := by
  rw [← hR.size]
  refine mixK_bd (fun i hi => ?_) _
  have h1 := HT.out.rows i (by rw [← HTl.out]; exact hi)
  rw [h1.size]
  exact HT.out.short i (by rw [← HTl.out]; exact hi)
 have HMx := hid hR
 clear hR hI hb HT HTl HW hsn
 go_wp2_with fail
 refine (HR.out 3 _ HV.out).mono ?_
 rintro e w14 ⟨ta, tn, tc, ths, rfl, hT, htl, hb⟩
 replace HV := hid (HV.out.trans (hb.mono HV.out.size))
 replace HY := hid (HY.out.below hb)
 replace HYI := hid (HYI.out.below hb)
 replace HZ := hid (HZ.out.below hb)
 replace HZI := hid (HZI.out.below hb)
 replace HMx := hid (HMx.out.below hb)
 have HT := hid hT
 have HTl := hid htl
 have htn : tn ≤ 16 := by have := HD.out 3; omega
 clear hT hb htl HR
 go_wp2_with fail
 refine (mul_h ta xa tn tc xn xc ths _ _ _ HT.out HTl.out HMx.out (by omega) hxn).mono ?_
 rintro e w15 ⟨oa, on, oc, rfl, hR, hI, hb⟩
 replace HV := hid (HV.out.trans (hb.mono HV.out.size))
 replace HY := hid (HY.out.below hb)
 replace HYI := hid (HYI.out.below hb)
 replace HZ := hid (HZ.out.below hb)
 replace HZI := hid (HZI.out.below hb)
 have hon : on ≤ 1000 := by have := hR.size; rw [mulT_len] at this; have := HTl.out; omega
 have HO := hid hR
 clear hR hI hb HT HTl htn HMx hxn
 go_wp2_with fail
 refine (add_h a oa n cap on oc _ _ _ (HX.out _ HV.out) HO.out hn hon).mono ?_
 rintro e w16 ⟨ha, hhn, hhc, rfl, hR, hI, hb⟩
 replace HV := hid (HV.out.trans (hb.mono HV.out.size))
 replace HY := hid (HY.out.below hb)
 replace HYI := hid (HYI.out.below hb)
 replace HZ := hid (HZ.out.below hb)
 replace HZI := hid (HZI.out.below hb)
 have hhn1 : hhn ≤ 1000 := by have := hR.size; rw [addL_len] at this; have := HS.out; omega
 rw [← HHid.out] at hR
 have HH := hid hR
 clear hR hI hb HO hon HX HHid
 go_wp2_with fail
 refine (HFw.out ha hhn hhc _ _ HV.out HH.out hhn1).mono ?_
 rintro e w17 ⟨fa, fn, fc, rfl, hR, hI, hb⟩
 replace HV := hid (HV.out.trans (hb.mono HV.out.size))
 replace HY := hid (HY.out.below hb)
 replace HYI := hid (HYI.out.below hb)
 replace HZ := hid (HZ.out.below hb)
 replace HZI := hid (HZI.out.below hb)
 replace HH := hid (HH.out.below hb)
 have hfn : fn ≤ 1000 := by
  rw [← hR.size]
  show (mulT _ _).length ≤ 1000
  rw [mulT_len]
  have := HD.out 5
  omega
 have HF := hid hR
 clear hR hI hb HFw
 go_wp2_with fail
 refine (add_h ha fa hhn hhc fn fc _ _ _ HH.out HF.out hhn1 hfn).mono ?_
 rintro e w18 ⟨ra, rn, rc, rfl, hR, hI, hb⟩
 replace HV := hid (HV.out.trans (hb.mono HV.out.size))
 replace HY := hid (HY.out.below hb)
 replace HYI := hid (HYI.out.below hb)
 replace HZ := hid (HZ.out.below hb)
 replace HZI := hid (HZI.out.below hb)
 rw [← HOut.out] at hR
 have HA := hid hR
 have HAI := hid hI
 clear hR hI hb HH HF
 go_wp2
 go_ret3
 exact ⟨_, _, _, _, _, _, _, _, _, rfl, HA.out, HY.out, HZ.out, HAI.out, HYI.out, HZI.out, HV.out⟩
end Go.Proofs.YtjgggialnegddaaGreat
namespace Go.Proofs.YtjgggialnegddaaGreat
open Go.RowKit
abbrev Hp := Hd × Hd
def pk (ps : List Hp) (i : Nat) : Hp := ps[i]?.getD ((none, 0, 0), (none, 0, 0))
def flatP : List Hp → List Value
 | [] => []
 | p :: r => hdV p.1 :: hdV p.2 :: flatP r
theorem flatP_len (ps : List Hp) : (flatP ps).length = ps.length * 2 := by
 induction ps with
 | nil => rfl
 | cons p r ih => simp only [flatP, List.length_cons, ih]; omega
theorem flatP_at0 (ps : List Hp) (i : Nat) (h : i < ps.length) : (flatP ps)[i * 2]? = some (hdV (pk ps i).1) := by
 induction ps generalizing i with
 | nil => simp at h
 | cons p r ih =>
  cases i with
  | zero => rfl
  | succ i =>
   rw [show (i + 1) * 2 = i * 2 + 1 + 1 by omega]
   simp only [flatP, List.getElem?_cons_succ]
   exact ih i (by simpa using h)
theorem flatP_at1 (ps : List Hp) (i : Nat) (h : i < ps.length) : (flatP ps)[i * 2 + 1]? = some (hdV (pk ps i).2) := by
 induction ps generalizing i with
 | nil => simp at h
 | cons p r ih =>
  cases i with
  | zero => rfl
  | succ i =>
   rw [show (i + 1) * 2 + 1 = i * 2 + 1 + 1 + 1 by omega]
   simp only [flatP, List.getElem?_cons_succ]
   exact ih i (by simpa using h)
theorem flatP_set (ps : List Hp) (k : Nat) (x y : Hd) : flatP (ps.set k (x, y)) = ((flatP ps).set (k * 2) (hdV x)).set (k * 2 + 1) (hdV y) := by
 induction ps generalizing k with
 | nil => rfl
 | cons p r ih =>
  cases k with
  | zero => rfl
  | succ k =>
   rw [show (k + 1) * 2 = k * 2 + 1 + 1 by omega]
   simp only [List.set_cons_succ, flatP, ih k]
def OwnP (base g n : Nat) (ps : List Hp) (w : World) : Prop := w.ownsRow base 226 2 (.slice (some ⟨g, 0, none⟩) n n) n (flatP ps)
theorem OwnP.len {base g n : Nat} {ps : List Hp} {w : World} (h : OwnP base g n ps w) : ps.length = n := by have := h.1; rw [flatP_len] at this; omega
theorem OwnP.cell0 {base g n : Nat} {ps : List Hp} {w : World} (h : OwnP base g n ps w) {k : Nat} (hk : k < n) : w.cell? ⟨g, k * 2, none⟩ = some (hdV (pk ps k).1) := by
 have hl := h.len
 rw [World.ownsRow.cellAt h (k * 2) (by omega)]
 exact flatP_at0 ps k (by omega)
theorem OwnP.cell1 {base g n : Nat} {ps : List Hp} {w : World} (h : OwnP base g n ps w) {k : Nat} (hk : k < n) : w.cell? ⟨g, k * 2 + 1, none⟩ = some (hdV (pk ps k).2) := by
 have hl := h.len
 rw [World.ownsRow.cellAt h (k * 2 + 1) (by omega)]
 exact flatP_at1 ps k (by omega)
theorem OwnP.frozen {base g n : Nat} {ps : List Hp} {w : World} (h : OwnP base g n ps w) (k : Nat) : w.frozen? ⟨g, k, none⟩ = false := World.ownsRow.frozenAt h k
theorem OwnP.set {base g n : Nat} {ps : List Hp} {w : World} (h : OwnP base g n ps w) (k : Nat) (x y : Hd) : OwnP base g n (ps.set k (x, y)) ((w.setCell ⟨g, k * 2, none⟩ (hdV x)).setCell ⟨g, k * 2 + 1, none⟩ (hdV y)) := by
 have h1 := (World.ownsRow.stored h (k * 2) (hdV x)).1
 have h2 := (World.ownsRow.stored h1 (k * 2 + 1) (hdV y)).1
 unfold OwnP
 rw [flatP_set]
 exact h2
theorem OwnP.base {base g n : Nat} {ps : List Hp} {w : World} (h : OwnP base g n ps w) : base ≤ g := (World.ownsRow.lt h g rfl).1
theorem OwnP.lt {base g n : Nat} {ps : List Hp} {w : World} (h : OwnP base g n ps w) : g < w.heap.size := (World.ownsRow.lt h g rfl).2
theorem OwnP.stays {base g n : Nat} {ps : List Hp} {w w' : World} (h : OwnP base g n ps w) (hb : Below w.heap.size w w') : OwnP base g n ps w' := own_below h hb
theorem OwnP.low {base base' g n : Nat} {ps : List Hp} {w : World} (h : OwnP base g n ps w) (hb : base' ≤ base) : OwnP base' g n ps w := own_base h hb
theorem OwnP.blk {base g n : Nat} {ps : List Hp} {w : World} (h : OwnP base g n ps w) : ∃ cur, w.heap[g]? = some (.cells cur 226 (0, 0)) := by
 rcases id h.2 with ⟨h', _⟩ | ⟨g', c, cur, hv, hB, hg, rest⟩
 ·cases h'
 ·cases hv; exact ⟨cur, hg⟩
theorem Tryz.infoP : (Tryz.prog.info? 226).map (fun i => (i.zero, i.size, i.bytes)) = some (some (.agg #[.slice none 0 0, .slice none 0 0]), 2, 48) := by kernel_rfl
theorem make_plcs (w : World) (m : Nat) (hm : m ≤ 1001) : (Instr.makeSlice 223 (.int .i64 (m : Int)) (.int .i64 (m : Int))).run Tryz.prog w = .ok (.slice (some ⟨w.heap.size, 0, none⟩) m m) (w.alloc (.cells (madeCells #[.slice none 0 0, .slice none 0 0] (m * 2)) 226)) := by
 obtain ⟨i0, hi, hz0, hz1, hz2⟩ := info_parts Tryz.infoP
 have := run_make (P := Tryz.prog) w 223 226 i0 (.agg #[.slice none 0 0, .slice none 0 0]) Tryz.underlying223 hi hz0 .i64 .i64 (m : Int) (m : Int) (by omega) (Int.le_refl _) (by rw [hz2]; omega) (by omega)
 rw [this, hz1, Int.toNat_natCast]
 rfl
theorem toList_made_two (z : Value) (n : Nat) : (madeCells #[z, z] n).toList = List.replicate n z := by
 apply List.ext_getElem?
 intro j
 by_cases hj : j < n
 ·rcases (by omega : j % 2 = 0 ∨ j % 2 = 1) with e | e <;> simp [madeCells, hj, e]
 ·simp [madeCells, hj]
theorem flatP_none (m : Nat) : flatP (List.replicate m ((none, 0, 0), (none, 0, 0))) = List.replicate (m * 2) (.slice none 0 0) := by
 induction m with
 | zero => rfl
 | succ m ih =>
  rw [List.replicate_succ, show (m + 1) * 2 = m * 2 + 1 + 1 by omega, List.replicate_succ, List.replicate_succ]
  simp only [flatP, ih]
  rfl
theorem own_places (w : World) (m : Nat) (hm : m ≤ 1001) : OwnP w.heap.size w.heap.size m (List.replicate m ((none, 0, 0), (none, 0, 0))) (w.alloc (.cells (madeCells #[.slice none 0 0, .slice none 0 0] (m * 2)) 226)) := by
 have := World.ownsRow_lit (base := w.heap.size) (e := 226) (size := 2) w (madeCells #[.slice none 0 0, .slice none 0 0] (m * 2)) m (Nat.le_refl _) (by unfold maxLen; omega) (by simp [madeCells])
 unfold OwnP
 rw [flatP_none, ← toList_made_two]
 exact this
structure MemB (W : World) (B g : Nat) (M : List KV) (ps : List Hp) : Prop where
 var : W.heap[B]? = some (.cells #[.slice (some ⟨g, 0, none⟩) M.length M.length] 229 (0, 0))
 own : OwnP 0 g M.length ps W
 rows : ∀ i, i < M.length → TbH W (pk ps i).1 (kv M i).1 ∧ TbH W (pk ps i).2 (kv M i).2
theorem MemB.below {W W' : World} {B g : Nat} {M : List KV} {ps : List Hp} (h : MemB W B g M ps) (hb : Below W.heap.size W W') : MemB W' B g M ps :=
 ⟨block_below h.var hb, h.own.stays hb, fun i hi => ⟨(h.rows i hi).1.below hb, (h.rows i hi).2.below hb⟩⟩
def MemAt (W : World) (p : Option Addr) (M : List KV) : Prop := (p = none ∧ M = []) ∨ ∃ B g ps, p = some ⟨B, 0, none⟩ ∧ MemB W B g M ps
theorem MemAt.below {W W' : World} {p : Option Addr} {M : List KV} (h : MemAt W p M) (hb : Below W.heap.size W W') : MemAt W' p M := by
 rcases h with h | ⟨B, g, ps, hp, h⟩
 ·exact .inl h
 ·exact .inr ⟨B, g, ps, hp, h.below hb⟩
def MemG (w : World) (M : List KV) (e : Ending) (w' : World) : Prop := ∃ B g ps, e = .returned (.pointer (some ⟨B, 0, none⟩)) ∧ w.heap.size ≤ B ∧ w.heap.size ≤ g ∧ MemB w' B g M ps ∧ Below w.heap.size w w'
theorem mem_new (w : World) (m : Nat) (hm : m ≤ 4) : MemB ((w.alloc (.cells (madeCells #[.slice none 0 0, .slice none 0 0] (m * 2)) 226)).alloc (.cells #[.slice (some ⟨w.heap.size, 0, none⟩) m m] 229)) (w.heap.size + 1) w.heap.size (noneM m) (List.replicate m ((none, 0, 0), (none, 0, 0))) := by
 have h1 := own_places w m (by omega)
 have hb : Below (w.alloc (.cells (madeCells #[.slice none 0 0, .slice none 0 0] (m * 2)) 226)).heap.size _ ((w.alloc (.cells (madeCells #[.slice none 0 0, .slice none 0 0] (m * 2)) 226)).alloc (.cells #[.slice (some ⟨w.heap.size, 0, none⟩) m m] 229)) := (Below.refl _ _).alloc (Nat.le_refl _) _
 refine ⟨?_, ?_, fun i hi => ?_⟩
 ·rw [noneM_len]
  have := heap_alloc_new (w.alloc (.cells (madeCells #[.slice none 0 0, .slice none 0 0] (m * 2)) 226)) (.cells #[.slice (some ⟨w.heap.size, 0, none⟩) m m] 229)
  rw [World.size_alloc] at this
  exact this
 ·rw [noneM_len]
  exact (h1.low (Nat.zero_le _)).stays hb
 ·rw [noneM_len] at hi
  rw [noneM_at]
  have : pk (List.replicate m ((none, 0, 0), (none, 0, 0))) i = ((none, 0, 0), (none, 0, 0)) := by simp [pk, hi]
  rw [this]
  exact ⟨TbH.nil _, TbH.nil _⟩
theorem anew_nat (m : Nat) (w : World) (hm : m ≤ 4) : Calls Tryz.prog 148 #[.int .i64 m] w fun e w' => MemG w (noneM m) e w' := by
 have hmk := make_plcs w m (by omega)
 have HN := hid (mem_new w m hm)
 have HB : Hid (Below w.heap.size w ((w.alloc (.cells (madeCells #[.slice none 0 0, .slice none 0 0] (m * 2)) 226)).alloc (.cells #[.slice (some ⟨w.heap.size, 0, none⟩) m m] 229))) := ((Below.refl _ _).alloc (Nat.le_refl _) _).alloc (by simp) _
 have h1 : (if (4 : Int) < (m : Int) then (4 : Int) else (m : Int)) = (m : Int) := by split <;> omega
 have h2 : (if (0 : Int) < (m : Int) then (m : Int) else 0) = (m : Int) := by split <;> omega
 have h3 : (if 0 < m then (m : Int) else 0) = (m : Int) := by split <;> omega
 have h4 : (if 4 < m then (4 : Int) else (m : Int)) = (m : Int) := by split <;> omega
 go_enter Tryz.func148, Tryz.ntmps148
 go_wp2
 go_ret
 exact ⟨_, _, _, rfl, by omega, Nat.le_refl _, HN.out, HB.out⟩
end Go.Proofs.YtjgggialnegddaaGreat
namespace Go.Proofs.YtjgggialnegddaaGreat
open Go.RowKit
theorem all_none (w : World) : Calls Tryz.prog 162 #[.pointer none] w fun e w' => e = .returned (.slice none 0 0) ∧ w' = w := by
 go_enter Tryz.func162, Tryz.ntmps162
 go_wp2
 go_ret
 exact ⟨rfl, rfl⟩
theorem all_some {B g : Nat} {M : List KV} {ps : List Hp} (w : World) (h : MemB w B g M ps) : Calls Tryz.prog 162 #[.pointer (some ⟨B, 0, none⟩)] w fun e w' => e = .returned (.slice (some ⟨g, 0, none⟩) M.length M.length) ∧ w' = w := by
 have cv := cell_of_one h.var
 clear h
 generalize M.length = L at *
 go_enter Tryz.func162, Tryz.ntmps162
 go_wp2
 go_ret
 exact ⟨rfl, rfl⟩
theorem layers_any (p : Option Addr) (M : List KV) (w : World) (h : MemAt w p M) : Calls Tryz.prog 161 #[.pointer p] w fun e w' => e = .returned (.int .i64 M.length) ∧ w' = w := by
 rcases h with ⟨rfl, rfl⟩ | ⟨B, g, ps, rfl, h⟩
 ·go_enter Tryz.func161, Tryz.ntmps161
  go_wp2_with fail
  refine (all_none _).mono ?_
  rintro e w' ⟨rfl, rfl⟩
  go_wp2
  go_ret
  exact ⟨rfl, rfl⟩
 ·have hA := all_some w h
  clear h
  generalize M.length = L at *
  go_enter Tryz.func161, Tryz.ntmps161
  go_wp2_with fail
  refine hA.mono ?_
  rintro e w' ⟨rfl, rfl⟩
  go_wp2
  go_ret
  exact ⟨rfl, rfl⟩
theorem len_any (p : Option Addr) (M : List KV) (q : Nat) (w : World) (h : MemAt w p M) (h0 : M.length = 0 → q = 0) (h1 : 0 < M.length → (kv M 0).1.length = q) (hM : M.length ≤ 4) : Calls Tryz.prog 160 #[.pointer p] w fun e w' => e = .returned (.int .i64 q) ∧ w' = w := by
 have hL := layers_any p M w h
 by_cases hz : M.length = 0
 ·have hq := h0 hz
  subst hq
  rw [hz] at hL
  clear h0 h1 hM h hz
  go_enter Tryz.func160, Tryz.ntmps160
  go_wp2_with fail
  refine hL.mono ?_
  rintro e w' ⟨rfl, rfl⟩
  go_wp2
  go_ret
  exact ⟨rfl, rfl⟩
 ·rcases h with ⟨rfl, rfl⟩ | ⟨B, g, ps, rfl, h⟩
  ·exact absurd rfl hz
  ·have cv := cell_of_one h.var
   have c0 := h.own.cell0 (k := 0) (by omega)
   have hr := (h.rows 0 (by omega)).1.1
   rw [h1 (by omega)] at hr
   rw [Nat.zero_mul] at c0
   clear h h0 h1
   generalize pk ps 0 = y at *
   obtain ⟨⟨y1, y2, y3⟩, y4⟩ := y
   unfold hdV at c0
   simp only at c0 hr
   subst hr
   generalize M.length = L at *
   have hz1 : (L : Int) ≠ 0 := by omega
   have hz2 : (0 : Int) < (L : Int) := by omega
   have hz3 : ((L : Int) == 0) = false := by simp; omega
   go_enter Tryz.func160, Tryz.ntmps160
   go_wp2_with fail
   refine hL.mono ?_
   rintro e w' ⟨rfl, rfl⟩
   go_wp2
   go_ret
   exact ⟨rfl, rfl⟩
theorem first_any (a1 a2 : Option Addr) (n1 c1 n2 c2 k : Nat) (w : World) (h1 : k ≤ c1) (h2 : k ≤ c2) (m1 : c1 ≤ 9223372036854775807) (m2 : c2 ≤ 9223372036854775807) :
  Calls Tryz.prog 163 #[.agg #[.slice a1 n1 c1, .slice a2 n2 c2], .int .i64 k] w fun e w' => e = .returned (.agg #[.slice a1 k k, .slice a2 k k]) ∧ Below w.heap.size w w' := by
 go_enter Tryz.func163, Tryz.ntmps163
 go_wp2_with fail
 go_region
 go_wp2
 exact bodyPost_ret (v := .agg #[.slice a1 k k, .slice a2 k k]) (by simp [results, Tryz.results163, go_sem]) rfl ⟨rfl, by go_grown⟩
theorem own_same {base e size n g c : Nat} {xs : List Value} {w w' : World} (h : w.ownsRow base e size (.slice (some ⟨g, 0, none⟩) n c) n xs) (hb : w'.heap[g]? = w.heap[g]?) : w'.ownsRow base e size (.slice (some ⟨g, 0, none⟩) n c) n xs := by
 refine ⟨h.1, ?_⟩
 rcases h.2 with h' | ⟨g', c', cur, hv, hB, hg, rest⟩
 ·exact .inl h'
 ·cases hv
  exact .inr ⟨g, c, cur, rfl, hB, hb.trans hg, rest⟩
theorem own_up {base base' e size n g c : Nat} {xs : List Value} {w : World} (h : w.ownsRow base e size (.slice (some ⟨g, 0, none⟩) n c) n xs) (hg : base' ≤ g) : w.ownsRow base' e size (.slice (some ⟨g, 0, none⟩) n c) n xs := by
 refine ⟨h.1, ?_⟩
 rcases h.2 with h' | ⟨g', c', cur, hv, hB, rest⟩
 ·exact .inl h'
 ·cases hv
  exact .inr ⟨g, c, cur, rfl, hg, rest⟩
theorem row_setCell {w : World} {b k : Nat} {cs : Array Value} {u : Value} {T : TypeId} (h : w.heap[b]? = some (.cells cs T (0, 0))) : (w.setCell ⟨b, k, none⟩ u).heap[b]? = some (.cells (cs.setIfInBounds k u) T (0, 0)) := by
 have hlt := lt_of_block h
 have h' : w.heap[b] = .cells cs T (0, 0) := by simpa [Array.getElem?_eq_getElem hlt] using h
 show (w.heap.modify b _)[b]? = _
 rw [Array.getElem?_eq_getElem (by simpa using hlt), Array.getElem_modify_self, h']
 rfl
theorem BlS.own {w : World} {B n l c : Nat} {a : Option Addr} {xs : List Value} (h : w.ownsRow B 131 1 (.slice a l c) n xs) : BlS w a := by
 rcases h.2 with ⟨h', _⟩ | ⟨g, cap, cur, h', _, hg, _⟩
 ·cases h'; exact BlS.none w
 ·cases h'; intro p hp; cases hp; exact ⟨cur, (0, 0), hg⟩
theorem bli_snoc {W : World} {hs : List Hd} {y : Hd} {n : Nat} (hl : hs.length = n) (h : ∀ j, j < n → BlI W (hs[j]?.getD (none, 0, 0)).1) (hy : BlI W y.1) {i : Nat} (hi : i < n + 1) : BlI W ((hs ++ [y])[i]?.getD (none, 0, 0)).1 := by
 rw [at_snoc hs y _ hl hi]
 by_cases e : i < n
 ·rw [if_pos e]; exact h i e
 ·rw [if_neg e]; exact hy
def WithG (w : World) (K V : List (List Int)) (e : Ending) (w' : World) : Prop := ∃ x y : Hd, e = .returned (.agg #[.slice x.1 x.2.1 x.2.2, .slice y.1 y.2.1 y.2.2]) ∧ TbH w' x K ∧ TbH w' y V ∧ (∀ ad, x.1 = some ad → w.heap.size ≤ ad.block) ∧ (∀ ad, y.1 = some ad → w.heap.size ≤ ad.block) ∧ Below w.heap.size w w'
theorem with_any (a1 a2 : Option Addr) (n1 c1 n2 c2 : Nat) (ls1 ls2 : List (List Int)) (b1 b2 : Option Addr) (k1 d1 k2 d2 : Nat) (ys1 ys2 : List Int) (w : World) (h1 : TbH w (a1, n1, c1) ls1) (h2 : TbH w (a2, n2, c2) ls2) (m1 : n1 ≤ 900) (m2 : n2 ≤ 900)
  (r1 : Reads .i64 w b1 k1 d1 ys1) (r2 : Reads .i64 w b2 k2 d2 ys2) (q1 : k1 ≤ 1000) (q2 : k2 ≤ 1000) (i1 : BlI w b1) (i2 : BlI w b2) :
  Calls Tryz.prog 185 #[.agg #[.slice a1 n1 c1, .slice a2 n2 c2], .slice b1 k1 d1, .slice b2 k2 d2] w fun e w' => WithG w (ls1 ++ [ys1]) (ls2 ++ [ys2]) e w' := by
 obtain ⟨l1, hs1, t1, s1, u1⟩ := h1
 obtain ⟨l2, hs2, t2, s2, u2⟩ := h2
 simp only at l1 l2 t1 t2 s1 s2 u1 u2
 obtain ⟨W0, hW0⟩ : ∃ W0, W0 = (w.alloc (.cells #[.slice a1 n1 c1, .slice a2 n2 c2] 226)).alloc (.cells #[.slice none 0 0, .slice none 0 0] 226) := ⟨_, rfl⟩
 have HB0 : Hid (Below w.heap.size w W0) := by unfold Hid; rw [hW0]; exact ((Below.refl _ _).alloc (Nat.le_refl _) _).alloc (by simp) _
 have HC1 := hid fun W (hb : Below W0.heap.size W0 W) => behind_own a1 n1 c1 hs1 b1 k1 d1 W ((t1.rd.below HB0.out).below hb) (by omega)
 have HC2 := hid fun W (hb : Below W0.heap.size W0 W) => behind_own a2 n2 c2 hs2 b2 k2 d2 W ((t2.rd.below HB0.out).below hb) (by omega)
 have HBx : Hid (W0.heap[w.heap.size]? = some (.cells #[.slice a1 n1 c1, .slice a2 n2 c2] 226 (0, 0))) := by
  unfold Hid; rw [hW0, Below.heap_alloc _ _ _ (by simp)]; exact heap_alloc_new w _
 have HBr : Hid (W0.heap[w.heap.size + 1]? = some (.cells #[.slice none 0 0, .slice none 0 0] 226 (0, 0))) := by
  unfold Hid; rw [hW0]
  have := heap_alloc_new (w.alloc (.cells #[.slice a1 n1 c1, .slice a2 n2 c2] 226)) (.cells #[.slice none 0 0, .slice none 0 0] 226)
  rw [World.size_alloc] at this
  exact this
 have HK : Hid (∀ W : World, Below W0.heap.size W0 W → W.cell? ⟨w.heap.size, 0, none⟩ = some (.slice a1 n1 c1) ∧ W.cell? ⟨w.heap.size, 1, none⟩ = some (.slice a2 n2 c2)) := fun W hb => by
  have := block_below HBx.out hb
  exact ⟨by rw [cell_of_row _ _ _ _ _ _ this]; rfl, by rw [cell_of_row _ _ _ _ _ _ this]; rfl⟩
 have HL1 : Hid ((ls1 ++ [ys1]).length = n1 + 1) := by unfold Hid; simp [l1]
 have HL2 : Hid ((ls2 ++ [ys2]).length = n2 + 1) := by unfold Hid; simp [l2]
 have HE1 : Hid (∀ (W : World) (g c : Nat), Below w.heap.size w W → OwnS 0 g (n1 + 1) c (hs1 ++ [(b1, k1, d1)]) W → TbH W (some ⟨g, 0, none⟩, n1 + 1, c) (ls1 ++ [ys1])) := fun W g c hb ho => ⟨HL1.out, _, Tbl.snoc (b := b1) (t1.below hb) l1 (r1.below hb) q1 ho.rd, BlS.own ho, fun i hi => bli_snoc t1.rd.size (fun j hj => (u1 j hj).below hb) (i1.below hb) hi⟩
 have HE2 : Hid (∀ (W : World) (g c : Nat), Below w.heap.size w W → OwnS 0 g (n2 + 1) c (hs2 ++ [(b2, k2, d2)]) W → TbH W (some ⟨g, 0, none⟩, n2 + 1, c) (ls2 ++ [ys2])) := fun W g c hb ho => ⟨HL2.out, _, Tbl.snoc (b := b2) (t2.below hb) l2 (r2.below hb) q2 ho.rd, BlS.own ho, fun i hi => bli_snoc t2.rd.size (fun j hj => (u2 j hj).below hb) (i2.below hb) hi⟩
 have HSz : Hid (w.heap.size + 1 < W0.heap.size) := by unfold Hid; rw [hW0]; simp
 have HU : Hid (Below W0.heap.size W0 W0.drew) := (Below.refl _ _).drew
 clear t1 t2 r1 r2 l1 l2 HL1 HL2 s1 s2 u1 u2 i1 i2
 go_enter Tryz.func185, Tryz.ntmps185
 go_wp2_with fail
 rw [← hW0]
 have HKS : Hid (∀ (W : World) (u v : Value), Below W0.heap.size W0 W → ((W.setCell ⟨w.heap.size + 1, 0, none⟩ u).setCell ⟨w.heap.size + 1, 1, none⟩ v).cell? ⟨w.heap.size, 0, none⟩ = some (.slice a1 n1 c1) ∧ ((W.setCell ⟨w.heap.size + 1, 0, none⟩ u).setCell ⟨w.heap.size + 1, 1, none⟩ v).cell? ⟨w.heap.size, 1, none⟩ = some (.slice a2 n2 c2)) := fun W u v hb => by
  have h1 := block_below HBx.out hb
  have h2 : ((W.setCell ⟨w.heap.size + 1, 0, none⟩ u).setCell ⟨w.heap.size + 1, 1, none⟩ v).heap[w.heap.size]? = some (.cells #[.slice a1 n1 c1, .slice a2 n2 c2] 226 (0, 0)) := by
   rw [Below.heap_setCell _ _ _ _ (by show w.heap.size ≠ w.heap.size + 1; omega), Below.heap_setCell _ _ _ _ (by show w.heap.size ≠ w.heap.size + 1; omega)]
   exact h1
  exact ⟨by rw [cell_of_row _ _ _ _ _ _ h2]; rfl, by rw [cell_of_row _ _ _ _ _ _ h2]; rfl⟩
 clear HBx hW0
 go_region_held3 (fun W : World => W.cell? ⟨w.heap.size, 0, none⟩ = some (.slice a1 n1 c1) ∧ W.cell? ⟨w.heap.size, 1, none⟩ = some (.slice a2 n2 c2)) (first | (with_reducible exact HK.out _ (Below.refl _ _)) | (with_reducible exact HK.out _ HU.out) | (with_reducible exact HKS.out _ _ _ HU.out))
  (first
   | (go_at_call 211; (with_reducible refine (HC1.out _ HU.out).mono ?_); rintro e z1 ⟨g1, e1, rfl, hT1, hb⟩; have HT1 := hid (hT1.low HU.out.size); replace HU := hid (HU.out.trans (hb.mono HU.out.size)); clear hT1 hb)
   | (go_at_call 211; (with_reducible refine (HC2.out _ HU.out).mono ?_); rintro e z2 ⟨g2, e2, rfl, hT2, hb⟩; have HT2 := hid (hT2.low HU.out.size); replace HT1 := hid (HT1.out.stays hb); replace HU := hid (HU.out.trans (hb.mono HU.out.size)); clear hT2 hb; have HRb := hid (block_below HBr.out HU.out); have cr0 := cell_of_row _ _ 0 _ _ _ HRb.out; have cr1 := cell_of_row _ _ 1 _ _ _ HRb.out; have fr := frozen_of_row _ _ 0 _ _ HRb.out; have fr1 := frozen_of_row _ _ 1 _ _ HRb.out))
 have HF : Hid (∀ (s1 s2 : Value), ((z2.setCell ⟨w.heap.size + 1, 0, none⟩ s1).setCell ⟨w.heap.size + 1, 1, none⟩ s2).heap[w.heap.size + 1]? = some (.cells #[s1, s2] 226 (0, 0)) ∧ Below w.heap.size w ((z2.setCell ⟨w.heap.size + 1, 0, none⟩ s1).setCell ⟨w.heap.size + 1, 1, none⟩ s2) ∧
   OwnS 0 g1 (n1 + 1) e1 (hs1 ++ [(b1, k1, d1)]) ((z2.setCell ⟨w.heap.size + 1, 0, none⟩ s1).setCell ⟨w.heap.size + 1, 1, none⟩ s2) ∧ OwnS 0 g2 (n2 + 1) e2 (hs2 ++ [(b2, k2, d2)]) ((z2.setCell ⟨w.heap.size + 1, 0, none⟩ s1).setCell ⟨w.heap.size + 1, 1, none⟩ s2)) := by
  intro s1 s2
  have hs := HSz.out
  have b1' := HT1.out.base
  have b2' := HT2.out.base
  have hbw := HB0.out.trans (HU.out.mono HB0.out.size)
  refine ⟨row_setCell (row_setCell HRb.out), (hbw.setCell (by show w.heap.size ≤ w.heap.size + 1; omega) _).setCell (by show w.heap.size ≤ w.heap.size + 1; omega) _, ?_, ?_⟩
  ·refine own_same (HT1.out.low (Nat.zero_le _)) ?_
   rw [Below.heap_setCell _ _ _ _ (by show g1 ≠ w.heap.size + 1; omega), Below.heap_setCell _ _ _ _ (by show g1 ≠ w.heap.size + 1; omega)]
  ·refine own_same (HT2.out.low (Nat.zero_le _)) ?_
   rw [Below.heap_setCell _ _ _ _ (by show g2 ≠ w.heap.size + 1; omega), Below.heap_setCell _ _ _ _ (by show g2 ≠ w.heap.size + 1; omega)]
 obtain ⟨hF1, hF2, hF3, hF4⟩ := HF.out (.slice (some ⟨g1, 0, none⟩) (n1 + 1) e1) (.slice (some ⟨g2, 0, none⟩) (n2 + 1) e2)
 generalize (z2.setCell ⟨w.heap.size + 1, 0, none⟩ (.slice (some ⟨g1, 0, none⟩) (n1 + 1) e1)).setCell ⟨w.heap.size + 1, 1, none⟩ (.slice (some ⟨g2, 0, none⟩) (n2 + 1) e2) = Wf at *
 have HY1 := hid (HE1.out Wf g1 e1 hF2 hF3)
 have HY2 := hid (HE2.out Wf g2 e2 hF2 hF4)
 have HY3 := hid hF2
 have f0 : Wf.cell? ⟨w.heap.size + 1, 0, none⟩ = some (.slice (some ⟨g1, 0, none⟩) (n1 + 1) e1) := by rw [cell_of_row _ _ _ _ _ _ hF1]; rfl
 have f1 : Wf.cell? ⟨w.heap.size + 1, 1, none⟩ = some (.slice (some ⟨g2, 0, none⟩) (n2 + 1) e2) := by rw [cell_of_row _ _ _ _ _ _ hF1]; rfl
 have HZ1 : Hid (w.heap.size ≤ g1) := Nat.le_trans HB0.out.size HT1.out.base
 have HZ2 : Hid (w.heap.size ≤ g2) := Nat.le_trans HB0.out.size HT2.out.base
 clear HF hF1 hF2 hF3 hF4 HRb cr0 cr1 fr fr1 HT1 HT2 HU HC1 HC2 HK HKS HE1 HE2 HBr HB0 HSz
 go_wp2
 exact bodyPost_ret (v := .agg #[.slice (some ⟨g1, 0, none⟩) (n1 + 1) e1, .slice (some ⟨g2, 0, none⟩) (n2 + 1) e2]) (by simp [results, Tryz.results185, go_sem, f0, f1]) rfl ⟨(some ⟨g1, 0, none⟩, n1 + 1, e1), (some ⟨g2, 0, none⟩, n2 + 1, e2), rfl, HY1.out, HY2.out, (fun ad h => by cases h; exact HZ1.out), (fun ad h => by cases h; exact HZ2.out), HY3.out⟩
end Go.Proofs.YtjgggialnegddaaGreat
