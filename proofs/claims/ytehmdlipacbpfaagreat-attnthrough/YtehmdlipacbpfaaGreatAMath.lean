/-
  What a layer makes of a vector (outL), its key and value (keyL, valL), with the keys and values of the places ahead; what all layers make (thrX, thrM), and what follows a list of vectors (memL); contracts: Clone, and behind, a list with a vector behind it.
-/
import Derived.Test.YtehmdlipacbpfaaGreatAsks
import Derived.Test.YtehmdlipacbpfaaGreatMixes
import Derived.ArgAppend
import Derived.Lib.SliceRun
namespace Go.Proofs.YtehmdlipacbpfaaGreat
open Go.RowKit
set_option linter.unusedVariables false
set_option maxRecDepth 1000000

/-- How near a key is to a query. -/
def markZ (c : Cf) (q y : List Int) : Int := divZ (dotK y q (min y.length q.length)) (sqrtZ (fromZ c.dim))
/-- Of each row of a table its product. -/
def mulT (t : List (List Int)) (ys : List Int) : List Int := rowK (mulF t ys) t.length
def addL (xs ys : List Int) : List Int := pairK addZ xs ys (min xs.length ys.length)
def reluL (zs : List Int) : List Int := zs.map fun n => max (wi n) 0
def qryL (c : Cf) (la : Int) (x : List Int) : List Int := mulT (tabL c la 0) (normL x)
def keyL (c : Cf) (la : Int) (x : List Int) : List Int := mulT (tabL c la 1) (normL x)
def valL (c : Cf) (la : Int) (x : List Int) : List Int := mulT (tabL c la 2) (normL x)
def wtsL (c : Cf) (la : Int) (x : List Int) (ks : List (List Int)) : List Int := softL ((ks ++ [keyL c la x]).map (markZ c (qryL c la x)))
def mixL (ws : List Int) (ls : List (List Int)) : List Int := mixK ws ls (min ws.length ls.length)
def hidL (c : Cf) (la : Int) (x : List Int) (ks vs : List (List Int)) : List Int := addL x (mulT (tabL c la 3) (mixL (wtsL c la x ks) (vs ++ [valL c la x])))
def fwdL (c : Cf) (la : Int) (h : List Int) : List Int := mulT (tabL c la 5) (reluL (mulT (tabL c la 4) (normL h)))
def outL (c : Cf) (la : Int) (x : List Int) (ks vs : List (List Int)) : List Int := addL (hidL c la x ks vs) (fwdL c la (hidL c la x ks vs))
theorem mulT_len (t : List (List Int)) (ys : List Int) : (mulT t ys).length = t.length := by unfold mulT; rw [rowK_len]
theorem addL_len (xs ys : List Int) : (addL xs ys).length = min xs.length ys.length := by unfold addL; rw [pairK_len]
theorem normL_len (zs : List Int) : (normL zs).length = zs.length := by simp [normL]
theorem softL_len (zs : List Int) : (softL zs).length = zs.length := by simp [softL, powL]
theorem reluL_len (zs : List Int) : (reluL zs).length = zs.length := by simp [reluL]
theorem hidL_len (c : Cf) (la : Int) (x : List Int) (ks vs : List (List Int)) : (hidL c la x ks vs).length ≤ x.length := by unfold hidL; rw [addL_len]; omega
theorem outL_len (c : Cf) (la : Int) (x : List Int) (ks vs : List (List Int)) : (outL c la x ks vs).length ≤ x.length := by
  unfold outL; rw [addL_len]; have := hidL_len c la x ks vs; omega
theorem keyL_len {c : Cf} (h : mayB c = true) (la : Int) (x : List Int) : (keyL c la x).length ≤ 16 := by unfold keyL; rw [mulT_len]; exact tabL_len h _ _
theorem valL_len {c : Cf} (h : mayB c = true) (la : Int) (x : List Int) : (valL c la x).length ≤ 16 := by unfold valL; rw [mulT_len]; exact tabL_len h _ _

/-- A layer's keys and values. -/
abbrev KV := List (List Int) × List (List Int)
def kv (M : List KV) (i : Nat) : KV := M[i]?.getD ([], [])
/-- What the first k layers make of a vector. -/
def thrX (c : Cf) (M : List KV) (x : List Int) : Nat → List Int
  | 0 => x
  | k + 1 => outL c k (thrX c M x k) (kv M k).1 (kv M k).2
/-- The keys and values behind it. -/
def thrM (c : Cf) (M : List KV) (x : List Int) (k : Nat) : List KV := (List.range k).map fun j => ((kv M j).1 ++ [keyL c j (thrX c M x j)], (kv M j).2 ++ [valL c j (thrX c M x j)])
theorem thrX_len (c : Cf) (M : List KV) (x : List Int) (k : Nat) : (thrX c M x k).length ≤ x.length := by
  induction k with
  | zero => exact Nat.le_refl _
  | succ k ih => simp only [thrX]; exact Nat.le_trans (outL_len _ _ _ _ _) ih
theorem thrM_len (c : Cf) (M : List KV) (x : List Int) (k : Nat) : (thrM c M x k).length = k := by simp [thrM]
theorem thrM_at (c : Cf) (M : List KV) (x : List Int) {k j : Nat} (h : j < k) : kv (thrM c M x k) j = ((kv M j).1 ++ [keyL c j (thrX c M x j)], (kv M j).2 ++ [valL c j (thrX c M x j)]) := by simp [thrM, kv, h]
/-- A memory of n layers without places. -/
def noneM (n : Nat) : List KV := List.replicate n ([], [])
theorem noneM_len (n : Nat) : (noneM n).length = n := by simp [noneM]
theorem noneM_at (n i : Nat) : kv (noneM n) i = ([], []) := by
  unfold kv noneM
  by_cases h : i < n
  · simp [h]
  · simp [h]
/-- The memory behind the first k vectors of a list. -/
def memL (c : Cf) (L : Nat) (xs : List (List Int)) : Nat → List KV
  | 0 => noneM L
  | k + 1 => thrM c (memL c L xs k) (xs[k]?.getD []) L
/-- What the k-th vector was made to. -/
def madeL (c : Cf) (L : Nat) (xs : List (List Int)) (k : Nat) : List Int := thrX c (memL c L xs k) (xs[k]?.getD []) L
theorem memL_len (c : Cf) (L : Nat) (xs : List (List Int)) (k : Nat) : (memL c L xs k).length = L := by
  cases k with
  | zero => exact noneM_len L
  | succ k => exact thrM_len _ _ _ _
theorem memL_at (c : Cf) (L : Nat) (xs : List (List Int)) (k : Nat) {j : Nat} (h : j < L) : (kv (memL c L xs k) j).1.length = k ∧ (kv (memL c L xs k) j).2.length = k := by
  induction k with
  | zero => simp only [memL]; rw [noneM_at]; exact ⟨rfl, rfl⟩
  | succ k ih => simp only [memL]; rw [thrM_at _ _ _ h]; simp [ih.1, ih.2]
/-- What a memory is cut to. -/
def cutM (M : List KV) (n : Nat) : List KV := M.map fun p => (p.1.take n, p.2.take n)
theorem cutM_len (M : List KV) (n : Nat) : (cutM M n).length = M.length := by simp [cutM]
theorem cutM_at (M : List KV) (n i : Nat) : kv (cutM M n) i = ((kv M i).1.take n, (kv M i).2.take n) := by
  unfold kv cutM
  by_cases h : i < M.length
  · simp [h]
  · simp [h]
theorem kv_ext {M N : List KV} (hl : M.length = N.length) (h : ∀ i, i < M.length → kv M i = kv N i) : M = N := by
  apply List.ext_getElem hl
  intro i h1 h2
  have := h i h1
  unfold kv at this
  rw [List.getElem?_eq_getElem h1, List.getElem?_eq_getElem h2] at this
  exact this
theorem memL_cut (c : Cf) (L : Nat) (xs : List (List Int)) {k n : Nat} (h : k ≤ n) : cutM (memL c L xs n) k = memL c L xs k := by
  induction n with
  | zero =>
    obtain rfl : k = 0 := by omega
    apply kv_ext
    · rw [cutM_len]
    · intro i hi
      rw [cutM_at]
      simp only [memL]
      rw [noneM_at]
      rfl
  | succ n ih =>
    by_cases e : k = n + 1
    · subst e
      apply kv_ext
      · rw [cutM_len]
      · intro i hi
        rw [cutM_len, memL_len] at hi
        have := memL_at c L xs (n + 1) hi
        rw [cutM_at, List.take_of_length_le (by omega), List.take_of_length_le (by omega)]
    · rw [← ih (by omega)]
      apply kv_ext
      · rw [cutM_len, cutM_len, memL_len, memL_len]
      · intro i hi
        rw [cutM_len, memL_len] at hi
        have := memL_at c L xs n hi
        rw [cutM_at, cutM_at]
        simp only [memL]
        rw [thrM_at _ _ _ hi]
        simp only
        rw [List.take_append_of_le_length (by omega), List.take_append_of_le_length (by omega)]

/-- A slice's header reads as these numbers. -/
def RdH (w : World) (h : Hd) (xs : List Int) : Prop := Reads .i64 w h.1 h.2.1 h.2.2 xs
/-- The slice's block is one of slices of numbers. -/
def BlS (w : World) (a : Option Addr) : Prop := ∀ p, a = some p → ∃ cur fz, w.heap[p.block]? = some (.cells cur 25 fz)
theorem BlS.none (w : World) : BlS w none := fun p h => by cases h
theorem BlS.below {w w' : World} {a : Option Addr} (h : BlS w a) (hb : Below w.heap.size w w') : BlS w' a := fun p hp => by
  obtain ⟨cur, fz, hc⟩ := h p hp
  exact ⟨cur, fz, (hb.block _ (lt_of_block hc)).trans hc⟩
/-- A slice's header reads as these vectors; its cells lie in blocks of slices, theirs in blocks of numbers. -/
def TbH (w : World) (h : Hd) (ls : List (List Int)) : Prop := ls.length = h.2.1 ∧ ∃ hs, Tbl w h.1 h.2.1 h.2.2 hs ls ∧ BlS w h.1 ∧ ∀ i, i < h.2.1 → BlI w (hs[i]?.getD (none, 0, 0)).1
theorem RdH.below {w w' : World} {h : Hd} {xs : List Int} (k : RdH w h xs) (hb : Below w.heap.size w w') : RdH w' h xs := Reads.below k hb
theorem TbH.below {w w' : World} {h : Hd} {ls : List (List Int)} (k : TbH w h ls) (hb : Below w.heap.size w w') : TbH w' h ls := by
  obtain ⟨h1, hs, h2, h3, h4⟩ := k
  exact ⟨h1, hs, h2.below hb, h3.below hb, fun i hi => (h4 i hi).below hb⟩
theorem TbH.nil (w : World) : TbH w (none, 0, 0) [] := ⟨rfl, [], ⟨⟨rfl, Nat.le_refl _, by decide, fun _ => ⟨rfl, rfl⟩, fun i hi => absurd hi (by simp)⟩, fun i hi => absurd hi (by simp), fun i hi => absurd hi (by simp)⟩, BlS.none _, fun i hi => absurd hi (by simp)⟩
/-- Only blocks of this type may have turned. -/
def Kp (T : TypeId) (W W' : World) : Prop := ∀ (k : Nat) (cur : Array Value) (t : TypeId) (fz : Nat × Nat), W.heap[k]? = some (.cells cur t fz) → t ≠ T → W'.heap[k]? = some (.cells cur t fz)
theorem Kp.trans {T : TypeId} {A B C : World} (h : Kp T A B) (k : Kp T B C) : Kp T A C := fun i cur t fz hi ht => k i cur t fz (h i cur t fz hi ht) ht
theorem Kp.set {T : TypeId} {W : World} {g k : Nat} {cur : Array Value} {fz : Nat × Nat} (h : W.heap[g]? = some (.cells cur T fz)) (v : Value) : Kp T W (W.setCell ⟨g, k, none⟩ v) := by
  intro i c t f hi ht
  by_cases e : i = g
  · subst e
    rw [h] at hi
    simp at hi
    exact absurd hi.2.1.symm ht
  · rw [Below.heap_setCell _ _ _ _ (by exact e)]
    exact hi
theorem Reads.keep {T : TypeId} {W W' : World} {a : Option Addr} {l c : Nat} {zs : List Int} (hr : Reads .i64 W a l c zs) (h5 : BlI W a) (hk : Kp T W W') (hT : 2 ≠ T) : Reads .i64 W' a l c zs ∧ BlI W' a := by
  have key : ∀ p, a = some p → W'.heap[p.block]? = W.heap[p.block]? := by
    intro p hp
    obtain ⟨cur, fz, hc⟩ := h5 p hp
    rw [hc]
    exact hk _ _ _ _ hc hT
  refine ⟨⟨hr.size, hr.room, hr.most, hr.bare, fun i hi => ?_⟩, fun p hp => ?_⟩
  · obtain ⟨b, off, ha, hc⟩ := hr.cell i hi
    exact ⟨b, off, ha, (World.cell?_of_block (a := ⟨b, off + i, none⟩) (key ⟨b, off, none⟩ ha)).trans hc⟩
  · obtain ⟨cur, fz, hc⟩ := h5 p hp
    exact ⟨cur, fz, (key p hp).trans hc⟩
theorem TbH.keep {T : TypeId} {W W' : World} {h : Hd} {ls : List (List Int)} (k : TbH W h ls) (hk : Kp T W W') (hT : 2 ≠ T) (hS : 25 ≠ T) : TbH W' h ls := by
  obtain ⟨h1, hs, h2, h3, h4⟩ := k
  have key : ∀ p, h.1 = some p → W'.heap[p.block]? = W.heap[p.block]? := by
    intro p hp
    obtain ⟨cur, fz, hc⟩ := h3 p hp
    rw [hc]
    exact hk _ _ _ _ hc hS
  refine ⟨h1, hs, ⟨⟨h2.rd.size, h2.rd.room, h2.rd.most, h2.rd.bare, fun i hi => ?_⟩, fun i hi => (Reads.keep (h2.rows i hi) (h4 i hi) hk hT).1, h2.short⟩, fun p hp => ?_, fun i hi => (Reads.keep (h2.rows i hi) (h4 i hi) hk hT).2⟩
  · obtain ⟨b, off, ha, hc⟩ := h2.rd.cell i hi
    exact ⟨b, off, ha, (World.cell?_of_block (a := ⟨b, off + i, none⟩) (key ⟨b, off, none⟩ ha)).trans hc⟩
  · obtain ⟨cur, fz, hc⟩ := h3 p hp
    exact ⟨cur, fz, (key p hp).trans hc⟩
theorem Rd2.cut {w : World} {a : Option Addr} {len cap : Nat} {hs : List Hd} (h : Rd2 w a len cap hs) {m : Nat} (hm : m ≤ len) : Rd2 w a m cap (hs.take m) :=
  ⟨by rw [List.length_take, h.size]; omega, by have := h.room; omega, h.most, fun e => by have := h.bare e; omega, fun i hi => by
    obtain ⟨b, off, e, hc⟩ := h.cell i (by omega)
    exact ⟨b, off, e, by rw [hc, List.getElem?_take_of_lt hi]⟩⟩
theorem Tbl.cut {w : World} {a : Option Addr} {len cap : Nat} {hs : List Hd} {ls : List (List Int)} (h : Tbl w a len cap hs ls) {m : Nat} (hm : m ≤ len) : Tbl w a m cap (hs.take m) (ls.take m) :=
  ⟨h.rd.cut hm, fun i hi => by
    rw [List.getElem?_take_of_lt hi, List.getElem?_take_of_lt hi]
    exact h.rows i (by omega), fun i hi => by
    rw [List.getElem?_take_of_lt hi]
    exact h.short i (by omega)⟩
theorem TbH.cut {w : World} {a : Option Addr} {n c : Nat} {ls : List (List Int)} (h : TbH w (a, n, c) ls) {m : Nat} (hm : m ≤ n) : TbH w (a, m, m) (ls.take m) := by
  obtain ⟨h1, hs, h2, h3, h4⟩ := h
  simp only at h1 h2 h3 h4
  have hr := h2.rd.room
  have hx := h2.cut hm
  refine ⟨by simp; omega, hs.take m, ⟨⟨hx.rd.size, Nat.le_refl _, by have := hx.rd.most; simp only; omega, fun e => by have := hx.rd.bare e; simp only; omega, hx.rd.cell⟩, hx.rows, hx.short⟩, h3, fun i hi => ?_⟩
  simp only at hi
  rw [List.getElem?_take_of_lt hi]
  exact h4 i (by omega)
theorem Rd2.tight {w : World} {a : Option Addr} {len cap c : Nat} {hs : List Hd} (h : Rd2 w a len cap hs) (h1 : len ≤ c) (h2 : c ≤ cap) : Rd2 w a len c hs :=
  ⟨h.size, h1, by have := h.most; omega, fun e => by have := h.bare e; omega, h.cell⟩
theorem Tbl.tight {w : World} {a : Option Addr} {len cap c : Nat} {hs : List Hd} {ls : List (List Int)} (h : Tbl w a len cap hs ls) (h1 : len ≤ c) (h2 : c ≤ cap) : Tbl w a len c hs ls := ⟨h.rd.tight h1 h2, h.rows, h.short⟩

/-- A copy of a list. -/
theorem clone_any (a : Option Addr) (n cap : Nat) (xs : List Int) (w : World) (ha : Reads .i64 w a n cap xs) (hn : n ≤ 1000) :
    Calls Tryz.prog 22 #[.slice a n cap] w fun e w' => GivesO w n xs e w' := by
  obtain ⟨i0, hi, hz0, hz1, hz2⟩ := info_parts Tryz.info2
  cases a with
  | none =>
    obtain ⟨rfl, rfl⟩ := ha.bare rfl
    obtain rfl : xs = [] := List.eq_nil_of_length_eq_zero ha.size
    have heq : ∀ W : World, (binOp .eql 25 (.slice none 0 0) (.slice none 0 0)).run Tryz.prog W = .ok (.bool true) W := fun W => Lib.run_eql_slice_nil W _ _ none 0 0 0 0 Tryz.underlying25
    clear ha
    go_enter Tryz.func22, Tryz.ntmps22
    go_wp2
    go_ret
    exact ⟨_, rfl, World.ownsRow_nil _ _ _ _, Below.refl _ _⟩
  | some ad =>
    have heq : ∀ W : World, (binOp .eql 25 (.slice (some ad) n cap) (.slice none 0 0)).run Tryz.prog W = .ok (.bool false) W := fun W => Lib.run_eql_slice_nil W _ _ (some ad) n cap 0 0 Tryz.underlying25
    have HA := hid ha
    have HB : Hid (Below w.heap.size w (w.alloc (.cells #[] 2))) := (Below.refl _ _).alloc (Nat.le_refl _) _
    have HO : Hid ((w.alloc (.cells #[] 2)).ownsRow w.heap.size 2 1 (.slice (some ⟨w.heap.size, 0, none⟩) 0 0) 0 (([] : List Int).map (Value.int .i64))) :=
      World.ownsRow_lit (base := w.heap.size) (e := 2) (size := 1) w #[] 0 (Nat.le_refl _) (by unfold maxLen; omega) (by simp)
    clear ha
    go_enter Tryz.func22, Tryz.ntmps22
    go_wp2_with (at_builtin; refine append_any _ rfl (.tmp 5) (.tmp 6) 25 rfl w.heap.size 2 i0 (.int .i64 0) 8 Tryz.underlying25 hi hz0 hz1 hz2 rfl .i64 _ 0 [] rfl HO.out (some ad) n cap xs rfl (HA.out.below HB.out) (by omega) (by omega) HB.out.size ?_; intro v' w3 hO3 hb3)
    rw [Nat.zero_add, List.nil_append] at hO3
    have HO3 := hid hO3
    have HB3 := hid (HB.out.trans hb3)
    clear hO3 hb3 HA HB HO
    go_wp2
    go_ret
    exact ⟨_, rfl, HO3.out, HB3.out⟩

/-- What stands at a place of a list with one behind. -/
theorem at_snoc {α : Type} (xs : List α) (y d : α) {n i : Nat} (h : xs.length = n) (hi : i < n + 1) : (xs ++ [y])[i]?.getD d = if i < n then xs[i]?.getD d else y := by
  by_cases e : i < n
  · rw [List.getElem?_append_left (by omega), if_pos e]
  · obtain rfl : i = n := by omega
    rw [List.getElem?_append_right (by omega), if_neg e]
    simp [h]
/-- A table with a vector behind it. -/
theorem Tbl.snoc {w : World} {a b : Option Addr} {n cap g c : Nat} {hs : List Hd} {ls : List (List Int)} {y : Hd} {ys : List Int} (ht : Tbl w a n cap hs ls) (hl : ls.length = n) (hr : Reads .i64 w y.1 y.2.1 y.2.2 ys) (hy : y.2.1 ≤ 1000)
    (hd : Rd2 w (some ⟨g, 0, none⟩) (n + 1) c (hs ++ [y])) : Tbl w (some ⟨g, 0, none⟩) (n + 1) c (hs ++ [y]) (ls ++ [ys]) := by
  have hz := ht.rd.size
  refine ⟨hd, fun i hi => ?_, fun i hi => ?_⟩
  · rw [at_snoc hs y _ hz hi, at_snoc ls ys _ hl hi]
    by_cases e : i < n
    · rw [if_pos e, if_pos e]; exact ht.rows i e
    · rw [if_neg e, if_neg e]; exact hr
  · rw [at_snoc hs y _ hz hi]
    by_cases e : i < n
    · rw [if_pos e]; exact ht.short i e
    · rw [if_neg e]; exact hy
theorem olds_at {w : World} {a : Option Addr} {n cap : Nat} {hs : List Hd} (h : Rd2 w a n cap hs) : ∀ b, a = some b → ∀ j u, (hs.map hdV)[j]? = some u → w.cell? (b.add j) = some u := by
  intro b hb j u hu
  have hj : j < hs.length := by
    have := (List.getElem?_eq_some_iff.1 hu).1
    simpa using this
  obtain ⟨b', off, e, hc⟩ := h.cell j (by rw [← h.size]; exact hj)
  rw [e] at hb
  obtain rfl := Option.some.inj hb
  rw [Addr.add_lit, hc]
  simp [hj] at hu ⊢
  exact hu
theorem below_grown {w w' : World} (h : w.grownBy w' none) : Below w.heap.size w w' := (Below.refl _ _).grown h (Nat.le_refl _) fun g hg => by cases hg
theorem ownS_of' {base n : Nat} {v : Value} {hs : List Hd} {w : World} (h : w.ownsRow base 25 1 v n (hs.map hdV)) (hn : 1 ≤ n) : ∃ g c, v = .slice (some ⟨g, 0, none⟩) n c ∧ OwnS base g n c hs w := by
  rcases id h.2 with ⟨rfl, rfl⟩ | ⟨g, cap, cur, rfl, rest⟩
  · omega
  · exact ⟨g, cap, rfl, h⟩
/-- A list with a vector behind it. -/
theorem behind_own (a : Option Addr) (n cap : Nat) (hs : List Hd) (b : Option Addr) (lb cb : Nat) (w : World) (ht : Rd2 w a n cap hs) (hn : n ≤ 1000) :
    Calls Tryz.prog 28 #[.slice a n cap, .slice b lb cb] w fun e w' => ∃ g c, e = .returned (.slice (some ⟨g, 0, none⟩) (n + 1) c) ∧ OwnS w.heap.size g (n + 1) c (hs ++ [(b, lb, cb)]) w' ∧ Below w.heap.size w w' := by
  obtain ⟨i0, hi, hz0, hz1, hz2⟩ := info_parts Tryz.infoS
  have HT := hid ht
  have r1 := ht.room
  have m1 := ht.most
  have bare := ht.bare
  have HZ := hid ht.size
  have HB : Hid (Below w.heap.size w (w.alloc (.cells #[.slice b lb cb] 25))) := (Below.refl _ _).alloc (Nat.le_refl _) _
  have HN : Hid (∀ j u, [hdV (b, lb, cb)][j]? = some u → (w.alloc (.cells #[.slice b lb cb] 25)).cell? ((⟨w.heap.size, 0, none⟩ : Addr).add j) = some u) := World.news_of_block (heap_alloc_new w (.cells #[.slice b lb cb] 25))
  clear ht
  have key : ∀ v' w', w'.ownsRow (w.alloc (.cells #[.slice b lb cb] 25)).heap.size 25 1 v' (n + 1) (hs.map hdV ++ [hdV (b, lb, cb)]) → (w.alloc (.cells #[.slice b lb cb] 25)).grownBy w' none →
      ∃ g c, v' = .slice (some ⟨g, 0, none⟩) (n + 1) c ∧ OwnS w.heap.size g (n + 1) c (hs ++ [(b, lb, cb)]) w' ∧ Below w.heap.size w w' := by
    intro v' w' h1 h2
    have hb2 := below_grown h2
    have hbw : Below w.heap.size w w' := HB.out.trans (hb2.mono HB.out.size)
    rw [show hs.map hdV ++ [hdV (b, lb, cb)] = (hs ++ [(b, lb, cb)]).map hdV by simp] at h1
    obtain ⟨g, c, rfl, hO⟩ := ownS_of' h1 (by omega)
    exact ⟨g, c, rfl, hO.low HB.out.size, hbw⟩
  have HKy := hid key
  clear key
  have hone : ∀ u ∈ [hdV (b, lb, cb)], u.oneCell' = true := by intro u hu; simp at hu; subst hu; rfl
  have HC := hid (olds_at (HT.out.below HB.out))
  clear HT
  cases a with
  | none =>
    obtain ⟨rfl, rfl⟩ := bare rfl
    clear bare
    go_enter Tryz.func28, Tryz.ntmps28
    go_wp2_with (at_builtin; refine wpList_append_grows _ rfl (.tmp 10) (.tmp 12) 26 rfl 25 i0 (.slice none 0 0) 1 24 Tryz.underlying26 hi hz0 hz1 hz2 rfl (by decide) none 0 0 (hs.map hdV) rfl (fun _ => ⟨rfl, rfl⟩) (by rw [List.length_map, HZ.out]) HC.out ⟨w.heap.size, 0, none⟩ 1 1 [hdV (b, lb, cb)] rfl rfl HN.out hone (by omega) (by unfold maxLen; omega) (by omega) ?_; intro v' w3 hO3 hg3; obtain ⟨g, c, rfl, hT3, hb3⟩ := HKy.out v' w3 hO3 hg3)
    have HT3 := hid hT3
    have HB3 := hid hb3
    clear hO3 hg3 hT3 hb3 HKy HC HN HB HZ
    go_wp2
    go_ret
    exact ⟨_, _, rfl, HT3.out, HB3.out⟩
  | some ad =>
    clear bare
    go_enter Tryz.func28, Tryz.ntmps28
    go_wp2_with (at_builtin; refine wpList_append_grows _ rfl (.tmp 10) (.tmp 12) 26 rfl 25 i0 (.slice none 0 0) 1 24 Tryz.underlying26 hi hz0 hz1 hz2 rfl (by decide) (some ad) n n (hs.map hdV) rfl (fun h => by cases h) (by rw [List.length_map, HZ.out, Nat.mul_one]) HC.out ⟨w.heap.size, 0, none⟩ 1 1 [hdV (b, lb, cb)] rfl rfl HN.out hone (by omega) (by unfold maxLen; omega) (by omega) ?_; intro v' w3 hO3 hg3; obtain ⟨g, c, rfl, hT3, hb3⟩ := HKy.out v' w3 hO3 hg3)
    have HT3 := hid hT3
    have HB3 := hid hb3
    clear hO3 hg3 hT3 hb3 HKy HC HN HB HZ
    go_wp2
    go_ret
    exact ⟨_, _, rfl, HT3.out, HB3.out⟩
theorem behind_any (a : Option Addr) (n cap : Nat) (hs : List Hd) (ls : List (List Int)) (b : Option Addr) (lb cb : Nat) (ys : List Int) (w : World) (ht : Tbl w a n cap hs ls) (hl : ls.length = n) (hn : n ≤ 1000) (hr : Reads .i64 w b lb cb ys) (hlb : lb ≤ 1000) :
    Calls Tryz.prog 28 #[.slice a n cap, .slice b lb cb] w fun e w' => ∃ g c, e = .returned (.slice (some ⟨g, 0, none⟩) (n + 1) c) ∧ Tbl w' (some ⟨g, 0, none⟩) (n + 1) c (hs ++ [(b, lb, cb)]) (ls ++ [ys]) ∧ Below w.heap.size w w' :=
  (behind_own a n cap hs b lb cb w ht.rd hn).mono fun e w' ⟨g, c, h1, h2, h3⟩ => ⟨g, c, h1, Tbl.snoc (b := b) (ht.below h3) hl (hr.below h3) hlb h2.rd, h3⟩
end Go.Proofs.YtehmdlipacbpfaaGreat
