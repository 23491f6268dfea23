/-
  The texts KvWant, KvTree, KvW1, KvW2, KvW3, DeCons of this proof.
-/
import Derived.Test.YtjgggialnegddaaGreatPr02
import Derived.Test.YtjgggialnegddaaGreatPr36
import Derived.Test.YtjgggialnegddaaGreatPr06
import Derived.Test.YtjgggialnegddaaGreatPr03
import Derived.Test.YtjgggialnegddaaGreatPr18
import Derived.Deep.QuietTactic
import Derived.BigQuiet
import Derived.Deep.RegionHeld3
set_option linter.unusedVariables false
set_option maxRecDepth 1000000
namespace Go.Proofs.YtjgggialnegddaaGreat
open Go.RowKit
def DocB (W : World) (k : Nat) : Prop := ∃ cur t fz, W.heap[k]? = some (.cells cur t fz) ∧ (t = 73 ∨ t = 106 ∨ t = 22)
end Go.Proofs.YtjgggialnegddaaGreat
namespace Go.Proofs.YtjgggialnegddaaGreat
open Go.RowKit Go.Maps
def Tk (ts : List Int) : Prop := ∀ x ∈ ts, -9223372036854775808 ≤ x ∧ x ≤ 9223372036854775807
theorem Tk.take {ts : List Int} (h : Tk ts) (n : Nat) : Tk (ts.take n) := fun x hx => h x (List.mem_of_mem_take hx)
theorem Tk.drop {ts : List Int} (h : Tk ts) (n : Nat) : Tk (ts.drop n) := fun x hx => h x (List.mem_of_mem_drop hx)
theorem Tk.key {ts : List Int} (h : Tk ts) (hl : ts.length ≤ 16) : ∃ l, kOf (keyV ts) = some l := keyV_key hl h
def ndC (ah : Option Addr) (ch : List Int) (mb : Nat) (st : Option Addr) (pg us : Int) : Array Value :=
 (Value.pointer ah :: ((padL ch).map (Value.int .i64) ++ [.map (some mb), .pointer st, .int .i64 pg, .int .u64 us])).toArray
def NdAt (W : World) (b : Nat) (ah : Option Addr) (ch : List Int) (mb : Nat) (st : Option Addr) (pg us : Int) : Prop := W.heap[b]? = some (.cells (ndC ah ch mb st pg us) 124 (0, 0))
theorem NdAt.cells {W : World} {b : Nat} {ah : Option Addr} {ch : List Int} {mb : Nat} {st : Option Addr} {pg us : Int} (h : NdAt W b ah ch mb st pg us) (hc : ch.length ≤ 16) :
  W.cell? ⟨b, 0, none⟩ = some (.pointer ah) ∧ W.cell? ⟨b, 17, none⟩ = some (.map (some mb)) ∧ W.cell? ⟨b, 18, none⟩ = some (.pointer st) ∧ W.cell? ⟨b, 19, none⟩ = some (.int .i64 pg) ∧ W.cell? ⟨b, 20, none⟩ = some (.int .u64 us) := by
 obtain ⟨p0, p1, p2, p3, p4, p5, p6, p7, p8, p9, p10, p11, p12, p13, p14, p15, hps⟩ := list16 (padL_len hc)
 unfold NdAt ndC at h
 rw [hps] at h
 refine ⟨?_, ?_, ?_, ?_, ?_⟩ <;> (rw [cell_of_row _ _ _ _ _ _ h]; rfl)
theorem NdAt.by {W : World} {b : Nat} {ah : Option Addr} {ch : List Int} {mb : Nat} {st : Option Addr} {pg us : Int} (h : NdAt W b ah ch mb st pg us) {p0 p1 p2 p3 p4 p5 p6 p7 p8 p9 p10 p11 p12 p13 p14 p15 : Int} (hps : padL ch = [p0, p1, p2, p3, p4, p5, p6, p7, p8, p9, p10, p11, p12, p13, p14, p15]) :
  W.cell? ⟨b, 1, none⟩ = some (.int .i64 p0) ∧ W.cell? ⟨b, 2, none⟩ = some (.int .i64 p1) ∧ W.cell? ⟨b, 3, none⟩ = some (.int .i64 p2) ∧ W.cell? ⟨b, 4, none⟩ = some (.int .i64 p3) ∧ W.cell? ⟨b, 5, none⟩ = some (.int .i64 p4) ∧ W.cell? ⟨b, 6, none⟩ = some (.int .i64 p5) ∧ W.cell? ⟨b, 7, none⟩ = some (.int .i64 p6) ∧ W.cell? ⟨b, 8, none⟩ = some (.int .i64 p7) ∧ W.cell? ⟨b, 9, none⟩ = some (.int .i64 p8) ∧ W.cell? ⟨b, 10, none⟩ = some (.int .i64 p9) ∧ W.cell? ⟨b, 11, none⟩ = some (.int .i64 p10) ∧ W.cell? ⟨b, 12, none⟩ = some (.int .i64 p11) ∧ W.cell? ⟨b, 13, none⟩ = some (.int .i64 p12) ∧ W.cell? ⟨b, 14, none⟩ = some (.int .i64 p13) ∧ W.cell? ⟨b, 15, none⟩ = some (.int .i64 p14) ∧ W.cell? ⟨b, 16, none⟩ = some (.int .i64 p15) := by
 unfold NdAt ndC at h
 rw [hps] at h
 refine ⟨?_, ?_, ?_, ?_, ?_, ?_, ?_, ?_, ?_, ?_, ?_, ?_, ?_, ?_, ?_, ?_⟩ <;> (rw [cell_of_row _ _ _ _ _ _ h]; rfl)
theorem NdAt.set {W : World} {b : Nat} {ah : Option Addr} {ch : List Int} {mb : Nat} {st : Option Addr} {pg us : Int} (h : NdAt W b ah ch mb st pg us) (hc : ch.length ≤ 16) (u : Int) : NdAt (W.setCell ⟨b, 20, none⟩ (.int .u64 u)) b ah ch mb st pg u := by
 obtain ⟨p0, p1, p2, p3, p4, p5, p6, p7, p8, p9, p10, p11, p12, p13, p14, p15, hps⟩ := list16 (padL_len hc)
 unfold NdAt ndC at h ⊢
 rw [hps] at h ⊢
 have := row_set (k := 20) (u := .int .u64 u) h
 simpa using this
theorem NdAt.frozen {W : World} {b : Nat} {ah : Option Addr} {ch : List Int} {mb : Nat} {st : Option Addr} {pg us : Int} (h : NdAt W b ah ch mb st pg us) (k : Nat) : W.frozen? ⟨b, k, none⟩ = false := frozen_of_row _ _ k _ _ h
def InT (T : List (List Int)) (x : List Int) : Prop := x = [] ∨ x ∈ T
noncomputable def chF (T : List (List Int)) (nd : List Int → Nat) (sz : Nat) (x : List Int) (v : Value) : Option Nat :=
 open Classical in if h : ∃ ch : List Int, ch.length = sz ∧ v = keyV ch ∧ x ++ ch ∈ T then some (nd (x ++ h.choose)) else none
theorem chF_iff {T : List (List Int)} {nd : List Int → Nat} {sz : Nat} {x : List Int} {v : Value} {b : Nat} : chF T nd sz x v = some b ↔ ∃ ch : List Int, ch.length = sz ∧ v = keyV ch ∧ x ++ ch ∈ T ∧ nd (x ++ ch) = b := by
 unfold chF
 constructor
 ·intro h
  split at h
  ·rename_i hex
   cases h
   exact ⟨_, hex.choose_spec.1, hex.choose_spec.2.1, hex.choose_spec.2.2, rfl⟩
  ·cases h
 ·rintro ⟨ch, h1, h2, h3, h4⟩
  have hex : ∃ ch : List Int, ch.length = sz ∧ v = keyV ch ∧ x ++ ch ∈ T := ⟨ch, h1, h2, h3⟩
  rw [dif_pos hex]
  have hs := hex.choose_spec
  rw [keyV_inj (by rw [h1, hs.1]) (hs.2.1.symm.trans h2), h4]
theorem chF_yes {T : List (List Int)} {nd : List Int → Nat} {sz : Nat} {x ch : List Int} (hc : ch.length = sz) (h : x ++ ch ∈ T) : chF T nd sz x (keyV ch) = some (nd (x ++ ch)) := chF_iff.2 ⟨ch, hc, rfl, h, rfl⟩
theorem chF_no {T : List (List Int)} {nd : List Int → Nat} {sz : Nat} {x ch : List Int} (hc : ch.length = sz) (h : x ++ ch ∉ T) : chF T nd sz x (keyV ch) = none := by
 cases hf : chF T nd sz x (keyV ch) with
 | none => rfl
 | some b =>
  obtain ⟨ch', h1, h2, h3, _⟩ := chF_iff.1 hf
  rw [keyV_inj (by rw [hc, h1]) h2] at h
  exact absurd h3 h
theorem chF_ext {T T' : List (List Int)} {nd nd' : List Int → Nat} {sz : Nat} {x : List Int} {v : Value} (h : ∀ ch : List Int, ch.length = sz → v = keyV ch → (x ++ ch ∈ T ↔ x ++ ch ∈ T') ∧ (x ++ ch ∈ T → nd (x ++ ch) = nd' (x ++ ch))) : chF T nd sz x v = chF T' nd' sz x v := by
 apply Option.ext
 intro b
 show chF T nd sz x v = some b ↔ chF T' nd' sz x v = some b
 rw [chF_iff, chF_iff]
 constructor
 ·rintro ⟨ch, h1, h2, h3, h4⟩
  obtain ⟨k1, k2⟩ := h ch h1 h2
  exact ⟨ch, h1, h2, k1.1 h3, (k2 h3).symm.trans h4⟩
 ·rintro ⟨ch, h1, h2, h3, h4⟩
  obtain ⟨k1, k2⟩ := h ch h1 h2
  exact ⟨ch, h1, h2, k1.2 h3, (k2 (k1.2 h3)).trans h4⟩
theorem chF_none {T : List (List Int)} {nd : List Int → Nat} {sz : Nat} {x : List Int} (h : ∀ ch : List Int, ch.length = sz → x ++ ch ∉ T) (v : Value) : chF T nd sz x v = none := by
 cases hf : chF T nd sz x v with
 | none => rfl
 | some b =>
  obtain ⟨ch, h1, _, h3, _⟩ := chF_iff.1 hf
  exact absurd h3 (h ch h1)
def ahP (nd : List Int → Nat) (sz : Nat) (x : List Int) : Option Addr := if x = [] then none else some ⟨nd (x.take (x.length - sz)), 0, none⟩
def byL (sz : Nat) (x : List Int) : List Int := x.drop (x.length - sz)
theorem byL_len (sz : Nat) (x : List Int) : (byL sz x).length ≤ sz := by unfold byL; rw [List.length_drop]; omega
theorem byL_app {sz : Nat} {x ch : List Int} (h : ch.length = sz) : byL sz (x ++ ch) = ch := by
 unfold byL
 rw [List.length_append, h, Nat.add_sub_cancel, List.drop_left]
theorem ahP_app {nd : List Int → Nat} {sz : Nat} {x ch : List Int} (h : ch.length = sz) (hz : 1 ≤ sz) : ahP nd sz (x ++ ch) = some ⟨nd x, 0, none⟩ := by
 unfold ahP
 rw [if_neg (fun e => by have := congrArg List.length e; rw [List.length_append, h, List.length_nil] at this; omega), List.length_append, h, Nat.add_sub_cancel, List.take_left]
structure TrAt (W : World) (sz mx : Nat) (T : List (List Int)) (nd mp : List Int → Nat) (st : List Int → Option Addr) (pgs us : List Int → Int) : Prop where
 node : ∀ x, InT T x → NdAt W (nd x) (ahP nd sz x) (byL sz x) (mp x) (st x) (pgs x) (us x)
 map : ∀ x, InT T x → MvAt W (mp x) mx (chF T nd sz x)
 ndi : ∀ x y, InT T x → InT T y → nd x = nd y → x = y
 mpi : ∀ x y, InT T x → InT T y → mp x = mp y → x = y
theorem TrAt.same {W W' : World} {sz mx : Nat} {T : List (List Int)} {nd mp : List Int → Nat} {st : List Int → Option Addr} {pgs us : List Int → Int} (h : TrAt W sz mx T nd mp st pgs us) (hk : ∀ x, InT T x → W'.heap[nd x]? = W.heap[nd x]? ∧ W'.heap[mp x]? = W.heap[mp x]?) : TrAt W' sz mx T nd mp st pgs us :=
 ⟨fun x hx => (hk x hx).1.trans (h.node x hx), fun x hx => (h.map x hx).same (hk x hx).2, h.ndi, h.mpi⟩
structure Lay where
 Fp : Nat → Prop
 hs : List Int
 vs : List Value
 mx : Nat
 nd : List Int → Nat
 mp : List Int → Nat
 st : List Int → Option Addr
 ta : List Int → Option Addr
 pgs : List Int → Int
 us : List Int → Int
structure KvB (W : World) (B bb r : Nat) (pp : Option Addr) (L : Lay) (c : Cf) (pg sz : Nat) (tm : Int) (T : List (List Int)) : Prop where
 var : W.heap[B]? = some (.cells #[.int .i64 sz, .pointer pp, .pointer (some ⟨r, 0, none⟩), .slice (some ⟨bb, 0, none⟩) pg pg, .int .u64 tm] 116 (0, 0))
 root : L.nd [] = r
 pool : PgAt W pp L.hs L.Fp
 hsl : L.hs.length = pg
 held : ∀ k : Nat, k < pg → (L.hs[k]?.getD 0 = 0 ∧ ∀ x ∈ T, L.pgs x ≠ k) ∨ (L.hs[k]?.getD 0 = 1 ∧ ∃ x ∈ T, L.pgs x = k)
 pgb : ∀ x ∈ T, 0 ≤ L.pgs x ∧ L.pgs x < pg
 pgi : ∀ x ∈ T, ∀ y ∈ T, L.pgs x = L.pgs y → x = y
 row : W.ownsRow 0 113 1 (.slice (some ⟨bb, 0, none⟩) pg pg) pg L.vs
 at' : ∀ x ∈ T, L.vs[(L.pgs x).toNat]? = some (.pointer (some ⟨L.nd x, 0, none⟩))
 tree : TrAt W sz L.mx T L.nd L.mp L.st L.pgs L.us
 sts : ∀ x ∈ T, StT W (L.st x) c x (L.ta x) ∧ ∀ k, mF (L.ta x) k → ¬ L.Fp k
 tok : ∀ x ∈ T, Tk x
def ftB (B bb : Nat) (L : Lay) (T : List (List Int)) (k : Nat) : Prop := k = B ∨ k = bb ∨ L.Fp k ∨ ∃ x, InT T x ∧ (k = L.nd x ∨ k = L.mp x)
theorem PgAt.kind {W : World} {p : Option Addr} {hs : List Int} {F : Nat → Prop} (h : PgAt W p hs F) {k : Nat} (hk : F k) : ∃ cur t fz, W.heap[k]? = some (.cells cur t fz) ∧ (t = 156 ∨ t = 3) := by
 obtain ⟨B, b, g, n, fs, rfl, hB, rfl⟩ := h.rest
 rcases hk with rfl | rfl | rfl
 ·exact ⟨_, _, _, hB.var, .inl rfl⟩
 ·obtain ⟨cur, hc⟩ := own_type hB.own (o := k) rfl
  exact ⟨_, _, _, hc, .inr rfl⟩
 ·obtain ⟨cur, hc⟩ := own_type hB.row (o := k) rfl
  exact ⟨_, _, _, hc, .inr rfl⟩
theorem MvAt.blk {W : World} {B n : Nat} {f : Value → Option Nat} (h : MvAt W B n f) : ∃ es clock, W.heap[B]? = some (.map es clock) := by
 obtain ⟨D, ⟨es, clock, h1, h2⟩, h3⟩ := h
 exact ⟨es, clock, h1⟩
section
variable {W W' : World} {B bb r : Nat} {pp : Option Addr} {L : Lay} {c : Cf} {pg sz : Nat} {tm : Int} {T : List (List Int)}
theorem KvB.rowb (h : KvB W B bb r pp L c pg sz tm T) : ∃ cur, W.heap[bb]? = some (.cells cur 113 (0, 0)) := own_type h.row (o := bb) rfl
theorem KvB.kind (h : KvB W B bb r pp L c pg sz tm T) {k : Nat} (hk : ftB B bb L T k) :
  (∃ cur t fz, W.heap[k]? = some (.cells cur t fz) ∧ (t = 116 ∨ t = 113 ∨ t = 156 ∨ t = 3 ∨ t = 124)) ∨ ∃ es clock, W.heap[k]? = some (.map es clock) := by
 rcases hk with rfl | rfl | hk | ⟨x, hx, rfl | rfl⟩
 ·exact .inl ⟨_, _, _, h.var, .inl rfl⟩
 ·obtain ⟨cur, hc⟩ := h.rowb
  exact .inl ⟨_, _, _, hc, .inr (.inl rfl)⟩
 ·obtain ⟨cur, t, fz, h1, h2⟩ := h.pool.kind hk
  rcases h2 with h2 | h2
  ·exact .inl ⟨_, _, _, h1, .inr (.inr (.inl h2))⟩
  ·exact .inl ⟨_, _, _, h1, .inr (.inr (.inr (.inl h2)))⟩
 ·exact .inl ⟨_, _, _, h.tree.node x hx, .inr (.inr (.inr (.inr rfl)))⟩
 ·exact .inr (h.tree.map x hx).blk
theorem KvB.old (h : KvB W B bb r pp L c pg sz tm T) (k : Nat) (hk : ftB B bb L T k) : k < W.heap.size := by
 rcases h.kind hk with ⟨cur, t, fz, h1, _⟩ | ⟨es, cl, h1⟩ <;> exact lt_of_block h1
theorem KvB.ints (h : KvB W B bb r pp L c pg sz tm T) {k : Nat} {cur : Array Value} {fz : Nat × Nat} (hk : ftB B bb L T k) (hc : W.heap[k]? = some (.cells cur 3 fz)) : L.Fp k := by
 rcases hk with rfl | rfl | hk | ⟨x, hx, rfl | rfl⟩
 ·rw [h.var] at hc; simp at hc
 ·obtain ⟨cur', hc'⟩ := h.rowb
  rw [hc'] at hc; simp at hc
 ·exact hk
 ·rw [show W.heap[L.nd x]? = _ from h.tree.node x hx] at hc; simp at hc
 ·obtain ⟨es, cl, hm⟩ := (h.tree.map x hx).blk
  rw [hm] at hc; simp at hc
theorem KvB.ndFp (h : KvB W B bb r pp L c pg sz tm T) {x : List Int} (hx : InT T x) : ¬ L.Fp (L.nd x) := fun hk => by
 obtain ⟨cur, t, fz, h1, h2⟩ := h.pool.kind hk
 rw [show W.heap[L.nd x]? = _ from h.tree.node x hx] at h1
 simp at h1
 rcases h2 with h2 | h2 <;> (rw [h2] at h1; simp at h1)
theorem KvB.mpFp (h : KvB W B bb r pp L c pg sz tm T) {x : List Int} (hx : InT T x) : ¬ L.Fp (L.mp x) := fun hk => by
 obtain ⟨cur, t, fz, h1, h2⟩ := h.pool.kind hk
 obtain ⟨es, cl, hm⟩ := (h.tree.map x hx).blk
 rw [hm] at h1
 simp at h1
theorem KvB.ndmp (h : KvB W B bb r pp L c pg sz tm T) {x y : List Int} (hx : InT T x) (hy : InT T y) : L.nd x ≠ L.mp y := fun e => by
 obtain ⟨es, cl, hm⟩ := (h.tree.map y hy).blk
 rw [← e, show W.heap[L.nd x]? = _ from h.tree.node x hx] at hm
 simp at hm
theorem KvB.Bnd (h : KvB W B bb r pp L c pg sz tm T) {x : List Int} (hx : InT T x) : L.nd x ≠ B := fun e => by
 have := h.tree.node x hx
 unfold NdAt at this
 rw [e, h.var] at this
 simp at this
theorem KvB.Bmp (h : KvB W B bb r pp L c pg sz tm T) {x : List Int} (hx : InT T x) : L.mp x ≠ B := fun e => by
 obtain ⟨es, cl, hm⟩ := (h.tree.map x hx).blk
 rw [e, h.var] at hm
 simp at hm
theorem KvB.BFp (h : KvB W B bb r pp L c pg sz tm T) : ¬ L.Fp B := fun hk => by
 obtain ⟨cur, t, fz, h1, h2⟩ := h.pool.kind hk
 rw [h.var] at h1
 simp at h1
 rcases h2 with h2 | h2 <;> (rw [h2] at h1; simp at h1)
theorem KvB.bbB (h : KvB W B bb r pp L c pg sz tm T) : bb ≠ B := fun e => by
 obtain ⟨cur, hc⟩ := h.rowb
 rw [e, h.var] at hc
 simp at hc
theorem KvB.bbFp (h : KvB W B bb r pp L c pg sz tm T) : ¬ L.Fp bb := fun hk => by
 obtain ⟨cur, t, fz, h1, h2⟩ := h.pool.kind hk
 obtain ⟨cur', hc⟩ := h.rowb
 rw [hc] at h1
 simp at h1
 rcases h2 with h2 | h2 <;> (rw [h2] at h1; simp at h1)
theorem KvB.bbnd (h : KvB W B bb r pp L c pg sz tm T) {x : List Int} (hx : InT T x) : L.nd x ≠ bb := fun e => by
 obtain ⟨cur, hc⟩ := h.rowb
 rw [← e, show W.heap[L.nd x]? = _ from h.tree.node x hx] at hc
 simp at hc
theorem KvB.bbmp (h : KvB W B bb r pp L c pg sz tm T) {x : List Int} (hx : InT T x) : L.mp x ≠ bb := fun e => by
 obtain ⟨cur, hc⟩ := h.rowb
 obtain ⟨es, cl, hm⟩ := (h.tree.map x hx).blk
 rw [← e, hm] at hc
 simp at hc
theorem KvB.kpl (h : KvB W B bb r pp L c pg sz tm T) {G : Nat → Prop} (hb : Fb G W W') (hG : ∀ k, G k → ftB B bb L T k ∨ W.heap.size ≤ k) : KpL W W' := by
 refine KpL.fb hb fun k cur t fz hk hc ht => ?_
 rcases hG k hk with hk | hk
 ·rcases h.kind hk with ⟨cur', t', fz', h1, h2⟩ | ⟨es, cl, h1⟩
  ·rw [hc] at h1
   simp at h1
   obtain ⟨_, rfl, _⟩ := h1
   rcases h2 with h2 | h2 | h2 | h2 | h2 <;> (rw [h2] at ht; simp at ht)
  ·rw [hc] at h1
   simp at h1
 ·have := lt_of_block hc
  omega
theorem KvB.taft (h : KvB W B bb r pp L c pg sz tm T) {q : Option Addr} {ts : List Int} {ta : Option Addr} (hs : StT W q c ts ta) (hF : ∀ k, mF ta k → ¬ L.Fp k) {k : Nat} (hk : mF ta k) : ¬ ftB B bb L T k := fun hf => by
 obtain ⟨g, pm, tc, ha, hc, pq, h1, h2, h3, h4⟩ := hs
 obtain ⟨a, rfl, rfl⟩ := hk
 obtain ⟨cur, fz, hcur⟩ := h3 a rfl
 exact hF _ ⟨a, rfl, rfl⟩ (h.ints hf hcur)
theorem StT.fbF (h : KvB W B bb r pp L c pg sz tm T) {G : Nat → Prop} (hb : Fb G W W') (hG : ∀ k, G k → ftB B bb L T k ∨ W.heap.size ≤ k) {q : Option Addr} {ts : List Int} {ta : Option Addr} (hs : StT W q c ts ta) (hF : ∀ k, mF ta k → ¬ L.Fp k) : StT W' q c ts ta := by
 refine hs.keep (h.kpl hb hG) fun k hk => ?_
 have hlt : k < W.heap.size := by
  obtain ⟨g, pm, tc, ha, hc, pq, h1, h2, h3, h4⟩ := id hs
  obtain ⟨a, rfl, rfl⟩ := hk
  obtain ⟨cur, fz, hcur⟩ := h3 a rfl
  exact lt_of_block hcur
 exact hb.block k hlt fun hg => by
  rcases hG k hg with h' | h'
  ·exact h.taft hs hF hk h'
  ·omega
theorem KvB.fb {G : Nat → Prop} (h : KvB W B bb r pp L c pg sz tm T) (hb : Fb G W W') (hG : ∀ k, ftB B bb L T k → ¬ G k) (hk : KpL W W') (hi : ∀ k cur fz, G k → ¬ W.heap[k]? = some (.cells cur 3 fz)) : KvB W' B bb r pp L c pg sz tm T := by
 have hone : ∀ k, ftB B bb L T k → W'.heap[k]? = W.heap[k]? := fun k hk => hb.block k (h.old k hk) (hG k hk)
 refine ⟨(hone B (.inl rfl)).trans h.var, h.root, h.pool.fb hb fun k hk => hG k (.inr (.inr (.inl hk))), h.hsl, h.held, h.pgb, h.pgi, own_blk h.row fun b hb' => ?_, h.at', h.tree.same fun x hx => ⟨hone _ (.inr (.inr (.inr ⟨x, hx, .inl rfl⟩))), hone _ (.inr (.inr (.inr ⟨x, hx, .inr rfl⟩)))⟩, fun x hx => ⟨?_, (h.sts x hx).2⟩, h.tok⟩
 ·cases hb'
  exact hone bb (.inr (.inl rfl))
 ·have hs := (h.sts x hx).1
  refine hs.keep hk fun k hk => ?_
  obtain ⟨g, pm, tc, ha, hc, pq, h1, h2, h3, h4⟩ := id hs
  obtain ⟨a, e, rfl⟩ := hk
  obtain ⟨cur, fz, hcur⟩ := h3 a e
  exact hb.block _ (lt_of_block hcur) fun hg => hi _ _ _ hg hcur
theorem KvB.below (h : KvB W B bb r pp L c pg sz tm T) (hb : Below W.heap.size W W') : KvB W' B bb r pp L c pg sz tm T :=
 h.fb (G := fun _ => False) (Fb.of hb) (fun _ _ hk => hk) (KpL.of hb) (fun _ _ _ hk => hk.elim)
theorem KvB.cells (h : KvB W B bb r pp L c pg sz tm T) : W.cell? ⟨B, 0, none⟩ = some (.int .i64 sz) ∧ W.cell? ⟨B, 1, none⟩ = some (.pointer pp) ∧ W.cell? ⟨B, 2, none⟩ = some (.pointer (some ⟨r, 0, none⟩)) ∧ W.cell? ⟨B, 3, none⟩ = some (.slice (some ⟨bb, 0, none⟩) pg pg) ∧ W.cell? ⟨B, 4, none⟩ = some (.int .u64 tm) := by
 refine ⟨?_, ?_, ?_, ?_, ?_⟩ <;> (rw [cell_of_row _ _ _ _ _ _ h.var]; rfl)
theorem KvB.ncells (h : KvB W B bb r pp L c pg sz tm T) (hz : sz ≤ 16) {x : List Int} (hx : InT T x) :
  W.cell? ⟨L.nd x, 0, none⟩ = some (.pointer (ahP L.nd sz x)) ∧ W.cell? ⟨L.nd x, 17, none⟩ = some (.map (some (L.mp x))) ∧ W.cell? ⟨L.nd x, 18, none⟩ = some (.pointer (L.st x)) ∧ W.cell? ⟨L.nd x, 19, none⟩ = some (.int .i64 (L.pgs x)) ∧ W.cell? ⟨L.nd x, 20, none⟩ = some (.int .u64 (L.us x)) :=
 (h.tree.node x hx).cells (Nat.le_trans (byL_len _ _) hz)
theorem KvB.tick (h : KvB W B bb r pp L c pg sz tm T) (u : Int) : KvB (W.setCell ⟨B, 4, none⟩ (.int .u64 u)) B bb r pp L c pg sz u T := by
 have hb : Fb (at1 B) W (W.setCell ⟨B, 4, none⟩ (.int .u64 u)) := Fb.set (by exact rfl) _
 have hG : ∀ k, at1 B k → ftB B bb L T k ∨ W.heap.size ≤ k := fun k hk => .inl (.inl hk)
 refine ⟨?_, h.root, h.pool.fb hb fun k hk e => ?_, h.hsl, h.held, h.pgb, h.pgi, own_blk h.row fun b hb' => ?_, h.at', h.tree.same fun x hx => ⟨?_, ?_⟩, fun x hx => ⟨StT.fbF h hb hG (h.sts x hx).1 (h.sts x hx).2, (h.sts x hx).2⟩, h.tok⟩
 ·have := row_set (k := 4) (u := .int .u64 u) h.var
  simpa using this
 ·have e' : k = B := e
  rw [e'] at hk
  exact h.BFp hk
 ·cases hb'
  obtain ⟨cur, hc⟩ := h.rowb
  exact hb.block _ (lt_of_block hc) fun e => h.bbB e
 ·exact hb.block _ (lt_of_block (h.tree.node x hx)) fun e => h.Bnd hx e
 ·exact hb.block _ (h.tree.map x hx).lt fun e => h.Bmp hx e
theorem KvB.use (h : KvB W B bb r pp L c pg sz tm T) (hz : sz ≤ 16) {x : List Int} (hx : InT T x) (u : Int) : KvB (W.setCell ⟨L.nd x, 20, none⟩ (.int .u64 u)) B bb r pp { L with us := fun y => if y = x then u else L.us y } c pg sz tm T := by
 have hb : Fb (at1 (L.nd x)) W (W.setCell ⟨L.nd x, 20, none⟩ (.int .u64 u)) := Fb.set (by exact rfl) _
 have hG : ∀ k, at1 (L.nd x) k → ftB B bb L T k ∨ W.heap.size ≤ k := fun k hk => .inl (.inr (.inr (.inr ⟨x, hx, .inl hk⟩)))
 refine ⟨hb.one h.var fun e => h.Bnd hx (Eq.symm e), h.root, h.pool.fb hb fun k hk e => ?_, h.hsl, h.held, h.pgb, h.pgi, own_blk h.row fun b hb' => ?_, h.at', ⟨fun y hy => ?_, fun y hy => ?_, h.tree.ndi, h.tree.mpi⟩, fun y hy => ⟨StT.fbF h hb hG (h.sts y hy).1 (h.sts y hy).2, (h.sts y hy).2⟩, h.tok⟩
 ·have e' : k = L.nd x := e
  rw [e'] at hk
  exact h.ndFp hx hk
 ·cases hb'
  obtain ⟨cur, hc⟩ := h.rowb
  exact hb.block _ (lt_of_block hc) fun e => h.bbnd hx (Eq.symm e)
 ·by_cases e : y = x
  ·subst e
   simp only [if_true]
   exact (h.tree.node y hy).set (Nat.le_trans (byL_len _ _) hz) u
  ·simp only [if_neg e]
   exact hb.one (h.tree.node y hy) fun e2 => e (h.tree.ndi y x hy hx e2)
 ·exact (h.tree.map y hy).same (hb.block _ (h.tree.map y hy).lt fun e => h.ndmp hx hy (Eq.symm e))
end
end Go.Proofs.YtjgggialnegddaaGreat
namespace Go.Proofs.YtjgggialnegddaaGreat
open Go.RowKit Go.Maps
section
variable {B bb r : Nat} {pp : Option Addr} {L : Lay} {c : Cf} {pg sz : Nat} {tm : Int} {T : List (List Int)}
theorem kmade_yes {W : World} (h : KvB W B bb r pp L c pg sz tm T) : Calls Tryz.prog 60 #[.pointer (some ⟨B, 0, none⟩)] W fun e w' => e = .returned (.bool true) ∧ W = w' := by
 obtain ⟨g, rfl⟩ := h.pool.ptr
 have c1 := h.cells.2.1
 clear h
 go_enter Tryz.func60, Tryz.ntmps60
 go_wp2
 go_ret
 exact ⟨rfl, rfl⟩
noncomputable def lfB (T : List (List Int)) (sz : Nat) (x : List Int) : Bool := open Classical in decide (∀ ch : List Int, ch.length = sz → x ++ ch ∉ T)
theorem lfB_iff {T : List (List Int)} {sz : Nat} {x : List Int} : lfB T sz x = true ↔ ∀ ch : List Int, ch.length = sz → x ++ ch ∉ T := by unfold lfB; simp
theorem kleaf_any {W : World} (h : KvB W B bb r pp L c pg sz tm T) (hz : sz ≤ 16) {x : List Int} (hx : InT T x) : Calls Tryz.prog 156 #[.pointer (some ⟨L.nd x, 0, none⟩)] W fun e w' => e = .returned (.bool (lfB T sz x)) ∧ W = w' := by
 obtain ⟨s, hs, h1, h2⟩ := (h.tree.map x hx).len 3
 have hb : lfB T sz x = decide (s = 0) := by
  rw [Bool.eq_iff_iff, lfB_iff, decide_eq_true_iff, h2]
  constructor
  ·intro hn v l hv
   exact chF_none hn v
  ·intro hn ch hc hm
   have ht : Tk ch := fun y hy => h.tok _ hm y (List.mem_append_right _ hy)
   obtain ⟨l, hl⟩ := ht.key (by omega)
   have := hn _ l hl
   rw [chF_yes hc hm] at this
   cases this
 rw [hb]
 have c17 := (h.ncells hz hx).2.1
 clear h hb h1 h2
 go_enter Tryz.func156, Tryz.ntmps156
 go_wp2
 go_ret
 refine ⟨?_, rfl⟩
 congr 2
 by_cases h0 : s = 0
 ·subst h0; rfl
 ·rw [decide_eq_false h0]
  simp
  omega
def ptL (nd : List Int → Nat) (sz : Nat) (ts : List Int) (j : Nat) : List Value := (List.range j).map fun i => .pointer (some ⟨nd (ts.take ((i + 1) * sz)), 0, none⟩)
theorem ptL_snoc (nd : List Int → Nat) (sz : Nat) (ts : List Int) (j : Nat) : ptL nd sz ts j ++ [.pointer (some ⟨nd (ts.take ((j + 1) * sz)), 0, none⟩)] = ptL nd sz ts (j + 1) := by unfold ptL; rw [List.range_succ, List.map_append]; rfl
theorem ptL_at (nd : List Int → Nat) (sz : Nat) (ts : List Int) {i j : Nat} (h : i < j) : (ptL nd sz ts j)[i]? = some (.pointer (some ⟨nd (ts.take ((i + 1) * sz)), 0, none⟩)) := by unfold ptL; simp [h]
theorem Tryz.infoPe : (Tryz.prog.info? 113).map (fun i => (i.zero, i.size, i.bytes)) = some (some (.pointer none), 1, 8) := by kernel_rfl
theorem append_ptr (w : World) {ops : Array Oper} {rest : List Oper} {o : Oper} {a : Act} {Q : Exit → Act → World → Prop} (hgd : o.guard = none) (s x : Operand)
  (ho : o.op = .call { callee := .builtin .append, args := #[s, x], argTypes := #[114, 114] })
  (lo : Nat) (v : Value) (n : Nat) (vs : List Value) (hv : a.eval s = v) (h : w.ownsRow lo 113 1 v n vs) (hlo : lo ≤ w.heap.size) (hn : n ≤ 1000)
  (B : Nat) (q : Option Addr) (hx : a.eval x = .slice (some ⟨B, 0, none⟩) 1 1) (hc : w.cell? ⟨B, 0, none⟩ = some (.pointer q))
  (hk : ∀ (v' : Value) (w' : World), w'.ownsRow lo 113 1 v' (n + 1) (vs ++ [.pointer q]) → Below lo w w' → wpList Tryz.prog ops Q rest (a.put o.dst v') w') : wpList Tryz.prog ops Q (o :: rest) a w := by
 obtain ⟨i, hi, hz0, hz1, hz2⟩ := info_parts Tryz.infoPe
 refine wpList_append_own w hgd s x 114 ho lo 113 i (.pointer none) 1 8 Tryz.underlying114 hi hz0 hz1 hz2 rfl (by decide) v n _ hv h ⟨B, 0, none⟩ 1 1 [.pointer q] hx rfl ?_ ?_ (by unfold maxLen; omega) (by omega) hlo ?_
 ·intro j u hu
  match j, hu with
  | 0, hu => simp at hu; subst hu; exact hc
  | j + 1, hu => simp at hu
 ·intro u hu
  simp at hu
  subst hu
  rfl
 ·intro v' w' hO hg _
  exact hk v' w' hO ((Below.refl _ _).grown hg hlo fun g hg => (h.lt g hg).1)
theorem Reads.part {W : World} {b off n cap : Nat} {ts : List Int} (h : Reads .i64 W (some ⟨b, off, none⟩) n cap ts) {p m : Nat} (hm : p + m ≤ n) (h0 : 0 < m) : Reads .i64 W (some ⟨b, off + p, none⟩) m (cap - p) ((ts.drop p).take m) := (h.tail (by omega)).cut (by omega)
structure Far (T : List (List Int)) (sz : Nat) (ts : List Int) (J : Nat) : Prop where
 le : J * sz ≤ ts.length
 iff : ∀ i, 1 ≤ i → i * sz ≤ ts.length → (ts.take (i * sz) ∈ T ↔ i ≤ J)
theorem Far.take {T : List (List Int)} {sz : Nat} {ts : List Int} {J : Nat} (h : Far T sz ts J) {i : Nat} (h0 : 1 ≤ i) (h1 : i ≤ J) : ts.take (i * sz) ∈ T := (h.iff i h0 (Nat.le_trans (Nat.mul_le_mul_right _ h1) h.le)).2 h1
theorem Far.inT {T : List (List Int)} {sz : Nat} {ts : List Int} {J : Nat} (h : Far T sz ts J) {i : Nat} (h1 : i ≤ J) : InT T (ts.take (i * sz)) := by
 rcases Nat.eq_zero_or_pos i with rfl | h0
 ·left; simp
 ·exact .inr (h.take h0 h1)
set_option maxHeartbeats 4000000 in
theorem kpath_any {w : World} (h : KvB w B bb r pp L c pg sz tm T) (hz : 1 ≤ sz ∧ sz ≤ 16) (a : Option Addr) (nt cap : Nat) (ts : List Int) (hr : Reads .i64 w a nt cap ts) (hk : Tk ts) (hn : nt ≤ 256) {J : Nat} (hJ : Far T sz ts J) :
  Calls Tryz.prog 110 #[.pointer (some ⟨B, 0, none⟩), .slice a nt cap] w fun e w' => ∃ v, e = .returned v ∧ w'.ownsRow w.heap.size 113 1 v J (ptL L.nd sz ts J) ∧ Below w.heap.size w w' := by
 have hzt := hr.size
 have r1 := hr.room
 have m1 := hr.most
 have hJ1 := hJ.le
 rw [hzt] at hJ1
 obtain ⟨c0, c1, c2, c3, c4⟩ := h.cells
 have hJ2 : J ≤ 256 := Nat.le_trans (Nat.le_trans (Nat.le_mul_of_pos_right _ (by omega)) hJ1) hn
 have HKv := hid fun (W : World) (hb : Below w.heap.size w W) => h.below hb
 have HR := hid fun (W : World) (hb : Below w.heap.size w W) => hr.below hb
 have HJ := hid hJ
 have HTk := hid hk
 have HZt := hid hzt
 have hroot := h.root
 have HRt := hid hroot
 clear h hr hJ hk hroot hzt
 go_enter Tryz.func110, Tryz.ntmps110
 go_wp2_with fail
 go_loopw [5, 6, 7] (fun v x y W => ∃ (j p q : Nat), Hid (p = j * sz) ∧ Hid (q = p + sz) ∧ j ≤ J ∧ p ≤ nt ∧ x = .pointer (some ⟨L.nd (ts.take p), 0, none⟩) ∧ y = .int .i64 q ∧ Hid (W.ownsRow w.heap.size 113 1 v j (ptL L.nd sz ts j)) ∧ Hid (Below w.heap.size w W)) (fun _ _ y _ => nt + 17 - (intOf y).toNat)
 case atStart => exact ⟨0, 0, sz, by unfold Hid; omega, by unfold Hid; omega, by omega, by omega, by rw [List.take_zero, HRt.out], rfl, World.ownsRow_nil _ _ _ _, Below.refl _ _⟩
 case round =>
 obtain ⟨j, p, q, HP, HQ, hj, hp, rfl, rfl, HO, HV⟩ := hrel
 rename World => wr
 clear c0 c1 c2 c3 c4
 have hqb : q ≤ nt + 16 := by have := HQ.out; omega
 by_cases hle : q ≤ nt
 ·have q1 : (q : Int) ≤ (nt : Int) := by omega
  obtain ⟨b, off, rfl, _⟩ := (HR.out w (Below.refl _ _)).cell 0 (by have := HQ.out; omega)
  have hpq : p + sz = q := HQ.out.symm
  have hsub : IntKind.i64.wrap ((q : Int) - (sz : Int)) = (p : Int) := by rw [wrap64_in (by omega) (by omega)]; omega
  have s1 : (0 : Int) ≤ (p : Int) := by omega
  have s2 : (p : Int) ≤ (q : Int) := by omega
  have s3 : (q : Int) ≤ (cap : Int) := by omega
  have hcp : ¬ cap = p := by omega
  have hp3 : q - p = sz := by omega
  have hcl : (chunk sz j ts).length = sz := chunk_len (by rw [HZt.out, Nat.succ_mul, ← HP.out]; omega)
  have hch : (ts.drop p).take sz = chunk sz j ts := by unfold chunk; rw [HP.out]
  have htc : ts.take p ++ chunk sz j ts = ts.take q := by rw [HP.out, take_chunk, ← hpq, HP.out, Nat.succ_mul]
  have hIn : InT T (ts.take p) := by rw [HP.out]; exact HJ.out.inT hj
  obtain ⟨l, hl⟩ : ∃ l, kOf (keyV (chunk sz j ts)) = some l := Tk.key (by rw [← hch]; exact (HTk.out.drop _).take _) (by omega)
  have HKey := hid fun (W : World) (hb : Below w.heap.size w W) => by
   have := kkey_any (some ⟨b, off + p, none⟩) sz (cap - p) _ W ((HR.out W hb).part (by omega) (by omega)) hz.2
   rw [hch] at this
   exact this
  have HCl : Hid (∀ W : World, Below w.heap.size w W → W.cell? ⟨L.nd (ts.take p), 17, none⟩ = some (.map (some (L.mp (ts.take p)))) ∧ W.cell? ⟨B, 0, none⟩ = some (.int .i64 sz)) := fun W hb => ⟨((HKv.out W hb).ncells hz.2 hIn).2.1, (HKv.out W hb).cells.1⟩
  have HLk := hid fun (W : World) (hb : Below w.heap.size w W) => ((HKv.out W hb).tree.map _ hIn).look hl
  have hD : Below wr.heap.size wr wr.drew := (Below.refl _ _).drew
  have HVd := hid (HV.out.trans (hD.mono HV.out.size))
  by_cases hjl : j < J
  ·have hm : ts.take q ∈ T := by
    have := HJ.out.take (i := j + 1) (by omega) hjl
    rw [Nat.succ_mul, ← HP.out, hpq] at this
    exact this
   have hf := chF_yes (nd := L.nd) hcl (by rw [htc]; exact hm)
   rw [htc] at hf
   rw [hf] at HLk
   simp only [ptrP] at HLk
   have HP2 : Hid (q = (j + 1) * sz) := by unfold Hid; rw [← hpq, HP.out, Nat.succ_mul]
   have HSn : Hid (ptL L.nd sz ts j ++ [.pointer (some ⟨L.nd (ts.take q), 0, none⟩)] = ptL L.nd sz ts (j + 1)) := by unfold Hid; rw [HP2.out]; exact ptL_snoc _ _ _ _
   clear hm hf htc hcl hch hIn HP HQ HR HKv hD HTk HJ hl HRt
   generalize keyV (chunk sz j ts) = kv at *
   generalize ts.take p = tp at *
   obtain ⟨tq, hTq⟩ : ∃ tq, ts.take q = tq := ⟨_, rfl⟩
   have HTq := hid hTq
   rw [hTq] at HLk HSn
   clear hTq
   obtain ⟨y1, y2⟩ := HCl.out _ HV.out
   go_wp2_with fail
   clear y1 y2
   go_region_held3 (fun W : World => W.cell? ⟨L.nd tp, 17, none⟩ = some (.map (some (L.mp tp))) ∧ W.cell? ⟨B, 0, none⟩ = some (.int .i64 sz)) (first | (with_reducible exact HCl.out _ HV.out) | (with_reducible exact HCl.out _ HVd.out) | (with_reducible exact HCl.out _ HVk.out))
    (first
     | (go_at_call 86; (with_reducible refine (HKey.out _ HVd.out).mono ?_); rintro e wk ⟨rfl, hb⟩; have HBk := hid hb; have HVk := hid (HVd.out.trans (hb.mono HVd.out.size)); have hlk := HLk.out _ HVk.out; clear hb)
     | fail)
   all_goals
    have HOk : Hid (wk.ownsRow w.heap.size 113 1 u5 j (ptL L.nd sz ts j)) := own_below HO.out ((show Below wr.heap.size wr wr.drew from (Below.refl _ _).drew).trans HBk.out)
    have HA : Hid (Below wk.heap.size wk (wk.alloc (.cells #[.pointer (some ⟨L.nd tq, 0, none⟩)] 113))) := (Below.refl _ _).alloc (Nat.le_refl _) _
    have HOa := hid (own_below HOk.out HA.out)
    have HVa := hid (HVk.out.trans (HA.out.mono HVk.out.size))
    have HCe : Hid ((wk.alloc (.cells #[.pointer (some ⟨L.nd tq, 0, none⟩)] 113)).cell? ⟨wk.heap.size, 0, none⟩ = some (.pointer (some ⟨L.nd tq, 0, none⟩))) := by unfold Hid; rw [cell_of_row _ _ _ _ _ _ (heap_alloc_new wk _)]; rfl
    obtain ⟨q2, hq2⟩ : ∃ q2, q + sz = q2 := ⟨_, rfl⟩
    have HQ2 : Hid (q2 = q + sz) := hq2.symm
    have hp4 : (q : Int) + (sz : Int) = (q2 : Int) := by omega
    have hq3 : q2 ≤ nt + 16 := by omega
    have hq4 : q < q2 := by omega
    clear hsub hp3 hcp hq2
    clear HKey HLk hlk HO HBk HOk HA HVd
    go_wp2_with (at_builtin; refine append_ptr _ rfl (.tmp 43) (.tmp 45) rfl w.heap.size _ j _ rfl HOa.out HVa.out.size (by omega) _ _ rfl HCe.out ?_; intro v3 w3 hO3 hb3; have HV3 : Hid (Below w.heap.size w w3) := HVa.out.trans hb3; obtain ⟨y1, y2⟩ := HCl.out _ HV3.out)
    have HO3 : Hid (w3.ownsRow w.heap.size 113 1 v3 (j + 1) (ptL L.nd sz ts (j + 1))) := by unfold Hid; rw [← HSn.out]; exact hO3
    clear hO3 hb3 HOa HVa HCe HCl HSn
    go_wp2_with fail
    go_round
    case rel => exact ⟨j + 1, q, q2, HP2, HQ2, by omega, by omega, by rw [HTq.out], rfl, HO3, HV3⟩
    case measure => simp [intOf]; omega
  ·obtain rfl : j = J := by omega
   have hm : ts.take q ∉ T := fun hm => by
    have := (HJ.out.iff (j + 1) (by omega) (by rw [Nat.succ_mul, ← HP.out, hpq, HZt.out]; exact hle)).1 (by rw [Nat.succ_mul, ← HP.out, hpq]; exact hm)
    omega
   have hf := chF_no (nd := L.nd) hcl (by rw [htc]; exact hm)
   rw [hf] at HLk
   simp only [ptrP] at HLk
   clear hm hf htc hcl hch hIn HP HQ HR HKv hD HTk HJ hl HRt
   generalize keyV (chunk sz j ts) = kv at *
   generalize ts.take p = tp at *
   obtain ⟨y1, y2⟩ := HCl.out _ HV.out
   go_wp2_with fail
   clear y1 y2
   go_region_held3 (fun W : World => W.cell? ⟨L.nd tp, 17, none⟩ = some (.map (some (L.mp tp))) ∧ W.cell? ⟨B, 0, none⟩ = some (.int .i64 sz)) (first | (with_reducible exact HCl.out _ HV.out) | (with_reducible exact HCl.out _ HVd.out) | (with_reducible exact HCl.out _ HVk.out))
    (first
     | (go_at_call 86; (with_reducible refine (HKey.out _ HVd.out).mono ?_); rintro e wk ⟨rfl, hb⟩; have HBk := hid hb; have HVk := hid (HVd.out.trans (hb.mono HVd.out.size)); have hlk := HLk.out _ HVk.out; clear hb)
     | fail)
   all_goals
    have HOk : Hid (wk.ownsRow w.heap.size 113 1 u5 j (ptL L.nd sz ts j)) := own_below HO.out ((show Below wr.heap.size wr wr.drew from (Below.refl _ _).drew).trans HBk.out)
    clear HKey HLk hlk HO HBk HVd HCl
    go_wp2
    go_ret
    exact ⟨_, rfl, HOk.out, HVk.out⟩
 ·obtain rfl : j = J := by
   rcases Nat.lt_or_ge j J with hl | hl
   ·exfalso
    have : (j + 1) * sz ≤ J * sz := Nat.mul_le_mul_right _ hl
    rw [Nat.succ_mul, ← HP.out] at this
    have := HQ.out
    omega
   ·omega
  have q1 : ¬ (q : Int) ≤ (nt : Int) := by omega
  clear HP HQ HR HKv HTk HJ HRt
  go_wp2
  go_ret
  exact ⟨_, rfl, HO.out, HV.out⟩
end
end Go.Proofs.YtjgggialnegddaaGreat
namespace Go.Proofs.YtjgggialnegddaaGreat
open Go.RowKit Go.Maps
theorem nodup_len : ∀ {l1 l2 : List Int}, l1.Nodup → (∀ x ∈ l1, x ∈ l2) → l1.length ≤ l2.length
 | [], l2, _, _ => Nat.zero_le _
 | a :: l, l2, hn, hs => by
  rw [List.nodup_cons] at hn
  have ha := hs a (List.mem_cons_self ..)
  have ih := nodup_len (l2 := l2.erase a) hn.2 fun x hx => (List.mem_erase_of_ne (fun e => hn.1 (by rw [← e]; exact hx))).2 (hs x (List.mem_cons_of_mem _ hx))
  have hl := List.length_erase_of_mem ha
  have hp := List.length_pos_of_mem ha
  rw [List.length_cons]
  omega
theorem usedK_mem (hs : List Int) : ∀ (k : Nat) (m : Int), m ∈ usedK hs k ↔ ∃ i : Nat, i < k ∧ m = i ∧ 0 < hs[i]?.getD 0
 | 0, m => by simp [usedK]
 | k + 1, m => by
  have ih := usedK_mem hs k m
  simp only [usedK]
  split
  ·rename_i h0
   rw [List.mem_append, ih, List.mem_singleton]
   constructor
   ·rintro (⟨i, h1, h2, h3⟩ | h)
    ·exact ⟨i, by omega, h2, h3⟩
    ·exact ⟨k, by omega, h, h0⟩
   ·rintro ⟨i, h1, h2, h3⟩
    rcases Nat.lt_or_ge i k with hl | hl
    ·exact .inl ⟨i, hl, h2, h3⟩
    ·exact .inr (by rw [h2, show i = k by omega])
  ·rename_i h0
   rw [ih]
   constructor
   ·rintro ⟨i, h1, h2, h3⟩
    exact ⟨i, by omega, h2, h3⟩
   ·rintro ⟨i, h1, h2, h3⟩
    refine ⟨i, ?_, h2, h3⟩
    rcases Nat.lt_or_ge i k with hl | hl
    ·exact hl
    ·rw [show i = k by omega] at h3
     exact absurd h3 h0
theorem usedK_nodup (hs : List Int) : ∀ k : Nat, (usedK hs k).Nodup
 | 0 => by simp [usedK]
 | k + 1 => by
  have ih := usedK_nodup hs k
  simp only [usedK]
  split
  ·rw [List.nodup_append]
   refine ⟨ih, by simp, fun a ha b hb => ?_⟩
   rw [List.mem_singleton] at hb
   obtain ⟨i, h1, h2, _⟩ := (usedK_mem hs k a).1 ha
   rw [h2, hb]
   omega
  ·exact ih
theorem own_slc {w : World} {base e n : Nat} {v : Value} {vs : List Value} (h : w.ownsRow base e 1 v n vs) : ∃ a cap, v = .slice a n cap ∧ n ≤ cap ∧ cap ≤ 9223372036854775807 ∧ (∀ p, a = some p → base ≤ p.block ∧ p.block < w.heap.size) ∧ ∀ i u, vs[i]? = some u → ∃ g, a = some ⟨g, 0, none⟩ ∧ w.cell? ⟨g, i, none⟩ = some u := by
 have hl : vs.length = n := by have := h.1; simpa using this
 rcases id h.2 with ⟨rfl, rfl⟩ | ⟨g, cap, cur, rfl, hb, hg, hnc, hm, hs, ht⟩
 ·exact ⟨none, 0, rfl, Nat.le_refl _, by omega, (fun p hp => by cases hp), fun i u hu => by rw [List.eq_nil_of_length_eq_zero hl] at hu; simp at hu⟩
 ·refine ⟨some ⟨g, 0, none⟩, cap, rfl, hnc, by unfold maxLen at hm; omega, (fun p hp => by cases hp; exact ⟨hb, lt_of_block hg⟩), fun i u hu => ⟨g, rfl, ?_⟩⟩
  have := h.cells (g := g) rfl i u hu
  rwa [Addr.add_lit, Nat.zero_add] at this
section
variable {B bb r : Nat} {pp : Option Addr} {L : Lay} {c : Cf} {pg sz : Nat} {tm : Int} {T : List (List Int)}
theorem KvB.cnt {W : World} (h : KvB W B bb r pp L c pg sz tm T) (hn : T.Nodup) : (usedL L.hs).length = T.length := by
 have hm : ∀ m, m ∈ usedL L.hs ↔ ∃ x ∈ T, L.pgs x = m := by
  intro m
  unfold usedL
  rw [usedK_mem, h.hsl]
  constructor
  ·rintro ⟨i, h1, h2, h3⟩
   rcases h.held i h1 with ⟨h4, _⟩ | ⟨_, x, hx, h5⟩
   ·omega
   ·exact ⟨x, hx, by rw [h5, h2]⟩
  ·rintro ⟨x, hx, rfl⟩
   obtain ⟨p0, p1⟩ := h.pgb x hx
   refine ⟨(L.pgs x).toNat, by omega, by omega, ?_⟩
   rcases h.held (L.pgs x).toNat (by omega) with ⟨_, h5⟩ | ⟨h4, _⟩
   ·exact absurd (by omega) (h5 x hx)
   ·omega
 have h1 : (T.map L.pgs).Nodup := by
  unfold List.Nodup
  rw [List.pairwise_map]
  exact List.Pairwise.imp_of_mem (fun {a b} ha hb hne e => hne (h.pgi a ha b hb e)) hn
 refine Nat.le_antisymm ?_ ?_
 ·have := nodup_len (l2 := T.map L.pgs) (usedK_nodup L.hs L.hs.length) fun m hm' => by
   obtain ⟨x, hx, e⟩ := (hm m).1 hm'
   exact List.mem_map.2 ⟨x, hx, e⟩
  rw [List.length_map] at this
  exact this
 ·have := nodup_len (l2 := usedL L.hs) h1 fun m hm' => by
   obtain ⟨x, hx, e⟩ := List.mem_map.1 hm'
   exact (hm m).2 ⟨x, hx, e⟩
  simpa using this
theorem kpath_sl {w : World} (h : KvB w B bb r pp L c pg sz tm T) (hz : 1 ≤ sz ∧ sz ≤ 16) (a : Option Addr) (nt cap : Nat) (ts : List Int) (hr : Reads .i64 w a nt cap ts) (hk : Tk ts) (hn : nt ≤ 256) {J : Nat} (hJ : Far T sz ts J) :
  Calls Tryz.prog 110 #[.pointer (some ⟨B, 0, none⟩), .slice a nt cap] w fun e w' => ∃ ap cp, e = .returned (.slice ap J cp) ∧ J ≤ cp ∧ cp ≤ 9223372036854775807 ∧ (∀ p, ap = some p → w.heap.size ≤ p.block) ∧ (∀ i, i < J → ∃ g, ap = some ⟨g, 0, none⟩ ∧ w'.cell? ⟨g, i, none⟩ = some (.pointer (some ⟨L.nd (ts.take ((i + 1) * sz)), 0, none⟩))) ∧ Below w.heap.size w w' := by
 refine (kpath_any h hz a nt cap ts hr hk hn hJ).mono ?_
 rintro e w' ⟨v, rfl, hO, hb⟩
 obtain ⟨ap, cp, rfl, h1, h2, h3, h4⟩ := own_slc hO
 exact ⟨ap, cp, rfl, h1, h2, fun p hp => (h3 p hp).1, fun i hi => h4 i _ (ptL_at _ _ _ hi), hb⟩
end
end Go.Proofs.YtjgggialnegddaaGreat
namespace Go.Proofs.YtjgggialnegddaaGreat
open Go.RowKit Go.Maps
theorem StAt.d {W : World} {p : Option Addr} {c : Cf} {ts : List Int} {F : Nat → Prop} (h : StAt W p c ts F) : ∃ ta, StT W p c ts ta ∧ ∀ k, mF ta k → F k := by
 obtain ⟨g, pm, ta, tc, ha, hc, pq, rfl, h2, h3⟩ := h.get
 exact ⟨ta, ⟨g, pm, tc, ha, hc, pq, rfl, h2, h2.bl, h.one, h.most⟩, h3⟩
theorem StT.lt {W : World} {q : Option Addr} {c : Cf} {ts : List Int} {ta : Option Addr} (h : StT W q c ts ta) {k : Nat} (hk : mF ta k) : k < W.heap.size := by
 obtain ⟨g, pm, tc, ha, hc, pq, _, _, h5, _⟩ := h
 obtain ⟨a, e, rfl⟩ := hk
 obtain ⟨cur, fz, hcur⟩ := h5 a e
 exact lt_of_block hcur
theorem StT.below {W W' : World} {q : Option Addr} {c : Cf} {ts : List Int} {ta : Option Addr} (h : StT W q c ts ta) (hb : Below W.heap.size W W') : StT W' q c ts ta := h.keep (KpL.of hb) fun k hk => hb.block k (h.lt hk)
theorem dcut_T {W : World} {q : Option Addr} {c : Cf} {ts : List Int} {tb : Option Addr} (h : StT W q c ts tb) (hm : mayB c = true) {n : Nat} (h1 : 1 ≤ n) (h2 : n ≤ ts.length) :
  Calls Tryz.prog 87 #[.pointer q, .int .i64 n] W fun e w' => ∃ q' ta', e = .returned (.pointer q') ∧ StT w' q' c (ts.take n) ta' ∧ (∀ k, mF ta' k → mF tb k ∨ W.heap.size ≤ k) ∧ Below W.heap.size W w' := by
 obtain ⟨g, pm, tc, ha, hc, pq, rfl, k2, k3, k4, k5⟩ := h
 have := dcut_any _ c ts (n : Int) W (k2.at k4 k5) hm
 rw [show cutT (n : Int) ts.length = n by unfold cutT; omega] at this
 refine this.mono ?_
 rintro e w' ⟨g', F', rfl, hS, hF, hb⟩
 obtain ⟨ta', hT, hta⟩ := hS.d
 refine ⟨_, ta', rfl, hT, fun k hk => ?_, hb⟩
 have hnot : ¬ NotInt W k := fun ⟨cur, t, fz, e1, e2⟩ => by
  obtain ⟨_, _, _, _, _, _, _, _, h5, _⟩ := hT
  obtain ⟨a, e, rfl⟩ := hk
  obtain ⟨cur', fz', hcur⟩ := h5 a e
  rw [(hb.block _ (lt_of_block e1)).trans e1] at hcur
  simp at hcur
  exact e2 hcur.2.1
 rcases hF k (hta k hk) with (h' | h') | h' | h'
 ·exact absurd h' hnot
 ·exact .inl h'
 ·exact .inr h'
 ·exact absurd h' hnot
def FndT (w w' : World) (L : Lay) (T : List (List Int)) (q : Option Addr) (c : Cf) (ts : List Int) (n : Int) : Prop := (n = 0 ∧ q = none) ∨ (0 < n ∧ ∃ ta, StT w' q c (ts.take n.toNat) ta ∧ ∀ k, mF ta k → (∃ y ∈ T, mF (L.ta y) k) ∨ w.heap.size ≤ k)
section
variable {B bb r : Nat} {pp : Option Addr} {L : Lay} {c : Cf} {pg sz : Nat} {tm : Int} {T : List (List Int)}
theorem bel_dr (W : World) (q : Nat) : Below W.heap.size W (W.drewN q) := ⟨rfl, rfl, rfl, Nat.le_refl _, fun _ _ => rfl⟩
theorem Fb.dr {F : Nat → Prop} {a b : World} (h : Fb F a b) (q : Nat) : Fb F a (b.drewN q) := h.below (bel_dr b q)
theorem KvB.dr {W : World} (h : KvB W B bb r pp L c pg sz tm T) (q : Nat) : KvB (W.drewN q) B bb r pp L c pg sz tm T := h.below (bel_dr W q)
structure Usd (L : Lay) (sz : Nat) (ts : List Int) (tm : Int) (k : Nat) (us : List Int → Int) : Prop where
 now : ∀ i, 1 ≤ i → i ≤ k → us (ts.take (i * sz)) = tm
 rest : ∀ y, (∀ i, 1 ≤ i → i ≤ k → y ≠ ts.take (i * sz)) → us y = L.us y
theorem Usd.zero (L : Lay) (sz : Nat) (ts : List Int) (tm : Int) : Usd L sz ts tm 0 L.us := ⟨fun i h1 h2 => by omega, fun y _ => rfl⟩
theorem Usd.next {L : Lay} {sz : Nat} {ts : List Int} {tm : Int} {k : Nat} {us : List Int → Int} (h : Usd L sz ts tm k us) : Usd L sz ts tm (k + 1) (fun y => if y = ts.take ((k + 1) * sz) then tm else us y) := by
 refine ⟨fun i h1 h2 => ?_, fun y hy => ?_⟩
 ·split
  ·rfl
  ·rename_i hne
   rcases Nat.lt_or_ge i (k + 1) with hl | hl
   ·exact h.now i h1 (by omega)
   ·exact absurd (by rw [show i = k + 1 by omega]) hne
 ·rw [if_neg (hy (k + 1) (by omega) (Nat.le_refl _))]
  exact h.rest y fun i h1 h2 => hy i h1 (by omega)
set_option maxHeartbeats 4000000 in
theorem kuse_any {w : World} (h : KvB w B bb r pp L c pg sz tm T) (hz : 1 ≤ sz ∧ sz ≤ 16) (ht0 : 0 ≤ tm) (ht1 : tm ≤ 100000) (a : Option Addr) (nt cap : Nat) (ts : List Int) (hr : Reads .i64 w a nt cap ts) (hk : Tk ts) (hn : nt ≤ 256) (hap : ∀ q, a = some q → ¬ ftB B bb L T q.block) {J : Nat} (hJ : Far T sz ts J) :
  Calls Tryz.prog 84 #[.pointer (some ⟨B, 0, none⟩), .slice a nt cap] w fun e w' => e = .returned (.tuple #[.pointer (some ⟨L.nd (ts.take (J * sz)), 0, none⟩), .int .i64 (J * sz : Nat)]) ∧ ∃ us, KvB w' B bb r pp { L with us := us } c pg sz (tm + 1) T ∧ Usd L sz ts (tm + 1) J us ∧ Fb (ftB B bb L T) w w' := by
 obtain ⟨t2, ht2⟩ : ∃ t2, tm + 1 = t2 := ⟨_, rfl⟩
 rw [ht2]
 have hwr : IntKind.u64.wrap (tm + 1) = t2 := by rw [← ht2, IntKind.wrap_u64]; omega
 obtain ⟨c0, c1, c2, c3, c4⟩ := h.cells
 have fB := frozen_of_row _ _ 4 _ _ h.var
 have hJ1 := hJ.le
 rw [hr.size] at hJ1
 have hJ2 : J ≤ 256 := Nat.le_trans (Nat.le_trans (Nat.le_mul_of_pos_right _ (by omega)) hJ1) hn
 obtain ⟨w1, hw1⟩ : ∃ w1, w1 = w.setCell ⟨B, 4, none⟩ (.int .u64 t2) := ⟨_, rfl⟩
 have h1 : KvB w1 B bb r pp L c pg sz t2 T := by rw [hw1]; exact h.tick t2
 have hF1 : Fb (ftB B bb L T) w w1 := by rw [hw1]; exact Fb.set (.inl rfl) _
 have hr1 : Reads .i64 w1 a nt cap ts := hr.same (fun x hx => by
  obtain ⟨p, rfl, rfl⟩ := hx
  rw [hw1]
  exact Below.heap_setCell _ _ _ _ fun e => hap p rfl (.inl e))
 have HS1 : Hid (w1.heap.size = w.heap.size) := by unfold Hid; rw [hw1]; simp [World.setCell]
 have hPa := kpath_sl h1 hz a nt cap ts hr1 hk hn hJ
 have d2 : (w.setCell ⟨B, 4, none⟩ (.int .u64 t2)).cell? ⟨B, 2, none⟩ = some (.pointer (some ⟨r, 0, none⟩)) := by rw [← hw1]; exact h1.cells.2.2.1
 have HRt := hid h.root
 have HK1 := hid h1
 have HF1 := hid hF1
 have HJ := hid hJ
 clear h hr hk hap hJ hF1 hr1 h1 c0 c1 c2 c3 ht2
 go_enter Tryz.func84, Tryz.ntmps84
 go_wp2_with fail
 rw [← hw1]
 clear hw1 c4 fB hwr d2
 refine hPa.mono ?_
 rintro e w2 ⟨ap, cp, rfl, k1, k2, k3, k4, hb⟩
 have HC := hid k4
 have HG : Hid (∀ p, ap = some p → ¬ ftB B bb L T p.block) := fun p hp hf => by
  have := HK1.out.old _ hf
  have := k3 p hp
  omega
 have HK2 := hid (HK1.out.below hb)
 have HF2 := hid (HF1.out.below hb)
 clear hb k3 k4 hPa HK1 HF1
 go_wp2_with fail
 go_loopw [6, 7, 25] (fun x y i W => ∃ (k p : Nat) (us : List Int → Int), Hid (p = k * sz) ∧ k ≤ J ∧ p ≤ nt ∧ x = .pointer (some ⟨L.nd (ts.take p), 0, none⟩) ∧ y = .int .i64 p ∧ i = .int .i64 k ∧ Hid (KvB W B bb r pp { L with us := us } c pg sz t2 T) ∧ Hid (Usd L sz ts t2 k us) ∧ Hid (Fb (ftB B bb L T) w2 W)) (fun _ _ i _ => J - (intOf i).toNat)
 case atStart => exact ⟨0, 0, L.us, by unfold Hid; omega, by omega, by omega, by rw [List.take_zero, HRt.out], rfl, rfl, HK2.out, Usd.zero _ _ _ _, Fb.refl _ _⟩
 case round =>
 obtain ⟨k, p, us, HP, hk, hp, rfl, rfl, rfl, HKk, HUk, HFk⟩ := hrel
 rename World => wr
 by_cases hlt : k < J
 ·have q1 : (k : Int) < (J : Int) := by omega
  obtain ⟨g, rfl, cg⟩ := HC.out k hlt
  have ck := HFk.out.cell cg (show ¬ ftB B bb L T g from HG.out ⟨g, 0, none⟩ rfl)
  have hx : InT T (ts.take ((k + 1) * sz)) := HJ.out.inT hlt
  obtain ⟨p2, hp2⟩ : ∃ p2, (k + 1) * sz = p2 := ⟨_, rfl⟩
  rw [hp2] at ck hx
  have hpp : p + sz = p2 := by rw [HP.out, ← hp2, Nat.succ_mul]
  have hp2l : p2 ≤ nt := by rw [← hp2]; exact Nat.le_trans (Nat.mul_le_mul_right _ hlt) hJ1
  have hU2 := HUk.out.next
  rw [hp2] at hU2
  have hK2 := HKk.out.use hz.2 hx t2
  have hF2 : Fb (ftB B bb L T) w2 (wr.setCell ⟨L.nd (ts.take p2), 20, none⟩ (.int .u64 t2)) := HFk.out.trans (Fb.set (F := ftB B bb L T) (.inr (.inr (.inr ⟨_, hx, .inl rfl⟩))) _) fun x hx => .inl hx
  have HU2 := hid hU2
  have HF2' := hid hF2
  have HK2' : Hid (KvB (wr.setCell ⟨L.nd (ts.take p2), 20, none⟩ (.int .u64 t2)) B bb r pp { L with us := fun y => if y = ts.take p2 then t2 else us y } c pg sz t2 T) := hK2
  have e4 := HKk.out.cells.2.2.2.2
  have f0 := hK2.cells.1
  have n20 := (HKk.out.ncells hz.2 hx).2.2.2.2
  have f20 := (HKk.out.tree.node _ hx).frozen 20
  have HP2 := hid hp2.symm
  have hsum : (p : Int) + (sz : Int) = (p2 : Int) := by omega
  simp only at n20 f20
  clear hU2 hK2 hF2 hx hp2 cg HC HG HKk HUk HFk HK2 HF2 HJ HRt HP
  generalize ts.take p = tp at *
  obtain ⟨tq, hTq⟩ : ∃ tq, ts.take p2 = tq := ⟨_, rfl⟩
  have HTq := hid hTq
  rw [hTq] at ck HU2 HF2' HK2' f0 n20 f20
  clear hTq
  go_wp2_with fail
  go_quiet (fail)
  go_wp2_with fail
  go_round
  case rel => exact ⟨k + 1, p2, _, HP2, by omega, by omega, by rw [HTq.out], rfl, by go_num, HK2'.out.dr _, HU2, HF2'.out.dr _⟩
  case measure => simp [intOf]; omega
 ·obtain rfl : k = J := by omega
  have HE : Hid (p = k * sz) := HP
  have HF3 : Hid (Fb (ftB B bb L T) w wr) := HF2.out.trans HFk.out fun x hx => .inl hx
  have HEq : Hid (Ending.returned (.tuple #[.pointer (some ⟨L.nd (ts.take p), 0, none⟩), .int .i64 (p : Nat)]) = .returned (.tuple #[.pointer (some ⟨L.nd (ts.take (k * sz)), 0, none⟩), .int .i64 (k * sz : Nat)])) := by unfold Hid; rw [HE.out]
  clear HP HE HC HG HK2 HF2 HJ HRt HFk
  go_wp2
  go_ret2
  exact ⟨HEq.out, us, HKk.out, HUk.out, HF3.out⟩
theorem kfind_in {w : World} (h : KvB w B bb r pp L c pg sz tm T) (hz : 1 ≤ sz ∧ sz ≤ 16) (hm : mayB c = true) (ht0 : 0 ≤ tm) (ht1 : tm ≤ 100000) (a : Option Addr) (nt cap : Nat) (ts : List Int) (hr : Reads .i64 w a nt cap ts) (hk : Tk ts) (hn : nt ≤ 256) (hap : ∀ q, a = some q → ¬ ftB B bb L T q.block) {J : Nat} (hJ : Far T sz ts J) :
  Calls Tryz.prog 105 #[.pointer (some ⟨B, 0, none⟩), .slice a nt cap] w fun e w' => ∃ q, e = .returned (.tuple #[.pointer q, .int .i64 (J * sz : Nat)]) ∧ FndT w w' L T q c ts (J * sz : Nat) ∧ ∃ us, KvB w' B bb r pp { L with us := us } c pg sz (tm + 1) T ∧ Usd L sz ts (tm + 1) J us ∧ Fb (ftB B bb L T) w w' := by
 have hM := kmade_yes h
 have hU := kuse_any h hz ht0 ht1 a nt cap ts hr hk hn hap hJ
 have HJ := hid hJ
 have hJ1 := hJ.le
 rw [hr.size] at hJ1
 have HZ := hid hr.size
 obtain ⟨t2, ht2⟩ : ∃ t2, tm + 1 = t2 := ⟨_, rfl⟩
 rw [ht2] at hU ⊢
 obtain ⟨p, hp⟩ : ∃ p, J * sz = p := ⟨_, rfl⟩
 have HP := hid hp
 rw [hp] at hU hJ1 ⊢
 clear h hr hk hap hJ hp ht2
 by_cases h0 : p = 0
 ·have HF : Hid (∀ W W' : World, FndT W W' L T none c ts (p : Nat)) := fun W W' => .inl ⟨by omega, rfl⟩
  subst h0
  go_enter Tryz.func105, Tryz.ntmps105
  go_wp2_with fail
  refine hM.mono ?_
  rintro e w' ⟨rfl, rfl⟩
  clear hM
  go_wp2_with fail
  refine hU.mono ?_
  rintro e w2 ⟨rfl, us, hK, hUs, hF⟩
  have HK := hid hK
  have HUs := hid hUs
  have HFb := hid hF
  clear hK hUs hF hU
  go_wp2
  go_ret2
  exact ⟨none, rfl, HF.out _ _, us, HK.out, HUs.out, HFb.out⟩
 ·have hJ0 : 1 ≤ J := by
   rcases Nat.eq_zero_or_pos J with e | e
   ·exfalso; apply h0; rw [← HP.out, e, Nat.zero_mul]
   ·exact e
  have hIn : ts.take p ∈ T := by rw [← HP.out]; exact HJ.out.take hJ0 (Nat.le_refl _)
  have hlen : (ts.take p).length = p := by rw [List.length_take, HZ.out]; omega
  have q0 : ((p : Int) == 0) = false := by simp; omega
  have q1 : ¬ (p : Int) = 0 := by omega
  have HIn := hid hIn
  have HLen := hid hlen
  clear hIn hlen hJ0
  go_enter Tryz.func105, Tryz.ntmps105
  go_wp2_with fail
  refine hM.mono ?_
  rintro e w' ⟨rfl, rfl⟩
  clear hM
  go_wp2_with fail
  refine hU.mono ?_
  rintro e w2 ⟨rfl, us, hK, hUs, hF⟩
  have HK := hid hK
  have HUs := hid hUs
  have HFb := hid hF
  have n18 := (hK.ncells hz.2 (.inr HIn.out)).2.2.1
  have hC := dcut_T (hK.sts _ HIn.out).1 hm (n := p) (by omega) (by rw [HLen.out]; exact Nat.le_refl _)
  rw [List.take_take, Nat.min_self] at hC
  have HTp : Hid (∀ (ta' : Option Addr), (∀ k, mF ta' k → mF (L.ta (ts.take p)) k ∨ w2.heap.size ≤ k) → ∀ k, mF ta' k → (∃ y ∈ T, mF (L.ta y) k) ∨ w.heap.size ≤ k) := fun ta' h k hk => (h k hk).elim (fun h' => .inl ⟨_, HIn.out, h'⟩) fun h' => .inr (Nat.le_trans hF.size h')
  simp only at n18 hC
  clear hK hUs hF hU HIn HLen HJ HZ
  generalize L.st (ts.take p) = sp at *
  generalize L.ta (ts.take p) = tx at *
  go_wp2_with fail
  refine hC.mono ?_
  rintro e w3 ⟨q, ta, rfl, hT, hta, hb⟩
  have HS : Hid (FndT w w3 L T q c ts (p : Nat)) := .inr ⟨by omega, ta, by rw [Int.toNat_natCast]; exact hT, HTp.out ta hta⟩
  have HK3 := hid (HK.out.below hb)
  have HF3 := hid (HFb.out.below hb)
  clear hb hT hC HK HFb hta HTp
  go_wp2
  go_ret2
  exact ⟨_, rfl, HS.out, us, HK3.out, HUs.out, HF3.out⟩
end
end Go.Proofs.YtjgggialnegddaaGreat
namespace Go.Proofs.YtjgggialnegddaaGreat
open Go.RowKit
def FolNo (w : World) (e : Ending) (w' : World) : Prop := e = .returned (.tuple #[.int .i64 0, .bool false]) ∧ Below w.heap.size w w'
theorem fol_out (q : Option Addr) (j : Jb) (n : Int) (w : World) (hn : n < 0 ∨ j.most ≤ n) :
  Calls Tryz.prog 80 #[.pointer q, .agg (JbV j), .int .i64 n] w fun e w' => FolNo w e w' := by
 have HB : Hid (Below w.heap.size w (w.alloc (.cells (JbV j) 43))) := (Below.refl _ _).alloc (Nat.le_refl _) _
 obtain ⟨sd, ap, lp, cp, ts, mo⟩ := j
 unfold JbV at *
 simp only at *
 by_cases h1 : n < 0
 ·clear hn
  go_enter Tryz.func80, Tryz.ntmps80
  go_wp2
  go_ret2
  exact ⟨rfl, HB.out⟩
 ·have h2 : mo ≤ n := by omega
  clear hn
  go_enter Tryz.func80, Tryz.ntmps80
  go_wp2
  go_ret2
  exact ⟨rfl, HB.out⟩
theorem fol_none (q : Option Addr) (j : Jb) (n : Int) (w : World) (h0 : 0 ≤ n) (h1 : n < j.most) (hN : ∀ W : World, Below w.heap.size w W → Calls Tryz.prog 107 #[.pointer q, .int .u64 j.seed] W fun e w' => e = .returned (.tuple #[.int .i64 0, .bool false]) ∧ Below W.heap.size W w') :
  Calls Tryz.prog 80 #[.pointer q, .agg (JbV j), .int .i64 n] w fun e w' => FolNo w e w' := by
 have HB : Hid (Below w.heap.size w (w.alloc (.cells (JbV j) 43))) := (Below.refl _ _).alloc (Nat.le_refl _) _
 have hNx := hN _ HB.out
 obtain ⟨sd, ap, lp, cp, ts, mo⟩ := j
 unfold JbV at *
 simp only at *
 have h2 : ¬ n < 0 := by omega
 have h3 : ¬ mo ≤ n := by omega
 clear hN h0 h1
 go_enter Tryz.func80, Tryz.ntmps80
 go_wp2_with fail
 refine hNx.mono ?_
 rintro e w1 ⟨rfl, hb⟩
 have HV := hid (HB.out.trans (hb.mono HB.out.size))
 clear hNx hb HB
 go_wp2
 go_ret2
 exact ⟨rfl, HV.out⟩
theorem fol_told (q : Option Addr) (j : Jb) (n td : Int) (w : World) (h0 : 0 ≤ n) (h1 : n < j.most) (hN : ∀ W : World, Below w.heap.size w W → Calls Tryz.prog 107 #[.pointer q, .int .u64 j.seed] W fun e w' => e = .returned (.tuple #[.int .i64 td, .bool true]) ∧ Below W.heap.size W w') :
  Calls Tryz.prog 80 #[.pointer q, .agg (JbV j), .int .i64 n] w fun e w' => e = .returned (.tuple #[.int .i64 td, .bool (!decide (td = 0))]) ∧ Below w.heap.size w w' := by
 have HB : Hid (Below w.heap.size w (w.alloc (.cells (JbV j) 43))) := (Below.refl _ _).alloc (Nat.le_refl _) _
 have hNx := hN _ HB.out
 obtain ⟨sd, ap, lp, cp, ts, mo⟩ := j
 unfold JbV at *
 simp only at *
 have h2 : ¬ n < 0 := by omega
 have h3 : ¬ mo ≤ n := by omega
 clear hN h0 h1
 by_cases h4 : td = 0
 ·subst h4
  rw [decide_eq_true rfl]
  go_enter Tryz.func80, Tryz.ntmps80
  go_wp2_with fail
  refine hNx.mono ?_
  rintro e w1 ⟨rfl, hb⟩
  have HV := hid (HB.out.trans (hb.mono HB.out.size))
  clear hNx hb HB
  go_wp2
  go_ret2
  exact ⟨rfl, HV.out⟩
 ·rw [decide_eq_false h4]
  have h5 : (td == 0) = false := by simp [h4]
  have h6 : (td != 0) = true := by simp [h4]
  go_enter Tryz.func80, Tryz.ntmps80
  go_wp2_with fail
  refine hNx.mono ?_
  rintro e w1 ⟨rfl, hb⟩
  have HV := hid (HB.out.trans (hb.mono HB.out.size))
  clear hNx hb HB
  go_wp2
  go_ret2
  exact ⟨rfl, HV.out⟩
def GivesD (w : World) (F0 : Nat → Prop) (c : Cf) (seed : Int) (ts : List Int) (m k : Nat) (e : Ending) (w' : World) : Prop :=
 ∃ a cap g b F, e = .returned (.tuple #[.slice a (refL c seed ts (min m k)).length cap, .pointer (some ⟨g, 0, none⟩), .bool b]) ∧ Reads .i64 w' a (refL c seed ts (min m k)).length cap (refL c seed ts (min m k)) ∧ StAt w' (some ⟨g, 0, none⟩) c (ts ++ refL c seed ts (min m k)) F ∧ (∀ k, F k → F0 k ∨ w.heap.size ≤ k ∨ NotInt w k) ∧
  (b = true → refL c seed (ts ++ refL c seed ts (min m k)) (m - (refL c seed ts (min m k)).length) = []) ∧ (b = false → (refL c seed ts (min m k)).length = k) ∧ Below w.heap.size w w' ∧ ∀ p, a = some p → w.heap.size ≤ p.block ∧ ∃ cur fz, w'.heap[p.block]? = some (.cells cur 3 fz)
theorem from_stop (p q : Option Addr) (j : Jb) (n most : Int) (w : World) (b0 : -9223372036854775808 ≤ n) (b1 : n ≤ 9223372036854775807) (hF : ∀ W : World, Below w.heap.size w W → Calls Tryz.prog 80 #[.pointer q, .agg (JbV j), .int .i64 n] W fun e w' => FolNo W e w') :
  Calls Tryz.prog 56 #[.pointer p, .agg (JbV j), .pointer q, .int .i64 n, .int .i64 most] w fun e w' => e = .returned (.tuple #[.slice none 0 0, .pointer q, .bool true]) ∧ Below w.heap.size w w' := by
 obtain ⟨wA, hwA⟩ : ∃ wA, wA = w.alloc (.cells (JbV j) 43) := ⟨_, rfl⟩
 have HB0 : Hid (Below w.heap.size w wA) := by unfold Hid; rw [hwA]; exact (Below.refl _ _).alloc (Nat.le_refl _) _
 have hFo := hF _ HB0.out
 obtain ⟨x0, x1, x2⟩ := Jb_cells (show wA.heap[w.heap.size]? = some (.cells (JbV j) 43 (0, 0)) by rw [hwA]; exact heap_alloc_new w _)
 obtain ⟨sd, ap, lp, cp, ts, mo⟩ := j
 unfold JbV at *
 simp only at *
 have hw : wrap64 n = n := by unfold wrap64; omega
 clear hF
 go_enter Tryz.func56, Tryz.ntmps56
 go_wp2_with fail
 rw [← hwA]
 clear hwA
 go_loopw [2, 13] (fun u v W => u = .pointer q ∧ v = .slice none 0 0 ∧ Hid (W = wA)) (fun _ _ _ => 0)
 case atStart => exact ⟨rfl, rfl, rfl⟩
 case round =>
 obtain ⟨rfl, rfl, HW⟩ := hrel
 have hW := HW.out
 subst hW
 clear HW
 go_wp2_with fail
 refine hFo.mono ?_
 rintro e w1 ⟨rfl, hb⟩
 have HV := hid (HB0.out.trans (hb.mono HB0.out.size))
 clear hFo hb HB0 x0 x1 x2
 go_wp2
 go_ret3
 exact ⟨rfl, HV.out⟩
set_option maxHeartbeats 2000000 in
theorem dfrom_go {F : Nat → Prop} (p q : Option Addr) (c : Cf) (j : Jb) (ts : List Int) (n k m : Nat) (w : World) (hp : MdAt w p c) (hc : mayB c = true) (hj : JbIn w j) (hs : StAt w q c ts F) (hn : j.most = (n + m : Nat)) (hm : 0 < m) (hM : j.most ≤ 256) (hk : k ≤ 1000) :
  Calls Tryz.prog 56 #[.pointer p, .agg (JbV j), .pointer q, .int .i64 n, .int .i64 k] w fun e w' => GivesD w (fun x => F x ∨ mF p x) c j.seed ts m k e w' := by
 obtain ⟨i0, hi, hz0, hz1, hz2⟩ := info_parts Tryz.info3
 obtain ⟨wA, hwA⟩ : ∃ wA, wA = w.alloc (.cells (JbV j) 43) := ⟨_, rfl⟩
 have HB0 : Hid (Below w.heap.size w wA) := by unfold Hid; rw [hwA]; exact (Below.refl _ _).alloc (Nat.le_refl _) _
 have HK := hid fun (W : World) (hb : Below wA.heap.size wA W) => Jb_cells (block_below (show wA.heap[w.heap.size]? = some (.cells (JbV j) 43 (0, 0)) by rw [hwA]; exact heap_alloc_new w _) hb)
 obtain ⟨g0, rfl⟩ := hs.ptr
 have HX : Hid (∀ W : World, Below wA.heap.size wA W → Below w.heap.size w W) := fun W hW => HB0.out.trans (hW.mono HB0.out.size)
 have HN256 : Hid (n + m ≤ 256) := by unfold Hid; omega
 have HS0 : Hid (StAt wA (some ⟨g0, 0, none⟩) c (ts ++ []) F) := by unfold Hid; rw [List.append_nil]; exact hs.below HB0.out
 obtain ⟨M, hMM⟩ : ∃ M, min m k = M := ⟨_, rfl⟩
 have hMm : M ≤ m := by omega
 have hMk : M ≤ k := by omega
 have hMor : M = m ∨ M = k := by omega
 have HMor := hid hMor
 have HO := hid fun (l : Nat) (g : Nat) (W : World) (h : m ≤ l) => fol_out (some ⟨g, 0, none⟩) j ((n : Int) + (l : Int)) W (by omega)
 have HFu := hid fun (l : Nat) (g : Nat) (us : List Int) (F' : Nat → Prop) (W : World) (h : l < m) (hS : StAt W (some ⟨g, 0, none⟩) c (ts ++ us) F') (hl : (ts ++ us).length = 256) => fol_none (some ⟨g, 0, none⟩) j ((n : Int) + (l : Int)) W (by omega) (by omega) fun W' hb => dnext_full _ c _ j.seed W' (hS.below hb) hc hl
 have HTo := hid fun (l : Nat) (g : Nat) (us : List Int) (F' : Nat → Prop) (W : World) (h : l < m) (hS : StAt W (some ⟨g, 0, none⟩) c (ts ++ us) F') (hl : (ts ++ us).length < 256) => fol_told (some ⟨g, 0, none⟩) j ((n : Int) + (l : Int)) _ W (by omega) (by omega) fun W' hb => dnext_yes _ c _ j.seed W' (hS.below hb) hc hl
 have HBd := hid fun (us : List Int) => told_bd hc (ts ++ us) j.seed
 have HFd := hid fun (g : Nat) (us : List Int) (F' : Nat → Prop) (W : World) (hS : StAt W (some ⟨g, 0, none⟩) c (ts ++ us) F') (hl : (ts ++ us).length < 256) => dfeed_yes (some ⟨g, 0, none⟩) c (ts ++ us) (toldZ c (ts ++ us) j.seed) W hS hc (HBd.out us).1 (HBd.out us).2 hl
 have HE : Hid (∀ (us : List Int) (e : Ending) (W : World), (refL c j.seed ts M = us → (∃ a cap g b F', e = .returned (.tuple #[.slice a us.length cap, .pointer (some ⟨g, 0, none⟩), .bool b]) ∧ Reads .i64 W a us.length cap us ∧ StAt W (some ⟨g, 0, none⟩) c (ts ++ us) F' ∧ (∀ x, F' x → (F x ∨ mF p x) ∨ w.heap.size ≤ x ∨ NotInt w x) ∧ (b = true → refL c j.seed (ts ++ us) (m - us.length) = []) ∧ (b = false → us.length = k) ∧ Below w.heap.size w W ∧ ∀ p, a = some p → w.heap.size ≤ p.block ∧ ∃ cur fz, W.heap[p.block]? = some (.cells cur 3 fz)) → GivesD w (fun x => F x ∨ mF p x) c j.seed ts m k e W)) := by
  rintro us e W rfl h
  unfold GivesD
  rw [hMM]
  exact h
 have HR0 : Hid (refL c j.seed ts M = [] ++ refL c j.seed (ts ++ []) (M - 0)) := by unfold Hid; rw [List.append_nil, List.nil_append, Nat.sub_zero]
 have HSt : Hid (∀ us r, (256 ≤ (ts ++ us).length ∨ toldZ c (ts ++ us) j.seed = 0) → refL c j.seed (ts ++ us) r = []) := fun us r h => refL_stop (.inr h)
 have HGo : Hid (∀ us r, (ts ++ us).length < 256 → toldZ c (ts ++ us) j.seed ≠ 0 → refL c j.seed (ts ++ us) (r + 1) = toldZ c (ts ++ us) j.seed :: refL c j.seed (ts ++ (us ++ [toldZ c (ts ++ us) j.seed])) r) := fun us r h1 h2 => by rw [refL_go h1 h2, List.append_assoc]
 have HR00 : Hid (∀ us, refL c j.seed (ts ++ us) 0 = []) := fun us => rfl
 have hm256 : m ≤ 256 := by omega
 have hn256 : n ≤ 256 := by omega
 clear hs hp hc hj hn hm hM hMM hMor
 obtain ⟨R, hR⟩ : ∃ R : List Int → Nat → List Int, R = refL c j.seed := ⟨_, rfl⟩
 obtain ⟨T, hT⟩ : ∃ T : List Int → Int, T = fun us => toldZ c (ts ++ us) j.seed := ⟨_, rfl⟩
 have hTk : ∀ us, toldZ c (ts ++ us) j.seed = T us := fun us => by rw [hT]
 simp only [hTk] at HTo HBd HFd HSt HGo
 rw [← hR] at HE HR0 HSt HGo HR00
 clear hR hT hTk
 obtain ⟨sd, ap, lp, cp, pts, mo⟩ := j
 unfold JbV at HO HFu HTo hwA ⊢
 simp only at HK HO HFu HTo hwA HE ⊢
 go_enter Tryz.func56, Tryz.ntmps56
 go_wp2_with fail
 rw [← hwA]
 clear hwA
 go_loopw [2, 13] (fun u v W => ∃ (g l : Nat) (us : List Int) (F' : Nat → Prop), l ≤ M ∧ u = .pointer (some ⟨g, 0, none⟩) ∧ Hid (us.length = l) ∧ Hid (StAt W (some ⟨g, 0, none⟩) c (ts ++ us) F') ∧ Hid (∀ x, F' x → F x ∨ wA.heap.size ≤ x ∨ NotInt wA x) ∧ Hid (W.ownsRow wA.heap.size 3 1 v l (us.map (Value.int .i64))) ∧ Hid (∀ b, v.ownBlock = some b → ¬ F' b) ∧ Hid (R ts M = us ++ R (ts ++ us) (M - l)) ∧ Hid (Below wA.heap.size wA W)) (fun _ v _ => M - slen v)
 case atStart => exact ⟨g0, 0, [], F, Nat.zero_le _, rfl, rfl, HS0, fun x hx => .inl hx, World.ownsRow_nil _ _ _ _, fun b hb => by simp [Value.ownBlock] at hb, HR0, Below.refl _ _⟩
 case round =>
 obtain ⟨g, l, us, F', hus, rfl, HLl, HS, HF, HOw, HAp, HRe, HW⟩ := hrel
 rename World => wr
 clear HS0 HR0
 obtain ⟨av, cv, rfl, hrv⟩ := Reads.own (k := .i64) HOw.out
 have HRd := hid hrv
 have HNw : Hid (∀ W : World, Below wr.heap.size wr W → ∀ p, av = some p → w.heap.size ≤ p.block ∧ ∃ cur fz, W.heap[p.block]? = some (.cells cur 3 fz)) := fun W hb p hp => by
  refine ⟨Nat.le_trans HB0.out.size (World.ownsRow.lt HOw.out p.block (by rw [hp]; rfl)).1, ?_⟩
  obtain ⟨cur, hc⟩ := own_type HOw.out (o := p.block) (by rw [hp]; rfl)
  exact ⟨cur, _, block_below hc hb⟩
 have r5 := hrv.room
 have m5 := hrv.most
 clear hrv
 obtain ⟨x0, x1, x2⟩ := HK.out _ HW.out
 have hl := HLl.out
 have HFt := hid (foot_trans (F := fun x => F x ∨ mF p x) HB0.out (fun k hk => .inl (.inl hk)) HF.out)
 have hbm := HS.out.most
 have hw : IntKind.i64.wrap ((n : Int) + (l : Int)) = (n : Int) + (l : Int) := wrap_in (by omega) (by omega)
 have hEnd : R (ts ++ us) (M - l) = [] → R ts M = us := fun h => by rw [HRe.out, h, List.append_nil]
 have HEnd := hid hEnd
 replace HE := hid (HE.out us)
 rw [hl] at HE
 clear hEnd
 by_cases hA : m ≤ l
 ·have hFo := HO.out l g wr hA
  have HEq : Hid (R ts M = us) := HEnd.out (by rw [show M - l = 0 by omega]; exact HR00.out us)
  have HNo : Hid (R (ts ++ us) (m - l) = []) := by unfold Hid; rw [show m - l = 0 by omega]; exact HR00.out us
  clear HO HFu HTo HBd HFd HSt HGo HEnd HK HMor hl
  go_wp2_with fail
  refine hFo.mono ?_
  rintro e w1 ⟨rfl, hb⟩
  have HV1 := hid (HX.out _ (HW.out.trans (hb.mono HW.out.size)))
  have HRd1 := hid (HRd.out.below hb)
  have HNw1 := hid (HNw.out _ hb)
  have HS1 := hid (HS.out.below hb)
  clear hFo hb HW HRd HS x0 x1 x2
  go_wp2
  go_ret3
  exact HE.out _ _ HEq.out ⟨_, _, _, _, _, rfl, HRd1.out, HS1.out, HFt.out, fun _ => HNo.out, (fun h => by cases h), HV1.out, HNw1.out⟩
 by_cases hB : (ts ++ us).length = 256
 ·have hFo := HFu.out l g us F' wr (by omega) HS.out hB
  have HEq : Hid (R ts M = us) := HEnd.out (HSt.out us _ (.inl (by omega)))
  have HNo : Hid (R (ts ++ us) (m - l) = []) := HSt.out us _ (.inl (by omega))
  clear HO HFu HTo HBd HFd HSt HGo HEnd HK HMor hl hB
  go_wp2_with fail
  refine hFo.mono ?_
  rintro e w1 ⟨rfl, hb⟩
  have HV1 := hid (HX.out _ (HW.out.trans (hb.mono HW.out.size)))
  have HRd1 := hid (HRd.out.below hb)
  have HNw1 := hid (HNw.out _ hb)
  have HS1 := hid (HS.out.below hb)
  clear hFo hb HW HRd HS x0 x1 x2
  go_wp2
  go_ret3
  exact HE.out _ _ HEq.out ⟨_, _, _, _, _, rfl, HRd1.out, HS1.out, HFt.out, fun _ => HNo.out, (fun h => by cases h), HV1.out, HNw1.out⟩
 have hB2 : (ts ++ us).length < 256 := by omega
 have hFo := HTo.out l g us F' wr (by omega) HS.out hB2
 by_cases h0 : T us = 0
 ·have HEq : Hid (R ts M = us) := HEnd.out (HSt.out us _ (.inr h0))
  have HNo : Hid (R (ts ++ us) (m - l) = []) := HSt.out us _ (.inr h0)
  rw [decide_eq_true h0, Bool.not_true] at hFo
  clear HO HFu HTo HBd HFd HSt HGo HEnd HK HMor hl hB hB2 h0
  generalize T us = td at *
  go_wp2_with fail
  refine hFo.mono ?_
  rintro e w1 ⟨rfl, hb⟩
  have HV1 := hid (HX.out _ (HW.out.trans (hb.mono HW.out.size)))
  have HRd1 := hid (HRd.out.below hb)
  have HNw1 := hid (HNw.out _ hb)
  have HS1 := hid (HS.out.below hb)
  clear hFo hb HW HRd HS x0 x1 x2
  go_wp2
  go_ret3
  exact HE.out _ _ HEq.out ⟨_, _, _, _, _, rfl, HRd1.out, HS1.out, HFt.out, fun _ => HNo.out, (fun h => by cases h), HV1.out, HNw1.out⟩
 rw [decide_eq_false h0, Bool.not_false] at hFo
 by_cases hC : k ≤ l
 ·have HEq : Hid (R ts M = us) := HEnd.out (by rw [show M - l = 0 by omega]; exact HR00.out us)
  have hCi : (k : Int) ≤ (l : Int) := by omega
  have HlK : Hid (l = k) := by unfold Hid; omega
  clear HO HFu HTo HBd HFd HSt HGo HEnd HK HMor hl hB hB2 h0
  generalize T us = td at *
  go_wp2_with fail
  refine hFo.mono ?_
  rintro e w1 ⟨rfl, hb⟩
  have HV1 := hid (HX.out _ (HW.out.trans (hb.mono HW.out.size)))
  have HRd1 := hid (HRd.out.below hb)
  have HNw1 := hid (HNw.out _ hb)
  have HS1 := hid (HS.out.below hb)
  clear hFo hb HW HRd HS x0 x1 x2
  go_wp2
  go_ret3
  exact HE.out _ _ HEq.out ⟨_, _, _, _, _, rfl, HRd1.out, HS1.out, HFt.out, (fun h => by cases h), fun _ => HlK.out, HV1.out, HNw1.out⟩
 have hCi : ¬ (k : Int) ≤ (l : Int) := by omega
 have hlM : l < M := by rcases HMor.out with h | h <;> omega
 have HRn : Hid (R ts M = (us ++ [T us]) ++ R (ts ++ (us ++ [T us])) (M - (l + 1))) := by
  unfold Hid
  have e1 : M - l = (M - (l + 1)) + 1 := by omega
  rw [HRe.out, e1, HGo.out us _ hB2 h0, List.append_assoc]
  rfl
 have HFd2 := hid fun (W : World) (hS : StAt W (some ⟨g, 0, none⟩) c (ts ++ us) F') => HFd.out g us F' W hS hB2
 have HAs : Hid ((ts ++ us) ++ [T us] = ts ++ (us ++ [T us])) := List.append_assoc _ _ _
 have HLn : Hid ((us ++ [T us]).length = l + 1) := by unfold Hid; simp [hl]
 have HMp : Hid ((us ++ [T us]).map (Value.int .i64) = us.map (Value.int .i64) ++ [.int .i64 (T us)]) := by unfold Hid; simp
 rw [HAs.out] at HFd2
 clear HO HFu HTo HBd HFd HSt HGo HEnd HK HMor hl hB hB2 h0 HE HRe HFt HAs hbm
 generalize us ++ [T us] = vs at *
 generalize T us = td at *
 go_wp2_with fail
 refine hFo.mono ?_
 rintro e w1 ⟨rfl, hb⟩
 have HS1 := hid (HS.out.below hb)
 have HO1 := hid (own_below HOw.out hb)
 have HW1 := hid (HW.out.trans (hb.mono HW.out.size))
 clear hFo hb HW HRd HS x0 x1 x2 HOw
 go_wp2_with fail
 refine (HFd2.out _ HS1.out).mono ?_
 rintro e w2 ⟨g2, F2, rfl, hS2, hF2, hb⟩
 have HS2 := hid hS2
 have HF2 := hid (foot_trans HW1.out HF.out hF2)
 have HA2 : Hid (∀ b, (Value.slice av l cv).ownBlock = some b → ¬ F2 b) := fun b hb' hx => by
  rcases hF2 b hx with h | h | h
  ·exact HAp.out b hb' h
  ·have := (HO1.out.lt b hb').2
   omega
  ·exact NotInt.own HO1.out hb' h
 have HAl : Hid (Below w2.heap.size w2 (w2.alloc (.cells #[.int .i64 td] 3))) := (Below.refl _ _).alloc (Nat.le_refl _) _
 have HO2 := hid (own_below (own_below HO1.out hb) HAl.out)
 have HW2 := hid (HW1.out.trans (hb.mono HW1.out.size))
 have HW3 := hid (HW2.out.trans (HAl.out.mono HW2.out.size))
 have HSz := hid HW3.out.size
 have hc1 := cell_new1 w2 (.int .i64 td) 3
 clear hS2 hF2 hb HS1 HF HO1 HW1 HAp HFd2
 go_wp2_with (at_builtin; refine append_one2 _ rfl (.tmp 44) (.tmp 46) 41 rfl wA.heap.size 3 i0 (.int .i64 0) 8 Tryz.underlying41 hi hz0 hz1 hz2 rfl (by decide) _ l (us.map (Value.int .i64)) rfl HO2.out (by omega) w2.heap.size (.int .i64 td) rfl rfl hc1 HSz.out ?_; intro v5 w5 hO5 hg5 hm5)
 obtain ⟨hS5, hA5⟩ := HS2.out.grown HAl.out hg5 hm5 HA2.out
 have HS5 := hid hS5
 have HA5 := hid hA5
 have HO5 : Hid (w5.ownsRow wA.heap.size 3 1 v5 (l + 1) (vs.map (Value.int .i64))) := by unfold Hid; rw [HMp.out]; exact hO5
 have HW5 : Hid (Below wA.heap.size wA w5) := HW3.out.grown hg5 HSz.out fun b hb' => (HO2.out.lt b hb').1
 have HSl : Hid (slen v5 = l + 1) := own_slen hO5
 clear hO5 hg5 hm5 hS5 hA5 HS2 HA2 HAl HO2 HW2 HW3 HSz hc1
 go_wp2_with fail
 go_round
 case rel => exact ⟨g2, l + 1, vs, F2, by omega, rfl, HLn, HS5, HF2, HO5, HA5, HRn, HW5⟩
 case measure => rw [HSl.out]; simp only [slen]; omega
end Go.Proofs.YtjgggialnegddaaGreat
