/-
  The texts StKeep, KvWant, KvTree, DeCons of this proof.
-/
import Derived.Test.YtjgggialnegddaaGreatPn33
import Derived.Test.YtjgggialnegddaaGreatPn02
import Derived.Test.YtjgggialnegddaaGreatPn03
import Derived.Test.YtjgggialnegddaaGreatPn06
import Derived.Test.YtjgggialnegddaaGreatPn18
set_option linter.unusedVariables false
set_option maxRecDepth 1000000
namespace Go.Proofs.YtjgggialnegddaaGreat
open Go.RowKit
def KpL (W W' : World) : Prop := ∀ (k : Nat) (cur : Array Value) (t : TypeId) (fz : Nat × Nat), W.heap[k]? = some (.cells cur t fz) → (t = 2 ∨ t = 131 ∨ t = 229 ∨ t = 226 ∨ t = 100 ∨ t = 181) → W'.heap[k]? = some (.cells cur t fz)
theorem KpL.of {W W' : World} (h : Below W.heap.size W W') : KpL W W' := fun k cur t fz h1 _ => (h.block k (lt_of_block h1)).trans h1
theorem KpL.fb {F : Nat → Prop} {W W' : World} (h : Fb F W W') (hF : ∀ k cur t fz, F k → W.heap[k]? = some (.cells cur t fz) → ¬ (t = 2 ∨ t = 131 ∨ t = 229 ∨ t = 226 ∨ t = 100 ∨ t = 181)) : KpL W W' := fun k cur t fz h1 h2 => h.one h1 fun hf => hF k cur t fz hf h1 h2
theorem Reads.keepL {W W' : World} {a : Option Addr} {l c : Nat} {zs : List Int} (hr : Reads .i64 W a l c zs) (h5 : BlI W a) (hk : KpL W W') : Reads .i64 W' a l c zs ∧ BlI W' a := by
 have key : ∀ p, a = some p → W'.heap[p.block]? = W.heap[p.block]? := by
  intro p hp
  obtain ⟨cur, fz, hc⟩ := h5 p hp
  rw [hc]
  exact hk _ _ _ _ hc (.inl rfl)
 refine ⟨hr.blk key, fun p hp => ?_⟩
 obtain ⟨cur, fz, hc⟩ := h5 p hp
 exact ⟨cur, fz, (key p hp).trans hc⟩
theorem TbH.keepL {W W' : World} {h : Hd} {ls : List (List Int)} (k : TbH W h ls) (hk : KpL W W') : TbH W' h ls := by
 obtain ⟨h1, hs, h2, h3, h4⟩ := k
 have key : ∀ p, h.1 = some p → W'.heap[p.block]? = W.heap[p.block]? := by
  intro p hp
  obtain ⟨cur, fz, hc⟩ := h3 p hp
  rw [hc]
  exact hk _ _ _ _ hc (.inr (.inl rfl))
 refine ⟨h1, hs, ⟨⟨h2.rd.size, h2.rd.room, h2.rd.most, h2.rd.bare, fun i hi => ?_⟩, fun i hi => (Reads.keepL (h2.rows i hi) (h4 i hi) hk).1, h2.short⟩, fun p hp => ?_, fun i hi => (Reads.keepL (h2.rows i hi) (h4 i hi) hk).2⟩
 ·obtain ⟨b, off, ha, hc⟩ := h2.rd.cell i hi
  exact ⟨b, off, ha, (World.cell?_of_block (a := ⟨b, off + i, none⟩) (key ⟨b, off, none⟩ ha)).trans hc⟩
 ·obtain ⟨cur, fz, hc⟩ := h3 p hp
  exact ⟨cur, fz, (key p hp).trans hc⟩
theorem MemAt.keepL {W W' : World} {p : Option Addr} {M : List KV} (h : MemAt W p M) (hk : KpL W W') : MemAt W' p M := by
 rcases h with h | ⟨B, g, ps, hp, h⟩
 ·exact .inl h
 ·obtain ⟨cur, hc⟩ := h.own.blk
  exact .inr ⟨B, g, ps, hp, hk _ _ _ _ h.var (by decide), own_same h.own ((hk _ _ _ _ hc (by decide)).trans hc.symm), fun i hi => ⟨(h.rows i hi).1.keepL hk, (h.rows i hi).2.keepL hk⟩⟩
theorem MdAt.keepL {W W' : World} {p : Option Addr} {c : Cf} (h : MdAt W p c) (hk : KpL W W') : MdAt W' p c := by
 rcases h with h | ⟨g, hp, hg⟩
 ·exact .inl h
 ·exact .inr ⟨g, hp, hk _ _ _ _ hg (by decide)⟩
theorem StIn.keepL {W W' : World} {g : Nat} {pm ta : Option Addr} {tc : Nat} {ha : Option Addr} {hc : Nat} {pq : Option Addr} {c : Cf} {ts : List Int} (h : StIn W g pm ta tc ha hc pq c ts) (hk : KpL W W') (hb : ∀ x, mF ta x → W'.heap[x]? = W.heap[x]?) : StIn W' g pm ta tc ha hc pq c ts :=
 ⟨hk _ _ _ _ h.var (by decide), h.md.keepL hk, h.tk.same hb, h.mks.keepL hk, h.mem.keepL hk, fun p hp => by
  obtain ⟨cur, fz, hc⟩ := h.bl p hp
  exact ⟨cur, fz, (hb _ ⟨p, hp, rfl⟩).trans hc⟩⟩
def StT (W : World) (q : Option Addr) (c : Cf) (ts : List Int) (ta : Option Addr) : Prop := ∃ (g : Nat) (pm : Option Addr) (tc : Nat) (ha : Option Addr) (hc : Nat) (pq : Option Addr), q = some ⟨g, 0, none⟩ ∧ StIn W g pm ta tc ha hc pq c ts ∧ BlN W ta ∧ 1 ≤ ts.length ∧ ts.length ≤ 256
theorem StT.keep {W W' : World} {q : Option Addr} {c : Cf} {ts : List Int} {ta : Option Addr} (h : StT W q c ts ta) (hk : KpL W W') (hb : ∀ x, mF ta x → W'.heap[x]? = W.heap[x]?) : StT W' q c ts ta := by
 obtain ⟨g, pm, tc, ha, hc, pq, h1, h2, h3, h4⟩ := h
 refine ⟨g, pm, tc, ha, hc, pq, h1, h2.keepL hk hb, fun p hp => ?_, h4⟩
 obtain ⟨cur, fz, hc⟩ := h3 p hp
 exact ⟨cur, fz, (hb _ ⟨p, hp, rfl⟩).trans hc⟩
end Go.Proofs.YtjgggialnegddaaGreat
namespace Go.Proofs.YtjgggialnegddaaGreat
open Go.RowKit
def DocB (W : World) (k : Nat) : Prop := ∃ cur t fz, W.heap[k]? = some (.cells cur t fz) ∧ (t = 73 ∨ t = 106 ∨ t = 22)
end Go.Proofs.YtjgggialnegddaaGreat
namespace Go.Proofs.YtjgggialnegddaaGreat
open Go.RowKit Go.Maps
def Tk (ts : List Int) : Prop := ∀ x ∈ ts, -9223372036854775808 ≤ x ∧ x ≤ 9223372036854775807
theorem Tk.take {ts : List Int} (h : Tk ts) (n : Nat) : Tk (ts.take n) := fun x hx => h x (List.mem_of_mem_take hx)
theorem Tk.drop {ts : List Int} (h : Tk ts) (n : Nat) : Tk (ts.drop n) := fun x hx => h x (List.mem_of_mem_drop hx)
theorem Tk.key {ts : List Int} (h : Tk ts) (hl : ts.length ≤ 16) : ∃ l, kOf (keyV ts) = some l := keyV_key hl h
def ndC (ah : Option Addr) (ch : List Int) (mb : Nat) (st : Option Addr) (pg us : Int) : Array Value :=
 (Value.pointer ah :: ((padL ch).map (Value.int .i64) ++ [.map (some mb), .pointer st, .int .i64 pg, .int .u64 us])).toArray
def NdAt (W : World) (b : Nat) (ah : Option Addr) (ch : List Int) (mb : Nat) (st : Option Addr) (pg us : Int) : Prop := W.heap[b]? = some (.cells (ndC ah ch mb st pg us) 124 (0, 0))
theorem NdAt.cells {W : World} {b : Nat} {ah : Option Addr} {ch : List Int} {mb : Nat} {st : Option Addr} {pg us : Int} (h : NdAt W b ah ch mb st pg us) (hc : ch.length ≤ 16) :
  W.cell? ⟨b, 0, none⟩ = some (.pointer ah) ∧ W.cell? ⟨b, 17, none⟩ = some (.map (some mb)) ∧ W.cell? ⟨b, 18, none⟩ = some (.pointer st) ∧ W.cell? ⟨b, 19, none⟩ = some (.int .i64 pg) ∧ W.cell? ⟨b, 20, none⟩ = some (.int .u64 us) := by
 obtain ⟨p0, p1, p2, p3, p4, p5, p6, p7, p8, p9, p10, p11, p12, p13, p14, p15, hps⟩ := list16 (padL_len hc)
 unfold NdAt ndC at h
 rw [hps] at h
 refine ⟨?_, ?_, ?_, ?_, ?_⟩ <;> (rw [cell_of_row _ _ _ _ _ _ h]; rfl)
theorem NdAt.by {W : World} {b : Nat} {ah : Option Addr} {ch : List Int} {mb : Nat} {st : Option Addr} {pg us : Int} (h : NdAt W b ah ch mb st pg us) {p0 p1 p2 p3 p4 p5 p6 p7 p8 p9 p10 p11 p12 p13 p14 p15 : Int} (hps : padL ch = [p0, p1, p2, p3, p4, p5, p6, p7, p8, p9, p10, p11, p12, p13, p14, p15]) :
  W.cell? ⟨b, 1, none⟩ = some (.int .i64 p0) ∧ W.cell? ⟨b, 2, none⟩ = some (.int .i64 p1) ∧ W.cell? ⟨b, 3, none⟩ = some (.int .i64 p2) ∧ W.cell? ⟨b, 4, none⟩ = some (.int .i64 p3) ∧ W.cell? ⟨b, 5, none⟩ = some (.int .i64 p4) ∧ W.cell? ⟨b, 6, none⟩ = some (.int .i64 p5) ∧ W.cell? ⟨b, 7, none⟩ = some (.int .i64 p6) ∧ W.cell? ⟨b, 8, none⟩ = some (.int .i64 p7) ∧ W.cell? ⟨b, 9, none⟩ = some (.int .i64 p8) ∧ W.cell? ⟨b, 10, none⟩ = some (.int .i64 p9) ∧ W.cell? ⟨b, 11, none⟩ = some (.int .i64 p10) ∧ W.cell? ⟨b, 12, none⟩ = some (.int .i64 p11) ∧ W.cell? ⟨b, 13, none⟩ = some (.int .i64 p12) ∧ W.cell? ⟨b, 14, none⟩ = some (.int .i64 p13) ∧ W.cell? ⟨b, 15, none⟩ = some (.int .i64 p14) ∧ W.cell? ⟨b, 16, none⟩ = some (.int .i64 p15) := by
 unfold NdAt ndC at h
 rw [hps] at h
 refine ⟨?_, ?_, ?_, ?_, ?_, ?_, ?_, ?_, ?_, ?_, ?_, ?_, ?_, ?_, ?_, ?_⟩ <;> (rw [cell_of_row _ _ _ _ _ _ h]; rfl)
theorem NdAt.set {W : World} {b : Nat} {ah : Option Addr} {ch : List Int} {mb : Nat} {st : Option Addr} {pg us : Int} (h : NdAt W b ah ch mb st pg us) (hc : ch.length ≤ 16) (u : Int) : NdAt (W.setCell ⟨b, 20, none⟩ (.int .u64 u)) b ah ch mb st pg u := by
 obtain ⟨p0, p1, p2, p3, p4, p5, p6, p7, p8, p9, p10, p11, p12, p13, p14, p15, hps⟩ := list16 (padL_len hc)
 unfold NdAt ndC at h ⊢
 rw [hps] at h ⊢
 have := row_set (k := 20) (u := .int .u64 u) h
 simpa using this
theorem NdAt.frozen {W : World} {b : Nat} {ah : Option Addr} {ch : List Int} {mb : Nat} {st : Option Addr} {pg us : Int} (h : NdAt W b ah ch mb st pg us) (k : Nat) : W.frozen? ⟨b, k, none⟩ = false := frozen_of_row _ _ k _ _ h
def InT (T : List (List Int)) (x : List Int) : Prop := x = [] ∨ x ∈ T
noncomputable def chF (T : List (List Int)) (nd : List Int → Nat) (sz : Nat) (x : List Int) (v : Value) : Option Nat :=
 open Classical in if h : ∃ ch : List Int, ch.length = sz ∧ v = keyV ch ∧ x ++ ch ∈ T then some (nd (x ++ h.choose)) else none
theorem chF_iff {T : List (List Int)} {nd : List Int → Nat} {sz : Nat} {x : List Int} {v : Value} {b : Nat} : chF T nd sz x v = some b ↔ ∃ ch : List Int, ch.length = sz ∧ v = keyV ch ∧ x ++ ch ∈ T ∧ nd (x ++ ch) = b := by
 unfold chF
 constructor
 ·intro h
  split at h
  ·rename_i hex
   cases h
   exact ⟨_, hex.choose_spec.1, hex.choose_spec.2.1, hex.choose_spec.2.2, rfl⟩
  ·cases h
 ·rintro ⟨ch, h1, h2, h3, h4⟩
  have hex : ∃ ch : List Int, ch.length = sz ∧ v = keyV ch ∧ x ++ ch ∈ T := ⟨ch, h1, h2, h3⟩
  rw [dif_pos hex]
  have hs := hex.choose_spec
  rw [keyV_inj (by rw [h1, hs.1]) (hs.2.1.symm.trans h2), h4]
theorem chF_yes {T : List (List Int)} {nd : List Int → Nat} {sz : Nat} {x ch : List Int} (hc : ch.length = sz) (h : x ++ ch ∈ T) : chF T nd sz x (keyV ch) = some (nd (x ++ ch)) := chF_iff.2 ⟨ch, hc, rfl, h, rfl⟩
theorem chF_no {T : List (List Int)} {nd : List Int → Nat} {sz : Nat} {x ch : List Int} (hc : ch.length = sz) (h : x ++ ch ∉ T) : chF T nd sz x (keyV ch) = none := by
 cases hf : chF T nd sz x (keyV ch) with
 | none => rfl
 | some b =>
  obtain ⟨ch', h1, h2, h3, _⟩ := chF_iff.1 hf
  rw [keyV_inj (by rw [hc, h1]) h2] at h
  exact absurd h3 h
theorem chF_ext {T T' : List (List Int)} {nd nd' : List Int → Nat} {sz : Nat} {x : List Int} {v : Value} (h : ∀ ch : List Int, ch.length = sz → v = keyV ch → (x ++ ch ∈ T ↔ x ++ ch ∈ T') ∧ (x ++ ch ∈ T → nd (x ++ ch) = nd' (x ++ ch))) : chF T nd sz x v = chF T' nd' sz x v := by
 apply Option.ext
 intro b
 show chF T nd sz x v = some b ↔ chF T' nd' sz x v = some b
 rw [chF_iff, chF_iff]
 constructor
 ·rintro ⟨ch, h1, h2, h3, h4⟩
  obtain ⟨k1, k2⟩ := h ch h1 h2
  exact ⟨ch, h1, h2, k1.1 h3, (k2 h3).symm.trans h4⟩
 ·rintro ⟨ch, h1, h2, h3, h4⟩
  obtain ⟨k1, k2⟩ := h ch h1 h2
  exact ⟨ch, h1, h2, k1.2 h3, (k2 (k1.2 h3)).trans h4⟩
theorem chF_none {T : List (List Int)} {nd : List Int → Nat} {sz : Nat} {x : List Int} (h : ∀ ch : List Int, ch.length = sz → x ++ ch ∉ T) (v : Value) : chF T nd sz x v = none := by
 cases hf : chF T nd sz x v with
 | none => rfl
 | some b =>
  obtain ⟨ch, h1, _, h3, _⟩ := chF_iff.1 hf
  exact absurd h3 (h ch h1)
def ahP (nd : List Int → Nat) (sz : Nat) (x : List Int) : Option Addr := if x = [] then none else some ⟨nd (x.take (x.length - sz)), 0, none⟩
def byL (sz : Nat) (x : List Int) : List Int := x.drop (x.length - sz)
theorem byL_len (sz : Nat) (x : List Int) : (byL sz x).length ≤ sz := by unfold byL; rw [List.length_drop]; omega
theorem byL_app {sz : Nat} {x ch : List Int} (h : ch.length = sz) : byL sz (x ++ ch) = ch := by
 unfold byL
 rw [List.length_append, h, Nat.add_sub_cancel, List.drop_left]
theorem ahP_app {nd : List Int → Nat} {sz : Nat} {x ch : List Int} (h : ch.length = sz) (hz : 1 ≤ sz) : ahP nd sz (x ++ ch) = some ⟨nd x, 0, none⟩ := by
 unfold ahP
 rw [if_neg (fun e => by have := congrArg List.length e; rw [List.length_append, h, List.length_nil] at this; omega), List.length_append, h, Nat.add_sub_cancel, List.take_left]
structure TrAt (W : World) (sz mx : Nat) (T : List (List Int)) (nd mp : List Int → Nat) (st : List Int → Option Addr) (pgs us : List Int → Int) : Prop where
 node : ∀ x, InT T x → NdAt W (nd x) (ahP nd sz x) (byL sz x) (mp x) (st x) (pgs x) (us x)
 map : ∀ x, InT T x → MvAt W (mp x) mx (chF T nd sz x)
 ndi : ∀ x y, InT T x → InT T y → nd x = nd y → x = y
 mpi : ∀ x y, InT T x → InT T y → mp x = mp y → x = y
theorem TrAt.same {W W' : World} {sz mx : Nat} {T : List (List Int)} {nd mp : List Int → Nat} {st : List Int → Option Addr} {pgs us : List Int → Int} (h : TrAt W sz mx T nd mp st pgs us) (hk : ∀ x, InT T x → W'.heap[nd x]? = W.heap[nd x]? ∧ W'.heap[mp x]? = W.heap[mp x]?) : TrAt W' sz mx T nd mp st pgs us :=
 ⟨fun x hx => (hk x hx).1.trans (h.node x hx), fun x hx => (h.map x hx).same (hk x hx).2, h.ndi, h.mpi⟩
structure Lay where
 Fp : Nat → Prop
 hs : List Int
 vs : List Value
 mx : Nat
 nd : List Int → Nat
 mp : List Int → Nat
 st : List Int → Option Addr
 ta : List Int → Option Addr
 pgs : List Int → Int
 us : List Int → Int
structure KvB (W : World) (B bb r : Nat) (pp : Option Addr) (L : Lay) (c : Cf) (pg sz : Nat) (tm : Int) (T : List (List Int)) : Prop where
 var : W.heap[B]? = some (.cells #[.int .i64 sz, .pointer pp, .pointer (some ⟨r, 0, none⟩), .slice (some ⟨bb, 0, none⟩) pg pg, .int .u64 tm] 116 (0, 0))
 root : L.nd [] = r
 pool : PgAt W pp L.hs L.Fp
 hsl : L.hs.length = pg
 held : ∀ k : Nat, k < pg → (L.hs[k]?.getD 0 = 0 ∧ ∀ x ∈ T, L.pgs x ≠ k) ∨ (L.hs[k]?.getD 0 = 1 ∧ ∃ x ∈ T, L.pgs x = k)
 pgb : ∀ x ∈ T, 0 ≤ L.pgs x ∧ L.pgs x < pg
 pgi : ∀ x ∈ T, ∀ y ∈ T, L.pgs x = L.pgs y → x = y
 row : W.ownsRow 0 113 1 (.slice (some ⟨bb, 0, none⟩) pg pg) pg L.vs
 at' : ∀ x ∈ T, L.vs[(L.pgs x).toNat]? = some (.pointer (some ⟨L.nd x, 0, none⟩))
 tree : TrAt W sz L.mx T L.nd L.mp L.st L.pgs L.us
 sts : ∀ x ∈ T, StT W (L.st x) c x (L.ta x) ∧ ∀ k, mF (L.ta x) k → ¬ L.Fp k
 tok : ∀ x ∈ T, Tk x
def ftB (B bb : Nat) (L : Lay) (T : List (List Int)) (k : Nat) : Prop := k = B ∨ k = bb ∨ L.Fp k ∨ ∃ x, InT T x ∧ (k = L.nd x ∨ k = L.mp x)
theorem PgAt.kind {W : World} {p : Option Addr} {hs : List Int} {F : Nat → Prop} (h : PgAt W p hs F) {k : Nat} (hk : F k) : ∃ cur t fz, W.heap[k]? = some (.cells cur t fz) ∧ (t = 156 ∨ t = 3) := by
 obtain ⟨B, b, g, n, fs, rfl, hB, rfl⟩ := h.rest
 rcases hk with rfl | rfl | rfl
 ·exact ⟨_, _, _, hB.var, .inl rfl⟩
 ·obtain ⟨cur, hc⟩ := own_type hB.own (o := k) rfl
  exact ⟨_, _, _, hc, .inr rfl⟩
 ·obtain ⟨cur, hc⟩ := own_type hB.row (o := k) rfl
  exact ⟨_, _, _, hc, .inr rfl⟩
theorem MvAt.blk {W : World} {B n : Nat} {f : Value → Option Nat} (h : MvAt W B n f) : ∃ es clock, W.heap[B]? = some (.map es clock) := by
 obtain ⟨D, ⟨es, clock, h1, h2⟩, h3⟩ := h
 exact ⟨es, clock, h1⟩
section
variable {W W' : World} {B bb r : Nat} {pp : Option Addr} {L : Lay} {c : Cf} {pg sz : Nat} {tm : Int} {T : List (List Int)}
theorem KvB.rowb (h : KvB W B bb r pp L c pg sz tm T) : ∃ cur, W.heap[bb]? = some (.cells cur 113 (0, 0)) := own_type h.row (o := bb) rfl
theorem KvB.kind (h : KvB W B bb r pp L c pg sz tm T) {k : Nat} (hk : ftB B bb L T k) :
  (∃ cur t fz, W.heap[k]? = some (.cells cur t fz) ∧ (t = 116 ∨ t = 113 ∨ t = 156 ∨ t = 3 ∨ t = 124)) ∨ ∃ es clock, W.heap[k]? = some (.map es clock) := by
 rcases hk with rfl | rfl | hk | ⟨x, hx, rfl | rfl⟩
 ·exact .inl ⟨_, _, _, h.var, .inl rfl⟩
 ·obtain ⟨cur, hc⟩ := h.rowb
  exact .inl ⟨_, _, _, hc, .inr (.inl rfl)⟩
 ·obtain ⟨cur, t, fz, h1, h2⟩ := h.pool.kind hk
  rcases h2 with h2 | h2
  ·exact .inl ⟨_, _, _, h1, .inr (.inr (.inl h2))⟩
  ·exact .inl ⟨_, _, _, h1, .inr (.inr (.inr (.inl h2)))⟩
 ·exact .inl ⟨_, _, _, h.tree.node x hx, .inr (.inr (.inr (.inr rfl)))⟩
 ·exact .inr (h.tree.map x hx).blk
theorem KvB.old (h : KvB W B bb r pp L c pg sz tm T) (k : Nat) (hk : ftB B bb L T k) : k < W.heap.size := by
 rcases h.kind hk with ⟨cur, t, fz, h1, _⟩ | ⟨es, cl, h1⟩ <;> exact lt_of_block h1
theorem KvB.ints (h : KvB W B bb r pp L c pg sz tm T) {k : Nat} {cur : Array Value} {fz : Nat × Nat} (hk : ftB B bb L T k) (hc : W.heap[k]? = some (.cells cur 3 fz)) : L.Fp k := by
 rcases hk with rfl | rfl | hk | ⟨x, hx, rfl | rfl⟩
 ·rw [h.var] at hc; simp at hc
 ·obtain ⟨cur', hc'⟩ := h.rowb
  rw [hc'] at hc; simp at hc
 ·exact hk
 ·rw [show W.heap[L.nd x]? = _ from h.tree.node x hx] at hc; simp at hc
 ·obtain ⟨es, cl, hm⟩ := (h.tree.map x hx).blk
  rw [hm] at hc; simp at hc
theorem KvB.ndFp (h : KvB W B bb r pp L c pg sz tm T) {x : List Int} (hx : InT T x) : ¬ L.Fp (L.nd x) := fun hk => by
 obtain ⟨cur, t, fz, h1, h2⟩ := h.pool.kind hk
 rw [show W.heap[L.nd x]? = _ from h.tree.node x hx] at h1
 simp at h1
 rcases h2 with h2 | h2 <;> (rw [h2] at h1; simp at h1)
theorem KvB.mpFp (h : KvB W B bb r pp L c pg sz tm T) {x : List Int} (hx : InT T x) : ¬ L.Fp (L.mp x) := fun hk => by
 obtain ⟨cur, t, fz, h1, h2⟩ := h.pool.kind hk
 obtain ⟨es, cl, hm⟩ := (h.tree.map x hx).blk
 rw [hm] at h1
 simp at h1
theorem KvB.ndmp (h : KvB W B bb r pp L c pg sz tm T) {x y : List Int} (hx : InT T x) (hy : InT T y) : L.nd x ≠ L.mp y := fun e => by
 obtain ⟨es, cl, hm⟩ := (h.tree.map y hy).blk
 rw [← e, show W.heap[L.nd x]? = _ from h.tree.node x hx] at hm
 simp at hm
theorem KvB.Bnd (h : KvB W B bb r pp L c pg sz tm T) {x : List Int} (hx : InT T x) : L.nd x ≠ B := fun e => by
 have := h.tree.node x hx
 unfold NdAt at this
 rw [e, h.var] at this
 simp at this
theorem KvB.Bmp (h : KvB W B bb r pp L c pg sz tm T) {x : List Int} (hx : InT T x) : L.mp x ≠ B := fun e => by
 obtain ⟨es, cl, hm⟩ := (h.tree.map x hx).blk
 rw [e, h.var] at hm
 simp at hm
theorem KvB.BFp (h : KvB W B bb r pp L c pg sz tm T) : ¬ L.Fp B := fun hk => by
 obtain ⟨cur, t, fz, h1, h2⟩ := h.pool.kind hk
 rw [h.var] at h1
 simp at h1
 rcases h2 with h2 | h2 <;> (rw [h2] at h1; simp at h1)
theorem KvB.bbB (h : KvB W B bb r pp L c pg sz tm T) : bb ≠ B := fun e => by
 obtain ⟨cur, hc⟩ := h.rowb
 rw [e, h.var] at hc
 simp at hc
theorem KvB.bbFp (h : KvB W B bb r pp L c pg sz tm T) : ¬ L.Fp bb := fun hk => by
 obtain ⟨cur, t, fz, h1, h2⟩ := h.pool.kind hk
 obtain ⟨cur', hc⟩ := h.rowb
 rw [hc] at h1
 simp at h1
 rcases h2 with h2 | h2 <;> (rw [h2] at h1; simp at h1)
theorem KvB.bbnd (h : KvB W B bb r pp L c pg sz tm T) {x : List Int} (hx : InT T x) : L.nd x ≠ bb := fun e => by
 obtain ⟨cur, hc⟩ := h.rowb
 rw [← e, show W.heap[L.nd x]? = _ from h.tree.node x hx] at hc
 simp at hc
theorem KvB.bbmp (h : KvB W B bb r pp L c pg sz tm T) {x : List Int} (hx : InT T x) : L.mp x ≠ bb := fun e => by
 obtain ⟨cur, hc⟩ := h.rowb
 obtain ⟨es, cl, hm⟩ := (h.tree.map x hx).blk
 rw [← e, hm] at hc
 simp at hc
theorem KvB.kpl (h : KvB W B bb r pp L c pg sz tm T) {G : Nat → Prop} (hb : Fb G W W') (hG : ∀ k, G k → ftB B bb L T k ∨ W.heap.size ≤ k) : KpL W W' := by
 refine KpL.fb hb fun k cur t fz hk hc ht => ?_
 rcases hG k hk with hk | hk
 ·rcases h.kind hk with ⟨cur', t', fz', h1, h2⟩ | ⟨es, cl, h1⟩
  ·rw [hc] at h1
   simp at h1
   obtain ⟨_, rfl, _⟩ := h1
   rcases h2 with h2 | h2 | h2 | h2 | h2 <;> (rw [h2] at ht; simp at ht)
  ·rw [hc] at h1
   simp at h1
 ·have := lt_of_block hc
  omega
theorem KvB.taft (h : KvB W B bb r pp L c pg sz tm T) {q : Option Addr} {ts : List Int} {ta : Option Addr} (hs : StT W q c ts ta) (hF : ∀ k, mF ta k → ¬ L.Fp k) {k : Nat} (hk : mF ta k) : ¬ ftB B bb L T k := fun hf => by
 obtain ⟨g, pm, tc, ha, hc, pq, h1, h2, h3, h4⟩ := hs
 obtain ⟨a, rfl, rfl⟩ := hk
 obtain ⟨cur, fz, hcur⟩ := h3 a rfl
 exact hF _ ⟨a, rfl, rfl⟩ (h.ints hf hcur)
theorem StT.fbF (h : KvB W B bb r pp L c pg sz tm T) {G : Nat → Prop} (hb : Fb G W W') (hG : ∀ k, G k → ftB B bb L T k ∨ W.heap.size ≤ k) {q : Option Addr} {ts : List Int} {ta : Option Addr} (hs : StT W q c ts ta) (hF : ∀ k, mF ta k → ¬ L.Fp k) : StT W' q c ts ta := by
 refine hs.keep (h.kpl hb hG) fun k hk => ?_
 have hlt : k < W.heap.size := by
  obtain ⟨g, pm, tc, ha, hc, pq, h1, h2, h3, h4⟩ := id hs
  obtain ⟨a, rfl, rfl⟩ := hk
  obtain ⟨cur, fz, hcur⟩ := h3 a rfl
  exact lt_of_block hcur
 exact hb.block k hlt fun hg => by
  rcases hG k hg with h' | h'
  ·exact h.taft hs hF hk h'
  ·omega
theorem KvB.fb {G : Nat → Prop} (h : KvB W B bb r pp L c pg sz tm T) (hb : Fb G W W') (hG : ∀ k, ftB B bb L T k → ¬ G k) (hk : KpL W W') (hi : ∀ k cur fz, G k → ¬ W.heap[k]? = some (.cells cur 3 fz)) : KvB W' B bb r pp L c pg sz tm T := by
 have hone : ∀ k, ftB B bb L T k → W'.heap[k]? = W.heap[k]? := fun k hk => hb.block k (h.old k hk) (hG k hk)
 refine ⟨(hone B (.inl rfl)).trans h.var, h.root, h.pool.fb hb fun k hk => hG k (.inr (.inr (.inl hk))), h.hsl, h.held, h.pgb, h.pgi, own_blk h.row fun b hb' => ?_, h.at', h.tree.same fun x hx => ⟨hone _ (.inr (.inr (.inr ⟨x, hx, .inl rfl⟩))), hone _ (.inr (.inr (.inr ⟨x, hx, .inr rfl⟩)))⟩, fun x hx => ⟨?_, (h.sts x hx).2⟩, h.tok⟩
 ·cases hb'
  exact hone bb (.inr (.inl rfl))
 ·have hs := (h.sts x hx).1
  refine hs.keep hk fun k hk => ?_
  obtain ⟨g, pm, tc, ha, hc, pq, h1, h2, h3, h4⟩ := id hs
  obtain ⟨a, e, rfl⟩ := hk
  obtain ⟨cur, fz, hcur⟩ := h3 a e
  exact hb.block _ (lt_of_block hcur) fun hg => hi _ _ _ hg hcur
theorem KvB.below (h : KvB W B bb r pp L c pg sz tm T) (hb : Below W.heap.size W W') : KvB W' B bb r pp L c pg sz tm T :=
 h.fb (G := fun _ => False) (Fb.of hb) (fun _ _ hk => hk) (KpL.of hb) (fun _ _ _ hk => hk.elim)
theorem KvB.cells (h : KvB W B bb r pp L c pg sz tm T) : W.cell? ⟨B, 0, none⟩ = some (.int .i64 sz) ∧ W.cell? ⟨B, 1, none⟩ = some (.pointer pp) ∧ W.cell? ⟨B, 2, none⟩ = some (.pointer (some ⟨r, 0, none⟩)) ∧ W.cell? ⟨B, 3, none⟩ = some (.slice (some ⟨bb, 0, none⟩) pg pg) ∧ W.cell? ⟨B, 4, none⟩ = some (.int .u64 tm) := by
 refine ⟨?_, ?_, ?_, ?_, ?_⟩ <;> (rw [cell_of_row _ _ _ _ _ _ h.var]; rfl)
theorem KvB.ncells (h : KvB W B bb r pp L c pg sz tm T) (hz : sz ≤ 16) {x : List Int} (hx : InT T x) :
  W.cell? ⟨L.nd x, 0, none⟩ = some (.pointer (ahP L.nd sz x)) ∧ W.cell? ⟨L.nd x, 17, none⟩ = some (.map (some (L.mp x))) ∧ W.cell? ⟨L.nd x, 18, none⟩ = some (.pointer (L.st x)) ∧ W.cell? ⟨L.nd x, 19, none⟩ = some (.int .i64 (L.pgs x)) ∧ W.cell? ⟨L.nd x, 20, none⟩ = some (.int .u64 (L.us x)) :=
 (h.tree.node x hx).cells (Nat.le_trans (byL_len _ _) hz)
theorem KvB.tick (h : KvB W B bb r pp L c pg sz tm T) (u : Int) : KvB (W.setCell ⟨B, 4, none⟩ (.int .u64 u)) B bb r pp L c pg sz u T := by
 have hb : Fb (at1 B) W (W.setCell ⟨B, 4, none⟩ (.int .u64 u)) := Fb.set (by exact rfl) _
 have hG : ∀ k, at1 B k → ftB B bb L T k ∨ W.heap.size ≤ k := fun k hk => .inl (.inl hk)
 refine ⟨?_, h.root, h.pool.fb hb fun k hk e => ?_, h.hsl, h.held, h.pgb, h.pgi, own_blk h.row fun b hb' => ?_, h.at', h.tree.same fun x hx => ⟨?_, ?_⟩, fun x hx => ⟨StT.fbF h hb hG (h.sts x hx).1 (h.sts x hx).2, (h.sts x hx).2⟩, h.tok⟩
 ·have := row_set (k := 4) (u := .int .u64 u) h.var
  simpa using this
 ·have e' : k = B := e
  rw [e'] at hk
  exact h.BFp hk
 ·cases hb'
  obtain ⟨cur, hc⟩ := h.rowb
  exact hb.block _ (lt_of_block hc) fun e => h.bbB e
 ·exact hb.block _ (lt_of_block (h.tree.node x hx)) fun e => h.Bnd hx e
 ·exact hb.block _ (h.tree.map x hx).lt fun e => h.Bmp hx e
theorem KvB.use (h : KvB W B bb r pp L c pg sz tm T) (hz : sz ≤ 16) {x : List Int} (hx : InT T x) (u : Int) : KvB (W.setCell ⟨L.nd x, 20, none⟩ (.int .u64 u)) B bb r pp { L with us := fun y => if y = x then u else L.us y } c pg sz tm T := by
 have hb : Fb (at1 (L.nd x)) W (W.setCell ⟨L.nd x, 20, none⟩ (.int .u64 u)) := Fb.set (by exact rfl) _
 have hG : ∀ k, at1 (L.nd x) k → ftB B bb L T k ∨ W.heap.size ≤ k := fun k hk => .inl (.inr (.inr (.inr ⟨x, hx, .inl hk⟩)))
 refine ⟨hb.one h.var fun e => h.Bnd hx (Eq.symm e), h.root, h.pool.fb hb fun k hk e => ?_, h.hsl, h.held, h.pgb, h.pgi, own_blk h.row fun b hb' => ?_, h.at', ⟨fun y hy => ?_, fun y hy => ?_, h.tree.ndi, h.tree.mpi⟩, fun y hy => ⟨StT.fbF h hb hG (h.sts y hy).1 (h.sts y hy).2, (h.sts y hy).2⟩, h.tok⟩
 ·have e' : k = L.nd x := e
  rw [e'] at hk
  exact h.ndFp hx hk
 ·cases hb'
  obtain ⟨cur, hc⟩ := h.rowb
  exact hb.block _ (lt_of_block hc) fun e => h.bbnd hx (Eq.symm e)
 ·by_cases e : y = x
  ·subst e
   simp only [if_true]
   exact (h.tree.node y hy).set (Nat.le_trans (byL_len _ _) hz) u
  ·simp only [if_neg e]
   exact hb.one (h.tree.node y hy) fun e2 => e (h.tree.ndi y x hy hx e2)
 ·exact (h.tree.map y hy).same (hb.block _ (h.tree.map y hy).lt fun e => h.ndmp hx hy (Eq.symm e))
end
end Go.Proofs.YtjgggialnegddaaGreat
namespace Go.Proofs.YtjgggialnegddaaGreat
open Go.RowKit
def FolNo (w : World) (e : Ending) (w' : World) : Prop := e = .returned (.tuple #[.int .i64 0, .bool false]) ∧ Below w.heap.size w w'
theorem fol_out (q : Option Addr) (j : Jb) (n : Int) (w : World) (hn : n < 0 ∨ j.most ≤ n) :
  Calls Tryz.prog 80 #[.pointer q, .agg (JbV j), .int .i64 n] w fun e w' => FolNo w e w' := by
 have HB : Hid (Below w.heap.size w (w.alloc (.cells (JbV j) 43))) := (Below.refl _ _).alloc (Nat.le_refl _) _
 obtain ⟨sd, ap, lp, cp, ts, mo⟩ := j
 unfold JbV at *
 simp only at *
 by_cases h1 : n < 0
 ·clear hn
  go_enter Tryz.func80, Tryz.ntmps80
  go_wp2
  go_ret2
  exact ⟨rfl, HB.out⟩
 ·have h2 : mo ≤ n := by omega
  clear hn
  go_enter Tryz.func80, Tryz.ntmps80
  go_wp2
  go_ret2
  exact ⟨rfl, HB.out⟩
theorem fol_none (q : Option Addr) (j : Jb) (n : Int) (w : World) (h0 : 0 ≤ n) (h1 : n < j.most) (hN : ∀ W : World, Below w.heap.size w W → Calls Tryz.prog 107 #[.pointer q, .int .u64 j.seed] W fun e w' => e = .returned (.tuple #[.int .i64 0, .bool false]) ∧ Below W.heap.size W w') :
  Calls Tryz.prog 80 #[.pointer q, .agg (JbV j), .int .i64 n] w fun e w' => FolNo w e w' := by
 have HB : Hid (Below w.heap.size w (w.alloc (.cells (JbV j) 43))) := (Below.refl _ _).alloc (Nat.le_refl _) _
 have hNx := hN _ HB.out
 obtain ⟨sd, ap, lp, cp, ts, mo⟩ := j
 unfold JbV at *
 simp only at *
 have h2 : ¬ n < 0 := by omega
 have h3 : ¬ mo ≤ n := by omega
 clear hN h0 h1
 go_enter Tryz.func80, Tryz.ntmps80
 go_wp2_with fail
 refine hNx.mono ?_
 rintro e w1 ⟨rfl, hb⟩
 have HV := hid (HB.out.trans (hb.mono HB.out.size))
 clear hNx hb HB
 go_wp2
 go_ret2
 exact ⟨rfl, HV.out⟩
theorem fol_told (q : Option Addr) (j : Jb) (n td : Int) (w : World) (h0 : 0 ≤ n) (h1 : n < j.most) (hN : ∀ W : World, Below w.heap.size w W → Calls Tryz.prog 107 #[.pointer q, .int .u64 j.seed] W fun e w' => e = .returned (.tuple #[.int .i64 td, .bool true]) ∧ Below W.heap.size W w') :
  Calls Tryz.prog 80 #[.pointer q, .agg (JbV j), .int .i64 n] w fun e w' => e = .returned (.tuple #[.int .i64 td, .bool (!decide (td = 0))]) ∧ Below w.heap.size w w' := by
 have HB : Hid (Below w.heap.size w (w.alloc (.cells (JbV j) 43))) := (Below.refl _ _).alloc (Nat.le_refl _) _
 have hNx := hN _ HB.out
 obtain ⟨sd, ap, lp, cp, ts, mo⟩ := j
 unfold JbV at *
 simp only at *
 have h2 : ¬ n < 0 := by omega
 have h3 : ¬ mo ≤ n := by omega
 clear hN h0 h1
 by_cases h4 : td = 0
 ·subst h4
  rw [decide_eq_true rfl]
  go_enter Tryz.func80, Tryz.ntmps80
  go_wp2_with fail
  refine hNx.mono ?_
  rintro e w1 ⟨rfl, hb⟩
  have HV := hid (HB.out.trans (hb.mono HB.out.size))
  clear hNx hb HB
  go_wp2
  go_ret2
  exact ⟨rfl, HV.out⟩
 ·rw [decide_eq_false h4]
  have h5 : (td == 0) = false := by simp [h4]
  have h6 : (td != 0) = true := by simp [h4]
  go_enter Tryz.func80, Tryz.ntmps80
  go_wp2_with fail
  refine hNx.mono ?_
  rintro e w1 ⟨rfl, hb⟩
  have HV := hid (HB.out.trans (hb.mono HB.out.size))
  clear hNx hb HB
  go_wp2
  go_ret2
  exact ⟨rfl, HV.out⟩
def GivesD (w : World) (F0 : Nat → Prop) (c : Cf) (seed : Int) (ts : List Int) (m k : Nat) (e : Ending) (w' : World) : Prop :=
 ∃ a cap g b F, e = .returned (.tuple #[.slice a (refL c seed ts (min m k)).length cap, .pointer (some ⟨g, 0, none⟩), .bool b]) ∧ Reads .i64 w' a (refL c seed ts (min m k)).length cap (refL c seed ts (min m k)) ∧ StAt w' (some ⟨g, 0, none⟩) c (ts ++ refL c seed ts (min m k)) F ∧ (∀ k, F k → F0 k ∨ w.heap.size ≤ k ∨ NotInt w k) ∧
  (b = true → refL c seed (ts ++ refL c seed ts (min m k)) (m - (refL c seed ts (min m k)).length) = []) ∧ (b = false → (refL c seed ts (min m k)).length = k) ∧ Below w.heap.size w w' ∧ ∀ p, a = some p → w.heap.size ≤ p.block ∧ ∃ cur fz, w'.heap[p.block]? = some (.cells cur 3 fz)
theorem from_stop (p q : Option Addr) (j : Jb) (n most : Int) (w : World) (b0 : -9223372036854775808 ≤ n) (b1 : n ≤ 9223372036854775807) (hF : ∀ W : World, Below w.heap.size w W → Calls Tryz.prog 80 #[.pointer q, .agg (JbV j), .int .i64 n] W fun e w' => FolNo W e w') :
  Calls Tryz.prog 56 #[.pointer p, .agg (JbV j), .pointer q, .int .i64 n, .int .i64 most] w fun e w' => e = .returned (.tuple #[.slice none 0 0, .pointer q, .bool true]) ∧ Below w.heap.size w w' := by
 obtain ⟨wA, hwA⟩ : ∃ wA, wA = w.alloc (.cells (JbV j) 43) := ⟨_, rfl⟩
 have HB0 : Hid (Below w.heap.size w wA) := by unfold Hid; rw [hwA]; exact (Below.refl _ _).alloc (Nat.le_refl _) _
 have hFo := hF _ HB0.out
 obtain ⟨x0, x1, x2⟩ := Jb_cells (show wA.heap[w.heap.size]? = some (.cells (JbV j) 43 (0, 0)) by rw [hwA]; exact heap_alloc_new w _)
 obtain ⟨sd, ap, lp, cp, ts, mo⟩ := j
 unfold JbV at *
 simp only at *
 have hw : wrap64 n = n := by unfold wrap64; omega
 clear hF
 go_enter Tryz.func56, Tryz.ntmps56
 go_wp2_with fail
 rw [← hwA]
 clear hwA
 go_loopw [2, 13] (fun u v W => u = .pointer q ∧ v = .slice none 0 0 ∧ Hid (W = wA)) (fun _ _ _ => 0)
 case atStart => exact ⟨rfl, rfl, rfl⟩
 case round =>
 obtain ⟨rfl, rfl, HW⟩ := hrel
 have hW := HW.out
 subst hW
 clear HW
 go_wp2_with fail
 refine hFo.mono ?_
 rintro e w1 ⟨rfl, hb⟩
 have HV := hid (HB0.out.trans (hb.mono HB0.out.size))
 clear hFo hb HB0 x0 x1 x2
 go_wp2
 go_ret3
 exact ⟨rfl, HV.out⟩
set_option maxHeartbeats 2000000 in
theorem dfrom_go {F : Nat → Prop} (p q : Option Addr) (c : Cf) (j : Jb) (ts : List Int) (n k m : Nat) (w : World) (hp : MdAt w p c) (hc : mayB c = true) (hj : JbIn w j) (hs : StAt w q c ts F) (hn : j.most = (n + m : Nat)) (hm : 0 < m) (hM : j.most ≤ 256) (hk : k ≤ 1000) :
  Calls Tryz.prog 56 #[.pointer p, .agg (JbV j), .pointer q, .int .i64 n, .int .i64 k] w fun e w' => GivesD w (fun x => F x ∨ mF p x) c j.seed ts m k e w' := by
 obtain ⟨i0, hi, hz0, hz1, hz2⟩ := info_parts Tryz.info3
 obtain ⟨wA, hwA⟩ : ∃ wA, wA = w.alloc (.cells (JbV j) 43) := ⟨_, rfl⟩
 have HB0 : Hid (Below w.heap.size w wA) := by unfold Hid; rw [hwA]; exact (Below.refl _ _).alloc (Nat.le_refl _) _
 have HK := hid fun (W : World) (hb : Below wA.heap.size wA W) => Jb_cells (block_below (show wA.heap[w.heap.size]? = some (.cells (JbV j) 43 (0, 0)) by rw [hwA]; exact heap_alloc_new w _) hb)
 obtain ⟨g0, rfl⟩ := hs.ptr
 have HX : Hid (∀ W : World, Below wA.heap.size wA W → Below w.heap.size w W) := fun W hW => HB0.out.trans (hW.mono HB0.out.size)
 have HN256 : Hid (n + m ≤ 256) := by unfold Hid; omega
 have HS0 : Hid (StAt wA (some ⟨g0, 0, none⟩) c (ts ++ []) F) := by unfold Hid; rw [List.append_nil]; exact hs.below HB0.out
 obtain ⟨M, hMM⟩ : ∃ M, min m k = M := ⟨_, rfl⟩
 have hMm : M ≤ m := by omega
 have hMk : M ≤ k := by omega
 have hMor : M = m ∨ M = k := by omega
 have HMor := hid hMor
 have HO := hid fun (l : Nat) (g : Nat) (W : World) (h : m ≤ l) => fol_out (some ⟨g, 0, none⟩) j ((n : Int) + (l : Int)) W (by omega)
 have HFu := hid fun (l : Nat) (g : Nat) (us : List Int) (F' : Nat → Prop) (W : World) (h : l < m) (hS : StAt W (some ⟨g, 0, none⟩) c (ts ++ us) F') (hl : (ts ++ us).length = 256) => fol_none (some ⟨g, 0, none⟩) j ((n : Int) + (l : Int)) W (by omega) (by omega) fun W' hb => dnext_full _ c _ j.seed W' (hS.below hb) hc hl
 have HTo := hid fun (l : Nat) (g : Nat) (us : List Int) (F' : Nat → Prop) (W : World) (h : l < m) (hS : StAt W (some ⟨g, 0, none⟩) c (ts ++ us) F') (hl : (ts ++ us).length < 256) => fol_told (some ⟨g, 0, none⟩) j ((n : Int) + (l : Int)) _ W (by omega) (by omega) fun W' hb => dnext_yes _ c _ j.seed W' (hS.below hb) hc hl
 have HBd := hid fun (us : List Int) => told_bd hc (ts ++ us) j.seed
 have HFd := hid fun (g : Nat) (us : List Int) (F' : Nat → Prop) (W : World) (hS : StAt W (some ⟨g, 0, none⟩) c (ts ++ us) F') (hl : (ts ++ us).length < 256) => dfeed_yes (some ⟨g, 0, none⟩) c (ts ++ us) (toldZ c (ts ++ us) j.seed) W hS hc (HBd.out us).1 (HBd.out us).2 hl
 have HE : Hid (∀ (us : List Int) (e : Ending) (W : World), (refL c j.seed ts M = us → (∃ a cap g b F', e = .returned (.tuple #[.slice a us.length cap, .pointer (some ⟨g, 0, none⟩), .bool b]) ∧ Reads .i64 W a us.length cap us ∧ StAt W (some ⟨g, 0, none⟩) c (ts ++ us) F' ∧ (∀ x, F' x → (F x ∨ mF p x) ∨ w.heap.size ≤ x ∨ NotInt w x) ∧ (b = true → refL c j.seed (ts ++ us) (m - us.length) = []) ∧ (b = false → us.length = k) ∧ Below w.heap.size w W ∧ ∀ p, a = some p → w.heap.size ≤ p.block ∧ ∃ cur fz, W.heap[p.block]? = some (.cells cur 3 fz)) → GivesD w (fun x => F x ∨ mF p x) c j.seed ts m k e W)) := by
  rintro us e W rfl h
  unfold GivesD
  rw [hMM]
  exact h
 have HR0 : Hid (refL c j.seed ts M = [] ++ refL c j.seed (ts ++ []) (M - 0)) := by unfold Hid; rw [List.append_nil, List.nil_append, Nat.sub_zero]
 have HSt : Hid (∀ us r, (256 ≤ (ts ++ us).length ∨ toldZ c (ts ++ us) j.seed = 0) → refL c j.seed (ts ++ us) r = []) := fun us r h => refL_stop (.inr h)
 have HGo : Hid (∀ us r, (ts ++ us).length < 256 → toldZ c (ts ++ us) j.seed ≠ 0 → refL c j.seed (ts ++ us) (r + 1) = toldZ c (ts ++ us) j.seed :: refL c j.seed (ts ++ (us ++ [toldZ c (ts ++ us) j.seed])) r) := fun us r h1 h2 => by rw [refL_go h1 h2, List.append_assoc]
 have HR00 : Hid (∀ us, refL c j.seed (ts ++ us) 0 = []) := fun us => rfl
 have hm256 : m ≤ 256 := by omega
 have hn256 : n ≤ 256 := by omega
 clear hs hp hc hj hn hm hM hMM hMor
 obtain ⟨R, hR⟩ : ∃ R : List Int → Nat → List Int, R = refL c j.seed := ⟨_, rfl⟩
 obtain ⟨T, hT⟩ : ∃ T : List Int → Int, T = fun us => toldZ c (ts ++ us) j.seed := ⟨_, rfl⟩
 have hTk : ∀ us, toldZ c (ts ++ us) j.seed = T us := fun us => by rw [hT]
 simp only [hTk] at HTo HBd HFd HSt HGo
 rw [← hR] at HE HR0 HSt HGo HR00
 clear hR hT hTk
 obtain ⟨sd, ap, lp, cp, pts, mo⟩ := j
 unfold JbV at HO HFu HTo hwA ⊢
 simp only at HK HO HFu HTo hwA HE ⊢
 go_enter Tryz.func56, Tryz.ntmps56
 go_wp2_with fail
 rw [← hwA]
 clear hwA
 go_loopw [2, 13] (fun u v W => ∃ (g l : Nat) (us : List Int) (F' : Nat → Prop), l ≤ M ∧ u = .pointer (some ⟨g, 0, none⟩) ∧ Hid (us.length = l) ∧ Hid (StAt W (some ⟨g, 0, none⟩) c (ts ++ us) F') ∧ Hid (∀ x, F' x → F x ∨ wA.heap.size ≤ x ∨ NotInt wA x) ∧ Hid (W.ownsRow wA.heap.size 3 1 v l (us.map (Value.int .i64))) ∧ Hid (∀ b, v.ownBlock = some b → ¬ F' b) ∧ Hid (R ts M = us ++ R (ts ++ us) (M - l)) ∧ Hid (Below wA.heap.size wA W)) (fun _ v _ => M - slen v)
 case atStart => exact ⟨g0, 0, [], F, Nat.zero_le _, rfl, rfl, HS0, fun x hx => .inl hx, World.ownsRow_nil _ _ _ _, fun b hb => by simp [Value.ownBlock] at hb, HR0, Below.refl _ _⟩
 case round =>
 obtain ⟨g, l, us, F', hus, rfl, HLl, HS, HF, HOw, HAp, HRe, HW⟩ := hrel
 rename World => wr
 clear HS0 HR0
 obtain ⟨av, cv, rfl, hrv⟩ := Reads.own (k := .i64) HOw.out
 have HRd := hid hrv
 have HNw : Hid (∀ W : World, Below wr.heap.size wr W → ∀ p, av = some p → w.heap.size ≤ p.block ∧ ∃ cur fz, W.heap[p.block]? = some (.cells cur 3 fz)) := fun W hb p hp => by
  refine ⟨Nat.le_trans HB0.out.size (World.ownsRow.lt HOw.out p.block (by rw [hp]; rfl)).1, ?_⟩
  obtain ⟨cur, hc⟩ := own_type HOw.out (o := p.block) (by rw [hp]; rfl)
  exact ⟨cur, _, block_below hc hb⟩
 have r5 := hrv.room
 have m5 := hrv.most
 clear hrv
 obtain ⟨x0, x1, x2⟩ := HK.out _ HW.out
 have hl := HLl.out
 have HFt := hid (foot_trans (F := fun x => F x ∨ mF p x) HB0.out (fun k hk => .inl (.inl hk)) HF.out)
 have hbm := HS.out.most
 have hw : IntKind.i64.wrap ((n : Int) + (l : Int)) = (n : Int) + (l : Int) := wrap_in (by omega) (by omega)
 have hEnd : R (ts ++ us) (M - l) = [] → R ts M = us := fun h => by rw [HRe.out, h, List.append_nil]
 have HEnd := hid hEnd
 replace HE := hid (HE.out us)
 rw [hl] at HE
 clear hEnd
 by_cases hA : m ≤ l
 ·have hFo := HO.out l g wr hA
  have HEq : Hid (R ts M = us) := HEnd.out (by rw [show M - l = 0 by omega]; exact HR00.out us)
  have HNo : Hid (R (ts ++ us) (m - l) = []) := by unfold Hid; rw [show m - l = 0 by omega]; exact HR00.out us
  clear HO HFu HTo HBd HFd HSt HGo HEnd HK HMor hl
  go_wp2_with fail
  refine hFo.mono ?_
  rintro e w1 ⟨rfl, hb⟩
  have HV1 := hid (HX.out _ (HW.out.trans (hb.mono HW.out.size)))
  have HRd1 := hid (HRd.out.below hb)
  have HNw1 := hid (HNw.out _ hb)
  have HS1 := hid (HS.out.below hb)
  clear hFo hb HW HRd HS x0 x1 x2
  go_wp2
  go_ret3
  exact HE.out _ _ HEq.out ⟨_, _, _, _, _, rfl, HRd1.out, HS1.out, HFt.out, fun _ => HNo.out, (fun h => by cases h), HV1.out, HNw1.out⟩
 by_cases hB : (ts ++ us).length = 256
 ·have hFo := HFu.out l g us F' wr (by omega) HS.out hB
  have HEq : Hid (R ts M = us) := HEnd.out (HSt.out us _ (.inl (by omega)))
  have HNo : Hid (R (ts ++ us) (m - l) = []) := HSt.out us _ (.inl (by omega))
  clear HO HFu HTo HBd HFd HSt HGo HEnd HK HMor hl hB
  go_wp2_with fail
  refine hFo.mono ?_
  rintro e w1 ⟨rfl, hb⟩
  have HV1 := hid (HX.out _ (HW.out.trans (hb.mono HW.out.size)))
  have HRd1 := hid (HRd.out.below hb)
  have HNw1 := hid (HNw.out _ hb)
  have HS1 := hid (HS.out.below hb)
  clear hFo hb HW HRd HS x0 x1 x2
  go_wp2
  go_ret3
  exact HE.out _ _ HEq.out ⟨_, _, _, _, _, rfl, HRd1.out, HS1.out, HFt.out, fun _ => HNo.out, (fun h => by cases h), HV1.out, HNw1.out⟩
 have hB2 : (ts ++ us).length < 256 := by omega
 have hFo := HTo.out l g us F' wr (by omega) HS.out hB2
 by_cases h0 : T us = 0
 ·have HEq : Hid (R ts M = us) := HEnd.out (HSt.out us _ (.inr h0))
  have HNo : Hid (R (ts ++ us) (m - l) = []) := HSt.out us _ (.inr h0)
  rw [decide_eq_true h0, Bool.not_true] at hFo
  clear HO HFu HTo HBd HFd HSt HGo HEnd HK HMor hl hB hB2 h0
  generalize T us = td at *
  go_wp2_with fail
  refine hFo.mono ?_
  rintro e w1 ⟨rfl, hb⟩
  have HV1 := hid (HX.out _ (HW.out.trans (hb.mono HW.out.size)))
  have HRd1 := hid (HRd.out.below hb)
  have HNw1 := hid (HNw.out _ hb)
  have HS1 := hid (HS.out.below hb)
  clear hFo hb HW HRd HS x0 x1 x2
  go_wp2
  go_ret3
  exact HE.out _ _ HEq.out ⟨_, _, _, _, _, rfl, HRd1.out, HS1.out, HFt.out, fun _ => HNo.out, (fun h => by cases h), HV1.out, HNw1.out⟩
 rw [decide_eq_false h0, Bool.not_false] at hFo
 by_cases hC : k ≤ l
 ·have HEq : Hid (R ts M = us) := HEnd.out (by rw [show M - l = 0 by omega]; exact HR00.out us)
  have hCi : (k : Int) ≤ (l : Int) := by omega
  have HlK : Hid (l = k) := by unfold Hid; omega
  clear HO HFu HTo HBd HFd HSt HGo HEnd HK HMor hl hB hB2 h0
  generalize T us = td at *
  go_wp2_with fail
  refine hFo.mono ?_
  rintro e w1 ⟨rfl, hb⟩
  have HV1 := hid (HX.out _ (HW.out.trans (hb.mono HW.out.size)))
  have HRd1 := hid (HRd.out.below hb)
  have HNw1 := hid (HNw.out _ hb)
  have HS1 := hid (HS.out.below hb)
  clear hFo hb HW HRd HS x0 x1 x2
  go_wp2
  go_ret3
  exact HE.out _ _ HEq.out ⟨_, _, _, _, _, rfl, HRd1.out, HS1.out, HFt.out, (fun h => by cases h), fun _ => HlK.out, HV1.out, HNw1.out⟩
 have hCi : ¬ (k : Int) ≤ (l : Int) := by omega
 have hlM : l < M := by rcases HMor.out with h | h <;> omega
 have HRn : Hid (R ts M = (us ++ [T us]) ++ R (ts ++ (us ++ [T us])) (M - (l + 1))) := by
  unfold Hid
  have e1 : M - l = (M - (l + 1)) + 1 := by omega
  rw [HRe.out, e1, HGo.out us _ hB2 h0, List.append_assoc]
  rfl
 have HFd2 := hid fun (W : World) (hS : StAt W (some ⟨g, 0, none⟩) c (ts ++ us) F') => HFd.out g us F' W hS hB2
 have HAs : Hid ((ts ++ us) ++ [T us] = ts ++ (us ++ [T us])) := List.append_assoc _ _ _
 have HLn : Hid ((us ++ [T us]).length = l + 1) := by unfold Hid; simp [hl]
 have HMp : Hid ((us ++ [T us]).map (Value.int .i64) = us.map (Value.int .i64) ++ [.int .i64 (T us)]) := by unfold Hid; simp
 rw [HAs.out] at HFd2
 clear HO HFu HTo HBd HFd HSt HGo HEnd HK HMor hl hB hB2 h0 HE HRe HFt HAs hbm
 generalize us ++ [T us] = vs at *
 generalize T us = td at *
 go_wp2_with fail
 refine hFo.mono ?_
 rintro e w1 ⟨rfl, hb⟩
 have HS1 := hid (HS.out.below hb)
 have HO1 := hid (own_below HOw.out hb)
 have HW1 := hid (HW.out.trans (hb.mono HW.out.size))
 clear hFo hb HW HRd HS x0 x1 x2 HOw
 go_wp2_with fail
 refine (HFd2.out _ HS1.out).mono ?_
 rintro e w2 ⟨g2, F2, rfl, hS2, hF2, hb⟩
 have HS2 := hid hS2
 have HF2 := hid (foot_trans HW1.out HF.out hF2)
 have HA2 : Hid (∀ b, (Value.slice av l cv).ownBlock = some b → ¬ F2 b) := fun b hb' hx => by
  rcases hF2 b hx with h | h | h
  ·exact HAp.out b hb' h
  ·have := (HO1.out.lt b hb').2
   omega
  ·exact NotInt.own HO1.out hb' h
 have HAl : Hid (Below w2.heap.size w2 (w2.alloc (.cells #[.int .i64 td] 3))) := (Below.refl _ _).alloc (Nat.le_refl _) _
 have HO2 := hid (own_below (own_below HO1.out hb) HAl.out)
 have HW2 := hid (HW1.out.trans (hb.mono HW1.out.size))
 have HW3 := hid (HW2.out.trans (HAl.out.mono HW2.out.size))
 have HSz := hid HW3.out.size
 have hc1 := cell_new1 w2 (.int .i64 td) 3
 clear hS2 hF2 hb HS1 HF HO1 HW1 HAp HFd2
 go_wp2_with (at_builtin; refine append_one2 _ rfl (.tmp 44) (.tmp 46) 41 rfl wA.heap.size 3 i0 (.int .i64 0) 8 Tryz.underlying41 hi hz0 hz1 hz2 rfl (by decide) _ l (us.map (Value.int .i64)) rfl HO2.out (by omega) w2.heap.size (.int .i64 td) rfl rfl hc1 HSz.out ?_; intro v5 w5 hO5 hg5 hm5)
 obtain ⟨hS5, hA5⟩ := HS2.out.grown HAl.out hg5 hm5 HA2.out
 have HS5 := hid hS5
 have HA5 := hid hA5
 have HO5 : Hid (w5.ownsRow wA.heap.size 3 1 v5 (l + 1) (vs.map (Value.int .i64))) := by unfold Hid; rw [HMp.out]; exact hO5
 have HW5 : Hid (Below wA.heap.size wA w5) := HW3.out.grown hg5 HSz.out fun b hb' => (HO2.out.lt b hb').1
 have HSl : Hid (slen v5 = l + 1) := own_slen hO5
 clear hO5 hg5 hm5 hS5 hA5 HS2 HA2 HAl HO2 HW2 HW3 HSz hc1
 go_wp2_with fail
 go_round
 case rel => exact ⟨g2, l + 1, vs, F2, by omega, rfl, HLn, HS5, HF2, HO5, HA5, HRn, HW5⟩
 case measure => rw [HSl.out]; simp only [slen]; omega
end Go.Proofs.YtjgggialnegddaaGreat
