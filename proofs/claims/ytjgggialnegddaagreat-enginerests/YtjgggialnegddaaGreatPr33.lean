/-
  The texts DeSt, EnFar, EnRest of this proof.
-/
import Derived.Test.YtjgggialnegddaaGreatPr32
import Derived.Test.YtjgggialnegddaaGreatPr24
import Derived.Test.YtjgggialnegddaaGreatPr29
import Derived.Test.YtjgggialnegddaaGreatPr31
import Derived.Test.YtjgggialnegddaaGreatPr30
set_option linter.unusedVariables false
set_option maxRecDepth 1000000
namespace Go.Proofs.YtjgggialnegddaaGreat
open Go.RowKit
def NotInt (w : World) (k : Nat) : Prop := ∃ cur t fz, w.heap[k]? = some (.cells cur t fz) ∧ t ≠ 3
theorem NotInt.own {w : World} {base n b : Nat} {v : Value} {xs : List Value} (h : w.ownsRow base 3 1 v n xs) (hb : v.ownBlock = some b) : ¬ NotInt w b := by
 rintro ⟨cur, t, fz, h1, h2⟩
 obtain ⟨c, hc⟩ := own_type h hb
 rw [hc] at h1
 simp at h1
 exact h2 h1.2.1.symm
theorem NotInt.lt {w : World} {k : Nat} (h : NotInt w k) : k < w.heap.size := by
 obtain ⟨cur, t, fz, h1, _⟩ := h
 exact lt_of_block h1
theorem NotInt.back {w w' : World} {k : Nat} (h : NotInt w' k) (hb : Below w.heap.size w w') (hk : k < w.heap.size) : NotInt w k := by
 obtain ⟨cur, t, fz, h1, h2⟩ := h
 exact ⟨cur, t, fz, (hb.block k hk).symm.trans h1, h2⟩
def mF (p : Option Addr) (k : Nat) : Prop := ∃ a, p = some a ∧ a.block = k
def outsL (c : Cf) (ts : List Int) : List (List Int) := tblK (fun k => outK c ts (k + 1)) ts.length
theorem outsL_len (c : Cf) (ts : List Int) : (outsL c ts).length = ts.length := tblK_len _ _
theorem outsL_at (c : Cf) (ts : List Int) {i : Nat} (h : i < ts.length) : (outsL c ts)[i]?.getD [] = outK c ts (i + 1) := tblK_at _ h
theorem outsL_snoc (c : Cf) (ts : List Int) (t : Int) : outsL c ts ++ [outK c (ts ++ [t]) (ts.length + 1)] = outsL c (ts ++ [t]) := by
 have h : outsL c ts = tblK (fun k => outK c (ts ++ [t]) (k + 1)) ts.length := by
  unfold outsL tblK
  apply List.map_congr_left
  intro k hk
  rw [List.mem_range] at hk
  exact (outK_app c ts [t] (by omega)).symm
 rw [h]
 unfold outsL
 rw [List.length_append, List.length_singleton]
 exact tblK_snoc (fun k => outK c (ts ++ [t]) (k + 1)) ts.length
theorem outsL_take (c : Cf) (ts : List Int) {n : Nat} (h : n ≤ ts.length) : (outsL c ts).take n = outsL c (ts.take n) := by
 have hl : (ts.take n).length = n := by rw [List.length_take]; omega
 unfold outsL tblK
 rw [← List.map_take, List.take_range, hl, Nat.min_eq_left h]
 apply List.map_congr_left
 intro k hk
 rw [List.mem_range] at hk
 have := outK_app c (ts.take n) (ts.drop n) (k := k + 1) (by omega)
 rw [List.take_append_drop] at this
 exact this
theorem memL_take (c : Cf) (ts : List Int) {n : Nat} (h : n ≤ ts.length) : cutM (memL c c.layers.toNat (tvsL c ts) ts.length) n = memL c c.layers.toNat (tvsL c (ts.take n)) (ts.take n).length := by
 have hl : (ts.take n).length = n := by rw [List.length_take]; omega
 rw [memL_cut c _ _ h]
 have := memL_app c c.layers.toNat (ts.take n) (ts.drop n) (k := n) (by omega)
 rw [List.take_append_drop] at this
 rw [this, hl]
structure StIn (W : World) (g : Nat) (pm ta : Option Addr) (tc : Nat) (ha : Option Addr) (hc : Nat) (pq : Option Addr) (c : Cf) (ts : List Int) : Prop where
 var : W.heap[g]? = some (.cells #[.pointer pm, .slice ta ts.length tc, .slice ha ts.length hc, .pointer pq] 181 (0, 0))
 md : MdAt W pm c
 tk : Reads .i64 W ta ts.length tc ts
 mks : TbH W (ha, ts.length, hc) (outsL c ts)
 mem : MemAt W pq (memL c c.layers.toNat (tvsL c ts) ts.length)
 bl : ∀ p, ta = some p → ∃ cur fz, W.heap[p.block]? = some (.cells cur 3 fz)
theorem StIn.below {W W' : World} {g : Nat} {pm ta : Option Addr} {tc : Nat} {ha : Option Addr} {hc : Nat} {pq : Option Addr} {c : Cf} {ts : List Int} (h : StIn W g pm ta tc ha hc pq c ts) (hb : Below W.heap.size W W') : StIn W' g pm ta tc ha hc pq c ts :=
 ⟨block_below h.var hb, h.md.below hb, h.tk.below hb, h.mks.below hb, h.mem.below hb, fun p hp => by
  obtain ⟨cur, fz, hc⟩ := h.bl p hp
  exact ⟨cur, fz, block_below hc hb⟩⟩
theorem MdAt.keep {T : TypeId} {W W' : World} {p : Option Addr} {c : Cf} (h : MdAt W p c) (hk : Kp T W W') (hT : 100 ≠ T) : MdAt W' p c := by
 rcases h with h | ⟨g, hp, hg⟩
 ·exact .inl h
 ·exact .inr ⟨g, hp, hk _ _ _ _ hg hT⟩
theorem Reads.same {k : IntKind} {W W' : World} {a : Option Addr} {l c : Nat} {zs : List Int} (hr : Reads k W a l c zs) (hb : ∀ x, mF a x → W'.heap[x]? = W.heap[x]?) : Reads k W' a l c zs :=
 ⟨hr.size, hr.room, hr.most, hr.bare, fun i hi => by
  obtain ⟨b, off, ha, hc⟩ := hr.cell i hi
  exact ⟨b, off, ha, (World.cell?_of_block (a := ⟨b, off + i, none⟩) (hb b ⟨_, ha, rfl⟩)).trans hc⟩⟩
theorem StIn.keep {W W' : World} {g : Nat} {pm ta : Option Addr} {tc : Nat} {ha : Option Addr} {hc : Nat} {pq : Option Addr} {c : Cf} {ts : List Int} (h : StIn W g pm ta tc ha hc pq c ts) (hk : Kp 3 W W') (hb : ∀ x, mF ta x → W'.heap[x]? = W.heap[x]?) : StIn W' g pm ta tc ha hc pq c ts :=
 ⟨hk _ _ _ _ h.var (by decide), h.md.keep hk (by decide), h.tk.same hb, h.mks.keep hk (by decide) (by decide), h.mem.keep hk (by decide) (by decide) (by decide) (by decide), fun p hp => by
  obtain ⟨cur, fz, hc⟩ := h.bl p hp
  exact ⟨cur, fz, (hb _ ⟨p, hp, rfl⟩).trans hc⟩⟩
def StX (W : World) (p : Option Addr) (c : Cf) (ts : List Int) (F : Nat → Prop) : Prop :=
 ∃ (W0 : World) (g : Nat) (pm ta : Option Addr) (tc : Nat) (ha : Option Addr) (hc : Nat) (pq : Option Addr), p = some ⟨g, 0, none⟩ ∧ StIn W0 g pm ta tc ha hc pq c ts ∧ W0.heap.size ≤ W.heap.size ∧ (∀ k, NotInt W0 k → F k) ∧ (∀ k, mF ta k → F k) ∧ ∀ k, F k → W.heap[k]? = W0.heap[k]?
structure StAt (W : World) (p : Option Addr) (c : Cf) (ts : List Int) (F : Nat → Prop) : Prop where
 ptr : ∃ g, p = some ⟨g, 0, none⟩
 one : 1 ≤ ts.length
 most : ts.length ≤ 256
 old : ∀ k, F k → k < W.heap.size
 rest : StX W p c ts F
theorem StAt.same {W W' : World} {p : Option Addr} {c : Cf} {ts : List Int} {F : Nat → Prop} (h : StAt W p c ts F) (hs : W.heap.size ≤ W'.heap.size) (hF : ∀ k, F k → W'.heap[k]? = W.heap[k]?) : StAt W' p c ts F := by
 obtain ⟨W0, g, pm, ta, tc, ha, hc, pq, h1, h2, h3, h4, h5, h6⟩ := h.rest
 exact ⟨h.ptr, h.one, h.most, fun k hk => Nat.lt_of_lt_of_le (h.old k hk) hs, W0, g, pm, ta, tc, ha, hc, pq, h1, h2, Nat.le_trans h3 hs, h4, h5, fun k hk => (hF k hk).trans (h6 k hk)⟩
theorem StAt.below {W W' : World} {p : Option Addr} {c : Cf} {ts : List Int} {F : Nat → Prop} (h : StAt W p c ts F) (hb : Below W.heap.size W W') : StAt W' p c ts F := h.same hb.size fun k hk => hb.block k (h.old k hk)
theorem StAt.grown {W W2 W' : World} {p : Option Addr} {c : Cf} {ts : List Int} {F : Nat → Prop} {v v' : Value} (h : StAt W p c ts F) (hb : Below W.heap.size W W2) (hg : W2.grownBy W' v.ownBlock) (hm : Moved W2 v v') (hv : ∀ b, v.ownBlock = some b → ¬ F b) : StAt W' p c ts F ∧ ∀ b, v'.ownBlock = some b → ¬ F b := by
 have h2 := h.below hb
 refine ⟨h2.same hg.size fun k hk => hg.block k (h2.old k hk) fun e => hv k e.symm hk, fun b hb' hF => ?_⟩
 rcases hm with hm | ⟨o, hm, hle⟩
 ·exact hv b (by rw [← hm]; exact hb') hF
 ·rw [hm] at hb'
  cases hb'
  have := h2.old _ hF
  omega
theorem StAt.get {W : World} {p : Option Addr} {c : Cf} {ts : List Int} {F : Nat → Prop} (h : StAt W p c ts F) : ∃ (g : Nat) (pm ta : Option Addr) (tc : Nat) (ha : Option Addr) (hc : Nat) (pq : Option Addr), p = some ⟨g, 0, none⟩ ∧ StIn W g pm ta tc ha hc pq c ts ∧ ∀ k, mF ta k → F k := by
 obtain ⟨W0, g, pm, ta, tc, ha, hc, pq, h1, h2, h3, h4, h5, h6⟩ := h.rest
 refine ⟨g, pm, ta, tc, ha, hc, pq, h1, h2.keep (fun k cur t fz hk ht => (h6 k (h4 k ⟨cur, t, fz, hk, ht⟩)).trans hk) (fun x hx => h6 x (h5 x hx)), h5⟩
def stF (W : World) (ta : Option Addr) (k : Nat) : Prop := NotInt W k ∨ mF ta k
theorem StIn.at {W : World} {g : Nat} {pm ta : Option Addr} {tc : Nat} {ha : Option Addr} {hc : Nat} {pq : Option Addr} {c : Cf} {ts : List Int} (h : StIn W g pm ta tc ha hc pq c ts) (h1 : 1 ≤ ts.length) (h2 : ts.length ≤ 256) : StAt W (some ⟨g, 0, none⟩) c ts (stF W ta) := by
 refine ⟨⟨g, rfl⟩, h1, h2, fun k hk => ?_, W, g, pm, ta, tc, ha, hc, pq, rfl, h, Nat.le_refl _, fun k hk => .inl hk, fun k hk => .inr hk, fun _ _ => rfl⟩
 rcases hk with hk | ⟨a, rfl, rfl⟩
 ·exact hk.lt
 ·obtain ⟨b, off, e, hc⟩ := h.tk.cell 0 (by omega)
  cases e
  exact World.block_lt_of_cell? _ _ hc
theorem stF_of {w w' : World} {ta : Option Addr} {F0 : Nat → Prop} (hb : Below w.heap.size w w') (h : ∀ k, mF ta k → F0 k ∨ w.heap.size ≤ k) (k : Nat) (hk : stF w' ta k) : F0 k ∨ w.heap.size ≤ k ∨ NotInt w k := by
 rcases hk with hk | hk
 ·rcases Nat.lt_or_ge k w.heap.size with hl | hl
  ·exact .inr (.inr (hk.back hb hl))
  ·exact .inr (.inl hl)
 ·rcases h k hk with h' | h'
  ·exact .inl h'
  ·exact .inr (.inl h')
def GivesS (w : World) (F0 : Nat → Prop) (c : Cf) (ts : List Int) (e : Ending) (w' : World) : Prop := ∃ g F, e = .returned (.tuple #[.pointer (some ⟨g, 0, none⟩), .int .i64 0]) ∧ StAt w' (some ⟨g, 0, none⟩) c ts F ∧ (∀ k, F k → F0 k ∨ w.heap.size ≤ k ∨ NotInt w k) ∧ Below w.heap.size w w'
def GivesW (w : World) (pm : Option Addr) (c : Cf) (ts : List Int) (e : Ending) (w' : World) : Prop := ∃ (g : Nat) (ta : Option Addr) (tc : Nat) (ha : Option Addr) (hc : Nat) (pq : Option Addr), e = .returned (.pointer (some ⟨g, 0, none⟩)) ∧ StIn w' g pm ta tc ha hc pq c ts ∧ (∀ k, mF ta k → w.heap.size ≤ k) ∧ Below w.heap.size w w'
theorem StIn.cells {W : World} {g : Nat} {pm ta : Option Addr} {tc : Nat} {ha : Option Addr} {hc : Nat} {pq : Option Addr} {c : Cf} {ts : List Int} (h : StIn W g pm ta tc ha hc pq c ts) :
  W.cell? ⟨g, 0, none⟩ = some (.pointer pm) ∧ W.cell? ⟨g, 1, none⟩ = some (.slice ta ts.length tc) ∧ W.cell? ⟨g, 2, none⟩ = some (.slice ha ts.length hc) ∧ W.cell? ⟨g, 3, none⟩ = some (.pointer pq) := by
 refine ⟨?_, ?_, ?_, ?_⟩ <;> (rw [cell_of_row _ _ _ _ _ _ h.var]; rfl)
end Go.Proofs.YtjgggialnegddaaGreat
namespace Go.Proofs.YtjgggialnegddaaGreat
open Go.RowKit
theorem Lst.below {w w' : World} {a : Option Addr} {len cap k : Nat} {α : Type} {xs : List α} {V : α → Array Value} {I I' : α → Prop} (h : Lst w a len cap k xs V I) (hb : Below w.heap.size w w') (hV : ∀ x, (V x).size = k) (hI : ∀ x, I x → I' x) : Lst w' a len cap k xs V I' :=
 ⟨h.size, h.room, h.most, h.bare, fun i hi => by
  obtain ⟨b, off, h1, h2⟩ := h.cell i hi
  refine ⟨b, off, h1, fun j hj => ?_⟩
  have h5 := h2 j hj
  have hsz : j < (V xs[i]).size := by rw [hV]; exact hj
  rw [Array.getElem?_eq_getElem hsz] at h5 ⊢
  exact (hb.cell (World.block_lt_of_cell? _ _ h5)).trans h5, fun i hi => hI _ (h.inn i hi)⟩
end Go.Proofs.YtjgggialnegddaaGreat
namespace Go.Proofs.YtjgggialnegddaaGreat
open Go.RowKit
def okM (i : Int) (n : Nat) : List Int → Nat → List Mg → Prop
 | _, _, [] => True
 | got, ov, m :: ms => (m.kind = 8 ∨ m.kind = 9) ∧ m.att = i ∧ m.inc = 1 ∧ (m.kind = 8 → m.n = got.length) ∧ ov = 0 ∧ (m.kind = 9 → m.why = 1 ∧ m.n = n) ∧ okM i n (got ++ m.li) (if m.kind = 9 then 1 else 0) ms
def endG : List Int → List Mg → List Int
 | got, [] => got
 | got, m :: ms => endG (got ++ m.li) ms
def endO : Nat → List Mg → Nat
 | ov, [] => ov
 | ov, m :: ms => endO (if m.kind = 9 then 1 else 0) ms
def RestI (s : Sg) (t0 : Nat) (i : Int) (text : List Int) (r : Nat) (S : Rs) (ov : Nat) (got : List Int) : Prop :=
 S.s = s ∧ S.inc = 1 ∧ S.dr = false ∧ S.tk ≤ t0 + 32 * r ∧
 ((ov = 0 ∧ ∃ a : At, S.L = [a] ∧ a.id = i ∧ a.text s.c = text ∧ got = text.take a.k ∧ a.k ≤ text.length ∧ r ≤ a.k) ∨ (ov = 1 ∧ S.L = [] ∧ got = text))
theorem setB_bds {s : Sg} (h : setB s = true) : mayB s.c = true ∧ 1 ≤ s.q ∧ s.q ≤ 64 ∧ 1 ≤ s.b ∧ s.b ≤ 16 ∧ 1 ≤ s.ch ∧ s.ch ≤ 16 := by
 unfold setB at h
 simp only [Bool.and_eq_true, btw_iff] at h
 obtain ⟨h1, h2, h3, h4, _⟩ := h
 exact ⟨h1, h2.1, h2.2, h3.1, h3.2, h4.1, h4.2⟩
theorem rest_step {s : Sg} {t0 : Nat} {i : Int} {text got : List Int} {r ov : Nat} {S S' : Rs} {ms : List Mg} (hs : setB s = true) (h : RestI s t0 i text r S ov got) (ht : StepR S ms S') :
  okM i text.length got ov ms ∧ RestI s t0 i text (r + 1) S' (endO ov ms) (endG got ms) := by
 obtain ⟨e1, e2, e3, e4, h⟩ := h
 have e5 : S.tk + 32 ≤ t0 + 32 * (r + 1) := by omega
 obtain ⟨_, _, _, b1, b2, c1, c2⟩ := setB_bds hs
 rcases h with ⟨rfl, a, hL, hid, htx, hg, hk, hr⟩ | ⟨rfl, hL, hg⟩
 ·obtain ⟨told, t1, t2⟩ := step_one ht hL (by rw [e1]; omega) (by rw [e1, htx]; exact hk)
  rw [e1, htx] at t1 t2
  rw [e2] at t2
  have hgl : got.length = a.k := by rw [hg, List.length_take]; omega
  have hgt : got ++ told = text.take (a.k + told.length) := by
   rw [hg, t1, List.take_add]
   congr 1
   rw [List.length_take, List.take_eq_take_iff]
   omega
  have htl : a.k + told.length ≤ text.length := by rw [t1, List.length_take, List.length_drop]; omega
  rcases t2 with ⟨f1, rfl, rfl⟩ | ⟨f1, rfl, rfl⟩
  ·have hne : told ≠ [] := fun e => by rw [e] at f1; simp at f1; omega
   rw [if_neg hne]
   refine ⟨⟨.inl rfl, hid, rfl, (fun _ => by rw [hgl]; rfl), rfl, (fun e => absurd (show (8:Int) = 9 from e) (by decide)), trivial⟩, rfl, rfl, e3, e5, .inl ⟨rfl, _, rfl, hid, htx, ?_, htl, ?_⟩⟩
   ·exact hgt
   ·have : 1 ≤ told.length := by omega
    simp only
    omega
  ·have hfin : got ++ told = text := by rw [hgt, f1, List.take_length]
   have hlast : (a.k + told.length : Nat) = text.length := f1
   by_cases hne : told = []
   ·rw [if_pos hne]
    rw [hne, List.append_nil] at hfin
    refine ⟨⟨.inr rfl, hid, rfl, (fun e => absurd (show (9:Int) = 8 from e) (by decide)), rfl, (fun _ => ⟨rfl, by show (((a.k + told.length : Nat)) : Int) = _; rw [hlast]⟩), trivial⟩, rfl, rfl, e3, e5, .inr ⟨rfl, rfl, ?_⟩⟩
    show got ++ [] = text
    rw [List.append_nil, hfin]
   ·rw [if_neg hne]
    refine ⟨⟨.inl rfl, hid, rfl, (fun _ => by rw [hgl]; rfl), rfl, (fun e => absurd (show (8:Int) = 9 from e) (by decide)), .inr rfl, hid, rfl, (fun e => absurd (show (9:Int) = 8 from e) (by decide)), rfl, (fun _ => ⟨rfl, by show (((a.k + told.length : Nat)) : Int) = _; rw [hlast]⟩), trivial⟩, rfl, rfl, e3, e5, .inr ⟨rfl, rfl, ?_⟩⟩
    show (got ++ told) ++ [] = text
    rw [List.append_nil, hfin]
 ·obtain ⟨rfl, rfl⟩ := step_none ht hL
  exact ⟨trivial, e1, e2, e3, e5, .inr ⟨rfl, hL, hg⟩⟩
theorem rest_end {s : Sg} {t0 : Nat} {i : Int} {text got : List Int} {r ov : Nat} {S : Rs} (h : RestI s t0 i text r S ov got) (hr : text.length < r) : ov = 1 ∧ (∃ t, t ≤ t0 + 32 * r ∧ S = ⟨s, 1, false, [], t⟩) ∧ got = text := by
 obtain ⟨e1, e2, e3, e4, h⟩ := h
 rcases h with ⟨rfl, a, hL, hid, htx, hg, hk, hr'⟩ | ⟨rfl, hL, hg⟩
 ·omega
 ·obtain ⟨s', inc, dr, L, t⟩ := S
  simp only at e1 e2 e3 e4 hL
  subst e1 e2 e3 hL
  exact ⟨rfl, ⟨t, e4, rfl⟩, hg⟩
def stM (i n : Int) (j : Jb) : Ms := ⟨6, 0, 0, i, 1, n, 0, 0, j, none, 0, 0, []⟩
theorem rest_arr {s : Sg} {t0 : Nat} {i : Int} {n : Nat} {j : Jb} (hs : setB s = true) (hm : mayJ s.c.vocab j.most j.ts = true) (hp : j.ts.length ≤ 8) (hmo : j.most ≤ 10) (hn : n ≤ (refL s.c j.seed (0 :: j.ts) j.most.toNat).length) :
  arrM ⟨s, 1, false, [], t0⟩ (stM i n j) = [] ∧ RestI s t0 i (refL s.c j.seed (0 :: j.ts) j.most.toNat) 0 (arrS ⟨s, 1, false, [], t0⟩ (stM i n j)) 0 ((refL s.c j.seed (0 :: j.ts) j.most.toNat).take n) := by
 obtain ⟨_, q1, q2, _⟩ := setB_bds hs
 obtain ⟨hm0, _⟩ := mayJ_iff.1 hm
 have hl := refL_len s.c j.seed j.most.toNat (0 :: j.ts)
 have hf : startB ⟨s, 1, false, [], t0⟩ (stM i n j) = true := by
  unfold startB fitB stM waitN
  simp only [Bool.and_eq_true, decide_eq_true_eq]
  refine ⟨⟨hm, by omega, by omega⟩, rfl, ?_⟩
  show (0 : Int) < s.q
  omega
 have h0 : hasB (⟨s, 1, false, [], t0⟩ : Rs).L (stM i n j).att = false := rfl
 constructor
 ·unfold arrM
  rw [if_neg (by unfold stM; simp), if_pos (show (stM i (n : Int) j).kind = 6 from rfl), if_neg (by unfold stM; simp), h0, hf]
  rfl
 ·have e : arrS ⟨s, 1, false, [], t0⟩ (stM i n j) = ⟨s, 1, false, [newA (stM i n j)], t0⟩ := by
   unfold arrS
   rw [if_neg (by unfold stM; simp), if_pos (show (stM i (n : Int) j).kind = 6 from rfl), h0, hf]
   rfl
  rw [e]
  exact ⟨rfl, rfl, rfl, Nat.le_refl _, .inl ⟨rfl, _, rfl, rfl, rfl, by simp [newA, stM], by simpa [newA, stM] using hn, Nat.zero_le _⟩⟩
theorem endG_snoc (got : List Int) (xs : List Mg) (m : Mg) : endG got (xs ++ [m]) = endG got xs ++ m.li := by
 induction xs generalizing got with
 | nil => rfl
 | cons a xs ih => exact ih _
theorem endO_snoc (ov : Nat) (xs : List Mg) (m : Mg) : endO ov (xs ++ [m]) = if m.kind = 9 then 1 else 0 := by
 induction xs generalizing ov with
 | nil => rfl
 | cons a xs ih => exact ih _
theorem endG_len : ∀ (ms : List Mg) (got : List Int), got.length ≤ (endG got ms).length
 | [], got => Nat.le_refl _
 | m :: ms, got => Nat.le_trans (by simp) (endG_len ms (got ++ m.li))
theorem endG_app (got : List Int) (xs bs : List Mg) : endG got (xs ++ bs) = endG (endG got xs) bs := by
 induction xs generalizing got with
 | nil => rfl
 | cons a xs ih => exact ih _
theorem endG_le (got : List Int) (ms : List Mg) (q : Nat) : (endG got (ms.take q)).length ≤ (endG got ms).length := by
 have := endG_len (ms.drop q) (endG got (ms.take q))
 rwa [← endG_app, List.take_append_drop] at this
theorem RestI.len {s : Sg} {t0 : Nat} {i : Int} {text got : List Int} {r ov : Nat} {S : Rs} (h : RestI s t0 i text r S ov got) : got.length ≤ text.length := by
 obtain ⟨_, _, _, _, ⟨_, a, _, _, _, hg, _⟩ | ⟨_, _, hg⟩⟩ := h
 ·rw [hg, List.length_take]; omega
 ·rw [hg]; exact Nat.le_refl _
theorem okM_at {i : Int} {n : Nat} : ∀ {ms : List Mg} {got : List Int} {ov : Nat}, okM i n got ov ms → ∀ q (hq : q < ms.length), (ms[q].kind = 8 ∨ ms[q].kind = 9) ∧ ms[q].att = i ∧ ms[q].inc = 1 ∧ (ms[q].kind = 8 → ms[q].n = (endG got (ms.take q)).length) ∧ endO ov (ms.take q) = 0 ∧ (ms[q].kind = 9 → ms[q].why = 1 ∧ ms[q].n = n)
 | m :: ms, got, ov, h, 0, hq => ⟨h.1, h.2.1, h.2.2.1, h.2.2.2.1, h.2.2.2.2.1, h.2.2.2.2.2.1⟩
 | m :: ms, got, ov, h, q + 1, hq => okM_at h.2.2.2.2.2.2 q (by simpa using hq)
section
open Go.ChangeShapes Go.WideShapes Go.ChangeAt
variable {H : Type} {enc : TypeId × Value → H} {W : World}
theorem eunum_open {b0 : Nat} {v : Value} {d : DataW H} {ps : List MemPlace} (hv : Value.okWide Tryz.prog W .any b0 22 v) (h : DataW.Trod enc Tryz.prog W 0 (fun _ => true) true 22 v d ps) :
  ∃ n : Int, v = .int .u64 n ∧ isU n := by
 obtain ⟨a, h1, h2, _, h4⟩ := open_int Tryz.underlying22 hv h
 have := bounds_u64 h4
 exact ⟨a, h1, by omega, by omega⟩
end
end Go.Proofs.YtjgggialnegddaaGreat
