/-
  The texts KvW6 of this proof.
-/
import Derived.Test.YtjgggialnegddaaGreatPq31
set_option linter.unusedVariables false
set_option maxRecDepth 1000000
namespace Go.Proofs.YtjgggialnegddaaGreat
open Go.RowKit Go.Maps
theorem usedK_full {hs : List Int} : ∀ {k : Nat}, (∀ i, i < k → 0 < hs[i]?.getD 0) → (usedK hs k).length = k
 | 0, _ => rfl
 | k + 1, h => by
  have ih := usedK_full (k := k) fun i hi => h i (by omega)
  simp only [usedK, if_pos (h k (by omega)), List.length_append, ih, List.length_singleton]
theorem usedK_less {hs : List Int} : ∀ {k i : Nat}, i < k → ¬ 0 < hs[i]?.getD 0 → (usedK hs k).length < k
 | 0, i, hi, _ => by omega
 | k + 1, i, hi, h => by
  simp only [usedK]
  split
  ·rename_i h0
   have : i ≠ k := fun e => h (by rw [e]; exact h0)
   have ih := usedK_less (k := k) (i := i) (by omega) h
   rw [List.length_append, List.length_singleton]
   omega
  ·have := usedK_len hs k
   omega
def upd {α : Type} (f : List Int → α) (x : List Int) (v : α) (y : List Int) : α := if y = x then v else f y
theorem upd_same {α : Type} (f : List Int → α) (x : List Int) (v : α) : upd f x v x = v := if_pos rfl
theorem upd_other {α : Type} (f : List Int → α) {x y : List Int} (v : α) (h : y ≠ x) : upd f x v y = f y := if_neg h
section
variable {B bb r : Nat} {pp : Option Addr} {L : Lay} {c : Cf} {pg sz : Nat} {tm : Int} {T : List (List Int)}
def Lay.add (L : Lay) (F' : Nat → Prop) (x : List Int) (n nb mb : Nat) (sp ta : Option Addr) (tm : Int) : Lay :=
 { Fp := F', hs := L.hs.set n 1, vs := L.vs.set n (.pointer (some ⟨nb, 0, none⟩)), mx := L.mx + 1, nd := upd L.nd x nb, mp := upd L.mp x mb, st := upd L.st x sp, ta := upd L.ta x ta, pgs := upd L.pgs x n, us := upd L.us x tm }
theorem KvB.added {W W2 W4 W5 W6 : World} (h : KvB W B bb r pp L c pg sz tm T) (hz : 1 ≤ sz ∧ sz ≤ 16) (hC : Cls T sz) {t ch x : List Int} (hx : x = t ++ ch) (hc : ch.length = sz) (hI : InT T t) (hxT : x ∉ T) (hk : Tk x) {T' : List (List Int)} (hT : ∀ y, y ∈ T' ↔ y ∈ T ∨ y = x)
  {sp ta : Option Addr} (hs : StT W sp c x ta) (hta : ∀ k, mF ta k → ¬ L.Fp k) {n : Nat} (hn : n < pg) (hfr : L.hs[n]?.getD 0 = 0) (h2 : PgG W L.Fp pp (L.hs.set n 1) W2) (h4 : Below W2.heap.size W2 W4)
  {nb mb : Nat} (hnb : W2.heap.size ≤ nb) (hmb : W2.heap.size ≤ mb) (hN : NdAt W4 nb (some ⟨L.nd t, 0, none⟩) ch mb sp n tm) (hM : MvAt W4 mb 0 (fun _ => none)) (h5 : Fb (at1 (L.mp t)) W4 W5) (hm : MvAt W5 (L.mp t) (L.mx + 1) (chF T' (upd L.nd x nb) sz t)) (h6 : Fb (at1 bb) W5 W6)
  (hrow : W6.ownsRow 0 113 1 (.slice (some ⟨bb, 0, none⟩) pg pg) pg (L.vs.set n (.pointer (some ⟨nb, 0, none⟩)))) :
  ∃ F', KvB W6 B bb r pp (L.add F' x n nb mb sp ta tm) c pg sz tm T' ∧ (∀ k, ftB B bb (L.add F' x n nb mb sp ta tm) T' k → ftB B bb L T k ∨ W.heap.size ≤ k) ∧ Fb (ftB B bb L T) W W6 := by
 obtain ⟨F', g1, g2, g3⟩ := h2
 have hx0 : x ≠ [] := fun e => by
  have := congrArg List.length e
  rw [hx, List.length_append, hc, List.length_nil] at this
  omega
 have htx : t ≠ x := fun e => by
  have := congrArg List.length e
  rw [hx, List.length_append, hc] at this
  omega
 have hxI : ¬ InT T x := fun e => e.elim hx0 hxT
 have hneT : ∀ y ∈ T, y ≠ x := fun y hy e => hxT (e ▸ hy)
 have hneI : ∀ y, InT T y → y ≠ x := fun y hy e => hxI (e ▸ hy)
 have s2 := g3.size
 have s4 := h4.size
 have s5 := h5.size
 have hmt := (h.tree.map t hI).lt
 have hbb : bb < W.heap.size := by obtain ⟨cur, hc'⟩ := h.rowb; exact lt_of_block hc'
 have k1 : ∀ k, k < W4.heap.size → k ≠ L.mp t → k ≠ bb → W6.heap[k]? = W4.heap[k]? := fun k hk e1 e2 => (h6.block k (by omega) e2).trans (h5.block k hk e1)
 have key : ∀ k, k < W.heap.size → k ≠ L.mp t → k ≠ bb → ¬ L.Fp k → W6.heap[k]? = W.heap[k]? := fun k hk e1 e2 e3 =>
  (k1 k (by omega) e1 e2).trans ((h4.block k (by omega)).trans (g3.block k hk e3))
 have hF2 : Fb (ftB B bb L T) W W2 := g3.mono fun k hk => .inr (.inr (.inl hk))
 have hF4 := hF2.below h4
 have hF5 : Fb (ftB B bb L T) W W5 := hF4.trans (h5.mono fun k hk => show ftB B bb L T k from .inr (.inr (.inr ⟨t, hI, .inr hk⟩))) fun k hk => .inl hk
 have hF6 : Fb (ftB B bb L T) W W6 := hF5.trans (h6.mono fun k hk => show ftB B bb L T k from .inr (.inl hk)) fun k hk => .inl hk
 have hFn : ∀ k, F' k → k ≠ L.mp t ∧ k ≠ bb := fun k hk => by
  rcases g2 k hk with h' | h'
  ·exact ⟨fun e => h.mpFp hI (e ▸ h'), fun e => h.bbFp (e ▸ h')⟩
  ·exact ⟨by omega, by omega⟩
 have hpn : ∀ y ∈ T, L.pgs y ≠ n := fun y hy e => by
  rcases h.held n hn with ⟨_, h5⟩ | ⟨h4, _⟩
  ·exact h5 y hy e
  ·omega
 have hsl := h.hsl
 have hvl : L.vs.length = pg := by have := h.row.1; simpa using this
 have hst : ∀ {q : Option Addr} {ts : List Int} {a : Option Addr}, StT W q c ts a → (∀ k, mF a k → ¬ L.Fp k) → StT W6 q c ts a ∧ ∀ k, mF a k → ¬ F' k := fun {q ts a} hq ha => by
  refine ⟨StT.fbF h hF6 (fun k hk => .inl hk) hq ha, fun k hk hf => ?_⟩
  rcases g2 k hf with h' | h'
  ·exact ha k hk h'
  ·obtain ⟨g, pm, tc, ha, hc, pq, _, _, h5, _⟩ := hq
   obtain ⟨a, e, rfl⟩ := hk
   obtain ⟨cur, fz, hcur⟩ := h5 a e
   have := lt_of_block hcur
   omega
 refine ⟨F', ⟨?_, ?_, ?_, ?_, fun k hk => ?_, fun y hy => ?_, fun y hy z hz' e => ?_, hrow, fun y hy => ?_, ⟨fun y hy => ?_, fun y hy => ?_, fun y z hy hz' e => ?_, fun y z hy hz' e => ?_⟩, fun y hy => ?_, fun y hy => ?_⟩, fun k hk => ?_, hF6⟩
 ·exact (key B (lt_of_block h.var) (fun e => h.Bmp hI e.symm) (fun e => h.bbB e.symm) h.BFp).trans h.var
 ·show upd L.nd x nb [] = r
  rw [upd_other _ _ (fun e => hx0 e.symm)]
  exact h.root
 ·refine g1.same (by have := h6.size; omega) fun k hk => ?_
  have hlt := g1.old k hk
  exact (k1 k (by omega) (hFn k hk).1 (hFn k hk).2).trans (h4.block k hlt)
 ·show (L.hs.set n 1).length = pg
  rw [List.length_set]
  exact hsl
 ·show ((L.hs.set n 1)[k]?.getD 0 = 0 ∧ ∀ y ∈ T', upd L.pgs x n y ≠ k) ∨ ((L.hs.set n 1)[k]?.getD 0 = 1 ∧ ∃ y ∈ T', upd L.pgs x n y = k)
  by_cases e : n = k
  ·subst e
   right
   exact ⟨by rw [List.getElem?_set_self (by omega)]; rfl, x, (hT x).2 (.inr rfl), upd_same _ _ _⟩
  ·rw [List.getElem?_set_ne e]
   rcases h.held k hk with ⟨e4, e5⟩ | ⟨e4, y, hy, e5⟩
   ·refine .inl ⟨e4, fun y hy => ?_⟩
    rcases (hT y).1 hy with hy | rfl
    ·rw [upd_other _ _ (hneT y hy)]; exact e5 y hy
    ·rw [upd_same]; omega
   ·exact .inr ⟨e4, y, (hT y).2 (.inl hy), by rw [upd_other _ _ (hneT y hy)]; exact e5⟩
 ·show 0 ≤ upd L.pgs x n y ∧ upd L.pgs x n y < pg
  rcases (hT y).1 hy with hy | rfl
  ·rw [upd_other _ _ (hneT y hy)]; exact h.pgb y hy
  ·rw [upd_same]; omega
 ·have e' : upd L.pgs x n y = upd L.pgs x n z := e
  rcases (hT y).1 hy with hy | rfl
  ·rcases (hT z).1 hz' with hz' | rfl
   ·rw [upd_other _ _ (hneT y hy), upd_other _ _ (hneT z hz')] at e'
    exact h.pgi y hy z hz' e'
   ·rw [upd_other _ _ (hneT y hy), upd_same] at e'
    exact absurd e' (hpn y hy)
  ·rcases (hT z).1 hz' with hz' | rfl
   ·rw [upd_other _ _ (hneT z hz'), upd_same] at e'
    exact absurd e'.symm (hpn z hz')
   ·rfl
 ·show (L.vs.set n (.pointer (some ⟨nb, 0, none⟩)))[(upd L.pgs x n y).toNat]? = some (.pointer (some ⟨upd L.nd x nb y, 0, none⟩))
  rcases (hT y).1 hy with hy | rfl
  ·rw [upd_other _ _ (hneT y hy), upd_other _ _ (hneT y hy), List.getElem?_set_ne (fun e => hpn y hy (by have := h.pgb y hy; omega))]
   exact h.at' y hy
  ·rw [upd_same, upd_same, Int.toNat_natCast, List.getElem?_set_self (by omega)]
 ·show NdAt W6 (upd L.nd x nb y) (ahP (upd L.nd x nb) sz y) (byL sz y) (upd L.mp x mb y) (upd L.st x sp y) (upd L.pgs x n y) (upd L.us x tm y)
  by_cases e : y = x
  ·subst e
   rw [upd_same, upd_same, upd_same, upd_same, upd_same, hx, ahP_app hc hz.1, byL_app hc, ← hx, upd_other _ _ htx]
   exact (k1 nb (lt_of_block hN) (by omega) (by omega)).trans hN
  ·have hy' : InT T y := hy.elim .inl fun h' => ((hT y).1 h').elim .inr fun e' => absurd e' e
   have ha : ahP (upd L.nd x nb) sz y = ahP L.nd sz y := by
    unfold ahP
    split
    ·rfl
    ·rename_i h0
     have := (hC y (hy'.resolve_left h0)).2
     rw [upd_other _ _ (hneI _ this)]
   rw [upd_other _ _ e, upd_other _ _ e, upd_other _ _ e, upd_other _ _ e, upd_other _ _ e, ha]
   exact (key _ (lt_of_block (h.tree.node y hy')) (fun e => h.ndmp hy' hI e) (fun e => h.bbnd hy' e) (h.ndFp hy')).trans (h.tree.node y hy')
 ·show MvAt W6 (upd L.mp x mb y) (L.mx + 1) (chF T' (upd L.nd x nb) sz y)
  by_cases e : y = x
  ·subst e
   rw [upd_same]
   refine ((hM.same (k1 mb hM.lt (by omega) (by omega))).mono (by omega)).ext fun v l hv => (chF_none (fun ch' hc' hm' => ?_) v).symm
   rcases (hT _).1 hm' with h' | h'
   ·have := (hC _ h').2
    rw [List.length_append, hc', Nat.add_sub_cancel, List.take_left] at this
    exact hxI this
   ·have := congrArg List.length h'
    rw [List.length_append, hc'] at this
    omega
  ·have hy' : InT T y := hy.elim .inl fun h' => ((hT y).1 h').elim .inr fun e' => absurd e' e
   rw [upd_other _ _ e]
   by_cases e2 : y = t
   ·subst e2
    exact hm.same (h6.block _ hm.lt fun e => h.bbmp hI e)
   ·refine (((h.tree.map y hy').same (key _ (h.tree.map y hy').lt (fun e3 => e2 (h.tree.mpi y t hy' hI e3)) (fun e3 => h.bbmp hy' e3) (h.mpFp hy'))).mono (by omega)).ext fun v l hv => chF_ext fun ch' hc' _ => ?_
    have hne : y ++ ch' ≠ x := fun e3 => e2 (by
     have := app_ne hc' e3
     rw [this, hx, List.length_append, hc, Nat.add_sub_cancel, List.take_left])
    refine ⟨?_, fun _ => (upd_other _ _ hne).symm⟩
    rw [hT]
    exact ⟨.inl, fun h' => h'.resolve_right hne⟩
 ·have e' : upd L.nd x nb y = upd L.nd x nb z := e
  have hy' : y = x ∨ (y ≠ x ∧ InT T y) := by
   by_cases e : y = x
   ·exact .inl e
   ·exact .inr ⟨e, hy.elim .inl fun h' => ((hT y).1 h').elim .inr fun e' => absurd e' e⟩
  have hz2 : z = x ∨ (z ≠ x ∧ InT T z) := by
   by_cases e : z = x
   ·exact .inl e
   ·exact .inr ⟨e, hz'.elim .inl fun h' => ((hT z).1 h').elim .inr fun e' => absurd e' e⟩
  rcases hy' with rfl | ⟨hy1, hy2⟩
  ·rcases hz2 with rfl | ⟨hz1, hz2⟩
   ·rfl
   ·rw [upd_same, upd_other _ _ hz1] at e'
    have := lt_of_block (h.tree.node z hz2)
    omega
  ·rcases hz2 with rfl | ⟨hz1, hz2⟩
   ·rw [upd_same, upd_other _ _ hy1] at e'
    have := lt_of_block (h.tree.node y hy2)
    omega
   ·rw [upd_other _ _ hy1, upd_other _ _ hz1] at e'
    exact h.tree.ndi y z hy2 hz2 e'
 ·have e' : upd L.mp x mb y = upd L.mp x mb z := e
  have hy' : y = x ∨ (y ≠ x ∧ InT T y) := by
   by_cases e : y = x
   ·exact .inl e
   ·exact .inr ⟨e, hy.elim .inl fun h' => ((hT y).1 h').elim .inr fun e' => absurd e' e⟩
  have hz2 : z = x ∨ (z ≠ x ∧ InT T z) := by
   by_cases e : z = x
   ·exact .inl e
   ·exact .inr ⟨e, hz'.elim .inl fun h' => ((hT z).1 h').elim .inr fun e' => absurd e' e⟩
  rcases hy' with rfl | ⟨hy1, hy2⟩
  ·rcases hz2 with rfl | ⟨hz1, hz2⟩
   ·rfl
   ·rw [upd_same, upd_other _ _ hz1] at e'
    have := (h.tree.map z hz2).lt
    omega
  ·rcases hz2 with rfl | ⟨hz1, hz2⟩
   ·rw [upd_same, upd_other _ _ hy1] at e'
    have := (h.tree.map y hy2).lt
    omega
   ·rw [upd_other _ _ hy1, upd_other _ _ hz1] at e'
    exact h.tree.mpi y z hy2 hz2 e'
 ·show StT W6 (upd L.st x sp y) c y (upd L.ta x ta y) ∧ ∀ k, mF (upd L.ta x ta y) k → ¬ F' k
  rcases (hT y).1 hy with hy | rfl
  ·rw [upd_other _ _ (hneT y hy), upd_other _ _ (hneT y hy)]
   exact hst (h.sts y hy).1 (h.sts y hy).2
  ·rw [upd_same, upd_same]
   exact hst hs hta
 ·rcases (hT y).1 hy with hy | rfl
  ·exact h.tok y hy
  ·exact hk
 ·rcases hk with h' | h' | h' | ⟨y, hy, h'⟩
  ·exact .inl (.inl h')
  ·exact .inl (.inr (.inl h'))
  ·rcases g2 k h' with h'' | h''
   ·exact .inl (.inr (.inr (.inl h'')))
   ·exact .inr h''
  ·have h2 : k = upd L.nd x nb y ∨ k = upd L.mp x mb y := h'
   by_cases e : y = x
   ·rw [e, upd_same, upd_same] at h2
    right
    omega
   ·have hy' : InT T y := hy.elim .inl fun h' => ((hT y).1 h').elim .inr fun e' => absurd e' e
    rw [upd_other _ _ e, upd_other _ _ e] at h2
    exact .inl (.inr (.inr (.inr ⟨y, hy', h2⟩)))
end
end Go.Proofs.YtjgggialnegddaaGreat
