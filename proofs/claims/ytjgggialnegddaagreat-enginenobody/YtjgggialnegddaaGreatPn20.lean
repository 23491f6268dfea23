/-
  The texts Cuts, Throughs of this proof.
-/
import Derived.Test.YtjgggialnegddaaGreatPn19
set_option linter.unusedVariables false
set_option maxRecDepth 1000000
namespace Go.Proofs.YtjgggialnegddaaGreat
open Go.RowKit
structure MemUp (w : World) (B g L k : Nat) (F : Nat → KV) (ps : List Hp) (W : World) : Prop where
 var : W.heap[B]? = some (.cells #[.slice (some ⟨g, 0, none⟩) L L] 229 (0, 0))
 own : OwnP w.heap.size g L ps W
 lowB : w.heap.size ≤ B
 rows : ∀ i, i < k → TbH W (pk ps i).1 (F i).1 ∧ TbH W (pk ps i).2 (F i).2
 old : Below w.heap.size w W
theorem MemUp.below {w : World} {B g L k : Nat} {F : Nat → KV} {ps : List Hp} {W W' : World} (h : MemUp w B g L k F ps W) (hb : Below W.heap.size W W') : MemUp w B g L k F ps W' :=
 ⟨block_below h.var hb, h.own.stays hb, h.lowB, fun i hi => ⟨(h.rows i hi).1.below hb, (h.rows i hi).2.below hb⟩, h.old.trans (hb.mono h.old.size)⟩
theorem MemUp.apart {w : World} {B g L k : Nat} {F : Nat → KV} {ps : List Hp} {W : World} (h : MemUp w B g L k F ps W) : B ≠ g := by
 intro e
 obtain ⟨cur, hc⟩ := h.own.blk
 rw [← e, h.var] at hc
 simp at hc
theorem MemUp.step {w : World} {B g L k : Nat} {F : Nat → KV} {ps : List Hp} {W : World} (h : MemUp w B g L k F ps W) (hk : k < L) (x y : Hd) (hx : TbH W x (F k).1) (hy : TbH W y (F k).2) :
  MemUp w B g L (k + 1) F (ps.set k (x, y)) ((W.setCell ⟨g, k * 2, none⟩ (hdV x)).setCell ⟨g, k * 2 + 1, none⟩ (hdV y)) := by
 have hne := h.apart
 obtain ⟨cur, hc⟩ := h.own.blk
 have hl := h.own.len
 have hK : Kp 226 W ((W.setCell ⟨g, k * 2, none⟩ (hdV x)).setCell ⟨g, k * 2 + 1, none⟩ (hdV y)) := (Kp.set hc _).trans (Kp.set (row_setCell hc) _)
 refine ⟨?_, h.own.set k x y, h.lowB, fun i hi => ?_, (h.old.setCell h.own.base _).setCell h.own.base _⟩
 ·rw [Below.heap_setCell _ _ _ _ (by exact hne), Below.heap_setCell _ _ _ _ (by exact hne)]
  exact h.var
 ·by_cases e : i = k
  ·subst e
   have : pk (ps.set i (x, y)) i = (x, y) := by simp [pk, (by omega : i < ps.length)]
   rw [this]
   exact ⟨hx.keep hK (by decide) (by decide), hy.keep hK (by decide) (by decide)⟩
  ·have : pk (ps.set k (x, y)) i = pk ps i := by unfold pk; rw [List.getElem?_set_ne (by omega)]
   rw [this]
   obtain ⟨h1, h2⟩ := h.rows i (by omega)
   exact ⟨h1.keep hK (by decide) (by decide), h2.keep hK (by decide) (by decide)⟩
theorem MemUp.kept {w : World} {B g L k : Nat} {F : Nat → KV} {ps : List Hp} {W : World} (h : MemUp w B g L k F ps W) (j : Nat) (x y : Value) : Kp 226 W ((W.setCell ⟨g, j, none⟩ x).setCell ⟨g, j + 1, none⟩ y) := by
 obtain ⟨cur, hc⟩ := h.own.blk
 exact (Kp.set hc _).trans (Kp.set (row_setCell hc) _)
theorem MemUp.done {w : World} {B g L : Nat} {F : Nat → KV} {ps : List Hp} {W : World} (h : MemUp w B g L L F ps W) {M : List KV} (hl : M.length = L) (hF : ∀ i, i < L → kv M i = F i) : MemB W B g M ps := by
 subst hl
 exact ⟨h.var, h.own.low (Nat.zero_le _), fun i hi => by rw [hF i hi]; exact h.rows i hi⟩
theorem MemUp.start {w w' : World} {B g L : Nat} {ps : List Hp} (F : Nat → KV) (hB : w.heap.size ≤ B) (hg : w.heap.size ≤ g) (h : MemB w' B g (noneM L) ps) (hb : Below w.heap.size w w') : MemUp w B g L 0 F ps w' := by
 have hv := h.var
 have ho := h.own
 rw [noneM_len] at hv ho
 exact ⟨hv, own_up ho hg, hB, fun i hi => absurd hi (by omega), hb⟩
def Even (M : List KV) (q : Nat) : Prop := ∀ i, i < M.length → (kv M i).1.length = q ∧ (kv M i).2.length = q
def cutN (n : Int) (q : Nat) : Nat := (max 0 (min n q)).toNat
theorem held_cut0 {wr W1 W : World} {B : Nat} {v0 v1 v2 : Value} {T T2 : TypeId} (hv : wr.heap[B]? = some (.cells #[v0] T (0, 0))) (hx : W1.heap[wr.heap.size]? = some (.cells #[v1, v2] T2 (0, 0))) (h1 : Below wr.heap.size wr W1) (hb : Below W1.heap.size W1 W) :
  W.cell? ⟨B, 0, none⟩ = some v0 ∧ W.cell? ⟨wr.heap.size, 0, none⟩ = some v1 ∧ W.cell? ⟨wr.heap.size, 1, none⟩ = some v2 := by
 have e1 := block_below (block_below hv h1) hb
 have e2 := block_below hx hb
 exact ⟨by rw [cell_of_row _ _ _ _ _ _ e1]; rfl, by rw [cell_of_row _ _ _ _ _ _ e2]; rfl, by rw [cell_of_row _ _ _ _ _ _ e2]; rfl⟩
theorem held_cut {wr W1 W : World} {B g : Nat} {v0 v1 v2 : Value} {T T2 : TypeId} (hv : wr.heap[B]? = some (.cells #[v0] T (0, 0))) (hx : W1.heap[wr.heap.size]? = some (.cells #[v1, v2] T2 (0, 0))) (hB : B ≠ g) (hg : g ≠ wr.heap.size) (h1 : Below wr.heap.size wr W1) (hb : Below W1.heap.size W1 W) (j : Nat) (x y : Value) :
  ((W.setCell ⟨g, j, none⟩ x).setCell ⟨g, j + 1, none⟩ y).cell? ⟨B, 0, none⟩ = some v0 ∧ ((W.setCell ⟨g, j, none⟩ x).setCell ⟨g, j + 1, none⟩ y).cell? ⟨wr.heap.size, 0, none⟩ = some v1 ∧ ((W.setCell ⟨g, j, none⟩ x).setCell ⟨g, j + 1, none⟩ y).cell? ⟨wr.heap.size, 1, none⟩ = some v2 := by
 have e1 : ((W.setCell ⟨g, j, none⟩ x).setCell ⟨g, j + 1, none⟩ y).heap[B]? = some (.cells #[v0] T (0, 0)) := by
  rw [Below.heap_setCell _ _ _ _ (by exact hB), Below.heap_setCell _ _ _ _ (by exact hB)]
  exact block_below (block_below hv h1) hb
 have e2 : ((W.setCell ⟨g, j, none⟩ x).setCell ⟨g, j + 1, none⟩ y).heap[wr.heap.size]? = some (.cells #[v1, v2] T2 (0, 0)) := by
  rw [Below.heap_setCell _ _ _ _ (by exact fun e => hg e.symm), Below.heap_setCell _ _ _ _ (by exact fun e => hg e.symm)]
  exact block_below hx hb
 exact ⟨by rw [cell_of_row _ _ _ _ _ _ e1]; rfl, by rw [cell_of_row _ _ _ _ _ _ e2]; rfl, by rw [cell_of_row _ _ _ _ _ _ e2]; rfl⟩
set_option maxHeartbeats 2000000 in
theorem cut_any (p : Option Addr) (M : List KV) (n : Int) (q : Nat) (w : World) (h : MemAt w p M) (hM : M.length ≤ 4) (hE : Even M q) (hq : q ≤ 900) (h0 : M.length = 0 → q = 0) :
  Calls Tryz.prog 115 #[.pointer p, .int .i64 n] w fun e w' => MemG w (cutM M (cutN n q)) e w' := by
 obtain ⟨m, hm⟩ : ∃ m, cutN n q = m := ⟨_, rfl⟩
 obtain ⟨x, hx⟩ : ∃ x : Int, (if (q : Int) < n then (q : Int) else n) = x := ⟨_, rfl⟩
 have hmq : m ≤ q := by unfold cutN at hm; omega
 have hA : (if (0 : Int) < x then x else 0) = (m : Int) := by
  unfold cutN at hm
  rw [← hx]
  split <;> split at * <;> omega
 have hB : (if x < (0 : Int) then 0 else x) = (m : Int) := by
  unfold cutN at hm
  rw [← hx]
  split <;> split at * <;> omega
 rw [hm]
 clear hm
 have HLn := hid (len_any p M q w h h0 (fun hp => (hE 0 hp).1) hM)
 have HLy := hid (layers_any p M w h)
 have HNw := hid fun W => anew_nat M.length W hM
 have HF : Hid (∀ i, i < M.length → kv (cutM M m) i = ((kv M i).1.take m, (kv M i).2.take m)) := fun i hi => cutM_at M m i
 have HCl := hid (cutM_len M m)
 rcases h with ⟨rfl, rfl⟩ | ⟨B0, g0, ps0, rfl, h⟩
 ·simp only [List.length_nil] at HLy HNw HCl
  clear h0 hE hM
  go_enter Tryz.func115, Tryz.ntmps115
  go_wp2_with fail
  refine HLn.out.mono ?_
  rintro e w' ⟨rfl, rfl⟩
  rename World => w
  go_wp2_with fail
  refine HLy.out.mono ?_
  rintro e w' ⟨rfl, rfl⟩
  rename World => w
  go_wp2_with fail
  refine (HNw.out _).mono ?_
  rintro e w2 ⟨B, g, ps, rfl, hB1, hg1, hM1, hb⟩
  have HM1 := hid hM1
  have HB1 := hid hB1
  have HG1 := hid hg1
  have HV := hid hb
  clear hM1 hB1 hg1 hb HLn HLy HNw
  go_wp2_with fail
  refine (all_none _).mono ?_
  rintro e w' ⟨rfl, rfl⟩
  rename World => w2
  go_wp2_with fail
  go_loopw [19] (fun i W => i = .int .i64 0 ∧ W = w2) (fun i _ => 0)
  case atStart => exact ⟨rfl, rfl⟩
  case round =>
   obtain ⟨rfl, rfl⟩ := hrel
   go_wp2
   go_ret
   exact ⟨_, _, _, rfl, HB1.out, HG1.out, HM1.out, HV.out⟩
 ·have HA := hid fun W (hb : Below w.heap.size w W) => all_some W (h.below hb)
  have HH := hid fun W (hb : Below w.heap.size w W) => h.below hb
  have HEv := hid hE
  clear h hE h0
  generalize hL : M.length = L at *
  go_enter Tryz.func115, Tryz.ntmps115
  go_wp2_with fail
  refine HLn.out.mono ?_
  rintro e w' ⟨rfl, rfl⟩
  rename World => w
  go_wp2_with fail
  refine HLy.out.mono ?_
  rintro e w' ⟨rfl, rfl⟩
  rename World => w
  go_wp2_with fail
  refine (HNw.out _).mono ?_
  rintro e w2 ⟨B, g, ps, rfl, hB1, hg1, hM1, hb⟩
  have HU0 := hid (MemUp.start (fun i => ((kv M i).1.take m, (kv M i).2.take m)) hB1 hg1 hM1 hb)
  clear hM1 hB1 hg1 HLn HLy HNw
  go_wp2_with fail
  refine (HA.out _ hb).mono ?_
  rintro e w' ⟨rfl, rfl⟩
  rename World => w2
  clear hb HA
  go_wp2_with fail
  go_loopw [19] (fun i W => ∃ (k : Nat) (ps : List Hp), k ≤ L ∧ i = .int .i64 k ∧ Hid (MemUp w B g L k (fun i => ((kv M i).1.take m, (kv M i).2.take m)) ps W)) (fun i _ => L - (intOf i).toNat)
  case atStart => exact ⟨0, _, Nat.zero_le _, rfl, HU0⟩
  case round =>
   obtain ⟨k, ps, hk, rfl, HU⟩ := hrel
   clear HU0
   by_cases hlt : k < L
   ·have hq1 : (k : Int) < (L : Int) := by omega
    have hH := HH.out wr HU.out.old
    have c0 := hH.own.cell0 (k := k) (by omega)
    have c1 := hH.own.cell1 (k := k) (by omega)
    obtain ⟨t1, t2⟩ := hH.rows k (by omega)
    have HT1 := hid t1
    have HT2 := hid t2
    have e1 := t1.1
    have e2 := t2.1
    obtain ⟨s1, s2⟩ := HEv.out k (by omega)
    generalize pk ps0 k = y at *
    obtain ⟨⟨y1, y2, y3⟩, ⟨v1, v2, v3⟩⟩ := y
    simp only at e1 e2
    have r1 := HT1.out.2.choose_spec.1.rd.room
    have r2 := HT2.out.2.choose_spec.1.rd.room
    have r3 := HT1.out.2.choose_spec.1.rd.most
    have r4 := HT2.out.2.choose_spec.1.rd.most
    simp only at r1 r2 r3 r4
    have r5 : m ≤ y3 := by omega
    have r6 : m ≤ v3 := by omega
    unfold hdV at c0 c1
    simp only at c0 c1
    clear hH t1 t2 HH HEv r1 r2
    have hy2 : m ≤ y2 := by omega
    have hv2 : m ≤ v2 := by omega
    clear e1 e2 s1 s2
    obtain ⟨W1, hW1⟩ : ∃ W1, W1 = wr.alloc (.cells #[.slice y1 y2 y3, .slice v1 v2 v3] 226) := ⟨_, rfl⟩
    have HX1 : Hid (Below wr.heap.size wr W1) := by unfold Hid; rw [hW1]; exact (Below.refl _ _).alloc (Nat.le_refl _) _
    have HBx : Hid (W1.heap[wr.heap.size]? = some (.cells #[.slice y1 y2 y3, .slice v1 v2 v3] 226 (0, 0))) := by unfold Hid; rw [hW1]; exact heap_alloc_new wr _
    have hBg := HU.out.apart
    have hglt := HU.out.own.lt
    have HC := hid fun W (u v : Value) (hb : Below W1.heap.size W1 W) => held_cut HU.out.var HBx.out hBg (by omega : g ≠ wr.heap.size) HX1.out hb (k * 2) u v
    have HC0 := hid fun W (hb : Below W1.heap.size W1 W) => held_cut0 HU.out.var HBx.out HX1.out hb
    have HX : Hid (Below W1.heap.size W1 W1.drew) := (Below.refl _ _).drew
    clear hBg hglt
    go_wp2_with fail
    rw [← hW1]
    clear hW1 HBx
    go_region_held3 (fun W : World => W.cell? ⟨B, 0, none⟩ = some (.slice (some ⟨g, 0, none⟩) L L) ∧ W.cell? ⟨wr.heap.size, 0, none⟩ = some (.slice y1 y2 y3) ∧ W.cell? ⟨wr.heap.size, 1, none⟩ = some (.slice v1 v2 v3))
     (first | (with_reducible exact HC0.out _ (Below.refl _ _)) | (with_reducible exact HC0.out _ HX.out) | (with_reducible exact HC.out _ _ _ HX.out))
     (first | (go_at_call 163; (with_reducible refine (first_any y1 v1 y2 y3 v2 v3 m _ r5 r6 r3 r4).mono ?_); rintro e z1 ⟨rfl, hb⟩; replace HX := hid (HX.out.trans (hb.mono HX.out.size)); have HUz := hid ((HU.out.below HX1.out).below HX.out); have ck0 := HUz.out.own.cell0 hlt; have ck1 := HUz.out.own.cell1 hlt; have fk0 := HUz.out.own.frozen (k * 2); have fk1 := HUz.out.own.frozen (k * 2 + 1); unfold hdV at ck0 ck1; clear hb))
    have HUn := hid (HUz.out.step hlt (y1, m, m) (v1, m, m) (((HT1.out.below HX1.out).below HX.out).cut (by omega)) (((HT2.out.below HX1.out).below HX.out).cut (by omega)))
    clear HUz HU HT1 HT2 HX HX1 HC HC0 ck0 ck1 fk0 fk1 c0 c1
    go_wp2_with fail
    go_round
    case rel => exact ⟨k + 1, _, by omega, by go_num, HUn⟩
    case measure => simp [intOf]; omega
   ·obtain rfl : k = L := by omega
    have HD := hid (HU.out.done (M := cutM M m) (HCl.out) HF.out)
    have hB1 := hid HU.out.lowB
    have hg1 := hid HU.out.own.base
    have HV := hid HU.out.old
    clear HU HH HEv HF HCl
    go_wp2
    go_ret
    exact ⟨_, _, _, rfl, hB1.out, hg1.out, HD.out, HV.out⟩
end Go.Proofs.YtjgggialnegddaaGreat
namespace Go.Proofs.YtjgggialnegddaaGreat
open Go.RowKit
def Fr2 (w : World) (x : Hp) : Prop := (∀ ad, x.1.1 = some ad → w.heap.size ≤ ad.block) ∧ ∀ ad, x.2.1 = some ad → w.heap.size ≤ ad.block
def ThrG (w : World) (X : List Int) (N : List KV) (e : Ending) (w' : World) : Prop := ∃ (a : Option Addr) (n cap B g : Nat) (ps : List Hp), e = .returned (.tuple #[.slice a n cap, .pointer (some ⟨B, 0, none⟩)]) ∧ Reads .i64 w' a n cap X ∧ BlI w' a ∧ MemB w' B g N ps ∧ (∀ i, i < N.length → Fr2 w (pk ps i)) ∧ Below w.heap.size w w'
theorem Fr2.up {w w' : World} {x : Hp} (h : Fr2 w' x) (hs : w.heap.size ≤ w'.heap.size) : Fr2 w x := ⟨fun ad e => Nat.le_trans hs (h.1 ad e), fun ad e => Nat.le_trans hs (h.2 ad e)⟩
theorem fr2_set {w : World} {ps : List Hp} {L k : Nat} {x : Hp} (hl : ps.length = L) (hk : k < L) (h : ∀ i, i < k → Fr2 w (pk ps i)) (hx : Fr2 w x) : ∀ i, i < k + 1 → Fr2 w (pk (ps.set k x) i) := by
 intro i hi
 by_cases e : i = k
 ·subst e
  have : pk (ps.set i x) i = x := by simp [pk, (by omega : i < ps.length)]
  rw [this]
  exact hx
 ·have : pk (ps.set k x) i = pk ps i := by unfold pk; rw [List.getElem?_set_ne (by omega)]
  rw [this]
  exact h i (by omega)
def fromM (M : List KV) (L : Nat) : List KV := if M.length = L then M else noneM L
def ThrAt (w : World) (c : Cf) (M : List KV) (zs : List Int) (B g L k : Nat) (u : Value) (W : World) : Prop :=
 ∃ (a : Option Addr) (n cap : Nat) (ps : List Hp), u = .slice a n cap ∧ n ≤ 1000 ∧ Reads .i64 W a n cap (thrX c M zs k) ∧ BlI W a ∧ MemUp w B g L k (fun j => ((kv M j).1 ++ [keyL c j (thrX c M zs j)], (kv M j).2 ++ [valL c j (thrX c M zs j)])) ps W ∧ ∀ i, i < k → Fr2 w (pk ps i)
set_option maxHeartbeats 4000000 in
theorem through_nat (p : Option Addr) (s v d tt h : Int) (L : Nat) (qm : Option Addr) (M : List KV) (q0 : Nat) (a : Option Addr) (n cap : Nat) (zs : List Int) (w : World) (hp : MdAt w p ⟨s, v, d, (L : Int), tt, h⟩) (hc : mayB ⟨s, v, d, (L : Int), tt, h⟩ = true) (hL : L ≤ 4) (hm : MemAt w qm M) (hM : M.length ≤ 4) (hE : Even (fromM M L) q0) (hq : q0 ≤ 900)
  (hx : Reads .i64 w a n cap zs) (hn : n ≤ 1000) (L1 : 1 ≤ L) :
  Calls Tryz.prog 153 #[.pointer p, .pointer qm, .slice a n cap] w fun e w' => ThrG w (thrX ⟨s, v, d, (L : Int), tt, h⟩ (fromM M L) zs L) (thrM ⟨s, v, d, (L : Int), tt, h⟩ (fromM M L) zs L) e w' := by
 have hC := config_any p _ w hp
 have HMd := hid fun W (hb : Below w.heap.size w W) => hp.below hb
 have HX := hid fun W (hb : Below w.heap.size w W) => hx.below hb
 have HLy := hid fun W (hb : Below w.heap.size w W) => layers_any qm M W (hm.below hb)
 have HMm := hid fun W (hb : Below w.heap.size w W) => hm.below hb
 have HZl : Hid (zs.length ≤ 1000) := by unfold Hid; rw [hx.size]; exact hn
 have HNw := hid fun W => anew_nat L W hL
 have HEv := hid hE
 have hfd := fld_layers s v d L tt h
 unfold CfV at hC
 simp only at hC
 clear hp hx hm hE
 by_cases hml : M.length = L
 ·have hF : fromM M L = M := by unfold fromM; rw [if_pos hml]
  rw [hF] at HEv ⊢
  rw [hml] at HLy
  have hB0 : ∃ B0 g0 ps0, qm = some ⟨B0, 0, none⟩ ∧ ∀ W, Below w.heap.size w W → MemB W B0 g0 M ps0 := by
   rcases HMm.out w (Below.refl _ _) with ⟨rfl, rfl⟩ | ⟨B0, g0, ps0, rfl, hh⟩
   ·simp at hml; omega
   ·exact ⟨B0, g0, ps0, rfl, fun W hb => hh.below hb⟩
  obtain ⟨B0, g0, ps0, rfl, hH⟩ := hB0
  have HH := hid hH
  have HA := hid fun W (hb : Below w.heap.size w W) => all_some W (hH W hb)
  rw [hml] at HA
  have HML := hid hml
  clear hF hH HMm hM
  go_enter Tryz.func153, Tryz.ntmps153
  go_wp2_with fail
  refine hC.mono ?_
  rintro e w1 ⟨rfl, hb⟩
  have HV := hid hb
  clear hb hC
  go_wp2_with fail
  refine (HLy.out _ HV.out).mono ?_
  rintro e w' ⟨rfl, rfl⟩
  rename World => w1
  clear HLy
  go_wp2_with fail
  refine (clone_any a n cap zs _ (HX.out _ HV.out) hn).mono ?_
  rintro e w3 ⟨u, rfl, hO, hb⟩
  obtain ⟨ca, cc, rfl, hCr⟩ := Reads.own (k := .i64) hO
  have HCr := hid hCr
  have HCi := hid (BlI.own hO)
  replace HV := hid (HV.out.trans (hb.mono HV.out.size))
  clear hO hb hCr HX
  go_wp2_with fail
  refine (HNw.out _).mono ?_
  rintro e w4 ⟨B, g, ps, rfl, hB1, hg1, hM1, hb⟩
  replace HCr := hid (HCr.out.below hb)
  replace HCi := hid (HCi.out.below hb)
  have HU0 := hid (MemUp.start (fun j => ((kv M j).1 ++ [keyL ⟨s, v, d, (L : Int), tt, h⟩ j (thrX ⟨s, v, d, (L : Int), tt, h⟩ M zs j)], (kv M j).2 ++ [valL ⟨s, v, d, (L : Int), tt, h⟩ j (thrX ⟨s, v, d, (L : Int), tt, h⟩ M zs j)])) (Nat.le_trans HV.out.size hB1) (Nat.le_trans HV.out.size hg1) hM1 (HV.out.trans (hb.mono HV.out.size)))
  replace HV := hid (HV.out.trans (hb.mono HV.out.size))
  have HT0 : Hid (ThrAt w ⟨s, v, d, (L : Int), tt, h⟩ M zs B g L 0 (.slice ca n cc) w4) := ⟨ca, n, cc, ps, rfl, hn, HCr.out, HCi.out, HU0.out, fun i hi => absurd hi (by omega)⟩
  clear hM1 hB1 hg1 HNw HU0 HCr HCi hb hfd
  go_wp2_with fail
  refine (HA.out _ HV.out).mono ?_
  rintro e w' ⟨rfl, rfl⟩
  rename World => w4
  clear HA HV
  go_wp2_with fail
  go_loopw [9, 31] (fun u i W => ∃ k : Nat, k ≤ L ∧ i = .int .i64 k ∧ Hid (ThrAt w ⟨s, v, d, (L : Int), tt, h⟩ M zs B g L k u W)) (fun _ i _ => L - (intOf i).toNat)
  case atStart => exact ⟨0, Nat.zero_le _, rfl, HT0⟩
  case round =>
   obtain ⟨k, hk, rfl, HT⟩ := hrel
   clear HT0
   by_cases hlt : k < L
   ·obtain ⟨a, n, cap, ps, rfl, hn, hR, hI, hU, hFr⟩ := HT.out
    have HR := hid hR
    have HU := hid hU
    have HFr := hid hFr
    clear hFr
    have hq1 : (k : Int) < (L : Int) := by omega
    have hH := HH.out wr hU.old
    have c0 := hH.own.cell0 (k := k) (by rw [HML.out]; exact hlt)
    have c1 := hH.own.cell1 (k := k) (by rw [HML.out]; exact hlt)
    obtain ⟨t1, t2⟩ := hH.rows k (by rw [HML.out]; exact hlt)
    have HT1 := hid t1
    have HT2 := hid t2
    obtain ⟨s1, s2⟩ := HEv.out k (by rw [HML.out]; exact hlt)
    generalize pk ps0 k = y at *
    obtain ⟨⟨y1, y2, y3⟩, ⟨v1, v2, v3⟩⟩ := y
    have e1 : y2 = q0 := by have := t1.1; simp only at this; omega
    have e2 : v2 = q0 := by have := t2.1; simp only at this; omega
    subst e1
    subst e2
    unfold hdV at c0 c1
    simp only at c0 c1
    obtain ⟨W1, hW1⟩ : ∃ W1, W1 = wr.alloc (.cells #[.slice y1 v2 y3, .slice v1 v2 v3] 226) := ⟨_, rfl⟩
    have HX1 : Hid (Below wr.heap.size wr W1) := by unfold Hid; rw [hW1]; exact (Below.refl _ _).alloc (Nat.le_refl _) _
    have HBx : Hid (W1.heap[wr.heap.size]? = some (.cells #[.slice y1 v2 y3, .slice v1 v2 v3] 226 (0, 0))) := by unfold Hid; rw [hW1]; exact heap_alloc_new wr _
    have hBg := HU.out.apart
    have hglt := HU.out.own.lt
    have HC := hid fun W (u v : Value) (hb : Below W1.heap.size W1 W) => held_cut HU.out.var HBx.out hBg (by omega : g ≠ wr.heap.size) HX1.out hb (k * 2) u v
    have HC0 := hid fun W (hb : Below W1.heap.size W1 W) => held_cut0 HU.out.var HBx.out HX1.out hb
    have hS : Calls Tryz.prog 184 #[.pointer p, .int .i64 (k : Int), .slice a n cap, .slice y1 v2 y3, .slice v1 v2 v3] W1 fun e w' => Stp W1 (thrX ⟨s, v, d, (L : Int), tt, h⟩ M zs (k + 1)) (keyL ⟨s, v, d, (L : Int), tt, h⟩ k (thrX ⟨s, v, d, (L : Int), tt, h⟩ M zs k)) (valL ⟨s, v, d, (L : Int), tt, h⟩ k (thrX ⟨s, v, d, (L : Int), tt, h⟩ M zs k)) e w' := by
     obtain ⟨hs1, f1, _, _⟩ := (t1.below HX1.out).2
     obtain ⟨hs2, f2, _, _⟩ := (t2.below HX1.out).2
     have := step_yes p ⟨s, v, d, (L : Int), tt, h⟩ k a n cap (thrX ⟨s, v, d, (L : Int), tt, h⟩ M zs k) y1 v2 y3 hs1 (kv M k).1 v1 v2 v3 hs2 (kv M k).2 v2 W1 (HMd.out _ (hU.old.trans (HX1.out.mono hU.old.size))) hc (by omega) (by show (k : Int) < (L : Int); omega) (hR.below HX1.out) hn f1 t1.1 (by omega) f2 t2.1 (by omega) (by omega)
     rw [List.take_of_length_le (by omega), List.take_of_length_le (by omega)] at this
     exact this
    have HKl : Hid ((keyL ⟨s, v, d, (L : Int), tt, h⟩ k (thrX ⟨s, v, d, (L : Int), tt, h⟩ M zs k)).length ≤ 16) := keyL_len hc _ _
    have HVl : Hid ((valL ⟨s, v, d, (L : Int), tt, h⟩ k (thrX ⟨s, v, d, (L : Int), tt, h⟩ M zs k)).length ≤ 16) := valL_len hc _ _
    have HXl : Hid ((thrX ⟨s, v, d, (L : Int), tt, h⟩ M zs (k + 1)).length ≤ 1000) := Nat.le_trans (thrX_len _ _ _ _) HZl.out
    have HSz : Hid ((kv M k).1.length = v2) := s1
    clear hBg hglt hR hI hU hH t1 t2 s1 s2 HH HEv HMd HT HZl
    go_wp2_with fail
    rw [← hW1]
    refine hS.mono ?_
    rintro e w2 ⟨b1, b2, b3, n1, n2, n3, d1, d2, d3, rfl, hR1, hR2, hR3, hI1, hI2, hI3, hb⟩
    have HX := hid hb
    have HR1 := hid hR1
    have HR2 := hid hR2
    have HR3 := hid hR3
    have HI1 := hid hI1
    have HI2 := hid hI2
    have HI3 := hid hI3
    have x0 := (HC0.out _ hb).1
    have x1 := (HC0.out _ hb).2.1
    have x2 := (HC0.out _ hb).2.2
    have HWi := hid fun W (hw : Below w2.heap.size w2 W) => with_any y1 v1 v2 y3 v2 v3 _ _ b2 b3 n2 d2 n3 d3 _ _ W (((HT1.out.below HX1.out).below hb).below hw) (((HT2.out.below HX1.out).below hb).below hw) (by omega) (by omega) (hR2.below hw) (hR3.below hw) (by have := hR2.size; have := HKl.out; omega) (by have := hR3.size; have := HVl.out; omega) (hI2.below hw) (hI3.below hw)
    clear hb hS hR1 hR2 hR3 hI1 hI2 hI3 hW1 HBx HR c0 c1 HT1 HT2
    go_wp2_with fail
    have HY : Hid (Below w2.heap.size w2 w2.drew) := (Below.refl _ _).drew
    have HD0 := hid fun W (hb : Below w2.heap.size w2 W) => HC0.out W (HX.out.trans (hb.mono HX.out.size))
    have HDs := hid fun W u v (hb : Below w2.heap.size w2 W) => HC.out W u v (HX.out.trans (hb.mono HX.out.size))
    clear HC HC0 x0 x1 x2
    go_region_held3 (fun W : World => W.cell? ⟨B, 0, none⟩ = some (.slice (some ⟨g, 0, none⟩) L L) ∧ W.cell? ⟨wr.heap.size, 0, none⟩ = some (.slice y1 v2 y3) ∧ W.cell? ⟨wr.heap.size, 1, none⟩ = some (.slice v1 v2 v3))
     (first | (with_reducible exact HD0.out _ (Below.refl _ _)) | (with_reducible exact HD0.out _ HY.out) | (with_reducible exact HDs.out _ _ _ HY.out))
     (first | (go_at_call 185; (with_reducible refine (HWi.out _ HY.out).mono ?_); rintro e z1 ⟨⟨o1, o2, o3⟩, ⟨o4, o5, o6⟩, rfl, hx, hy, hf1, hf2, hb⟩; have HF2 : Hid (Fr2 w ((o1, o2, o3), (o4, o5, o6))) := ⟨fun ad h => Nat.le_trans (Nat.le_trans HU.out.old.size (Nat.le_trans HX1.out.size (Nat.le_trans HX.out.size HY.out.size))) (hf1 ad h), fun ad h => Nat.le_trans (Nat.le_trans HU.out.old.size (Nat.le_trans HX1.out.size (Nat.le_trans HX.out.size HY.out.size))) (hf2 ad h)⟩; clear hf1 hf2; replace HY := hid (HY.out.trans (hb.mono HY.out.size)); have HUz := hid (((HU.out.below HX1.out).below HX.out).below HY.out); have ck0 := HUz.out.own.cell0 hlt; have ck1 := HUz.out.own.cell1 hlt; have fk0 := HUz.out.own.frozen (k * 2); have fk1 := HUz.out.own.frozen (k * 2 + 1); unfold hdV at ck0 ck1; have HTx := hid hx; have HTy := hid hy; clear hb hx hy))
    have HUn := hid (HUz.out.step hlt (o1, o2, o3) (o4, o5, o6) HTx.out HTy.out)
    have HRn := hid (Reads.keep (HR1.out.below HY.out) (HI1.out.below HY.out) (HUz.out.kept (k * 2) (.slice o1 o2 o3) (.slice o4 o5 o6)) (by decide))
    have HFn : Hid (∀ i, i < k + 1 → Fr2 w (pk (ps.set k ((o1, o2, o3), (o4, o5, o6))) i)) := fr2_set HUz.out.own.len hlt HFr.out HF2.out
    have hn1 : Hid (n1 ≤ 1000) := by have := HR1.out.size; have := HXl.out; unfold Hid; omega
    have HTn : Hid (ThrAt w ⟨s, v, d, (L : Int), tt, h⟩ M zs B g L (k + 1) (.slice b1 n1 d1) ((z1.setCell ⟨g, k * 2, none⟩ (.slice o1 o2 o3)).setCell ⟨g, k * 2 + 1, none⟩ (.slice o4 o5 o6))) := ⟨b1, n1, d1, _, rfl, hn1.out, HRn.out.1, HRn.out.2, HUn.out, HFn.out⟩
    clear HFr HF2 HFn HUz HU HTx HTy HX HX1 HD0 HDs ck0 ck1 fk0 fk1 HUn HRn HR1 HR2 HR3 HI1 HI2 HI3 HY HWi HKl HVl HXl hn1 HSz
    go_wp2_with fail
    go_round
    case rel => exact ⟨k + 1, by omega, by go_num, HTn⟩
    case measure => simp [intOf]; omega
   ·obtain rfl : L = k := by omega
    obtain ⟨a, n, cap, ps, rfl, hn, hR, hI, hU, hFr⟩ := HT.out
    have HFr := hid hFr
    have HD := hid (hU.done (M := thrM ⟨s, v, d, (L : Int), tt, h⟩ M zs L) (thrM_len _ _ _ _) (fun i hi => thrM_at _ _ _ hi))
    have HR := hid hR
    have HI := hid hI
    have HV := hid hU.old
    clear HT HH HEv hR hI hU HMd hn hFr
    go_wp2
    go_ret2
    exact ⟨_, _, _, _, _, _, rfl, HR.out, HI.out, HD.out, fun i hi => HFr.out i (by rw [thrM_len] at hi; exact hi), HV.out⟩
 ·have hF : fromM M L = noneM L := by unfold fromM; rw [if_neg hml]
  rw [hF] at HEv ⊢
  have HML := hid (noneM_len L)
  clear hF HMm
  generalize M.length = ml at *
  have hne : ¬ (ml : Int) = (L : Int) := by omega
  go_enter Tryz.func153, Tryz.ntmps153
  go_wp2_with fail
  refine hC.mono ?_
  rintro e w1 ⟨rfl, hb⟩
  have HV := hid hb
  clear hb hC
  go_wp2_with fail
  refine (HLy.out _ HV.out).mono ?_
  rintro e w' ⟨rfl, rfl⟩
  rename World => w1
  clear HLy
  go_wp2_with fail
  refine (HNw.out _).mono ?_
  rintro e w2 ⟨B0, g0, ps0, rfl, hB1, hg1, hM1, hb⟩
  have HH0 := hid hM1
  replace HV := hid (HV.out.trans (hb.mono HV.out.size))
  clear hM1 hB1 hg1 hb
  go_wp2_with fail
  refine (clone_any a n cap zs _ (HX.out _ HV.out) hn).mono ?_
  rintro e w3 ⟨u, rfl, hO, hb⟩
  obtain ⟨ca, cc, rfl, hCr⟩ := Reads.own (k := .i64) hO
  have HCr := hid hCr
  have HCi := hid (BlI.own hO)
  replace HH0 := hid (HH0.out.below hb)
  replace HV := hid (HV.out.trans (hb.mono HV.out.size))
  clear hO hb hCr HX
  go_wp2_with fail
  have HS3 := hid HV.out
  refine (HNw.out _).mono ?_
  rintro e w4 ⟨B, g, ps, rfl, hB1, hg1, hM1, hb⟩
  have HH : Hid (∀ W : World, Below w3.heap.size w3 W → MemB W B0 g0 (noneM L) ps0) := fun W hw => HH0.out.below hw
  have HA := hid (all_some _ (HH0.out.below hb))
  rw [HML.out] at HA
  replace HCr := hid (HCr.out.below hb)
  replace HCi := hid (HCi.out.below hb)
  have HU0 := hid (MemUp.start (fun j => ((kv (noneM L) j).1 ++ [keyL ⟨s, v, d, (L : Int), tt, h⟩ j (thrX ⟨s, v, d, (L : Int), tt, h⟩ (noneM L) zs j)], (kv (noneM L) j).2 ++ [valL ⟨s, v, d, (L : Int), tt, h⟩ j (thrX ⟨s, v, d, (L : Int), tt, h⟩ (noneM L) zs j)])) hB1 hg1 hM1 hb)
  have HT0 : Hid (ThrAt w3 ⟨s, v, d, (L : Int), tt, h⟩ (noneM L) zs B g L 0 (.slice ca n cc) w4) := ⟨ca, n, cc, ps, rfl, hn, HCr.out, HCi.out, HU0.out, fun i hi => absurd hi (by omega)⟩
  replace HMd : Hid (∀ W, Below w3.heap.size w3 W → MdAt W p ⟨s, v, d, (L : Int), tt, h⟩) := fun W hw => HMd.out W (HS3.out.trans (hw.mono HS3.out.size))
  clear hM1 hB1 hg1 HNw HU0 HCr HCi hb hfd HH0
  go_wp2_with fail
  refine HA.out.mono ?_
  rintro e w' ⟨rfl, rfl⟩
  rename World => w4
  clear HA HV
  go_wp2_with fail
  go_loopw [9, 31] (fun u i W => ∃ k : Nat, k ≤ L ∧ i = .int .i64 k ∧ Hid (ThrAt w3 ⟨s, v, d, (L : Int), tt, h⟩ (noneM L) zs B g L k u W)) (fun _ i _ => L - (intOf i).toNat)
  case atStart => exact ⟨0, Nat.zero_le _, rfl, HT0⟩
  case round =>
   obtain ⟨k, hk, rfl, HT⟩ := hrel
   clear HT0
   by_cases hlt : k < L
   ·obtain ⟨a, n, cap, ps, rfl, hn, hR, hI, hU, hFr⟩ := HT.out
    have HR := hid hR
    have HU := hid hU
    have HFr := hid hFr
    clear hFr
    have hq1 : (k : Int) < (L : Int) := by omega
    have hH := HH.out wr hU.old
    have c0 := hH.own.cell0 (k := k) (by rw [HML.out]; exact hlt)
    have c1 := hH.own.cell1 (k := k) (by rw [HML.out]; exact hlt)
    obtain ⟨t1, t2⟩ := hH.rows k (by rw [HML.out]; exact hlt)
    have HT1 := hid t1
    have HT2 := hid t2
    obtain ⟨s1, s2⟩ := HEv.out k (by rw [HML.out]; exact hlt)
    generalize pk ps0 k = y at *
    obtain ⟨⟨y1, y2, y3⟩, ⟨v1, v2, v3⟩⟩ := y
    have e1 : y2 = q0 := by have := t1.1; simp only at this; omega
    have e2 : v2 = q0 := by have := t2.1; simp only at this; omega
    subst e1
    subst e2
    unfold hdV at c0 c1
    simp only at c0 c1
    obtain ⟨W1, hW1⟩ : ∃ W1, W1 = wr.alloc (.cells #[.slice y1 v2 y3, .slice v1 v2 v3] 226) := ⟨_, rfl⟩
    have HX1 : Hid (Below wr.heap.size wr W1) := by unfold Hid; rw [hW1]; exact (Below.refl _ _).alloc (Nat.le_refl _) _
    have HBx : Hid (W1.heap[wr.heap.size]? = some (.cells #[.slice y1 v2 y3, .slice v1 v2 v3] 226 (0, 0))) := by unfold Hid; rw [hW1]; exact heap_alloc_new wr _
    have hBg := HU.out.apart
    have hglt := HU.out.own.lt
    have HC := hid fun W (u v : Value) (hb : Below W1.heap.size W1 W) => held_cut HU.out.var HBx.out hBg (by omega : g ≠ wr.heap.size) HX1.out hb (k * 2) u v
    have HC0 := hid fun W (hb : Below W1.heap.size W1 W) => held_cut0 HU.out.var HBx.out HX1.out hb
    have hS : Calls Tryz.prog 184 #[.pointer p, .int .i64 (k : Int), .slice a n cap, .slice y1 v2 y3, .slice v1 v2 v3] W1 fun e w' => Stp W1 (thrX ⟨s, v, d, (L : Int), tt, h⟩ (noneM L) zs (k + 1)) (keyL ⟨s, v, d, (L : Int), tt, h⟩ k (thrX ⟨s, v, d, (L : Int), tt, h⟩ (noneM L) zs k)) (valL ⟨s, v, d, (L : Int), tt, h⟩ k (thrX ⟨s, v, d, (L : Int), tt, h⟩ (noneM L) zs k)) e w' := by
     obtain ⟨hs1, f1, _, _⟩ := (t1.below HX1.out).2
     obtain ⟨hs2, f2, _, _⟩ := (t2.below HX1.out).2
     have := step_yes p ⟨s, v, d, (L : Int), tt, h⟩ k a n cap (thrX ⟨s, v, d, (L : Int), tt, h⟩ (noneM L) zs k) y1 v2 y3 hs1 (kv (noneM L) k).1 v1 v2 v3 hs2 (kv (noneM L) k).2 v2 W1 (HMd.out _ (hU.old.trans (HX1.out.mono hU.old.size))) hc (by omega) (by show (k : Int) < (L : Int); omega) (hR.below HX1.out) hn f1 t1.1 (by omega) f2 t2.1 (by omega) (by omega)
     rw [List.take_of_length_le (by omega), List.take_of_length_le (by omega)] at this
     exact this
    have HKl : Hid ((keyL ⟨s, v, d, (L : Int), tt, h⟩ k (thrX ⟨s, v, d, (L : Int), tt, h⟩ (noneM L) zs k)).length ≤ 16) := keyL_len hc _ _
    have HVl : Hid ((valL ⟨s, v, d, (L : Int), tt, h⟩ k (thrX ⟨s, v, d, (L : Int), tt, h⟩ (noneM L) zs k)).length ≤ 16) := valL_len hc _ _
    have HXl : Hid ((thrX ⟨s, v, d, (L : Int), tt, h⟩ (noneM L) zs (k + 1)).length ≤ 1000) := Nat.le_trans (thrX_len _ _ _ _) HZl.out
    have HSz : Hid ((kv (noneM L) k).1.length = v2) := s1
    clear hBg hglt hR hI hU hH t1 t2 s1 s2 HH HEv HMd HT HZl
    go_wp2_with fail
    rw [← hW1]
    refine hS.mono ?_
    rintro e w2 ⟨b1, b2, b3, n1, n2, n3, d1, d2, d3, rfl, hR1, hR2, hR3, hI1, hI2, hI3, hb⟩
    have HX := hid hb
    have HR1 := hid hR1
    have HR2 := hid hR2
    have HR3 := hid hR3
    have HI1 := hid hI1
    have HI2 := hid hI2
    have HI3 := hid hI3
    have x0 := (HC0.out _ hb).1
    have x1 := (HC0.out _ hb).2.1
    have x2 := (HC0.out _ hb).2.2
    have HWi := hid fun W (hw : Below w2.heap.size w2 W) => with_any y1 v1 v2 y3 v2 v3 _ _ b2 b3 n2 d2 n3 d3 _ _ W (((HT1.out.below HX1.out).below hb).below hw) (((HT2.out.below HX1.out).below hb).below hw) (by omega) (by omega) (hR2.below hw) (hR3.below hw) (by have := hR2.size; have := HKl.out; omega) (by have := hR3.size; have := HVl.out; omega) (hI2.below hw) (hI3.below hw)
    clear hb hS hR1 hR2 hR3 hI1 hI2 hI3 hW1 HBx HR c0 c1 HT1 HT2
    go_wp2_with fail
    have HY : Hid (Below w2.heap.size w2 w2.drew) := (Below.refl _ _).drew
    have HD0 := hid fun W (hb : Below w2.heap.size w2 W) => HC0.out W (HX.out.trans (hb.mono HX.out.size))
    have HDs := hid fun W u v (hb : Below w2.heap.size w2 W) => HC.out W u v (HX.out.trans (hb.mono HX.out.size))
    clear HC HC0 x0 x1 x2
    go_region_held3 (fun W : World => W.cell? ⟨B, 0, none⟩ = some (.slice (some ⟨g, 0, none⟩) L L) ∧ W.cell? ⟨wr.heap.size, 0, none⟩ = some (.slice y1 v2 y3) ∧ W.cell? ⟨wr.heap.size, 1, none⟩ = some (.slice v1 v2 v3))
     (first | (with_reducible exact HD0.out _ (Below.refl _ _)) | (with_reducible exact HD0.out _ HY.out) | (with_reducible exact HDs.out _ _ _ HY.out))
     (first | (go_at_call 185; (with_reducible refine (HWi.out _ HY.out).mono ?_); rintro e z1 ⟨⟨o1, o2, o3⟩, ⟨o4, o5, o6⟩, rfl, hx, hy, hf1, hf2, hb⟩; have HF2 : Hid (Fr2 w3 ((o1, o2, o3), (o4, o5, o6))) := ⟨fun ad h => Nat.le_trans (Nat.le_trans HU.out.old.size (Nat.le_trans HX1.out.size (Nat.le_trans HX.out.size HY.out.size))) (hf1 ad h), fun ad h => Nat.le_trans (Nat.le_trans HU.out.old.size (Nat.le_trans HX1.out.size (Nat.le_trans HX.out.size HY.out.size))) (hf2 ad h)⟩; clear hf1 hf2; replace HY := hid (HY.out.trans (hb.mono HY.out.size)); have HUz := hid (((HU.out.below HX1.out).below HX.out).below HY.out); have ck0 := HUz.out.own.cell0 hlt; have ck1 := HUz.out.own.cell1 hlt; have fk0 := HUz.out.own.frozen (k * 2); have fk1 := HUz.out.own.frozen (k * 2 + 1); unfold hdV at ck0 ck1; have HTx := hid hx; have HTy := hid hy; clear hb hx hy))
    have HUn := hid (HUz.out.step hlt (o1, o2, o3) (o4, o5, o6) HTx.out HTy.out)
    have HRn := hid (Reads.keep (HR1.out.below HY.out) (HI1.out.below HY.out) (HUz.out.kept (k * 2) (.slice o1 o2 o3) (.slice o4 o5 o6)) (by decide))
    have HFn : Hid (∀ i, i < k + 1 → Fr2 w3 (pk (ps.set k ((o1, o2, o3), (o4, o5, o6))) i)) := fr2_set HUz.out.own.len hlt HFr.out HF2.out
    have hn1 : Hid (n1 ≤ 1000) := by have := HR1.out.size; have := HXl.out; unfold Hid; omega
    have HTn : Hid (ThrAt w3 ⟨s, v, d, (L : Int), tt, h⟩ (noneM L) zs B g L (k + 1) (.slice b1 n1 d1) ((z1.setCell ⟨g, k * 2, none⟩ (.slice o1 o2 o3)).setCell ⟨g, k * 2 + 1, none⟩ (.slice o4 o5 o6))) := ⟨b1, n1, d1, _, rfl, hn1.out, HRn.out.1, HRn.out.2, HUn.out, HFn.out⟩
    clear HFr HF2 HFn HUz HU HTx HTy HX HX1 HD0 HDs ck0 ck1 fk0 fk1 HUn HRn HR1 HR2 HR3 HI1 HI2 HI3 HY HWi HKl HVl HXl hn1 HSz
    go_wp2_with fail
    go_round
    case rel => exact ⟨k + 1, by omega, by go_num, HTn⟩
    case measure => simp [intOf]; omega
   ·obtain rfl : L = k := by omega
    obtain ⟨a, n, cap, ps, rfl, hn, hR, hI, hU, hFr⟩ := HT.out
    have HFr := hid hFr
    have HD := hid (hU.done (M := thrM ⟨s, v, d, (L : Int), tt, h⟩ (noneM L) zs L) (thrM_len _ _ _ _) (fun i hi => thrM_at _ _ _ hi))
    have HR := hid hR
    have HI := hid hI
    have HV := hid hU.old
    clear HT HH HEv hR hI hU HMd hn hFr
    go_wp2
    go_ret2
    exact ⟨_, _, _, _, _, _, rfl, HR.out, HI.out, HD.out, fun i hi => (HFr.out i (by rw [thrM_len] at hi; exact hi)).up HS3.out.size, HS3.out.trans (HV.out.mono HS3.out.size)⟩
end Go.Proofs.YtjgggialnegddaaGreat
