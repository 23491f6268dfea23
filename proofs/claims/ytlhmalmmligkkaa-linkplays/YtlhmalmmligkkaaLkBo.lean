/-
  A link of the program's and the document's, side by side (Bo): each call turns both alike.
-/
import Derived.Test.YtlhmalmmligkkaaLrDo3
namespace Go.Proofs.Ytlhmalmmligkkaa
open Go.RowKit
set_option linter.unusedVariables false
set_option maxRecDepth 1000000

def Lm.has (S : Lm) (i : Int) : Prop := 0 ≤ i ∧ i < (S.ms.length : Int)
instance (S : Lm) (i : Int) : Decidable (S.has i) := by unfold Lm.has; infer_instance
def Lm.msgZ (S : Lm) (i : Int) : List Int := if S.has i then S.ms[i.toNat]?.getD [] else []
def Lm.errI (S : Lm) (i : Int) : Int := if S.has i then 0 else 6
def Lm.dlv (S : Lm) (i : Int) : Lm := if S.has i then (S.less i.toNat).came else S
def Lm.drp (S : Lm) (i : Int) : Lm := if S.has i then (S.less i.toNat).lost 1 else S
def Lm.twi (S : Lm) (i : Int) : Lm := if S.has i ∧ ¬ S.room ≤ S.ms.length then S.put (S.ms ++ [S.msgZ i]) else S
def Lm.twiE (S : Lm) (i : Int) : Int := if S.has i then (if S.room ≤ S.ms.length then 9 else 0) else 6
def Lm.lat (S : Lm) (i : Int) : Lm := if S.has i then S.put (S.ms.eraseIdx i.toNat ++ [S.msgZ i]) else S
def Lm.trn (S : Lm) (i p m : Int) : Lm := if S.has i then (S.put (S.ms.set i.toNat (burstL (S.msgZ i) p m 32))).spun else S
def Lm.clr (S : Lm) : Lm := (S.put []).lost S.ms.length
theorem Lm.nat {S : Lm} {i : Int} (h : S.has i) : ∃ j : Nat, i = j ∧ i.toNat = j ∧ j < S.ms.length := ⟨i.toNat, by have := h.1; omega, rfl, by have := h.1; have := h.2; omega⟩
/-- The program's at S1, the document's at S2, and nothing of the one is the other's. -/
def Bo (B : Nat) (W : World) (b r : Nat) (S1 S2 : Lm) : Prop := ∃ v us v' us', LkAt B W b v us S1 ∧ LrAt B W r v' us' S2 ∧ ∀ k, lkF b v us k → ¬ lkF r v' us' k
variable {B b r : Nat} {W W' : World} {v v' : Value} {us us' : List Value} {S S1 S2 : Lm}
theorem LkAt.lts (h : LkAt B W b v us S) {k : Nat} (hk : lkF b v us k) : B ≤ k ∧ k < W.heap.size := hk.elim h.lt1 h.lt2
theorem Bo.below (h : Bo B W b r S1 S2) (hb : Below W.heap.size W W') : Bo B W' b r S1 S2 := by
  obtain ⟨v, us, v', us', h1, h2, h3⟩ := h
  exact ⟨v, us, v', us', h1.below hb, h2.below hb, h3⟩
/-- What calls leave as it was: all below B, what is of no link and no row of messages, maps. -/
structure Kp (B : Nat) (W W' : World) : Prop where
  bel : Below B W W'
  cel : ∀ (q : Nat) (cs : Array Value) (t : TypeId) (f : Nat × Nat), W.heap[q]? = some (.cells cs t f) → t ≠ 60 → t ≠ 36 → t ≠ 30 → W'.heap[q]? = W.heap[q]?
  map : ∀ (M : Nat) es (c : Nat), W.heap[M]? = some (Obj.map es c) → W'.heap[M]? = W.heap[M]?
theorem Kp.refl (B : Nat) (W : World) : Kp B W W := ⟨Below.refl _ _, fun _ _ _ _ _ _ _ _ => rfl, fun _ _ _ _ => rfl⟩
theorem Kp.of (hB : B ≤ W.heap.size) (hb : Below W.heap.size W W') : Kp B W W' := ⟨hb.mono hB, fun q _ _ _ h _ _ _ => hb.block q (lt_of_block h), fun M _ _ h => hb.block M (lt_of_block h)⟩
theorem Kp.trans {W1 W2 : World} (h : Kp B W W1) (k : Kp B W1 W2) : Kp B W W2 :=
  ⟨h.bel.trans k.bel, fun q cs t f hq n1 n2 n3 => by
    have h1 := h.cel q cs t f hq n1 n2 n3
    exact (k.cel q cs t f (h1.trans hq) n1 n2 n3).trans h1, fun M es c hm => by
    have h1 := h.map M es c hm
    exact (k.map M es c (h1.trans hm)).trans h1⟩
theorem LkAt.cellsF (h : LkAt B W b v us S) {k : Nat} (hk : rwF b v k) : ∃ cs t f, W.heap[k]? = some (.cells cs t f) ∧ (t = 60 ∨ t = 36) := by
  rcases hk with rfl | e
  · exact ⟨_, _, _, h.blk, .inl rfl⟩
  · obtain ⟨_, cur, hc⟩ := own_blkP h.row e
    exact ⟨_, _, _, hc, .inr rfl⟩
theorem LkAt.kp (h : LkAt B W b v us S) (hf : Fb (rwF b v) W W') : Kp B W W' :=
  ⟨hf.to (fun k hk => (h.lt1 hk).1) (by have := h.hb; have := h.blt; omega), fun q cs t f hq n1 n2 n3 => hf.block q (lt_of_block hq) fun e => by
    obtain ⟨cs', t', f', hc, ht⟩ := h.cellsF e
    rw [hq] at hc
    cases hc
    exact ht.elim n1 n2, fun M es c hm => hf.block M (lt_of_block hm) fun e => by
    obtain ⟨cs', t', f', hc, _⟩ := h.cellsF e
    rw [hm] at hc
    cases hc⟩
theorem LrAt.kp (h : LrAt B W r v us S) (hf : Fb (at1 r) W W') : Kp B W W' :=
  ⟨hf.to (fun k hk => by rw [show k = r from hk]; exact h.hb) (by have := h.hb; have := h.blt; omega), fun q cs t f hq n1 n2 n3 => hf.block q (lt_of_block hq) fun e => by
    rw [show q = r from e, h.blk] at hq
    cases hq
    exact n3 rfl, fun M es c hm => hf.block M (lt_of_block hm) fun e => by
    rw [show M = r from e, h.blk] at hm
    cases hm⟩
theorem Bo.go1 (h1 : LkAt B W b v us S1) (h2 : LrAt B W r v' us' S2) (hd : ∀ k, lkF b v us k → ¬ lkF r v' us' k) {S1' : Lm} (hg : Goes B W b v us S1' W') : Bo B W' b r S1' S2 ∧ Kp B W W' := by
  obtain ⟨w, xs, a1, a2, a3⟩ := hg
  refine ⟨⟨w, xs, v', us', a1, h2.same fun k hk => a2.block k (h2.lts hk).2 fun e => hd k (.inl e) hk, fun k hk hr => ?_⟩, h1.kp a2⟩
  rcases a3 k hk with e | e
  · exact hd k e hr
  · have := (h2.lts hr).2
    omega
theorem Bo.go2 (h1 : LkAt B W b v us S1) (h2 : LrAt B W r v' us' S2) (hd : ∀ k, lkF b v us k → ¬ lkF r v' us' k) {S2' : Lm} (hg : GoesR B W r v' us' S2' W') : Bo B W' b r S1 S2' ∧ Kp B W W' := by
  obtain ⟨w, xs, a1, a2, a3⟩ := hg
  have hr : lkF r v' us' r := .inl (.inl rfl)
  refine ⟨⟨v, us, w, xs, h1.same (fun k hk => a2.block k (h1.lt1 hk).2 fun e => hd k (.inl hk) (by rw [show k = r from e]; exact hr)) (fun k hk => a2.block k (h1.lt2 hk).2 fun e => hd k (.inr hk) (by rw [show k = r from e]; exact hr)), a1, fun k hk hx => ?_⟩, h2.kp a2⟩
  rcases a3 k hx with e | e
  · exact hd k hk e
  · have := (h1.lts hk).2
    omega
theorem goes_take (h : LkAt B W' b v' us' S) {xs : List Value} (hx : ∀ u ∈ us', u ∈ us) (hf : Fb (rwF b v) W W') (ho : v'.ownBlock = v.ownBlock) : Goes B W b v us S W' :=
  ⟨v', us', h, hf, fun k hk => .inl (hk.elim (fun e => .inl (e.imp id fun e => by rw [← ho]; exact e)) fun ⟨u, hu, e⟩ => .inr ⟨u, hx u hu, e⟩)⟩
theorem Bo.lk (h : Bo B W b r S1 S2) : ∃ v us, LkAt B W b v us S1 := by obtain ⟨v, us, _, _, h1, _⟩ := h; exact ⟨v, us, h1⟩
theorem Bo.lr (h : Bo B W b r S1 S2) : ∃ v us, LrAt B W r v us S2 := by obtain ⟨_, _, v, us, _, h1, _⟩ := h; exact ⟨v, us, h1⟩
section Ops
variable (i : Int)
theorem bsend1 (h : Bo B W b r S S2) (a : Option Addr) (len cap : Nat) (zs : List Int) (hr : Reads .u8 W a len cap zs) (hz : IsBytes zs) (hlen : len ≤ 140737488351232) (hF : 0 < len → ∀ p, a = some p → p.block < B) :
    Calls Try.prog 23 #[.pointer (some ⟨b, 0, none⟩), .slice a len cap] W fun e w' => e = .returned (.int .i64 S.sendE) ∧ Hid (Bo B w' b r (S.send zs) S2 ∧ Kp B W w') := by
  obtain ⟨v, us, v', us', h1, h2, h3⟩ := h
  refine (lsend_any h1 a len cap zs hr hz hlen fun hl p hp e => ?_).mono ?_
  · have := hF hl p hp
    have := (h1.lt1 e).1
    omega
  · rintro e w' ⟨rfl, H⟩
    exact ⟨rfl, Bo.go1 h1 h2 h3 H.out⟩
theorem bsend2 (h : Bo B W b r S1 S) (a : Option Addr) (len cap : Nat) (zs : List Int) (hr : Reads .u8 W a len cap zs) (hz : IsBytes zs) (hlen : len ≤ 140737488351232) (hF : 0 < len → ∀ p, a = some p → p.block < B) :
    Calls Try.prog 24 #[.pointer (some ⟨r, 0, none⟩), .slice a len cap] W fun e w' => e = .returned (.int .i64 S.sendE) ∧ Hid (Bo B w' b r S1 (S.send zs) ∧ Kp B W w') := by
  obtain ⟨v, us, v', us', h1, h2, h3⟩ := h
  refine (rsend_any h2 a len cap zs hr hz hlen fun hl p hp e => ?_).mono ?_
  · have := hF hl p hp
    have := h2.hb
    have : p.block = r := e
    omega
  · rintro e w' ⟨rfl, H⟩
    exact ⟨rfl, Bo.go2 h1 h2 h3 H.out⟩
theorem bdrop1 (h : Bo B W b r S S2) : Calls Try.prog 14 #[.pointer (some ⟨b, 0, none⟩), .int .i64 i] W fun e w' => e = .returned (.int .i64 (S.errI i)) ∧ Hid (Bo B w' b r (S.drp i) S2 ∧ Kp B W w') := by
  have hB := h
  obtain ⟨v, us, v', us', h1, h2, h3⟩ := h
  by_cases hi : S.has i
  · obtain ⟨j, rfl, hj, hl⟩ := Lm.nat hi
    obtain ⟨u, zs, hu, hz, _⟩ := h1.get hl
    unfold Lm.errI Lm.drp
    rw [if_pos hi, if_pos hi, hj]
    refine (ldrop_yes h1 hu).mono ?_
    rintro e w' ⟨rfl, H⟩
    obtain ⟨x, a1, a2, a3⟩ := H.out
    exact ⟨rfl, Bo.go1 h1 h2 h3 (goes_take (xs := us) a1 (fun u hu => List.mem_of_mem_eraseIdx hu) a2 a3)⟩
  · unfold Lm.errI Lm.drp
    rw [if_neg hi, if_neg hi]
    refine (ldrop_no (fun f => lask_none h1 hi f) (by decide)).mono ?_
    rintro e w' ⟨rfl, rfl⟩
    exact ⟨rfl, hB, Kp.refl _ _⟩
theorem bdrop2 (h : Bo B W b r S1 S) : Calls Try.prog 15 #[.pointer (some ⟨r, 0, none⟩), .int .i64 i] W fun e w' => e = .returned (.int .i64 (S.errI i)) ∧ Hid (Bo B w' b r S1 (S.drp i) ∧ Kp B W w') := by
  have hB := h
  obtain ⟨v, us, v', us', h1, h2, h3⟩ := h
  by_cases hi : S.has i
  · obtain ⟨j, rfl, hj, hl⟩ := Lm.nat hi
    unfold Lm.errI Lm.drp
    rw [if_pos hi, if_pos hi, hj]
    refine (rdrop_yes h2 hl).mono ?_
    rintro e w' ⟨rfl, H⟩
    exact ⟨rfl, Bo.go2 h1 h2 h3 H.out⟩
  · unfold Lm.errI Lm.drp
    rw [if_neg hi, if_neg hi]
    refine (rdrop_no h2 hi).mono ?_
    rintro e w' ⟨rfl, rfl⟩
    exact ⟨rfl, hB, Kp.refl _ _⟩
theorem bdlv1 (h : Bo B W b r S S2) : Calls Try.prog 12 #[.pointer (some ⟨b, 0, none⟩), .int .i64 i] W fun e w' => ∃ a c, e = .returned (.tuple #[.slice a (S.msgZ i).length c, .int .i64 (S.errI i)]) ∧ Hid (Bo B w' b r (S.dlv i) S2 ∧ Kp B W w' ∧ Reads .u8 w' a (S.msgZ i).length c (S.msgZ i) ∧ (∀ p, a = some p → p.block ≠ r)) := by
  have hB := h
  obtain ⟨v, us, v', us', h1, h2, h3⟩ := h
  by_cases hi : S.has i
  · obtain ⟨j, rfl, hj, hl⟩ := Lm.nat hi
    obtain ⟨u, zs, hu, hz, hm⟩ := h1.get hl
    have hmz : S.msgZ j = zs := by unfold Lm.msgZ; rw [if_pos hi, hj, hz]; rfl
    rw [hmz]
    unfold Lm.errI Lm.dlv
    rw [if_pos hi, if_pos hi, hj]
    refine (ldeliver_yes h1 hu).mono ?_
    rintro e w' ⟨rfl, H⟩
    obtain ⟨x, a1, a2, a3⟩ := H.out
    have hm2 : MsgAt B w' u zs := hm.same fun k hk => a2.block k (hm.lt hk).2 (h1.off hm hk)
    obtain ⟨a, c, rfl, hr⟩ := hm2.reads
    have hg := Bo.go1 h1 h2 h3 (goes_take (xs := us) a1 (fun u hu => List.mem_of_mem_eraseIdx hu) a2 a3)
    exact ⟨a, c, rfl, hg.1, hg.2, hr, fun p hp e => h3 p.block (.inr ⟨_, List.mem_of_getElem? hu, by rw [hp]; rfl⟩) (by rw [e]; exact .inl (.inl rfl))⟩
  · have hmz : S.msgZ i = [] := by unfold Lm.msgZ; rw [if_neg hi]
    rw [hmz]
    unfold Lm.errI Lm.dlv
    rw [if_neg hi, if_neg hi]
    refine (ldeliver_no (fun f => lask_none h1 hi f) (by decide)).mono ?_
    rintro e w' ⟨rfl, rfl⟩
    exact ⟨none, 0, rfl, hB, Kp.refl _ _, Reads.nil _ _, fun p hp => by cases hp⟩
theorem bdlv2 (h : Bo B W b r S1 S) {xa : Option Addr} {xn xc : Nat} {ys : List Int} (hx : Reads .u8 W xa xn xc ys) (hxr : ∀ p, xa = some p → p.block ≠ r) :
    Calls Try.prog 13 #[.pointer (some ⟨r, 0, none⟩), .int .i64 i] W fun e w' => ∃ a c, e = .returned (.tuple #[.slice a (S.msgZ i).length c, .int .i64 (S.errI i)]) ∧ Hid (Bo B w' b r S1 (S.dlv i) ∧ Kp B W w' ∧ Reads .u8 w' a (S.msgZ i).length c (S.msgZ i) ∧ Reads .u8 w' xa xn xc ys) := by
  have hB := h
  obtain ⟨v, us, v', us', h1, h2, h3⟩ := h
  by_cases hi : S.has i
  · obtain ⟨j, rfl, hj, hl⟩ := Lm.nat hi
    obtain ⟨u, zs, hu, hz, hm⟩ := h2.get hl
    have hmz : S.msgZ j = zs := by unfold Lm.msgZ; rw [if_pos hi, hj, hz]; rfl
    rw [hmz]
    unfold Lm.errI Lm.dlv
    rw [if_pos hi, if_pos hi, hj]
    refine (rdeliver_yes h2 hu).mono ?_
    rintro e w' ⟨rfl, H⟩
    obtain ⟨x, xs, a1, a2, a3⟩ := H.out
    have hm2 : MsgAt B w' u zs := hm.same fun k hk => a2.block k (hm.lt hk).2 fun e => h2.mb hm (by rw [hk, show k = r from e])
    obtain ⟨a, c, rfl, hr⟩ := hm2.reads
    have hg := Bo.go2 h1 h2 h3 H.out
    exact ⟨a, c, rfl, hg.1, hg.2, hr, hx.fb a2 fun _ p hp e => hxr p hp e⟩
  · have hmz : S.msgZ i = [] := by unfold Lm.msgZ; rw [if_neg hi]
    rw [hmz]
    unfold Lm.errI Lm.dlv
    rw [if_neg hi, if_neg hi]
    refine (rdeliver_no h2 hi).mono ?_
    rintro e w' ⟨rfl, rfl⟩
    exact ⟨none, 0, rfl, hB, Kp.refl _ _, Reads.nil _ _, hx⟩
theorem btwi1 (h : Bo B W b r S S2) : Calls Try.prog 16 #[.pointer (some ⟨b, 0, none⟩), .int .i64 i] W fun e w' => e = .returned (.int .i64 (S.twiE i)) ∧ Hid (Bo B w' b r (S.twi i) S2 ∧ Kp B W w') := by
  have hB := h
  obtain ⟨v, us, v', us', h1, h2, h3⟩ := h
  by_cases hi : S.has i
  · obtain ⟨j, rfl, hj, hl⟩ := Lm.nat hi
    obtain ⟨u, zs, hu, hz, _⟩ := h1.get hl
    have hmz : S.msgZ j = zs := by unfold Lm.msgZ; rw [if_pos hi, hj, hz]; rfl
    by_cases hf : S.room ≤ S.ms.length
    · have e1 : S.twi j = S := if_neg fun e => e.2 hf
      have e2 : S.twiE j = 9 := by unfold Lm.twiE; rw [if_pos hi, if_pos hf]
      rw [e1, e2]
      refine (ltwice_full h1 hu hf).mono ?_
      rintro e w' ⟨rfl, H⟩
      exact ⟨rfl, hB.below H.out, Kp.of (by have := h1.hb; have := h1.blt; omega) H.out⟩
    · have e1 : S.twi j = S.put (S.ms ++ [zs]) := by unfold Lm.twi; rw [if_pos ⟨hi, hf⟩, hmz]
      have e2 : S.twiE j = 0 := by unfold Lm.twiE; rw [if_pos hi, if_neg hf]
      rw [e1, e2]
      refine (ltwice_room h1 hu hz hf).mono ?_
      rintro e w' ⟨rfl, H⟩
      exact ⟨rfl, Bo.go1 h1 h2 h3 H.out⟩
  · have e1 : S.twi i = S := if_neg fun e => hi e.1
    have e2 : S.twiE i = 6 := if_neg hi
    rw [e1, e2]
    refine (ltwice_no (fun f => lask_none h1 hi f) (by decide)).mono ?_
    rintro e w' ⟨rfl, rfl⟩
    exact ⟨rfl, hB, Kp.refl _ _⟩
theorem btwi2 (h : Bo B W b r S1 S) : Calls Try.prog 17 #[.pointer (some ⟨r, 0, none⟩), .int .i64 i] W fun e w' => e = .returned (.int .i64 (S.twiE i)) ∧ Hid (Bo B w' b r S1 (S.twi i) ∧ Kp B W w') := by
  have hB := h
  obtain ⟨v, us, v', us', h1, h2, h3⟩ := h
  by_cases hi : S.has i
  · obtain ⟨j, rfl, hj, hl⟩ := Lm.nat hi
    obtain ⟨u, zs, hu, hz, _⟩ := h2.get hl
    have hmz : S.msgZ j = zs := by unfold Lm.msgZ; rw [if_pos hi, hj, hz]; rfl
    by_cases hf : S.room ≤ S.ms.length
    · have e1 : S.twi j = S := if_neg fun e => e.2 hf
      have e2 : S.twiE j = 9 := by unfold Lm.twiE; rw [if_pos hi, if_pos hf]
      rw [e1, e2]
      refine (rtwice_full h2 hl hf).mono ?_
      rintro e w' ⟨rfl, H⟩
      exact ⟨rfl, hB.below H.out, Kp.of (by have := h1.hb; have := h1.blt; omega) H.out⟩
    · have e1 : S.twi j = S.put (S.ms ++ [zs]) := by unfold Lm.twi; rw [if_pos ⟨hi, hf⟩, hmz]
      have e2 : S.twiE j = 0 := by unfold Lm.twiE; rw [if_pos hi, if_neg hf]
      rw [e1, e2]
      refine (rtwice_room h2 hu hz hf).mono ?_
      rintro e w' ⟨rfl, H⟩
      exact ⟨rfl, Bo.go2 h1 h2 h3 H.out⟩
  · have e1 : S.twi i = S := if_neg fun e => hi e.1
    have e2 : S.twiE i = 6 := if_neg hi
    rw [e1, e2]
    refine (rtwice_no h2 hi).mono ?_
    rintro e w' ⟨rfl, rfl⟩
    exact ⟨rfl, hB, Kp.refl _ _⟩
theorem blat1 (h : Bo B W b r S S2) : Calls Try.prog 18 #[.pointer (some ⟨b, 0, none⟩), .int .i64 i] W fun e w' => e = .returned (.int .i64 (S.errI i)) ∧ Hid (Bo B w' b r (S.lat i) S2 ∧ Kp B W w') := by
  have hB := h
  obtain ⟨v, us, v', us', h1, h2, h3⟩ := h
  by_cases hi : S.has i
  · obtain ⟨j, rfl, hj, hl⟩ := Lm.nat hi
    obtain ⟨u, zs, hu, hz, _⟩ := h1.get hl
    have hmz : S.msgZ j = zs := by unfold Lm.msgZ; rw [if_pos hi, hj, hz]; rfl
    unfold Lm.errI Lm.lat
    rw [if_pos hi, if_pos hi, hj, hmz]
    refine (llater_yes h1 hu hz).mono ?_
    rintro e w' ⟨rfl, H⟩
    exact ⟨rfl, Bo.go1 h1 h2 h3 H.out⟩
  · unfold Lm.errI Lm.lat
    rw [if_neg hi, if_neg hi]
    refine (llater_no (fun f => lask_none h1 hi f) (by decide)).mono ?_
    rintro e w' ⟨rfl, rfl⟩
    exact ⟨rfl, hB, Kp.refl _ _⟩
theorem blat2 (h : Bo B W b r S1 S) : Calls Try.prog 19 #[.pointer (some ⟨r, 0, none⟩), .int .i64 i] W fun e w' => e = .returned (.int .i64 (S.errI i)) ∧ Hid (Bo B w' b r S1 (S.lat i) ∧ Kp B W w') := by
  have hB := h
  obtain ⟨v, us, v', us', h1, h2, h3⟩ := h
  by_cases hi : S.has i
  · obtain ⟨j, rfl, hj, hl⟩ := Lm.nat hi
    obtain ⟨u, zs, hu, hz, _⟩ := h2.get hl
    have hmz : S.msgZ j = zs := by unfold Lm.msgZ; rw [if_pos hi, hj, hz]; rfl
    unfold Lm.errI Lm.lat
    rw [if_pos hi, if_pos hi, hj, hmz]
    refine (rlater_yes h2 hu hz).mono ?_
    rintro e w' ⟨rfl, H⟩
    exact ⟨rfl, Bo.go2 h1 h2 h3 H.out⟩
  · unfold Lm.errI Lm.lat
    rw [if_neg hi, if_neg hi]
    refine (rlater_no h2 hi).mono ?_
    rintro e w' ⟨rfl, rfl⟩
    exact ⟨rfl, hB, Kp.refl _ _⟩
theorem btrn1 (h : Bo B W b r S S2) {p m : Int} (hp : isI p) (hm : isW m) : Calls Try.prog 20 #[.pointer (some ⟨b, 0, none⟩), .int .i64 i, .int .i64 p, .int .u32 m] W fun e w' => e = .returned (.int .i64 (S.errI i)) ∧ Hid (Bo B w' b r (S.trn i p m) S2 ∧ Kp B W w') := by
  have hB := h
  obtain ⟨v, us, v', us', h1, h2, h3⟩ := h
  by_cases hi : S.has i
  · obtain ⟨j, rfl, hj, hl⟩ := Lm.nat hi
    obtain ⟨u, zs, hu, hz, _⟩ := h1.get hl
    have hmz : S.msgZ j = zs := by unfold Lm.msgZ; rw [if_pos hi, hj, hz]; rfl
    unfold Lm.errI Lm.trn
    rw [if_pos hi, if_pos hi, hj, hmz]
    refine (lturn_yes h1 hu hz hp hm).mono ?_
    rintro e w' ⟨rfl, H⟩
    exact ⟨rfl, Bo.go1 h1 h2 h3 H.out⟩
  · unfold Lm.errI Lm.trn
    rw [if_neg hi, if_neg hi]
    refine (lturn_no (fun f => lask_none h1 hi f) (by decide) p m).mono ?_
    rintro e w' ⟨rfl, rfl⟩
    exact ⟨rfl, hB, Kp.refl _ _⟩
theorem btrn2 (h : Bo B W b r S1 S) {p m : Int} (hp : isI p) (hm : isW m) : Calls Try.prog 21 #[.pointer (some ⟨r, 0, none⟩), .int .i64 i, .int .i64 p, .int .u32 m] W fun e w' => e = .returned (.int .i64 (S.errI i)) ∧ Hid (Bo B w' b r S1 (S.trn i p m) ∧ Kp B W w') := by
  have hB := h
  obtain ⟨v, us, v', us', h1, h2, h3⟩ := h
  by_cases hi : S.has i
  · obtain ⟨j, rfl, hj, hl⟩ := Lm.nat hi
    obtain ⟨u, zs, hu, hz, _⟩ := h2.get hl
    have hmz : S.msgZ j = zs := by unfold Lm.msgZ; rw [if_pos hi, hj, hz]; rfl
    unfold Lm.errI Lm.trn
    rw [if_pos hi, if_pos hi, hj, hmz]
    refine (rturn_yes h2 hu hz hp hm).mono ?_
    rintro e w' ⟨rfl, H⟩
    exact ⟨rfl, Bo.go2 h1 h2 h3 H.out⟩
  · unfold Lm.errI Lm.trn
    rw [if_neg hi, if_neg hi]
    refine (rturn_no h2 hi p m).mono ?_
    rintro e w' ⟨rfl, rfl⟩
    exact ⟨rfl, hB, Kp.refl _ _⟩
theorem bclr1 (h : Bo B W b r S S2) : Calls Try.prog 22 #[.pointer (some ⟨b, 0, none⟩)] W fun e w' => e = .returned (.int .i64 S.ms.length) ∧ Hid (Bo B w' b r S.clr S2 ∧ Kp B W w') := by
  obtain ⟨v, us, v', us', h1, h2, h3⟩ := h
  refine (lclear_any h1).mono ?_
  rintro e w' ⟨rfl, H⟩
  exact ⟨rfl, Bo.go1 h1 h2 h3 H.out⟩
/-- The document's counter and list, cleared by hand. -/
theorem bclr2 (h : Bo B W b r S1 S) (hs : S.dr + S.ms.length ≤ 4294967295) (hW : W' = (W.setCell ⟨r, 4, none⟩ (.int .u32 (S.dr + S.ms.length))).setCell ⟨r, 1, none⟩ (.slice none 0 0)) : Bo B W' b r S1 S.clr ∧ Kp B W W' := by
  obtain ⟨v, us, v', us', h1, h2, h3⟩ := h
  refine Bo.go2 h1 h2 h3 ⟨.slice none 0 0, [], ?_, ?_, ?_⟩
  · rw [hW]
    refine h2.turn (S' := S.clr) ?_ (World.ownsRow_nil _ _ _ _) rfl (fun i u zs hu => by simp at hu) ⟨h2.ok.r0, h2.ok.r1, Nat.zero_le _, h2.ok.se, h2.ok.ca, upZ_w h2.ok.dr (by omega), h2.ok.tu⟩
    have e : upZ S.dr S.ms.length = S.dr + S.ms.length := upZ_in hs
    have := row_set (k := 1) (u := .slice none 0 0) (row_set (k := 4) (u := .int .u32 (S.dr + S.ms.length)) h2.blk)
    rw [this, ← e]
    rfl
  · rw [hW]
    exact (fb_one W r 4 _).trans (fb_one _ r 1 _) fun k hk => .inl hk
  · rintro k ((rfl | e) | ⟨x, hx, _⟩)
    · exact .inl (.inl (.inl rfl))
    · cases e
    · simp at hx
end Ops
end Go.Proofs.Ytlhmalmmligkkaa
