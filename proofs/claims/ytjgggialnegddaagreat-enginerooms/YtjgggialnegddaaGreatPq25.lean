/-
  The texts DeSt, De1, EnMath3, EnRest of this proof.
-/
import Derived.Test.YtjgggialnegddaaGreatPq23
import Derived.Test.YtjgggialnegddaaGreatPq20
import Derived.Deep.QuietTactic
import Derived.BigQuiet
set_option linter.unusedVariables false
set_option maxRecDepth 1000000
namespace Go.Proofs.YtjgggialnegddaaGreat
open Go.RowKit
def NotInt (w : World) (k : Nat) : Prop := ∃ cur t fz, w.heap[k]? = some (.cells cur t fz) ∧ t ≠ 3
theorem NotInt.own {w : World} {base n b : Nat} {v : Value} {xs : List Value} (h : w.ownsRow base 3 1 v n xs) (hb : v.ownBlock = some b) : ¬ NotInt w b := by
 rintro ⟨cur, t, fz, h1, h2⟩
 obtain ⟨c, hc⟩ := own_type h hb
 rw [hc] at h1
 simp at h1
 exact h2 h1.2.1.symm
theorem NotInt.lt {w : World} {k : Nat} (h : NotInt w k) : k < w.heap.size := by
 obtain ⟨cur, t, fz, h1, _⟩ := h
 exact lt_of_block h1
theorem NotInt.back {w w' : World} {k : Nat} (h : NotInt w' k) (hb : Below w.heap.size w w') (hk : k < w.heap.size) : NotInt w k := by
 obtain ⟨cur, t, fz, h1, h2⟩ := h
 exact ⟨cur, t, fz, (hb.block k hk).symm.trans h1, h2⟩
def mF (p : Option Addr) (k : Nat) : Prop := ∃ a, p = some a ∧ a.block = k
def outsL (c : Cf) (ts : List Int) : List (List Int) := tblK (fun k => outK c ts (k + 1)) ts.length
theorem outsL_len (c : Cf) (ts : List Int) : (outsL c ts).length = ts.length := tblK_len _ _
theorem outsL_at (c : Cf) (ts : List Int) {i : Nat} (h : i < ts.length) : (outsL c ts)[i]?.getD [] = outK c ts (i + 1) := tblK_at _ h
theorem outsL_snoc (c : Cf) (ts : List Int) (t : Int) : outsL c ts ++ [outK c (ts ++ [t]) (ts.length + 1)] = outsL c (ts ++ [t]) := by
 have h : outsL c ts = tblK (fun k => outK c (ts ++ [t]) (k + 1)) ts.length := by
  unfold outsL tblK
  apply List.map_congr_left
  intro k hk
  rw [List.mem_range] at hk
  exact (outK_app c ts [t] (by omega)).symm
 rw [h]
 unfold outsL
 rw [List.length_append, List.length_singleton]
 exact tblK_snoc (fun k => outK c (ts ++ [t]) (k + 1)) ts.length
theorem outsL_take (c : Cf) (ts : List Int) {n : Nat} (h : n ≤ ts.length) : (outsL c ts).take n = outsL c (ts.take n) := by
 have hl : (ts.take n).length = n := by rw [List.length_take]; omega
 unfold outsL tblK
 rw [← List.map_take, List.take_range, hl, Nat.min_eq_left h]
 apply List.map_congr_left
 intro k hk
 rw [List.mem_range] at hk
 have := outK_app c (ts.take n) (ts.drop n) (k := k + 1) (by omega)
 rw [List.take_append_drop] at this
 exact this
theorem memL_take (c : Cf) (ts : List Int) {n : Nat} (h : n ≤ ts.length) : cutM (memL c c.layers.toNat (tvsL c ts) ts.length) n = memL c c.layers.toNat (tvsL c (ts.take n)) (ts.take n).length := by
 have hl : (ts.take n).length = n := by rw [List.length_take]; omega
 rw [memL_cut c _ _ h]
 have := memL_app c c.layers.toNat (ts.take n) (ts.drop n) (k := n) (by omega)
 rw [List.take_append_drop] at this
 rw [this, hl]
structure StIn (W : World) (g : Nat) (pm ta : Option Addr) (tc : Nat) (ha : Option Addr) (hc : Nat) (pq : Option Addr) (c : Cf) (ts : List Int) : Prop where
 var : W.heap[g]? = some (.cells #[.pointer pm, .slice ta ts.length tc, .slice ha ts.length hc, .pointer pq] 181 (0, 0))
 md : MdAt W pm c
 tk : Reads .i64 W ta ts.length tc ts
 mks : TbH W (ha, ts.length, hc) (outsL c ts)
 mem : MemAt W pq (memL c c.layers.toNat (tvsL c ts) ts.length)
 bl : ∀ p, ta = some p → ∃ cur fz, W.heap[p.block]? = some (.cells cur 3 fz)
theorem StIn.below {W W' : World} {g : Nat} {pm ta : Option Addr} {tc : Nat} {ha : Option Addr} {hc : Nat} {pq : Option Addr} {c : Cf} {ts : List Int} (h : StIn W g pm ta tc ha hc pq c ts) (hb : Below W.heap.size W W') : StIn W' g pm ta tc ha hc pq c ts :=
 ⟨block_below h.var hb, h.md.below hb, h.tk.below hb, h.mks.below hb, h.mem.below hb, fun p hp => by
  obtain ⟨cur, fz, hc⟩ := h.bl p hp
  exact ⟨cur, fz, block_below hc hb⟩⟩
theorem MdAt.keep {T : TypeId} {W W' : World} {p : Option Addr} {c : Cf} (h : MdAt W p c) (hk : Kp T W W') (hT : 100 ≠ T) : MdAt W' p c := by
 rcases h with h | ⟨g, hp, hg⟩
 ·exact .inl h
 ·exact .inr ⟨g, hp, hk _ _ _ _ hg hT⟩
theorem Reads.same {k : IntKind} {W W' : World} {a : Option Addr} {l c : Nat} {zs : List Int} (hr : Reads k W a l c zs) (hb : ∀ x, mF a x → W'.heap[x]? = W.heap[x]?) : Reads k W' a l c zs :=
 ⟨hr.size, hr.room, hr.most, hr.bare, fun i hi => by
  obtain ⟨b, off, ha, hc⟩ := hr.cell i hi
  exact ⟨b, off, ha, (World.cell?_of_block (a := ⟨b, off + i, none⟩) (hb b ⟨_, ha, rfl⟩)).trans hc⟩⟩
theorem StIn.keep {W W' : World} {g : Nat} {pm ta : Option Addr} {tc : Nat} {ha : Option Addr} {hc : Nat} {pq : Option Addr} {c : Cf} {ts : List Int} (h : StIn W g pm ta tc ha hc pq c ts) (hk : Kp 3 W W') (hb : ∀ x, mF ta x → W'.heap[x]? = W.heap[x]?) : StIn W' g pm ta tc ha hc pq c ts :=
 ⟨hk _ _ _ _ h.var (by decide), h.md.keep hk (by decide), h.tk.same hb, h.mks.keep hk (by decide) (by decide), h.mem.keep hk (by decide) (by decide) (by decide) (by decide), fun p hp => by
  obtain ⟨cur, fz, hc⟩ := h.bl p hp
  exact ⟨cur, fz, (hb _ ⟨p, hp, rfl⟩).trans hc⟩⟩
def StX (W : World) (p : Option Addr) (c : Cf) (ts : List Int) (F : Nat → Prop) : Prop :=
 ∃ (W0 : World) (g : Nat) (pm ta : Option Addr) (tc : Nat) (ha : Option Addr) (hc : Nat) (pq : Option Addr), p = some ⟨g, 0, none⟩ ∧ StIn W0 g pm ta tc ha hc pq c ts ∧ W0.heap.size ≤ W.heap.size ∧ (∀ k, NotInt W0 k → F k) ∧ (∀ k, mF ta k → F k) ∧ ∀ k, F k → W.heap[k]? = W0.heap[k]?
structure StAt (W : World) (p : Option Addr) (c : Cf) (ts : List Int) (F : Nat → Prop) : Prop where
 ptr : ∃ g, p = some ⟨g, 0, none⟩
 one : 1 ≤ ts.length
 most : ts.length ≤ 256
 old : ∀ k, F k → k < W.heap.size
 rest : StX W p c ts F
theorem StAt.same {W W' : World} {p : Option Addr} {c : Cf} {ts : List Int} {F : Nat → Prop} (h : StAt W p c ts F) (hs : W.heap.size ≤ W'.heap.size) (hF : ∀ k, F k → W'.heap[k]? = W.heap[k]?) : StAt W' p c ts F := by
 obtain ⟨W0, g, pm, ta, tc, ha, hc, pq, h1, h2, h3, h4, h5, h6⟩ := h.rest
 exact ⟨h.ptr, h.one, h.most, fun k hk => Nat.lt_of_lt_of_le (h.old k hk) hs, W0, g, pm, ta, tc, ha, hc, pq, h1, h2, Nat.le_trans h3 hs, h4, h5, fun k hk => (hF k hk).trans (h6 k hk)⟩
theorem StAt.below {W W' : World} {p : Option Addr} {c : Cf} {ts : List Int} {F : Nat → Prop} (h : StAt W p c ts F) (hb : Below W.heap.size W W') : StAt W' p c ts F := h.same hb.size fun k hk => hb.block k (h.old k hk)
theorem StAt.grown {W W2 W' : World} {p : Option Addr} {c : Cf} {ts : List Int} {F : Nat → Prop} {v v' : Value} (h : StAt W p c ts F) (hb : Below W.heap.size W W2) (hg : W2.grownBy W' v.ownBlock) (hm : Moved W2 v v') (hv : ∀ b, v.ownBlock = some b → ¬ F b) : StAt W' p c ts F ∧ ∀ b, v'.ownBlock = some b → ¬ F b := by
 have h2 := h.below hb
 refine ⟨h2.same hg.size fun k hk => hg.block k (h2.old k hk) fun e => hv k e.symm hk, fun b hb' hF => ?_⟩
 rcases hm with hm | ⟨o, hm, hle⟩
 ·exact hv b (by rw [← hm]; exact hb') hF
 ·rw [hm] at hb'
  cases hb'
  have := h2.old _ hF
  omega
theorem StAt.get {W : World} {p : Option Addr} {c : Cf} {ts : List Int} {F : Nat → Prop} (h : StAt W p c ts F) : ∃ (g : Nat) (pm ta : Option Addr) (tc : Nat) (ha : Option Addr) (hc : Nat) (pq : Option Addr), p = some ⟨g, 0, none⟩ ∧ StIn W g pm ta tc ha hc pq c ts ∧ ∀ k, mF ta k → F k := by
 obtain ⟨W0, g, pm, ta, tc, ha, hc, pq, h1, h2, h3, h4, h5, h6⟩ := h.rest
 refine ⟨g, pm, ta, tc, ha, hc, pq, h1, h2.keep (fun k cur t fz hk ht => (h6 k (h4 k ⟨cur, t, fz, hk, ht⟩)).trans hk) (fun x hx => h6 x (h5 x hx)), h5⟩
def stF (W : World) (ta : Option Addr) (k : Nat) : Prop := NotInt W k ∨ mF ta k
theorem StIn.at {W : World} {g : Nat} {pm ta : Option Addr} {tc : Nat} {ha : Option Addr} {hc : Nat} {pq : Option Addr} {c : Cf} {ts : List Int} (h : StIn W g pm ta tc ha hc pq c ts) (h1 : 1 ≤ ts.length) (h2 : ts.length ≤ 256) : StAt W (some ⟨g, 0, none⟩) c ts (stF W ta) := by
 refine ⟨⟨g, rfl⟩, h1, h2, fun k hk => ?_, W, g, pm, ta, tc, ha, hc, pq, rfl, h, Nat.le_refl _, fun k hk => .inl hk, fun k hk => .inr hk, fun _ _ => rfl⟩
 rcases hk with hk | ⟨a, rfl, rfl⟩
 ·exact hk.lt
 ·obtain ⟨b, off, e, hc⟩ := h.tk.cell 0 (by omega)
  cases e
  exact World.block_lt_of_cell? _ _ hc
theorem stF_of {w w' : World} {ta : Option Addr} {F0 : Nat → Prop} (hb : Below w.heap.size w w') (h : ∀ k, mF ta k → F0 k ∨ w.heap.size ≤ k) (k : Nat) (hk : stF w' ta k) : F0 k ∨ w.heap.size ≤ k ∨ NotInt w k := by
 rcases hk with hk | hk
 ·rcases Nat.lt_or_ge k w.heap.size with hl | hl
  ·exact .inr (.inr (hk.back hb hl))
  ·exact .inr (.inl hl)
 ·rcases h k hk with h' | h'
  ·exact .inl h'
  ·exact .inr (.inl h')
def GivesS (w : World) (F0 : Nat → Prop) (c : Cf) (ts : List Int) (e : Ending) (w' : World) : Prop := ∃ g F, e = .returned (.tuple #[.pointer (some ⟨g, 0, none⟩), .int .i64 0]) ∧ StAt w' (some ⟨g, 0, none⟩) c ts F ∧ (∀ k, F k → F0 k ∨ w.heap.size ≤ k ∨ NotInt w k) ∧ Below w.heap.size w w'
def GivesW (w : World) (pm : Option Addr) (c : Cf) (ts : List Int) (e : Ending) (w' : World) : Prop := ∃ (g : Nat) (ta : Option Addr) (tc : Nat) (ha : Option Addr) (hc : Nat) (pq : Option Addr), e = .returned (.pointer (some ⟨g, 0, none⟩)) ∧ StIn w' g pm ta tc ha hc pq c ts ∧ (∀ k, mF ta k → w.heap.size ≤ k) ∧ Below w.heap.size w w'
theorem StIn.cells {W : World} {g : Nat} {pm ta : Option Addr} {tc : Nat} {ha : Option Addr} {hc : Nat} {pq : Option Addr} {c : Cf} {ts : List Int} (h : StIn W g pm ta tc ha hc pq c ts) :
  W.cell? ⟨g, 0, none⟩ = some (.pointer pm) ∧ W.cell? ⟨g, 1, none⟩ = some (.slice ta ts.length tc) ∧ W.cell? ⟨g, 2, none⟩ = some (.slice ha ts.length hc) ∧ W.cell? ⟨g, 3, none⟩ = some (.pointer pq) := by
 refine ⟨?_, ?_, ?_, ?_⟩ <;> (rw [cell_of_row _ _ _ _ _ _ h.var]; rfl)
end Go.Proofs.YtjgggialnegddaaGreat
namespace Go.Proofs.YtjgggialnegddaaGreat
open Go.RowKit
def tokB (v t : Int) : Bool := decide (0 ≤ t) && decide (t < v)
theorem tokB_yes {v t : Int} (h0 : 0 ≤ t) (h1 : t < v) : tokB v t = true := by unfold tokB; simp [h0, h1]
theorem tokB_no {v t : Int} (h : t < 0 ∨ v ≤ t) : tokB v t = false := by
 unfold tokB
 rcases h with h | h
 ·simp [show ¬ 0 ≤ t by omega]
 ·simp [show ¬ t < v by omega]
theorem istoken_any (c : Cf) (t : Int) (w : World) :
  Calls Tryz.prog 108 #[.agg (CfV c), .int .i64 t] w fun e w' => e = .returned (.bool (tokB c.vocab t)) ∧ Below w.heap.size w w' := by
 have HB : Hid (Below w.heap.size w (w.alloc (.cells (CfV c) 24))) := (Below.refl _ _).alloc (Nat.le_refl _) _
 obtain ⟨s, v, d, l, tt, h⟩ := c
 unfold CfV at *
 simp only at *
 by_cases h1 : (0 : Int) ≤ t
 ·by_cases h2 : t < v
  ·rw [tokB_yes h1 h2]
   go_enter Tryz.func108, Tryz.ntmps108
   go_wp2
   go_ret
   exact ⟨rfl, HB.out⟩
  ·rw [tokB_no (by omega)]
   go_enter Tryz.func108, Tryz.ntmps108
   go_wp2
   go_ret
   exact ⟨rfl, HB.out⟩
 ·rw [tokB_no (by omega)]
  go_enter Tryz.func108, Tryz.ntmps108
  go_wp2
  go_ret
  exact ⟨rfl, HB.out⟩
theorem ismodel_any (p : Option Addr) (c : Cf) (w : World) (h : MdAt w p c) :
  Calls Tryz.prog 147 #[.pointer p] w fun e w' => e = .returned (.bool (mayB c)) ∧ Below w.heap.size w w' := by
 have hC := config_any p c w h
 clear h
 go_enter Tryz.func147, Tryz.ntmps147
 go_wp2_with fail
 refine hC.mono ?_
 rintro e w1 ⟨rfl, hb⟩
 go_wp2_with fail
 refine (may_any c w1).mono ?_
 rintro e w2 ⟨rfl, hb2⟩
 have HB := hid (hb.trans (hb2.mono hb.size))
 clear hb hb2 hC
 go_wp2
 go_ret
 exact ⟨rfl, HB.out⟩
set_option maxHeartbeats 1000000 in
theorem dmay_any (c : Cf) (j : Jb) (w : World) (hj : JbIn w j) :
  Calls Tryz.prog 91 #[.agg (CfV c), .agg (JbV j)] w fun e w' => e = .returned (.bool (mayJ c.vocab j.most j.ts)) ∧ Below w.heap.size w w' := by
 obtain ⟨wA, hwA⟩ : ∃ wA, wA = (w.alloc (.cells (CfV c) 24)).alloc (.cells (JbV j) 43) := ⟨_, rfl⟩
 have HB0 : Hid (Below w.heap.size w wA) := by unfold Hid; rw [hwA]; exact ((Below.refl _ _).alloc (Nat.le_refl _) _).alloc (by simp) _
 have HK : Hid (∀ W : World, Below wA.heap.size wA W → (W.cell? ⟨w.heap.size, 0, none⟩ = some (.int .u64 c.seed) ∧ W.cell? ⟨w.heap.size, 1, none⟩ = some (.int .i64 c.vocab) ∧ W.cell? ⟨w.heap.size, 2, none⟩ = some (.int .i64 c.dim) ∧ W.cell? ⟨w.heap.size, 3, none⟩ = some (.int .i64 c.layers) ∧ W.cell? ⟨w.heap.size, 4, none⟩ = some (.int .i64 c.top) ∧ W.cell? ⟨w.heap.size, 5, none⟩ = some (.int .i64 c.heat)) ∧ W.cell? ⟨w.heap.size + 1, 1, none⟩ = some (.slice j.ap j.lp j.cp) ∧ W.cell? ⟨w.heap.size + 1, 2, none⟩ = some (.int .i64 j.most)) := by
  intro W hb
  have e1 : wA.heap[w.heap.size]? = some (.cells (CfV c) 24 (0, 0)) := by rw [hwA, Below.heap_alloc _ _ _ (by simp)]; exact heap_alloc_new w _
  have e2 : wA.heap[w.heap.size + 1]? = some (.cells (JbV j) 43 (0, 0)) := by
   have := heap_alloc_new (w.alloc (.cells (CfV c) 24)) (.cells (JbV j) 43)
   rw [hwA]
   simpa using this
  exact ⟨Cf_cells (block_below e1 hb), (Jb_cells (block_below e2 hb)).2.1, (Jb_cells (block_below e2 hb)).2.2⟩
 have hz := hj.size
 have r1 := hj.room
 have m1 := hj.most
 have HA := hid fun (W : World) (hb : Below wA.heap.size wA W) => (hj.below HB0.out).below hb
 have HT := hid fun (t : Int) (W : World) => istoken_any c t W
 clear hj
 obtain ⟨sd, ap, lp, cp, ts, mo⟩ := j
 obtain ⟨s, v, d, l, tt, h⟩ := c
 obtain ⟨x0, x1, x2⟩ := HK.out wA (Below.refl _ _)
 unfold CfV JbV at hwA
 unfold CfV at HT
 simp only at HK hz r1 m1 HA hwA x1 x2 HT
 unfold CfV JbV
 simp only
 rw [hwA] at x1 x2
 clear x0
 by_cases h3 : 255 < lp
 ·rw [mayJ_no (by omega)]
  have HBo := HB0
  have h3' : (255 : Int) < (lp : Int) := by omega
  clear HK HA HT
  go_enter Tryz.func91, Tryz.ntmps91
  go_wp2_with fail
  rw [← hwA]
  clear hwA x1 x2
  go_ret
  exact ⟨rfl, HBo.out⟩
 have h3' : ¬ (255 : Int) < (lp : Int) := by omega
 by_cases h1 : mo < 0
 ·rw [mayJ_no (by omega)]
  have HBo := HB0
  clear HK HA HT
  go_enter Tryz.func91, Tryz.ntmps91
  go_wp2_with fail
  rw [← hwA]
  clear hwA x1 x2
  go_ret
  exact ⟨rfl, HBo.out⟩
 by_cases h2 : 256 < mo
 ·rw [mayJ_no (by omega)]
  have HBo := HB0
  clear HK HA HT
  go_enter Tryz.func91, Tryz.ntmps91
  go_wp2_with fail
  rw [← hwA]
  clear hwA x1 x2
  go_ret
  exact ⟨rfl, HBo.out⟩
 have HNo := hid fun (i : Nat) (hi : i < lp) (hb : ts[i]?.getD 0 < 0 ∨ v ≤ ts[i]?.getD 0) => mayJ_no (v := v) (most := mo) (ts := ts) (fun hh => by have := hh.2.2.2 i (by omega); omega)
 have HYe : Hid ((∀ i, i < lp → 0 ≤ ts[i]?.getD 0 ∧ ts[i]?.getD 0 < v) → mayJ v mo ts = true) := fun hh => mayJ_iff.2 ⟨by omega, by omega, by omega, by rw [hz]; exact hh⟩
 generalize mayJ v mo ts = bb at *
 go_enter Tryz.func91, Tryz.ntmps91
 go_wp2_with fail
 rw [← hwA]
 clear hwA x1 x2
 go_loopw [24] (fun i W => ∃ k : Nat, k ≤ lp ∧ i = .int .i64 k ∧ Hid (∀ i, i < k → 0 ≤ ts[i]?.getD 0 ∧ ts[i]?.getD 0 < v) ∧ Hid (Below wA.heap.size wA W)) (fun i _ => lp - (intOf i).toNat)
 case atStart => exact ⟨0, Nat.zero_le _, rfl, fun i hi => absurd hi (by omega), Below.refl _ _⟩
 case round =>
 obtain ⟨k, hk, rfl, HL, HW⟩ := hrel
 rename World => wr
 obtain ⟨⟨y0, y1, y2, y3, y4, y5⟩, x1, x2⟩ := HK.out _ HW.out
 by_cases hlt : k < lp
 ·obtain ⟨b1, o1, rfl, c1⟩ := (HA.out _ HW.out).cell k hlt
  have q1 : (k : Int) < (lp : Int) := by omega
  replace HT := hid (HT.out (ts[k]?.getD 0))
  by_cases ht : 0 ≤ ts[k]?.getD 0 ∧ ts[k]?.getD 0 < v
  ·have HL2 : Hid (∀ i, i < k + 1 → 0 ≤ ts[i]?.getD 0 ∧ ts[i]?.getD 0 < v) := fun i hi => by
    rcases (by omega : i < k ∨ i = k) with h' | rfl
    ·exact HL.out i h'
    ·exact ht
   rw [tokB_yes ht.1 ht.2] at HT
   clear HNo HYe HK HA HL ht
   generalize ts[k]?.getD 0 = t at *
   go_wp2_with fail
   refine (HT.out _).mono ?_
   rintro e w2 ⟨rfl, hb⟩
   replace HW := hid (HW.out.trans (hb.mono HW.out.size))
   clear hb HT c1 y0 y1 y2 y3 y4 y5 x1 x2
   go_wp2_with fail
   go_round
   case rel => exact ⟨k + 1, by omega, by go_num, HL2, HW⟩
   case measure => simp [intOf]; omega
  ·have hn : ts[k]?.getD 0 < 0 ∨ v ≤ ts[k]?.getD 0 := by omega
   obtain rfl := HNo.out k hlt hn
   rw [tokB_no hn] at HT
   clear HNo HYe HK HA HL ht hn
   generalize ts[k]?.getD 0 = t at *
   go_wp2_with fail
   refine (HT.out _).mono ?_
   rintro e w2 ⟨rfl, hb⟩
   have HBW := hid (HB0.out.trans ((HW.out.trans (hb.mono HW.out.size)).mono HB0.out.size))
   clear hb HT HW HB0 c1 y0 y1 y2 y3 y4 y5 x1 x2
   go_wp2
   go_ret
   exact ⟨rfl, HBW.out⟩
 ·obtain rfl : k = lp := by omega
  have hb := HYe.out HL.out
  subst hb
  have HBW := hid (HB0.out.trans (HW.out.mono HB0.out.size))
  clear HNo HYe HK HA HL HW HB0 y0 y1 y2 y3 y4 y5 x1 x2 HT
  go_wp2
  go_ret
  exact ⟨rfl, HBW.out⟩
theorem dlen_in {W : World} {g : Nat} {pm ta : Option Addr} {tc : Nat} {ha : Option Addr} {hc : Nat} {pq : Option Addr} {c : Cf} {ts : List Int} (h : StIn W g pm ta tc ha hc pq c ts) :
  Calls Tryz.prog 82 #[.pointer (some ⟨g, 0, none⟩)] W fun e w' => e = .returned (.int .i64 ts.length) ∧ w' = W := by
 obtain ⟨c0, c1, c2, c3⟩ := h.cells
 have r1 := h.tk.room
 have m1 := h.tk.most
 clear h
 generalize ts.length = n at *
 go_enter Tryz.func82, Tryz.ntmps82
 go_wp2
 go_ret
 exact ⟨rfl, rfl⟩
theorem dlen_any {F : Nat → Prop} (p : Option Addr) (c : Cf) (ts : List Int) (w : World) (hs : StAt w p c ts F) :
  Calls Tryz.prog 82 #[.pointer p] w fun e w' => e = .returned (.int .i64 ts.length) ∧ Below w.heap.size w w' := by
 obtain ⟨g, pm, ta, tc, ha, hc, pq, rfl, h, _⟩ := hs.get
 exact (dlen_in h).mono fun e w' ⟨h1, h2⟩ => ⟨h1, by rw [h2]; exact Below.refl _ _⟩
theorem firsti_any (a : Option Addr) (n cap k : Nat) (w : World) (h1 : k ≤ cap) (m1 : cap ≤ 9223372036854775807) :
  Calls Tryz.prog 113 #[.slice a n cap, .int .i64 k] w fun e w' => e = .returned (.slice a k k) ∧ w = w' := by
 go_enter Tryz.func113, Tryz.ntmps113
 go_wp2
 go_ret
 exact ⟨rfl, rfl⟩
theorem firstr_any (a : Option Addr) (n cap k : Nat) (w : World) (h1 : k ≤ cap) (m1 : cap ≤ 9223372036854775807) :
  Calls Tryz.prog 114 #[.slice a n cap, .int .i64 k] w fun e w' => e = .returned (.slice a k k) ∧ w = w' := by
 go_enter Tryz.func114, Tryz.ntmps114
 go_wp2
 go_ret
 exact ⟨rfl, rfl⟩
end Go.Proofs.YtjgggialnegddaaGreat
namespace Go.Proofs.YtjgggialnegddaaGreat
open Go.RowKit
noncomputable def stA (c : Cf) (a : At) : List Int := 0 :: a.ts ++ (a.text c).take a.k
noncomputable def nxA (c : Cf) (a : At) (ch : Nat) : List Int := refL c a.seed (stA c a) (min (a.most - ((a.text c).take a.k).length) ch)
theorem refL_min (c : Cf) (seed : Int) (ts : List Int) (m k : Nat) : refL c seed ts (min m k) = (refL c seed ts m).take k := by
 rcases Nat.le_total k m with h | h
 ·rw [Nat.min_eq_right h]
  exact refL_less c seed m ts k h
 ·rw [Nat.min_eq_left h, List.take_of_length_le (Nat.le_trans (refL_len c seed m ts) h)]
theorem nxA_in {c : Cf} {a : At} {ch : Nat} (h : a.k ≤ (a.text c).length) : nxA c a ch = ((a.text c).drop a.k).take ch := by
 have hl : ((a.text c).take a.k).length = a.k := by rw [List.length_take]; omega
 unfold nxA stA
 rw [hl, refL_min]
 congr 1
 exact (refL_rest c a.seed a.k a.most (0 :: a.ts) h).symm
theorem nxA_out {c : Cf} {a : At} {ch : Nat} (h : (a.text c).length < a.k) : nxA c a ch = [] ∧ stA c a = 0 :: a.ts ++ a.text c := by
 have ht : (a.text c).take a.k = a.text c := List.take_of_length_le (by omega)
 have hr := refL_rest c a.seed (a.text c).length a.most (0 :: a.ts) (Nat.le_refl _)
 have hr2 : refL c a.seed (0 :: a.ts ++ a.text c) (a.most - (a.text c).length) = [] := by
  have e : (refL c a.seed (0 :: a.ts) a.most).take (a.text c).length = a.text c := List.take_of_length_le (Nat.le_refl _)
  rw [e] at hr
  rw [← hr]
  exact List.drop_of_length_le (Nat.le_refl _)
 refine ⟨?_, by unfold stA; rw [ht]⟩
 unfold nxA stA
 rw [ht, refL_min, hr2]
 simp
theorem stA_next {c : Cf} {a : At} {ch : Nat} : stA c a ++ nxA c a ch = stA c { a with k := a.k + (nxA c a ch).length } := by
 rcases Nat.lt_or_ge (a.text c).length a.k with h | h
 ·obtain ⟨h1, h2⟩ := nxA_out (ch := ch) h
  rw [h1]
  simp
 ·rw [nxA_in h]
  show 0 :: a.ts ++ (a.text c).take a.k ++ _ = 0 :: a.ts ++ (a.text c).take (a.k + _)
  rw [List.append_assoc, List.take_add]
  congr 2
  rw [List.length_take, List.take_eq_take_iff]
  omega
theorem nxA_bd {c : Cf} {a : At} {ch : Nat} (hk : a.k ≤ a.most) (hl : a.ts.length + a.k < 256) (hts : a.ts.length ≤ 255) : a.k + (nxA c a ch).length ≤ a.most ∧ a.ts.length + (a.k + (nxA c a ch).length) < 256 := by
 rcases Nat.lt_or_ge (a.text c).length a.k with h | h
 ·rw [(nxA_out (ch := ch) h).1]
  simp
  omega
 ·have h1 := refL_len c a.seed a.most (0 :: a.ts)
  have h2 := refL_most c a.seed a.most (0 :: a.ts) (by simp; omega)
  have h3 : (a.text c).length ≤ a.most := h1
  have h4 : a.ts.length + 1 + (a.text c).length ≤ 256 := h2
  rw [nxA_in h, List.length_take, List.length_drop]
  omega
noncomputable def msA (c : Cf) (ch : Nat) (inc : Int) (a : At) (b : Bool) : List Mg := (if nxA c a ch = [] then [] else [emM a.id inc a.k (nxA c a ch)]) ++ (if b = true then [ovM a.id inc (a.k + (nxA c a ch).length : Nat) 1] else [])
noncomputable def leA (c : Cf) (ch : Nat) (a : At) (b : Bool) : Option At := if b = true then none else some { a with k := a.k + (nxA c a ch).length }
theorem tell_go {c : Cf} {a : At} {ch : Nat} {b : Bool} (inc : Int) (hch : 1 ≤ ch) (hk : a.k ≤ a.most) (h1 : b = true → refL c a.seed (stA c a ++ nxA c a ch) (a.most - ((a.text c).take a.k).length - (nxA c a ch).length) = []) (h2 : b = false → (nxA c a ch).length = ch) : TellR c ch inc a (msA c ch inc a b) (leA c ch a b) := by
 unfold msA leA
 rcases Nat.lt_or_ge (a.text c).length a.k with h | h
 ·obtain ⟨e1, _⟩ := nxA_out (ch := ch) h
  cases b with
  | false =>
   have := h2 rfl
   rw [e1] at this
   simp at this
   omega
  | true =>
   rw [e1]
   exact .inl ⟨h, by simp, rfl⟩
 ·have e1 := nxA_in (ch := ch) h
  refine .inr ⟨h, nxA c a ch, e1, ?_⟩
  cases b with
  | false => exact .inl ⟨h2 rfl, by simp, by simp⟩
  | true =>
   refine .inr ⟨?_, by simp, by simp⟩
   have hl : ((a.text c).take a.k).length = a.k := by rw [List.length_take]; omega
   have hs := refL_step c a.seed (stA c a) (a.most - a.k) ch
   have h3 := h1 rfl
   rw [hl] at h3
   have en : nxA c a ch = refL c a.seed (stA c a) (min (a.most - a.k) ch) := by unfold nxA; rw [hl]
   rw [← en, h3, List.append_nil] at hs
   have hr := refL_rest c a.seed a.k a.most (0 :: a.ts) h
   have hr2 : (a.text c).drop a.k = nxA c a ch := by rw [← hs]; exact hr
   have := congrArg List.length hr2
   rw [List.length_drop] at this
   omega
end Go.Proofs.YtjgggialnegddaaGreat
namespace Go.Proofs.YtjgggialnegddaaGreat
open Go.RowKit
theorem setB_bds {s : Sg} (h : setB s = true) : mayB s.c = true ∧ 1 ≤ s.q ∧ s.q ≤ 64 ∧ 1 ≤ s.b ∧ s.b ≤ 16 ∧ 1 ≤ s.ch ∧ s.ch ≤ 16 := by
 unfold setB at h
 simp only [Bool.and_eq_true, btw_iff] at h
 obtain ⟨h1, h2, h3, h4, _⟩ := h
 exact ⟨h1, h2.1, h2.2, h3.1, h3.2, h4.1, h4.2⟩
section
open Go.ChangeShapes Go.WideShapes Go.ChangeAt
variable {H : Type} {enc : TypeId × Value → H} {W : World}
end
end Go.Proofs.YtjgggialnegddaaGreat
