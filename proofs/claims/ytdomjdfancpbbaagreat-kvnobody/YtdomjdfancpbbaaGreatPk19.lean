/-
  KvMath6: Mathematics of layer 14: Put as package kv does it: first all beginnings that are there are used, then the others are added behind them (PutB, PutI).
  KvW8: Package kv: the contract of Put over a cache as it lies.
  KvW9: Package kv: contracts of Clear and New over a cache as it lies, and of a cache that nobody made.
  KvCons: Package kv: its contracts as the statements' walks want them: a cache at a pointer with its entries (KvAt), what a call that turns it leaves (KvG), New, Find, Put, Len, Has, Clear, Pages, and a cache that nobody made (KvNo).
  KvLaw: What the statements of layer 14 lean on: alive.
  KvRef2: The document's side of layer 14, more: contracts of place, Has, leaf.
  KvRef3: The document's side of layer 14: its cache with a cell turned; contract of Find.
  KvRef4: The document's side of layer 14: an append to a row of the call's own at a drawn step (step_append_row); its cache with its list turned (RcAtP.list).
-/
import Derived.Test.YtdomjdfancpbbaaGreatPk18
import Derived.Lib.SliceRun
import Derived.Deep.RegionHeld3
import Derived.Test.YtdomjdfancpbbaaGreatPk12
import Derived.Test.YtdomjdfancpbbaaGreatPk02
namespace Go.Proofs.YtdomjdfancpbbaaGreat
open Go.RowKit
set_option linter.unusedVariables false

theorem putK_used {pg tm : Int} {sz j0 : Nat} {ts : List Int} {es : List En} (hE : OkE sz es) (hz : 1 ≤ sz) (hf : Far (txs es) sz ts j0) : putK pg tm sz ts es j0 = (useK tm ts es es.length, 0, false) := by
  have hmul : ∀ i, i < es.length → ∃ a, 1 ≤ a ∧ (en es i).1.length = a * sz := fun i hi => hE.mult _ (mem_txs.2 ⟨i, hi, rfl⟩)
  have key : ∀ j, j ≤ j0 → (putK pg tm sz ts es j).2 = (0, false) ∧ (putK pg tm sz ts es j).1.length = es.length ∧ ∀ i, i < es.length → en (putK pg tm sz ts es j).1 i = if (en es i).1.length ≤ j * sz ∧ begB (en es i).1 ts = true then ((en es i).1, tm) else en es i := by
    intro j
    induction j with
    | zero =>
      intro _
      refine ⟨rfl, rfl, fun i hi => ?_⟩
      rw [if_neg]
      · rfl
      · intro h
        obtain ⟨a, a1, a2⟩ := hmul i hi
        have : 1 * sz ≤ a * sz := Nat.mul_le_mul_right _ a1
        omega
    | succ j ih =>
      intro hj
      obtain ⟨i1, i2, i3⟩ := ih (by omega)
      have hx := hf.take (i := j + 1) (by omega) hj
      obtain ⟨p, hp, hpx⟩ := mem_txs.1 hx
      have hle : (j + 1) * sz ≤ ts.length := Nat.le_trans (Nat.mul_le_mul_right _ hj) hf.le
      have hone : ∀ i, i < es.length → (en (putK pg tm sz ts es j).1 i).1 = (en es i).1 := fun i hi => by
        rw [i3 i hi]
        split <;> rfl
      have hpz : plcZ (putK pg tm sz ts es j).1 (ts.take ((j + 1) * sz)) = (p : Int) := plc_at (by rw [i2]; exact hp) (by rw [hone p hp]; exact hpx) fun q hq => by
        rw [hone q (by omega), ← hpx]
        intro e
        have := hE.inj (by omega) hp e
        omega
      obtain ⟨u1, u2⟩ := putK_use (by rw [i1]) rfl hpz
      rw [u1]
      refine ⟨by rw [i1], by rw [List.length_set]; exact i2, fun i hi => ?_⟩
      show en ((putK pg tm sz ts es j).1.set p _) i = _
      rw [en_set u2]
      by_cases e : i = p
      · subst e
        rw [if_pos rfl, if_pos]
        · rw [hone i hi]
        · rw [hpx]
          exact ⟨by rw [List.length_take]; omega, begB_take _⟩
      · rw [if_neg e, i3 i hi]
        have hiff : ((en es i).1.length ≤ j * sz ∧ begB (en es i).1 ts = true) ↔ ((en es i).1.length ≤ (j + 1) * sz ∧ begB (en es i).1 ts = true) := by
          constructor
          · rintro ⟨h1, h2⟩
            exact ⟨Nat.le_trans h1 (Nat.mul_le_mul_right _ (by omega)), h2⟩
          · rintro ⟨h1, h2⟩
            refine ⟨?_, h2⟩
            obtain ⟨a, a1, a2⟩ := hmul i hi
            rw [a2] at h1 ⊢
            have ha : a ≤ j + 1 := Nat.le_of_mul_le_mul_right h1 (by omega)
            rcases Nat.lt_or_ge a (j + 1) with hl | hl
            · exact Nat.mul_le_mul_right _ (by omega)
            · exfalso
              have hq := begB_eq h2
              rw [a2, show a = j + 1 by omega, ← hpx] at hq
              exact e (hE.inj hi hp hq)
        by_cases hc : (en es i).1.length ≤ j * sz ∧ begB (en es i).1 ts = true
        · rw [if_pos hc, if_pos (hiff.1 hc)]
        · rw [if_neg hc, if_neg fun h => hc (hiff.2 h)]
  obtain ⟨k1, k2, k3⟩ := key j0 (Nat.le_refl _)
  have h1 : (putK pg tm sz ts es j0).1 = useK tm ts es es.length := by
    refine en_ext (by rw [k2, useK_len]) fun i hi => ?_
    rw [k2] at hi
    rw [k3 i hi, useK_at _ _ hi]
    have hiff : ((en es i).1.length ≤ j0 * sz ∧ begB (en es i).1 ts = true) ↔ (i < es.length ∧ begB (en es i).1 ts = true) := by
      refine ⟨fun h => ⟨hi, h.2⟩, fun h => ⟨?_, h.2⟩⟩
      obtain ⟨a, a1, a2⟩ := hmul i hi
      have hq := begB_eq h.2
      have hl : (en es i).1.length ≤ ts.length := (begB_iff.1 h.2).1
      rw [a2] at hq hl ⊢
      have := (hf.iff a a1 hl).1 (by rw [← hq]; exact mem_txs.2 ⟨i, hi, rfl⟩)
      exact Nat.mul_le_mul_right _ this
    by_cases hc : (en es i).1.length ≤ j0 * sz ∧ begB (en es i).1 ts = true
    · rw [if_pos hc, if_pos (hiff.1 hc)]
    · rw [if_neg hc, if_neg fun h => hc (hiff.2 h)]
  exact Prod.ext h1 k1
/-- Before Put: the time has gone on already. -/
structure PutB (pg : Nat) (tm : Int) (sz : Nat) (ts : List Int) (es : List En) (j0 : Nat) : Prop where
  e : OkE sz es
  v : OkV tm ts es
  t : 0 ≤ tm
  z : 1 ≤ sz
  far : Far (txs es) sz ts j0
  few : es.length ≤ pg
/-- In the midst of Put. -/
structure PutI (pg : Nat) (tm : Int) (sz : Nat) (ts : List Int) (es : List En) (j : Nat) (E : List En) : Prop where
  eq : (putK pg tm sz ts es j).1 = E
  go : (putK pg tm sz ts es j).2.2 = false
  now : ∀ e ∈ E, begB e.1 ts = true → e.2 = tm
section
variable {pg : Nat} {tm : Int} {sz j0 : Nat} {ts : List Int} {es E : List En} {j : Nat}
theorem PutB.start (b : PutB pg tm sz ts es j0) : PutI pg tm sz ts es j0 (useK tm ts es es.length) := by
  have h := putK_used (pg := (pg : Int)) (tm := tm) b.e b.z b.far
  refine ⟨by rw [h], by rw [h], fun e he hb => ?_⟩
  obtain ⟨i, hi, rfl⟩ := mem_en he
  rw [useK_len] at hi
  rw [useK_at _ _ hi] at hb ⊢
  split
  · rfl
  · rename_i hn
    rw [if_neg hn] at hb
    exact absurd ⟨hi, hb⟩ hn
theorem PutI.facts (b : PutB pg tm sz ts es j0) (i : PutI pg tm sz ts es j E) (hj : j * sz ≤ ts.length) (h0 : j0 ≤ j) : OkE sz E ∧ OkV tm ts E ∧ Far (txs E) sz ts j ∧ E.length ≤ pg ∧ (putK pg tm sz ts es j).2.1 = ((j - j0 : Nat) : Int) := by
  obtain ⟨m, m1, m2, m3, m4, m5, m6, m7⟩ := putK_ok (pg := (pg : Int)) (tm := tm) b.e b.z b.v b.t b.far.iff j hj
  obtain rfl := m2 i.go
  rw [i.eq] at m4 m5 m6
  have := putK_len (pg := (pg : Int)) (tm := tm) (sz := sz) (ts := ts) (es := es) (by have := b.few; omega) m
  rw [i.eq] at this
  exact ⟨m4, m5, ⟨hj, fun k k1 k2 => (m6 k k1 k2).trans ⟨fun h => by omega, fun h => .inr h⟩⟩, by omega, m7⟩
theorem PutI.add (i : PutI pg tm sz ts es j E) (hx : ts.take ((j + 1) * sz) ∉ txs E) (hl : E.length < pg) : PutI pg tm sz ts es (j + 1) (E ++ [(ts.take ((j + 1) * sz), tm)]) ∧ (putK pg tm sz ts es (j + 1)).2.1 = (putK pg tm sz ts es j).2.1 + 1 := by
  have hp : plcZ E (ts.take ((j + 1) * sz)) < 0 := by
    rcases Int.lt_or_le (plcZ E (ts.take ((j + 1) * sz))) 0 with h | h
    · exact h
    · exact absurd (plcZ_mem.1 h) hx
  have h := putK_add i.go i.eq hp (by omega)
  refine ⟨⟨by rw [h], by rw [h], fun e he hb => ?_⟩, by rw [h]⟩
  rcases List.mem_append.1 he with h1 | h1
  · exact i.now e h1 hb
  · rw [List.mem_singleton] at h1
    rw [h1]
theorem PutI.swap (i : PutI pg tm sz ts es j E) (hx : ts.take ((j + 1) * sz) ∉ txs E) (hl : E.length = pg) {o : Nat} (ho : oldK E ts E.length = (o : Int)) : PutI pg tm sz ts es (j + 1) (E.eraseIdx o ++ [(ts.take ((j + 1) * sz), tm)]) ∧ (putK pg tm sz ts es (j + 1)).2.1 = (putK pg tm sz ts es j).2.1 + 1 := by
  have hp : plcZ E (ts.take ((j + 1) * sz)) < 0 := by
    rcases Int.lt_or_le (plcZ E (ts.take ((j + 1) * sz))) 0 with h | h
    · exact h
    · exact absurd (plcZ_mem.1 h) hx
  have h := putK_swap i.go i.eq hp (by omega) ho
  refine ⟨⟨by rw [h], by rw [h], fun e he hb => ?_⟩, by rw [h]⟩
  rcases List.mem_append.1 he with h1 | h1
  · obtain ⟨q, q1, _, rfl⟩ := mem_erase.1 h1
    exact i.now _ (en_mem q1) hb
  · rw [List.mem_singleton] at h1
    rw [h1]
theorem PutI.stop (i : PutI pg tm sz ts es j E) (hx : ts.take ((j + 1) * sz) ∉ txs E) (hl : E.length = pg) (ho : oldK E ts E.length < 0) : putK pg tm sz ts es (j + 1) = (E, (putK pg tm sz ts es j).2.1, true) := by
  have hp : plcZ E (ts.take ((j + 1) * sz)) < 0 := by
    rcases Int.lt_or_le (plcZ E (ts.take ((j + 1) * sz))) 0 with h | h
    · exact h
    · exact absurd (plcZ_mem.1 h) hx
  exact putK_stop i.go i.eq hp (by omega) ho
/-- Behind add: what Put has left. -/
theorem PutI.no (b : PutB pg tm sz ts es j0) (i : PutI pg tm sz ts es j E) (hj : (j + 1) * sz ≤ ts.length) (h0 : j0 ≤ j) {us : List Int → Int} (hu : ∀ e ∈ E, us e.1 = e.2) (hl : (txs E).length = pg) (ho : ∀ y ∈ txs E, lfB (txs E) sz y = true → tm ≤ us y) : putK pg tm sz ts es (j + 1) = (E, (putK pg tm sz ts es j).2.1, true) := by
  have hjl : j * sz ≤ ts.length := Nat.le_trans (Nat.mul_le_mul_right _ (by omega)) hj
  obtain ⟨f1, f2, f3, f4, f5⟩ := i.facts b hjl h0
  rw [txs_len] at hl
  refine i.stop (fun hm => by have := (f3.iff (j + 1) (by omega) hj).1 hm; omega) hl ?_
  rcases oldK_go E ts E.length with ⟨h1, _⟩ | ⟨o, h1, h2, h3, _⟩
  · exact h1
  · exfalso
    obtain ⟨g1, g2⟩ := goB_iff.1 h3
    have hmem : (en E o).1 ∈ txs E := mem_txs.2 ⟨o, h2, rfl⟩
    have h4 := ho _ hmem (lfB_iff.2 ((f1.leaf b.z h2).1 g1))
    rw [hu _ (en_mem h2)] at h4
    have h5 := (f2.bd _ (en_mem h2)).2
    have h6 := f2.now _ (en_mem h2) (by omega)
    rw [g2] at h6
    cases h6
theorem PutI.yes (b : PutB pg tm sz ts es j0) (i : PutI pg tm sz ts es j E) (hj : (j + 1) * sz ≤ ts.length) (h0 : j0 ≤ j) {L : Lay} (hu : ∀ e ∈ E, L.us e.1 = e.2) {T1 : List (List Int)} (hc : RoomC L pg sz tm (txs E) T1) (hl : T1.length < pg) :
    ∃ E', PutI pg tm sz ts es (j + 1) E' ∧ (putK pg tm sz ts es (j + 1)).2.1 = (putK pg tm sz ts es j).2.1 + 1 ∧ (∀ y, y ∈ T1 ++ [ts.take ((j + 1) * sz)] ↔ y ∈ txs E') ∧ ∀ us : List Int → Int, (∀ z, z ≠ ts.take ((j + 1) * sz) → us z = L.us z) → us (ts.take ((j + 1) * sz)) = tm → ∀ e ∈ E', us e.1 = e.2 := by
  have hjl : j * sz ≤ ts.length := Nat.le_trans (Nat.mul_le_mul_right _ (by omega)) hj
  obtain ⟨f1, f2, f3, f4, f5⟩ := i.facts b hjl h0
  have hx : ts.take ((j + 1) * sz) ∉ txs E := fun hm => by have := (f3.iff (j + 1) (by omega) hj).1 hm; omega
  have hus : ∀ e ∈ E, ∀ us : List Int → Int, (∀ z, z ≠ ts.take ((j + 1) * sz) → us z = L.us z) → us e.1 = e.2 := fun e he us h1 => by
    rw [h1 e.1 fun e2 => hx (by rw [← e2]; obtain ⟨q, q1, rfl⟩ := mem_en he; exact mem_txs.2 ⟨q, q1, rfl⟩)]
    exact hu e he
  rcases hc with ⟨h1, e⟩ | ⟨h1, ho, e⟩ | ⟨h1, y, hy, hly, hyu, ho, e⟩
  · subst e
    rw [txs_len] at h1
    obtain ⟨k1, k2⟩ := i.add hx h1
    refine ⟨_, k1, k2, fun y => ?_, fun us u1 u2 e he => ?_⟩
    · unfold txs
      rw [List.map_append]
      rfl
    · rcases List.mem_append.1 he with h3 | h3
      · exact hus e h3 us u1
      · rw [List.mem_singleton] at h3
        rw [h3]
        exact u2
  · subst e; omega
  · subst e
    rw [txs_len] at h1
    obtain ⟨q, q1, rfl⟩ := mem_txs.1 hy
    rw [hu _ (en_mem q1)] at hyu
    have hlf := (f1.leaf b.z q1).2 (lfB_iff.1 hly)
    have hgo : goB E ts q = true := goB_iff.2 ⟨hlf, by
      rw [Bool.eq_false_iff]
      intro hb
      have := i.now _ (en_mem q1) hb
      omega⟩
    have hold := oldK_one f2.u q1 hgo fun p p1 p2 => by
      have := ho _ (mem_txs.2 ⟨p, p1, rfl⟩) (lfB_iff.2 ((f1.leaf b.z p1).1 (goB_iff.1 p2).1))
      rw [hu _ (en_mem q1), hu _ (en_mem p1)] at this
      exact this
    obtain ⟨k1, k2⟩ := i.swap hx h1 hold
    refine ⟨_, k1, k2, fun y => ?_, fun us u1 u2 e he => ?_⟩
    · rw [List.mem_append, List.mem_singleton, mem_rmv]
      unfold txs
      rw [List.map_append, List.mem_append]
      have := (f1.erase q1 hlf).2 y
      unfold txs at this
      rw [this]
      simp
    · rcases List.mem_append.1 he with h3 | h3
      · obtain ⟨p, p1, _, rfl⟩ := mem_erase.1 h3
        exact hus _ (en_mem p1) us u1
      · rw [List.mem_singleton] at h3
        rw [h3]
        exact u2
end
end Go.Proofs.YtdomjdfancpbbaaGreat
namespace Go.Proofs.YtdomjdfancpbbaaGreat
open Go.RowKit Go.Maps
set_option linter.unusedVariables false
set_option maxRecDepth 1000000

/-- A copy of a list of ints lies in memory of its own. -/
theorem cloneI_new (ad : Addr) (n cap : Nat) (xs : List Int) (w : World) (ha : Reads .i64 w (some ad) n cap xs) (hn : n ≤ 1000) :
    Calls Tryz.prog 35 #[.slice (some ad) n cap] w fun e w' => ∃ a cap, e = .returned (.slice a n cap) ∧ Reads .i64 w' a n cap xs ∧ (∀ p, a = some p → w.heap.size ≤ p.block ∧ p.block < w'.heap.size) ∧ Below w.heap.size w w' := by
  obtain ⟨i0, hi, hz0, hz1, hz2⟩ := info_parts Tryz.info3
  have heq : ∀ W : World, (binOp .eql 34 (.slice (some ad) n cap) (.slice none 0 0)).run Tryz.prog W = .ok (.bool false) W := fun W => Lib.run_eql_slice_nil W _ _ (some ad) n cap 0 0 Tryz.underlying34
  have HA := hid ha
  have HB : Hid (Below w.heap.size w (w.alloc (.cells #[] 3))) := (Below.refl _ _).alloc (Nat.le_refl _) _
  have HO : Hid ((w.alloc (.cells #[] 3)).ownsRow w.heap.size 3 1 (.slice (some ⟨w.heap.size, 0, none⟩) 0 0) 0 (([] : List Int).map (Value.int .i64))) :=
    World.ownsRow_lit (base := w.heap.size) (e := 3) (size := 1) w #[] 0 (Nat.le_refl _) (by unfold maxLen; omega) (by simp)
  clear ha
  go_enter Tryz.func35, Tryz.ntmps35
  go_wp2_with (at_builtin; refine append_any _ rfl (.tmp 5) (.tmp 6) 34 rfl w.heap.size 3 i0 (.int .i64 0) 8 Tryz.underlying34 hi hz0 hz1 hz2 rfl .i64 _ 0 [] rfl HO.out (some ad) n cap xs rfl (HA.out.below HB.out) (by omega) (by omega) HB.out.size ?_; intro v' w3 hO3 hb3)
  rw [Nat.zero_add, List.nil_append] at hO3
  obtain ⟨a0, c0, e0, _, _, hl0, _⟩ := own_slc hO3
  obtain ⟨a3, c3, rfl, hr3⟩ := Reads.own (k := .i64) hO3
  cases e0
  have HL := hid hl0
  have HR3 := hid hr3
  have HB3 := hid (HB.out.trans hb3)
  clear hO3 hb3 HA HB HO hr3 hl0
  go_wp2
  go_ret
  exact ⟨_, _, rfl, HR3.out, HL.out, HB3.out⟩
theorem dtok_new {p : Option Addr} {c : Cf} {ts : List Int} {tb : Option Addr} (w : World) (hs : StT w p c ts tb) :
    Calls Tryz.prog 16 #[.pointer p] w fun e w' => ∃ a cap, e = .returned (.slice a ts.length cap) ∧ Reads .i64 w' a ts.length cap ts ∧ (∀ p, a = some p → w.heap.size ≤ p.block ∧ p.block < w'.heap.size) ∧ Below w.heap.size w w' := by
  obtain ⟨g, pm, tc, ha, hc, pq, rfl, h, _, h1, hm⟩ := hs
  obtain ⟨b, off, rfl, _⟩ := h.tk.cell 0 (by omega)
  have hC := cloneI_new _ ts.length tc ts w h.tk (by omega)
  obtain ⟨c0, c1, c2, c3⟩ := h.cells
  clear h hm h1
  generalize ts.length = n at *
  go_enter Tryz.func16, Tryz.ntmps16
  go_wp2_with fail
  refine hC.mono ?_
  rintro e w1 ⟨a1, d1, rfl, hr, hl, hb⟩
  have HR := hid hr
  have HL := hid hl
  have HB := hid hb
  clear hC hr hb c0 c1 c2 c3 hl
  go_wp2
  go_ret
  exact ⟨_, _, rfl, HR.out, HL.out, HB.out⟩
theorem dtok_nil2 (w : World) : Calls Tryz.prog 16 #[.pointer none] w fun e w' => e = .returned (.slice none 0 0) ∧ Below w.heap.size w w' := by
  go_enter Tryz.func16, Tryz.ntmps16
  go_wp2
  go_ret
  exact ⟨rfl, Below.refl _ _⟩
theorem StT.lt {W : World} {q : Option Addr} {c : Cf} {ts : List Int} {ta : Option Addr} (h : StT W q c ts ta) {k : Nat} (hk : mF ta k) : k < W.heap.size := by
  obtain ⟨g, pm, tc, ha, hc, pq, _, _, h5, _⟩ := h
  obtain ⟨a, e, rfl⟩ := hk
  obtain ⟨cur, fz, hcur⟩ := h5 a e
  exact lt_of_block hcur
theorem StT.below {W W' : World} {q : Option Addr} {c : Cf} {ts : List Int} {ta : Option Addr} (h : StT W q c ts ta) (hb : Below W.heap.size W W') : StT W' q c ts ta := h.keep (KpL.of hb) fun k hk => hb.block k (h.lt hk)
theorem dcut_T {W : World} {q : Option Addr} {c : Cf} {ts : List Int} {tb : Option Addr} (h : StT W q c ts tb) (hm : mayB c = true) {n : Nat} (h1 : 1 ≤ n) (h2 : n ≤ ts.length) :
    Calls Tryz.prog 33 #[.pointer q, .int .i64 n] W fun e w' => ∃ q' ta', e = .returned (.pointer q') ∧ StT w' q' c (ts.take n) ta' ∧ (∀ k, mF ta' k → mF tb k ∨ W.heap.size ≤ k) ∧ Below W.heap.size W w' := by
  obtain ⟨g, pm, tc, ha, hc, pq, rfl, k2, k3, k4, k5⟩ := h
  have := dcut_any _ c ts (n : Int) W (k2.at k4 k5) hm
  rw [show cutT (n : Int) ts.length = n by unfold cutT; omega] at this
  refine this.mono ?_
  rintro e w' ⟨g', F', rfl, hS, hF, hb⟩
  obtain ⟨ta', hT, hta⟩ := hS.d
  refine ⟨_, ta', rfl, hT, fun k hk => ?_, hb⟩
  have hnot : ¬ NotInt W k := fun ⟨cur, t, fz, e1, e2⟩ => by
    obtain ⟨_, _, _, _, _, _, _, _, h5, _⟩ := hT
    obtain ⟨a, e, rfl⟩ := hk
    obtain ⟨cur', fz', hcur⟩ := h5 a e
    rw [(hb.block _ (lt_of_block e1)).trans e1] at hcur
    simp at hcur
    exact e2 hcur.2.1
  rcases hF k (hta k hk) with (h' | h') | h' | h'
  · exact absurd h' hnot
  · exact .inl h'
  · exact .inr h'
  · exact absurd h' hnot
section
variable {B bb r : Nat} {pp : Option Addr} {L : Lay} {c : Cf} {pg sz : Nat} {tm : Int} {T : List (List Int)}
/-- The same entries in another order. -/
theorem KvB.congr {W : World} {T2 : List (List Int)} (h : KvB W B bb r pp L c pg sz tm T) (hT : ∀ y, y ∈ T ↔ y ∈ T2) : KvB W B bb r pp L c pg sz tm T2 := by
  have hI : ∀ y, InT T2 y → InT T y := fun y hy => hy.elim .inl fun h' => .inr ((hT y).2 h')
  refine ⟨h.var, h.root, h.pool, h.hsl, fun k hk => ?_, fun y hy => h.pgb y ((hT y).2 hy), fun y hy z hz => h.pgi y ((hT y).2 hy) z ((hT z).2 hz), h.row, fun y hy => h.at' y ((hT y).2 hy), ⟨fun y hy => h.tree.node y (hI y hy), fun y hy => (h.tree.map y (hI y hy)).ext fun v l hv => chF_ext fun ch hc _ => ⟨hT _, fun _ => rfl⟩, fun y z hy hz => h.tree.ndi y z (hI y hy) (hI z hz), fun y z hy hz => h.tree.mpi y z (hI y hy) (hI z hz)⟩, fun y hy => h.sts y ((hT y).2 hy), fun y hy => h.tok y ((hT y).2 hy)⟩
  rcases h.held k hk with ⟨h1, h2⟩ | ⟨h1, y, hy, h2⟩
  · exact .inl ⟨h1, fun y hy => h2 y ((hT y).2 hy)⟩
  · exact .inr ⟨h1, y, (hT y).1 hy, h2⟩
theorem ftB_congr {T2 : List (List Int)} (hT : ∀ y, y ∈ T ↔ y ∈ T2) {k : Nat} (h : ftB B bb L T2 k) : ftB B bb L T k := by
  rcases h with h' | h' | h' | ⟨y, hy, h'⟩
  · exact .inl h'
  · exact .inr (.inl h')
  · exact .inr (.inr (.inl h'))
  · exact .inr (.inr (.inr ⟨y, hy.elim .inl fun h'' => .inr ((hT y).2 h''), h'⟩))
/-- Behind Put. -/
def PutG (w : World) (B bb r : Nat) (pp : Option Addr) (L : Lay) (c : Cf) (pg sz : Nat) (t2 : Int) (T : List (List Int)) (R : List En × Int × Bool) (w' : World) : Prop :=
  ∃ L' : Lay, KvB w' B bb r pp L' c pg sz t2 (txs R.1) ∧ (∀ e ∈ R.1, L'.us e.1 = e.2) ∧ L'.mx ≤ L.mx + 256 ∧ (∀ k, ftB B bb L' (txs R.1) k → ftB B bb L T k ∨ w.heap.size ≤ k) ∧ Fb (ftB B bb L T) w w'
/-- What the rounds of Put carry. -/
structure PutW (w : World) (B bb r : Nat) (pp : Option Addr) (L : Lay) (c : Cf) (pg sz : Nat) (t2 : Int) (T : List (List Int)) (q : Option Addr) (ts : List Int) (tb a : Option Addr) (cap bc : Nat) (E : List En) (W : World) (L' : Lay) : Prop where
  kv : KvB W B bb r pp L' c pg sz t2 (txs E)
  us : ∀ e ∈ E, L'.us e.1 = e.2
  mx : L'.mx = L.mx + bc
  ft : ∀ k, ftB B bb L' (txs E) k → ftB B bb L T k ∨ w.heap.size ≤ k
  fb : Fb (ftB B bb L T) w W
  st : StT W q c ts tb
  ta : ∀ k, mF tb k → ¬ L'.Fp k
  rd : Reads .i64 W a ts.length cap ts
  ao : ∀ p, a = some p → ¬ ftB B bb L' (txs E) p.block ∧ p.block < W.heap.size
theorem PutW.below {w W W' : World} {t2 : Int} {q : Option Addr} {ts : List Int} {tb a : Option Addr} {cap bc : Nat} {E : List En} {L' : Lay} (h : PutW w B bb r pp L c pg sz t2 T q ts tb a cap bc E W L') (hb : Below W.heap.size W W') : PutW w B bb r pp L c pg sz t2 T q ts tb a cap bc E W' L' :=
  ⟨h.kv.below hb, h.us, h.mx, h.ft, h.fb.below hb, h.st.below hb, h.ta, h.rd.below hb, fun p hp => ⟨(h.ao p hp).1, Nat.lt_of_lt_of_le (h.ao p hp).2 hb.size⟩⟩
theorem PutW.next {w W W' : World} {t2 : Int} {q : Option Addr} {ts : List Int} {tb a : Option Addr} {cap bc : Nat} {E E' : List En} {L' L2 : Lay} (h : PutW w B bb r pp L c pg sz t2 T q ts tb a cap bc E W L') {T2 : List (List Int)} (hk : KvB W' B bb r pp L2 c pg sz t2 T2) (hF : ∀ k, ftB B bb L2 T2 k → ftB B bb L' (txs E) k ∨ W.heap.size ≤ k) (hb : Fb (ftB B bb L' (txs E)) W W') (hT : ∀ y, y ∈ T2 ↔ y ∈ txs E') (hu : ∀ e ∈ E', L2.us e.1 = e.2) (hm : L2.mx = L'.mx + 1) : PutW w B bb r pp L c pg sz t2 T q ts tb a cap (bc + 1) E' W' L2 := by
  have hs := h.fb.size
  refine ⟨hk.congr hT, hu, by rw [hm, h.mx]; omega, fun k hk' => ?_, h.fb.trans hb h.ft, StT.fbF h.kv hb (fun k hk => .inl hk) h.st h.ta, fun k hk' hf => ?_, h.rd.same fun x hx => ?_, fun p hp => ⟨fun hf => ?_, Nat.lt_of_lt_of_le (h.ao p hp).2 hb.size⟩⟩
  · rcases hF k (ftB_congr hT hk') with h' | h'
    · exact h.ft k h'
    · exact .inr (by omega)
  · rcases hF k (.inr (.inr (.inl hf))) with h' | h'
    · exact h.kv.taft h.st h.ta hk' h'
    · have := h.st.lt hk'
      omega
  · obtain ⟨p, hp, rfl⟩ := hx
    exact hb.block _ (h.ao p hp).2 (h.ao p hp).1
  · rcases hF _ (ftB_congr hT hf) with h' | h'
    · exact (h.ao p hp).1 h'
    · have := (h.ao p hp).2
      omega
theorem OkK.putB {es : List En} (h : OkK pg sz tm es) (ts : List Int) {j0 : Nat} (hf : Far (txs es) sz ts j0) : PutB pg (tm + 1) sz ts es j0 := ⟨h.e, h.u.next h.t ts, by have := h.t; omega, h.z.1, hf, h.few⟩
set_option maxHeartbeats 4000000 in
theorem kput_in {w : World} {es : List En} (h : KvB w B bb r pp L c pg sz tm (txs es)) (ho : OkK pg sz tm es) (hu : ∀ e ∈ es, L.us e.1 = e.2) (hm : mayB c = true) (ht1 : tm ≤ 100000) (hmx : L.mx ≤ 50000000) (q : Option Addr) (ts : List Int) (tb : Option Addr) (hs : StT w q c ts tb) (hta : ∀ k, mF tb k → ¬ L.Fp k) (hk : Tk ts) :
    Calls Tryz.prog 18 #[.pointer (some ⟨B, 0, none⟩), .pointer q] w fun e w' => e = .returned (.int .i64 (putK pg (tm + 1) sz ts es (ts.length / sz)).2.1) ∧ PutG w B bb r pp L c pg sz (tm + 1) (txs es) (putK pg (tm + 1) sz ts es (ts.length / sz)) w' := by
  have hz := ho.z
  have ht0 := ho.t
  obtain ⟨j0, hj1, hj2⟩ := ho.e.was hz.1 ts
  have hF : Far (txs es) sz ts j0 := ⟨hj1, hj2⟩
  have hB := ho.putB ts hF
  obtain ⟨t2, ht2⟩ : ∃ t2, tm + 1 = t2 := ⟨_, rfl⟩
  have hM := kmade_yes h
  have hTk := dtok_new w hs
  obtain ⟨nt, hnt⟩ : ∃ nt, ts.length = nt := ⟨_, rfl⟩
  have hn1 : 1 ≤ nt := by obtain ⟨_, _, _, _, _, _, _, _, _, h1, _⟩ := hs; omega
  have hn2 : nt ≤ 256 := by obtain ⟨_, _, _, _, _, _, _, _, _, _, h1⟩ := hs; omega
  have HUse := hid fun (W : World) (hb : Below w.heap.size w W) (a : Option Addr) (cap : Nat) (hr : Reads .i64 W a nt cap ts) (hap : ∀ q, a = some q → ¬ ftB B bb L (txs es) q.block) => kuse_any (h.below hb) hz ht0 ht1 a nt cap ts hr hk hn2 hap hF
  rw [ht2] at hB HUse ⊢
  rw [hnt] at hTk hj1 ⊢
  have HK := hid h
  have HNt := hid hnt
  have HB := hid hB
  have HS := hid hs
  have HTa := hid hta
  have HTk := hid hk
  have HU := hid hu
  have HMay := hid hm
  have hj3 : j0 ≤ 256 := Nat.le_trans (Nat.le_trans (Nat.le_mul_of_pos_right _ (by omega)) hj1) hn2
  clear h ho hu hs hta hk hF hB hj2 ht2 hnt hm
  go_enter Tryz.func18, Tryz.ntmps18
  go_wp2_with fail
  refine hM.mono ?_
  rintro e w' ⟨rfl, rfl⟩
  clear hM
  go_wp2_with fail
  refine hTk.mono ?_
  rintro e w1 ⟨a, cap, rfl, hr, hl, hb⟩
  have r1 := hr.room
  have m1 := hr.most
  have hao : ∀ p, a = some p → ¬ ftB B bb L (txs es) p.block := fun p hp hf => by
    have := HK.out.old _ hf
    have := (hl p hp).1
    omega
  have hUse := HUse.out w1 hb a cap hr hao
  have HR1 := hid hr
  have HL1 := hid hl
  have HAo := hid hao
  have HB1 := hid hb
  clear hr hl hb hao hTk HUse
  go_wp2_with fail
  refine hUse.mono ?_
  rintro e w2 ⟨rfl, us, hK, hUs, hF⟩
  have HW : Hid (PutW w B bb r pp L c pg sz t2 (txs es) q ts tb a cap 0 (useK t2 ts es es.length) w2 { L with us := us }) := by
    refine ⟨by rw [txs_use]; exact hK, fun e he => ?_, rfl, fun k hk => .inl (by rw [txs_use] at hk; exact hk), (Fb.of HB1.out).trans hF fun k hk => .inl hk, StT.fbF (HK.out.below HB1.out) hF (fun k hk => .inl hk) (HS.out.below HB1.out) HTa.out, HTa.out, by rw [HNt.out]; exact HR1.out.same (fun x ⟨p, hp, e⟩ => by rw [← e]; exact hF.block _ (HL1.out p hp).2 (HAo.out p hp)), fun p hp => ⟨by rw [txs_use]; exact HAo.out p hp, Nat.lt_of_lt_of_le (HL1.out p hp).2 hF.size⟩⟩
    obtain ⟨i, hi, rfl⟩ := mem_en he
    rw [useK_len] at hi
    rw [useK_at _ _ hi]
    have hmem : (en es i).1 ∈ txs es := mem_txs.2 ⟨i, hi, rfl⟩
    obtain ⟨al, a1, a2⟩ := HB.out.e.mult _ hmem
    split
    · rename_i hc
      show us (en es i).1 = t2
      have hq := begB_eq hc.2
      have hle := (begB_iff.1 hc.2).1
      rw [a2] at hq hle
      have := (HB.out.far.iff al a1 hle).1 (by rw [← hq]; exact hmem)
      rw [hq]
      exact hUs.now al a1 this
    · rename_i hc
      show us (en es i).1 = (en es i).2
      rw [hUs.rest (en es i).1 fun k k1 k2 e => hc ⟨hi, by rw [e]; exact begB_take _⟩]
      exact HU.out _ (en_mem hi)
  have c0 := hK.cells.1
  obtain ⟨p0, hp0⟩ : ∃ p0, j0 * sz = p0 := ⟨_, rfl⟩
  have HP0 := hid hp0.symm
  rw [hp0] at hj1 ⊢
  obtain ⟨n0, hn0⟩ : ∃ n0, p0 + sz = n0 := ⟨_, rfl⟩
  have HN0 := hid hn0.symm
  have hsum : (p0 : Int) + (sz : Int) = (n0 : Int) := by omega
  clear hK hUs hF hUse HR1 HL1 HAo HB1 HS HTa HU HK hp0 hn0
  have HI := hid HB.out.start
  go_wp2_with fail
  go_loopw [6, 7, 8] (fun x y z W => ∃ (j p n bc : Nat) (E : List En) (L' : Lay), Hid (p = j * sz) ∧ Hid (n = p + sz) ∧ Hid (j = j0 + bc) ∧ j ≤ 256 ∧ bc ≤ 256 ∧ p ≤ nt ∧ x = .pointer (some ⟨L'.nd (ts.take p), 0, none⟩) ∧ y = .int .i64 n ∧ z = .int .i64 bc ∧ Hid (PutI pg t2 sz ts es j E) ∧ Hid (PutW w B bb r pp L c pg sz t2 (txs es) q ts tb a cap bc E W L')) (fun _ y _ _ => nt + 17 - (intOf y).toNat)
  case atStart => exact ⟨j0, p0, n0, 0, _, { L with us := us }, HP0, HN0, by unfold Hid; omega, by omega, by omega, by omega, rfl, rfl, rfl, HI, HW⟩
  case round =>
  obtain ⟨j, p, n, bc, E, L', HP, HN, HJ, hj, hbc, hp, rfl, rfl, rfl, HPi, HPw⟩ := hrel
  rename World => wr
  clear c0 hsum HP0 HN0 HW HI
  have hnb : n ≤ nt + 16 := by have := HN.out; omega
  obtain ⟨F1, F2, F3, F4, F5⟩ := HPi.out.facts HB.out (by rw [HNt.out, ← HP.out]; exact hp) (by have := HJ.out; omega)
  have HF5 : Hid ((bc : Int) = (putK pg t2 sz ts es j).2.1) := by unfold Hid; rw [F5]; have := HJ.out; omega
  by_cases hle : n ≤ nt
  · have q1 : (n : Int) ≤ (nt : Int) := by omega
    have hrd := HPw.out.rd
    rw [HNt.out] at hrd
    obtain ⟨b, off, hab, _⟩ := hrd.cell 0 (by omega)
    subst hab
    have hpn : p + sz = n := HN.out.symm
    have hsub : (n : Int) - (sz : Int) = (p : Int) := by omega
    have s1 : (0 : Int) ≤ (p : Int) := by omega
    have s2 : (p : Int) ≤ (n : Int) := by omega
    have s3 : (n : Int) ≤ (cap : Int) := by omega
    have hcp : ¬ cap = p := by omega
    have hp3 : n - p = sz := by omega
    have hcl : (chunk sz j ts).length = sz := chunk_len (by rw [HNt.out, Nat.succ_mul, ← HP.out]; omega)
    have hch : (ts.drop p).take sz = chunk sz j ts := by unfold chunk; rw [HP.out]
    have hnj : n = (j + 1) * sz := by rw [← hpn, HP.out, Nat.succ_mul]
    have htc : ts.take n = ts.take p ++ chunk sz j ts := by rw [HP.out, take_chunk, ← hnj]
    have hI : InT (txs E) (ts.take p) := by rw [HP.out]; exact F3.inT (Nat.le_refl _)
    have hxT : ts.take n ∉ txs E := fun e => by
      have := (F3.iff (j + 1) (by omega) (by rw [← hnj, HNt.out]; exact hle)).1 (by rw [← hnj]; exact e)
      omega
    have hnow : ts.take p ∈ txs E → L'.us (ts.take p) = t2 := fun e => by
      obtain ⟨i, hi, e2⟩ := mem_txs.1 e
      rw [← e2, HPw.out.us _ (en_mem hi)]
      exact HPi.out.now _ (en_mem hi) (by rw [e2]; exact begB_take _)
    have hKey := kkey_any (some ⟨b, off + p, none⟩) sz (cap - p) _ wr (hrd.part (by omega) (by omega)) hz.2
    rw [hch] at hKey
    have HAdd := hid fun (W : World) (hb : Below wr.heap.size wr W) (q' ta' : Option Addr) (hst : StT W q' c (ts.take n) ta') (hta : ∀ k, mF ta' k → ¬ L'.Fp k) => kadd_any (HPw.out.kv.below hb) hz F1.one (by rw [txs_len]; exact F4) F1.cls htc hcl hI hnow hxT (HTk.out.take _) hst hta (by rw [HPw.out.mx]; omega)
    have HCut := hid fun (W : World) (hb : Below wr.heap.size wr W) => dcut_T (HPw.out.st.below hb) HMay.out (n := n) (by omega) (by rw [HNt.out]; exact hle)
    have HTaF : Hid (∀ (W : World) (ta' : Option Addr), Below wr.heap.size wr W → (∀ k, mF ta' k → mF tb k ∨ W.heap.size ≤ k) → ∀ k, mF ta' k → ¬ L'.Fp k) := fun W ta' hb h1 k hk hf => by
      rcases h1 k hk with h' | h'
      · exact HPw.out.ta k h' hf
      · have := HPw.out.kv.old k (.inr (.inr (.inl hf)))
        have := hb.size
        omega
    have HNj := hid hnj
    have c0 := HPw.out.kv.cells.1
    have hn256 : j + 1 ≤ 256 := Nat.le_trans (Nat.le_mul_of_pos_right _ (show 0 < sz by omega)) (by rw [← hnj]; omega)
    have HFs := hid (And.intro F1 (And.intro F2 F3))
    clear F1 F2 F3 F4 F5 hrd hcl hch htc hI hxT hnow hnj HTk
    generalize hkv : keyV (chunk sz j ts) = kvv at *
    go_wp2_with fail
    refine hKey.mono ?_
    rintro e w4 ⟨rfl, hb⟩
    have HV4 := hid hb
    clear hb hKey
    go_wp2_with fail
    refine (HCut.out _ HV4.out).mono ?_
    rintro e w5 ⟨q', ta', rfl, hst, hta, hb⟩
    have HV5 := hid (HV4.out.trans (hb.mono HV4.out.size))
    have hAdd := HAdd.out w5 HV5.out q' ta' hst (HTaF.out w4 ta' HV4.out hta)
    clear hst hta hb HCut HAdd HTaF HV4 c0
    have HPw5 := hid (HPw.out.below HV5.out)
    have hjl : (j + 1) * sz ≤ ts.length := by rw [← HNj.out, HNt.out]; exact hle
    have hjj : j0 ≤ j := by have := HJ.out; omega
    have HNo : Hid (∀ (L6 : Lay) (w6 : World), (txs E).length = pg → (∀ y ∈ txs E, lfB (txs E) sz y = true → t2 ≤ L'.us y) → KvB w6 B bb r pp L6 c pg sz t2 (txs E) → (∀ k, ftB B bb L6 (txs E) k → ftB B bb L' (txs E) k ∨ w5.heap.size ≤ k) → Fb (ftB B bb L' (txs E)) w5 w6 → L6.us = L'.us → L6.mx = L'.mx →
        Ending.returned (.int .i64 (bc : Int)) = .returned (.int .i64 (putK pg t2 sz ts es (nt / sz)).2.1) ∧ PutG w B bb r pp L c pg sz t2 (txs es) (putK pg t2 sz ts es (nt / sz)) w6) := fun L6 w6 h1 h2 h3 h4 h5 h6 h7 => by
      have hp1 := HPi.out.no HB.out hjl hjj HPw.out.us h1 h2
      have hd : j + 1 ≤ nt / sz := (Nat.le_div_iff_mul_le (by omega)).2 (by rw [← HNj.out]; exact hle)
      have hp2 : putK pg t2 sz ts es (nt / sz) = (E, (putK pg t2 sz ts es j).2.1, true) := by
        have := putK_stay (pg := (pg : Int)) (tm := t2) (sz := sz) (ts := ts) (es := es) (j := j + 1) (by rw [hp1]) (nt / sz - (j + 1))
        rw [show j + 1 + (nt / sz - (j + 1)) = nt / sz by omega] at this
        rw [this, hp1]
      rw [hp2]
      have hsz := HPw5.out.fb.size
      refine ⟨by rw [HF5.out], L6, h3, fun e he => by rw [h6]; exact HPw.out.us e he, by rw [h7, HPw.out.mx]; omega, fun k hk => ?_, HPw5.out.fb.trans h5 HPw5.out.ft⟩
      rcases h4 k hk with h' | h'
      · exact HPw5.out.ft k h'
      · exact .inr (by omega)
    have HYes : Hid (∀ (L6 : Lay) (T1 : List (List Int)) (w6 : World), KvB w6 B bb r pp L6 c pg sz t2 (T1 ++ [ts.take n]) → (∀ k, ftB B bb L6 (T1 ++ [ts.take n]) k → ftB B bb L' (txs E) k ∨ w5.heap.size ≤ k) → Fb (ftB B bb L' (txs E)) w5 w6 → (∀ z, z ≠ ts.take n → L6.us z = L'.us z) → L6.us (ts.take n) = t2 → L6.mx = L'.mx + 1 → RoomC L' pg sz t2 (txs E) T1 → T1.length < pg →
        ∃ E', PutI pg t2 sz ts es (j + 1) E' ∧ PutW w B bb r pp L c pg sz t2 (txs es) q ts tb (some ⟨b, off, none⟩) cap (bc + 1) E' w6 L6) := fun L6 T1 w6 h1 h2 h3 h4 h5 h6 h7 h8 => by
      obtain ⟨E', e1, e2, e3, e4⟩ := HPi.out.yes HB.out hjl hjj HPw.out.us h7 h8
      rw [← HNj.out] at e3 e4
      exact ⟨E', e1, HPw5.out.next h1 h2 h3 e3 (e4 L6.us h4 h5) h6⟩
    clear HPw5 HPw HPi HF5 HFs hkv HV5
    go_wp2_with fail
    refine hAdd.mono ?_
    rintro e w6 ⟨q6, rfl, hG⟩
    rcases hG with ⟨rfl, g1, g2, L6, g3, g4, g5, g6, g7⟩ | ⟨L6, T1, rfl, g1, g2, g3, g4, g5, g6, g7, g8⟩
    · have HR := hid (HNo.out L6 w6 g1 g2 g3 g4 g5 g6 g7)
      clear HNo HYes hAdd g1 g2 g3 g4 g5 g6 g7 HP HN HJ HB HMay HNt HNj
      go_wp2
      go_ret
      exact HR.out
    · have HR := hid (HYes.out L6 T1 w6 g1 g2 g3 g4 g5 g6 g7 g8)
      have d0 := g1.cells.1
      obtain ⟨n2, hn2'⟩ : ∃ n2, n + sz = n2 := ⟨_, rfl⟩
      have HN2 : Hid (n2 = n + sz) := hn2'.symm
      have hsum : (n : Int) + (sz : Int) = (n2 : Int) := by omega
      have hn3 : n2 ≤ nt + 16 := by omega
      have hn4 : n < n2 := by omega
      clear HNo HYes hAdd g1 g2 g3 g4 g5 g6 g7 g8 hn2' hsub hp3 hcp
      go_wp2_with fail
      go_round
      case rel =>
        obtain ⟨E', e1, e2⟩ := HR.out
        exact ⟨j + 1, n, n2, bc + 1, E', L6, HNj, HN2, by unfold Hid; have := HJ.out; omega, by omega, by have := HJ.out; omega, by omega, rfl, rfl, by go_num, e1, e2⟩
      case measure => simp [intOf]; omega
  · have HE : Hid (j = nt / sz) := by
      unfold Hid
      have h1 := HP.out
      have h2 := HN.out
      refine (Nat.div_eq_of_lt_le ?_ ?_).symm
      · rw [← h1]; exact hp
      · rw [Nat.succ_mul, ← h1]; omega
    have q1 : ¬ (n : Int) ≤ (nt : Int) := by omega
    have HG : Hid (PutG w B bb r pp L c pg sz t2 (txs es) (putK pg t2 sz ts es (nt / sz)) wr) := by
      unfold Hid
      rw [← HE.out]
      refine ⟨L', ?_, ?_, ?_, ?_, HPw.out.fb⟩
      · rw [HPi.out.eq]; exact HPw.out.kv
      · rw [HPi.out.eq]; exact HPw.out.us
      · have := HPw.out.mx; omega
      · rw [HPi.out.eq]; exact HPw.out.ft
    have HEq : Hid (Ending.returned (.int .i64 (bc : Int)) = .returned (.int .i64 (putK pg t2 sz ts es (nt / sz)).2.1)) := by unfold Hid; rw [← HE.out, HF5.out]
    clear F1 F2 F3 F4 F5 HP HN HJ HPi HPw HF5 HE HB HTk HMay HNt
    go_wp2
    go_ret
    exact ⟨HEq.out, HG.out⟩
end
end Go.Proofs.YtdomjdfancpbbaaGreat
namespace Go.Proofs.YtdomjdfancpbbaaGreat
open Go.RowKit Go.Maps
set_option linter.unusedVariables false
set_option maxRecDepth 1000000

set_option maxHeartbeats 1000000 in
theorem pused_new {F : Nat → Prop} (p : Option Addr) (hs : List Int) (w : World) (h : PgAt w p hs F) : Calls Tryz.prog 36 #[.pointer p] w fun e w' => ∃ a cap, e = .returned (.slice a (usedL hs).length cap) ∧ Reads .i64 w' a (usedL hs).length cap (usedL hs) ∧ (∀ p, a = some p → w.heap.size ≤ p.block ∧ p.block < w'.heap.size) ∧ Below w.heap.size w w' := by
  obtain ⟨B, b, g, n, fs, rfl, hB, rfl⟩ := h.rest
  have hM := pmade_yes hB h.ok
  obtain ⟨i0, hi, hz0, hz1, hz2⟩ := info_parts Tryz.info3
  have hl := hB.len
  have hn := h.ok.2.1
  have cB := hB.cells.1
  have HH := hid fun (W : World) (hb : Below w.heap.size w W) => hB.own.stays hb
  have HL := hid fun (k : Nat) => usedK_len hs k
  have HU : Hid (∀ k, usedK hs (k + 1) = if 0 < hs[k]?.getD 0 then usedK hs k ++ [(k : Int)] else usedK hs k) := fun k => rfl
  have HE : Hid (usedK hs n = usedL hs) := by unfold Hid usedL; rw [hl]
  rw [hl] at hn
  clear h hl hB
  obtain ⟨U, hU⟩ : ∃ U : Nat → List Int, U = usedK hs := ⟨_, rfl⟩
  have HU0 : Hid (U 0 = []) := by unfold Hid; rw [hU]; rfl
  rw [← hU] at HL HU HE
  clear hU
  go_enter Tryz.func36, Tryz.ntmps36
  go_wp2_with fail
  refine hM.mono ?_
  rintro e w' ⟨rfl, rfl⟩
  clear hM
  go_wp2_with fail
  go_loopw [3, 14] (fun v i W => ∃ k m : Nat, k ≤ n ∧ i = .int .i64 k ∧ m ≤ k ∧ Hid ((U k).length = m) ∧ Hid (W.ownsRow w.heap.size 3 1 v m ((U k).map (Value.int .i64))) ∧ Hid (Below w.heap.size w W)) (fun _ i _ => n - (intOf i).toNat)
  case atStart => exact ⟨0, 0, Nat.zero_le _, rfl, Nat.le_refl _, by unfold Hid; rw [HU0.out]; rfl, by unfold Hid; rw [HU0.out]; exact World.ownsRow_nil _ _ _ _, Below.refl _ _⟩
  case round =>
  obtain ⟨k, m, hk, rfl, hm, HM, HO, HW⟩ := hrel
  rename World => wr
  have hR := HH.out _ HW.out
  by_cases hlt : k < n
  · have q1 : (k : Int) < (n : Int) := by omega
    have ck := hR.cell hlt
    have HUk := hid (HU.out k)
    have HLk := hid (HL.out (k + 1))
    clear hR HL HU HU0 HE
    by_cases h0 : 0 < hs[k]?.getD 0
    · have HE2 : Hid (U (k + 1) = U k ++ [(k : Int)]) := by unfold Hid; rw [HUk.out, if_pos h0]
      have HAl : Hid (Below wr.heap.size wr (wr.alloc (.cells #[.int .i64 (k : Int)] 3))) := (Below.refl _ _).alloc (Nat.le_refl _) _
      have HSz : Hid (w.heap.size ≤ (wr.alloc (.cells #[.int .i64 (k : Int)] 3)).heap.size) := Nat.le_trans HW.out.size HAl.out.size
      clear HUk
      generalize hs[k]?.getD 0 = x at *
      go_wp2_with (at_builtin; refine append_any _ rfl (.tmp 21) (.tmp 23) 34 rfl w.heap.size 3 i0 (.int .i64 0) 8 Tryz.underlying34 hi hz0 hz1 hz2 rfl .i64 _ m (U k) rfl (own_below HO.out HAl.out) _ 1 1 [(k : Int)] rfl (Reads.one _ _ _) (by omega) (by omega) HSz.out ?_; intro v3 w3 hO3 hb3)
      have HO3 : Hid (w3.ownsRow w.heap.size 3 1 v3 (m + 1) ((U (k + 1)).map (Value.int .i64))) := by unfold Hid; rw [HE2.out]; exact hO3
      have HW3 : Hid (Below w.heap.size w w3) := (HW.out.trans (HAl.out.mono HW.out.size)).trans hb3
      have HM3 : Hid ((U (k + 1)).length = m + 1) := by unfold Hid; rw [HE2.out, List.length_append, HM.out]; rfl
      clear hO3 hb3 HO HW HAl HSz HM HE2 ck
      go_wp2_with fail
      go_round
      case rel => exact ⟨k + 1, m + 1, by omega, by go_num, by omega, HM3, HO3, HW3⟩
      case measure => simp [intOf]; omega
    · have HE2 : Hid (U (k + 1) = U k) := by unfold Hid; rw [HUk.out, if_neg h0]
      have HO3 : Hid (wr.ownsRow w.heap.size 3 1 u3 m ((U (k + 1)).map (Value.int .i64))) := by unfold Hid; rw [HE2.out]; exact HO.out
      have HM3 : Hid ((U (k + 1)).length = m) := by unfold Hid; rw [HE2.out]; exact HM.out
      clear HUk HE2 HO HM
      generalize hs[k]?.getD 0 = x at *
      go_wp2_with fail
      go_round
      case rel => exact ⟨k + 1, m, by omega, by go_num, by omega, HM3, HO3, HW⟩
      case measure => simp [intOf]; omega
  · obtain rfl : k = n := by omega
    obtain ⟨a6, c6, e6, _, _, hl6, _⟩ := own_slc HO.out
    obtain ⟨a5, c5, rfl, hr5⟩ := Reads.own (k := .i64) HO.out
    have e7 : a6 = a5 := by cases e6; rfl
    rw [e7] at hl6
    have HL6 := hid hl6
    clear hl6
    have HR5 : Hid (Reads .i64 wr a5 (usedL hs).length c5 (usedL hs)) := by unfold Hid; rw [← HE.out, HM.out]; exact hr5
    have HEq : Hid (Ending.returned (.slice a5 m c5) = .returned (.slice a5 (usedL hs).length c5)) := by unfold Hid; rw [← HE.out, HM.out]
    clear hr5 HO HE HM HL HU HU0 hR
    go_wp2
    go_ret
    exact ⟨_, _, HEq.out, HR5.out, HL6.out, HW.out⟩
theorem MvAt.wipe {W : World} {B n : Nat} {f : Value → Option Nat} (h : MvAt W B n f) (ty : TypeId) :
    ∃ W', (Builtin.clear_ #[74] ty #[.map (some B)]).run Tryz.prog W = .ok (.tuple #[]) W' ∧ MvAt W' B 0 (fun _ => none) ∧ Fb (at1 B) W W' := by
  obtain ⟨es, clock, hb⟩ := h.blk
  refine ⟨{ W with heap := W.heap.setIfInBounds B (.map #[] clock) }, ?_, ⟨.map [], ⟨#[], clock, (MapKept.heap_set hb).1, ⟨by simp, MapKept.stamped_empty clock, by simp⟩, Nat.le_refl _, rfl⟩, fun v l _ => ⟨rfl, rfl⟩⟩, ⟨rfl, rfl, rfl, by simp, fun k _ hk => (MapKept.heap_set hb).2 k hk⟩⟩
  simp [Builtin.clear_, run_underlying Tryz.underlying74, MapKept.run_getObj_map hb, MapKept.run_setObj_map _ hb, Result.andThen]
theorem zeroPe (w : World) : (zeroValue 60).run Tryz.prog w = .ok (.pointer none) w := by kernel_rfl
theorem row_cells {bb pg : Nat} : ∀ (us : List Value) (o : Nat) (vs : List Value) (W : World), W.ownsRow 0 60 1 (.slice (some ⟨bb, 0, none⟩) pg pg) pg vs → ∃ vs', (W.setCells bb o us).ownsRow 0 60 1 (.slice (some ⟨bb, 0, none⟩) pg pg) pg vs'
  | [], o, vs, W, h => ⟨vs, h⟩
  | u :: us, o, vs, W, h => row_cells us (o + 1) _ _ (World.ownsRow.stored h o u).1
theorem fb_cells {bb : Nat} : ∀ (us : List Value) (o : Nat) (W : World), Fb (at1 bb) W (W.setCells bb o us)
  | [], o, W => Fb.refl _ _
  | u :: us, o, W => (Fb.set (F := at1 bb) (w := W) (p := ⟨bb, o, none⟩) (by exact rfl) u).trans (fb_cells us (o + 1) _) fun k hk => .inl hk
theorem row_wipe {bb pg : Nat} {vs : List Value} {W : World} (h : W.ownsRow 0 60 1 (.slice (some ⟨bb, 0, none⟩) pg pg) pg vs) (hp : 1 ≤ pg) (ty : TypeId) :
    ∃ W' vs', (Builtin.clear_ #[61] ty #[.slice (some ⟨bb, 0, none⟩) pg pg]).run Tryz.prog W = .ok (.tuple #[]) W' ∧ W'.ownsRow 0 60 1 (.slice (some ⟨bb, 0, none⟩) pg pg) pg vs' ∧ Fb (at1 bb) W W' := by
  have hl : vs.length = pg := by have := h.1; simpa using this
  obtain ⟨vs', hv⟩ := row_cells (List.replicate pg (Value.pointer none)) 0 vs W h
  refine ⟨_, vs', Lib.run_clear_slice W _ _ ty (.pointer none) Tryz.underlying61 zeroPe rfl rfl bb 0 pg pg (by omega) (fun j hj => ?_) (fun j hj => ?_), hv, fb_cells _ _ _⟩
  · rw [Nat.zero_add, World.ownsRow.cellAt h j (by omega), List.getElem?_eq_getElem (by omega)]
    rfl
  · rw [Nat.zero_add]
    exact World.ownsRow.frozenAt h j
section
variable {B bb r : Nat} {pp : Option Addr} {L : Lay} {c : Cf} {pg sz : Nat} {tm : Int} {T : List (List Int)}
/-- All went. -/
theorem KvB.cleared {W W2 W3 W4 : World} (h : KvB W B bb r pp L c pg sz tm T) {hs' : List Int} {F' : Nat → Prop} (h1 : PgAt W2 pp hs' F') (hF : ∀ k, F' k → L.Fp k ∨ W.heap.size ≤ k) (hb : Fb L.Fp W W2) (hl : hs'.length = pg) (h0 : ∀ k, k < pg → hs'[k]?.getD 0 = 0) {vs' : List Value} (h3 : W3.ownsRow 0 60 1 (.slice (some ⟨bb, 0, none⟩) pg pg) pg vs') (hb3 : Fb (at1 bb) W2 W3) (h4 : MvAt W4 (L.mp []) 0 (fun _ => none)) (hb4 : Fb (at1 (L.mp [])) W3 W4) :
    KvB W4 B bb r pp { L with Fp := F', hs := hs', vs := vs' } c pg sz tm [] ∧ (∀ k, ftB B bb { L with Fp := F', hs := hs', vs := vs' } [] k → ftB B bb L T k ∨ W.heap.size ≤ k) ∧ Fb (ftB B bb L T) W W4 := by
  have hI : InT T [] := .inl rfl
  have hn : ∀ {x : List Int}, InT [] x → x = [] := fun {x} hx => hx.elim id fun h' => by cases h'
  have s2 := hb.size
  have s3 := hb3.size
  have hbb : bb < W.heap.size := by obtain ⟨cur, hc'⟩ := h.rowb; exact lt_of_block hc'
  have hmp := (h.tree.map [] hI).lt
  have key : ∀ k, k < W.heap.size → k ≠ L.mp [] → k ≠ bb → ¬ L.Fp k → W4.heap[k]? = W.heap[k]? := fun k hk e1 e2 e3 =>
    (hb4.block k (by omega) e1).trans ((hb3.block k (by omega) e2).trans (hb.block k hk e3))
  refine ⟨⟨?_, h.root, ?_, hl, fun k hk => .inl ⟨h0 k hk, fun x hx => by cases hx⟩, (fun x hx => by cases hx), (fun x hx => by cases hx), ?_, (fun x hx => by cases hx), ⟨fun x hx => ?_, fun x hx => ?_, fun x y hx hy _ => by rw [hn hx, hn hy], fun x y hx hy _ => by rw [hn hx, hn hy]⟩, (fun x hx => by cases hx), (fun x hx => by cases hx)⟩, fun k hk => ?_, ?_⟩
  · exact (key B (lt_of_block h.var) (fun e => h.Bmp hI e.symm) (fun e => h.bbB e.symm) h.BFp).trans h.var
  · refine h1.same (by have := hb4.size; omega) fun k hk => ?_
    have hlt := h1.old k hk
    have hne : k ≠ L.mp [] ∧ k ≠ bb := by
      rcases hF k hk with h' | h'
      · exact ⟨fun e => h.mpFp hI (e ▸ h'), fun e => h.bbFp (e ▸ h')⟩
      · exact ⟨by omega, by omega⟩
    exact (hb4.block k (by omega) hne.1).trans (hb3.block k hlt hne.2)
  · refine own_blk h3 fun b hb' => ?_
    cases hb'
    exact hb4.block bb (by omega) fun e => h.bbmp hI (Eq.symm e)
  · rw [hn hx]
    exact (key _ (lt_of_block (h.tree.node [] hI)) (fun e => h.ndmp hI hI e) (fun e => h.bbnd hI e) (h.ndFp hI)).trans (h.tree.node [] hI)
  · rw [hn hx]
    exact (h4.mono (Nat.zero_le _)).ext fun v l _ => (chF_none (fun ch _ hm => by cases hm) v).symm
  · rcases hk with h' | h' | h' | ⟨x, hx, h'⟩
    · exact .inl (.inl h')
    · exact .inl (.inr (.inl h'))
    · rcases hF k h' with h'' | h''
      · exact .inl (.inr (.inr (.inl h'')))
      · exact .inr h''
    · rw [hn hx] at h'
      exact .inl (.inr (.inr (.inr ⟨[], hI, h'⟩)))
  · have f2 : Fb (ftB B bb L T) W W2 := hb.mono fun k hk => .inr (.inr (.inl hk))
    have f3 : Fb (ftB B bb L T) W W3 := f2.trans (hb3.mono fun k hk => show ftB B bb L T k from .inr (.inl hk)) fun k hk => .inl hk
    exact f3.trans (hb4.mono fun k hk => show ftB B bb L T k from .inr (.inr (.inr ⟨[], hI, .inr hk⟩))) fun k hk => .inl hk
/-- What the rounds of Clear carry. -/
structure ClrW (w : World) (pp : Option Addr) (Fp : Nat → Prop) (hs : List Int) (U : List Int) (a : Option Addr) (n cap k : Nat) (W : World) (hs' : List Int) (F' : Nat → Prop) : Prop where
  pool : PgAt W pp hs' F'
  len : hs'.length = hs.length
  at0 : ∀ i : Nat, (i : Int) ∈ U.take k → hs'[i]?.getD 0 = 0
  at1 : ∀ i : Nat, (i : Int) ∉ U.take k → hs'[i]?.getD 0 = hs[i]?.getD 0
  ft : ∀ x, F' x → Fp x ∨ w.heap.size ≤ x
  fb : Fb Fp w W
  rd : Reads .i64 W a n cap U
  ao : ∀ p, a = some p → ¬ F' p.block ∧ p.block < W.heap.size
set_option maxHeartbeats 4000000 in
theorem kclear_in {w : World} (h : KvB w B bb r pp L c pg sz tm T) (hp : 1 ≤ pg) :
    Calls Tryz.prog 17 #[.pointer (some ⟨B, 0, none⟩)] w fun e w' => e = .returned (.tuple #[]) ∧ ∃ F' hs' vs', KvB w' B bb r pp { L with Fp := F', hs := hs', vs := vs' } c pg sz tm [] ∧ (∀ k, ftB B bb { L with Fp := F', hs := hs', vs := vs' } [] k → ftB B bb L T k ∨ w.heap.size ≤ k) ∧ Fb (ftB B bb L T) w w' := by
  have hM := kmade_yes h
  have hU := pused_new pp L.hs w h.pool
  have c1 := h.cells.2.1
  obtain ⟨U, hUe⟩ : ∃ U, usedL L.hs = U := ⟨_, rfl⟩
  have HUm : Hid (∀ m, m ∈ U ↔ ∃ i : Nat, i < pg ∧ m = i ∧ 0 < L.hs[i]?.getD 0) := fun m => by rw [← hUe]; unfold usedL; rw [usedK_mem, h.hsl]
  have HNd : Hid U.Nodup := by unfold Hid; rw [← hUe]; exact usedK_nodup _ _
  rw [hUe] at hU
  obtain ⟨n, hne⟩ : ∃ n, U.length = n := ⟨_, rfl⟩
  rw [hne] at hU
  have HNe := hid hne
  have HK := hid h
  have HH : Hid (∀ i : Nat, i < pg → L.hs[i]?.getD 0 = 0 ∨ L.hs[i]?.getD 0 = 1) := fun i hi => (h.held i hi).elim (fun h' => .inl h'.1) fun h' => .inr h'.1
  have HB : Hid (∀ (W : World), Fb L.Fp w W → W.cell? ⟨B, 1, none⟩ = some (.pointer pp)) := fun W hb => hb.cell h.cells.2.1 h.BFp
  clear h hUe hne
  go_enter Tryz.func17, Tryz.ntmps17
  go_wp2_with fail
  refine hM.mono ?_
  rintro e w' ⟨rfl, rfl⟩
  clear hM
  go_wp2_with fail
  refine hU.mono ?_
  rintro e w2 ⟨a, cap, rfl, hr, hl, hb⟩
  have r1 := hr.room
  have m1 := hr.most
  have HW : Hid (ClrW w pp L.Fp L.hs U a n cap 0 w2 L.hs L.Fp) := ⟨HK.out.pool.below hb, rfl, (fun i hi => by rw [List.take_zero] at hi; cases hi), (fun i _ => rfl), fun x hx => .inl hx, Fb.of hb, hr, fun p hp => ⟨fun hf => by have := HK.out.old _ (.inr (.inr (.inl hf))); have := (hl p hp).1; omega, (hl p hp).2⟩⟩
  clear hr hl hb hU c1
  go_wp2_with fail
  go_loopw [13] (fun i W => ∃ (k : Nat) (hs' : List Int) (F' : Nat → Prop), k ≤ n ∧ i = .int .i64 k ∧ Hid (ClrW w pp L.Fp L.hs U a n cap k W hs' F')) (fun i _ => n - (intOf i).toNat)
  case atStart => exact ⟨0, L.hs, L.Fp, Nat.zero_le _, rfl, HW⟩
  case round =>
  obtain ⟨k, hs', F', hk, rfl, HC⟩ := hrel
  rename World => wr
  clear HW
  by_cases hlt : k < n
  · have q1 : (k : Int) < (n : Int) := by omega
    obtain ⟨b, off, rfl, ck⟩ := HC.out.rd.cell k hlt
    have hkl : k < U.length := by rw [HNe.out]; exact hlt
    obtain ⟨i, i1, i2, i3⟩ := (HUm.out (U[k]?.getD 0)).1 (by rw [List.getElem?_eq_getElem hkl]; exact List.getElem_mem _)
    rw [i2] at ck
    have hnot : (i : Int) ∉ U.take k := fun hm => by
      obtain ⟨q, hq, e⟩ := List.getElem_of_mem hm
      rw [List.length_take] at hq
      rw [List.getElem_take] at e
      rw [List.getElem?_eq_getElem hkl] at i2
      have : U[q]'(by omega) = U[k] := by rw [e, ← i2]; rfl
      exact List.pairwise_iff_getElem.1 HNd.out q k (by omega) hkl (by omega) this
    have hhz : heldZ hs' (i : Int) = 1 := by
      rw [heldZ_at (by omega) (by rw [HC.out.len, HK.out.hsl]; omega), Int.toNat_natCast, HC.out.at1 i hnot]
      rcases HH.out i i1 with h' | h'
      · omega
      · exact h'
    have hdh : dropH hs' (i : Int) = hs'.set i 0 := by
      unfold dropH
      rw [hhz, if_neg (by omega), Int.toNat_natCast]
      rfl
    have hD := pdrop_any pp hs' (i : Int) wr HC.out.pool
    rw [hdh] at hD
    have htk : U.take (k + 1) = U.take k ++ [(i : Int)] := by
      rw [List.take_succ_eq_append_getElem hkl]
      rw [List.getElem?_eq_getElem hkl] at i2
      have : U[k] = (i : Int) := i2
      rw [this]
    have cB := HB.out wr HC.out.fb
    have HNx : Hid (∀ w3 : World, PgG wr F' pp (hs'.set i 0) w3 → ∃ F3, ClrW w pp L.Fp L.hs U (some ⟨b, off, none⟩) n cap (k + 1) w3 (hs'.set i 0) F3) := fun w3 ⟨F3, g1, g2, g3⟩ => by
      have hs := HC.out.fb.size
      refine ⟨F3, g1, by rw [List.length_set]; exact HC.out.len, fun x hx => ?_, fun x hx => ?_, fun x hx => ?_, HC.out.fb.trans g3 HC.out.ft, HC.out.rd.same fun x hx => ?_, fun p hp => ⟨fun hf => ?_, Nat.lt_of_lt_of_le (HC.out.ao p hp).2 g3.size⟩⟩
      · rw [htk, List.mem_append, List.mem_singleton] at hx
        by_cases e : i = x
        · subst e
          rw [List.getElem?_set_self (by rw [HC.out.len, HK.out.hsl]; exact i1)]
          rfl
        · rw [List.getElem?_set_ne e]
          exact HC.out.at0 x (hx.resolve_right fun e' => e (by omega))
      · rw [htk, List.mem_append, List.mem_singleton] at hx
        have e : i ≠ x := fun e' => hx (.inr (by rw [e']))
        rw [List.getElem?_set_ne e]
        exact HC.out.at1 x fun h' => hx (.inl h')
      · rcases g2 x hx with h' | h'
        · exact HC.out.ft x h'
        · exact .inr (by omega)
      · obtain ⟨p, hp, rfl⟩ := hx
        exact g3.block _ (HC.out.ao p hp).2 (HC.out.ao p hp).1
      · rcases g2 _ hf with h' | h'
        · exact (HC.out.ao p hp).1 h'
        · have := (HC.out.ao p hp).2
          omega
    clear htk hdh hhz hnot i1 i2 i3 HC HH HUm HNd HB
    go_wp2_with fail
    refine hD.mono ?_
    rintro e w3 ⟨rfl, hG⟩
    have HR := hid (HNx.out w3 hG)
    clear hG hD HNx cB ck
    go_wp2_with fail
    go_round
    case rel =>
      obtain ⟨F3, h3⟩ := HR.out
      exact ⟨k + 1, _, F3, by omega, by go_num, h3⟩
    case measure => simp [intOf]; omega
  · obtain rfl : k = n := by omega
    have q1 : ¬ (k : Int) < (k : Int) := by omega
    have hall : ∀ i, i < pg → hs'[i]?.getD 0 = 0 := fun i hi => by
      have hU : U.take k = U := List.take_of_length_le (by rw [HNe.out]; exact Nat.le_refl _)
      by_cases hm : (i : Int) ∈ U
      · exact HC.out.at0 i (by rw [hU]; exact hm)
      · rw [HC.out.at1 i (by rw [hU]; exact hm)]
        rcases HH.out i hi with h' | h'
        · exact h'
        · exact absurd ((HUm.out _).2 ⟨i, hi, rfl, by omega⟩) hm
    have hI : InT T [] := .inl rfl
    have hb := HC.out.fb
    have hrow : wr.ownsRow 0 60 1 (.slice (some ⟨bb, 0, none⟩) pg pg) pg L.vs := own_blk HK.out.row fun b hb' => by
      cases hb'
      obtain ⟨cur, hc⟩ := HK.out.rowb
      exact hb.block _ (lt_of_block hc) HK.out.bbFp
    obtain ⟨w3, vs3, hc3, hr3, hb3⟩ := row_wipe hrow hp 0
    have hmt : MvAt w3 (L.mp []) L.mx (chF T L.nd sz []) := ((HK.out.tree.map [] hI).fb hb (HK.out.mpFp hI)).fb hb3 fun e => HK.out.bbmp hI e
    obtain ⟨w4, hc4, hm4, hb4⟩ := hmt.wipe 0
    have e3 := hb.cell HK.out.cells.2.2.2.1 HK.out.BFp
    have e2 : w3.cell? ⟨B, 2, none⟩ = some (.pointer (some ⟨r, 0, none⟩)) := hb3.cell (hb.cell HK.out.cells.2.2.1 HK.out.BFp) fun e => HK.out.bbB (Eq.symm e)
    have e17 : w3.cell? ⟨r, 17, none⟩ = some (.map (some (L.mp []))) := by
      rw [← HK.out.root]
      have : (L.nd []) ≠ bb := HK.out.bbnd hI
      refine hb3.cell (hb.cell (p := ⟨L.nd [], 17, none⟩) ?_ (HK.out.ndFp hI)) this
      have := HK.out.tree.node [] hI
      exact (this.cells (by simp [byL])).2.1
    have HR := hid (HK.out.cleared HC.out.pool HC.out.ft hb (by rw [HC.out.len]; exact HK.out.hsl) hall hr3 hb3 hm4 hb4)
    clear hall hb hrow hr3 hb3 hmt hm4 hb4 HC HH HUm HNd HB HK HNe
    go_wp2_with fail
    go_end0
    exact ⟨rfl, F', hs', vs3, HR.out⟩
end
end Go.Proofs.YtdomjdfancpbbaaGreat
namespace Go.Proofs.YtdomjdfancpbbaaGreat
open Go.RowKit Go.Maps
set_option linter.unusedVariables false
set_option maxRecDepth 1000000

def KvX (W : World) (p : Option Addr) (c : Cf) (pg sz : Nat) (tm : Int) (es : List En) (F : Nat → Prop) : Prop :=
  ∃ B bb r pp L, p = some ⟨B, 0, none⟩ ∧ KvB W B bb r pp L c pg sz tm (txs es) ∧ (∀ e ∈ es, L.us e.1 = e.2) ∧ (L.mx : Int) ≤ 300 * tm ∧ F = ftB B bb L (txs es)
/-- The cache at a pointer: its entries; its calls turn the blocks F alone. -/
structure KvAt (W : World) (p : Option Addr) (c : Cf) (pg sz : Nat) (tm : Int) (es : List En) (F : Nat → Prop) : Prop where
  ptr : ∃ g, p = some ⟨g, 0, none⟩
  ok : OkK pg sz tm es
  old : ∀ k, F k → k < W.heap.size
  nd : ∀ k, F k → ¬ DocB W k
  rest : KvX W p c pg sz tm es F
section
variable {B bb r : Nat} {pp : Option Addr} {L : Lay} {c : Cf} {pg sz : Nat} {tm : Int} {es : List En}
theorem KvB.at {W : World} (h : KvB W B bb r pp L c pg sz tm (txs es)) (ho : OkK pg sz tm es) (hu : ∀ e ∈ es, L.us e.1 = e.2) (hm : (L.mx : Int) ≤ 300 * tm) : KvAt W (some ⟨B, 0, none⟩) c pg sz tm es (ftB B bb L (txs es)) := by
  refine ⟨⟨B, rfl⟩, ho, h.old, fun k hk hd => ?_, B, bb, r, pp, L, rfl, h, hu, hm, rfl⟩
  obtain ⟨cur, t, fz, h1, h2⟩ := hd
  rcases h.kind hk with ⟨cur', t', fz', h3, h4⟩ | ⟨es, cl, h3⟩
  · rw [h1] at h3
    simp at h3
    obtain ⟨_, rfl, _⟩ := h3
    rcases h2 with h2 | h2 | h2 <;> (rw [h2] at h4; simp at h4)
  · rw [h1] at h3
    simp at h3
end
theorem KvAt.fb {G : Nat → Prop} {W W' : World} {p : Option Addr} {c : Cf} {pg sz : Nat} {tm : Int} {es : List En} {F : Nat → Prop} (h : KvAt W p c pg sz tm es F) (hb : Fb G W W') (hG : ∀ k, G k → DocB W k) : KvAt W' p c pg sz tm es F := by
  have hnd := h.nd
  obtain ⟨B, bb, r, pp, L, rfl, h1, h2, h3, rfl⟩ := h.rest
  refine (h1.fb hb (fun k hk hg => hnd k hk (hG k hg)) (KpL.fb hb fun k cur t fz hk hc ht => ?_) fun k cur fz hk hc => ?_).at h.ok h2 h3
  · obtain ⟨cur', t', fz', e1, e2⟩ := hG k hk
    rw [hc] at e1
    simp at e1
    obtain ⟨_, rfl, _⟩ := e1
    rcases e2 with e2 | e2 | e2 <;> (rw [e2] at ht; simp at ht)
  · obtain ⟨cur', t', fz', e1, e2⟩ := hG k hk
    rw [hc] at e1
    simp at e1
    obtain ⟨_, rfl, _⟩ := e1
    simp at e2
theorem KvAt.below {W W' : World} {p : Option Addr} {c : Cf} {pg sz : Nat} {tm : Int} {es : List En} {F : Nat → Prop} (h : KvAt W p c pg sz tm es F) (hb : Below W.heap.size W W') : KvAt W' p c pg sz tm es F := h.fb (G := fun _ => False) (Fb.of hb) fun k hk => hk.elim
/-- The tokens of entries are numbers of 64 bits. -/
theorem KvAt.tk {W : World} {p : Option Addr} {c : Cf} {pg sz : Nat} {tm : Int} {es : List En} {F : Nat → Prop} (h : KvAt W p c pg sz tm es F) : ∀ x ∈ txs es, Tk x := by
  obtain ⟨B, bb, r, pp, L, rfl, h1, h2, h3, rfl⟩ := h.rest
  exact h1.tok
/-- What a call that turns the cache leaves. -/
def KvG (w : World) (F : Nat → Prop) (p : Option Addr) (c : Cf) (pg sz : Nat) (tm : Int) (es : List En) (w' : World) : Prop := ∃ F', KvAt w' p c pg sz tm es F' ∧ (∀ k, F' k → F k ∨ w.heap.size ≤ k) ∧ Fb F w w'
theorem OkK.far {pg sz : Nat} {tm : Int} {es : List En} (h : OkK pg sz tm es) (ts : List Int) : ∃ J, Far (txs es) sz ts J := by
  obtain ⟨J, h1, h2⟩ := h.e.was h.z.1 ts
  exact ⟨J, h1, h2⟩
theorem Far.best {sz : Nat} {es : List En} {ts : List Int} {J : Nat} (h : Far (txs es) sz ts J) (hE : OkE sz es) (hz : 1 ≤ sz) : bestK ts es es.length = ((J * sz : Nat) : Int) :=
  hE.best hz (fun i h1 h2 => h.take h1 h2) h.le fun hl hm => by have := (h.iff (J + 1) (by omega) hl).1 hm; omega
theorem Usd.useK {L : Lay} {sz : Nat} {ts : List Int} {t2 : Int} {J : Nat} {us : List Int → Int} {es : List En} (h : Usd L sz ts t2 J us) (hF : Far (txs es) sz ts J) (hE : OkE sz es) (hu : ∀ e ∈ es, L.us e.1 = e.2) : ∀ e ∈ useK t2 ts es es.length, us e.1 = e.2 := by
  intro e he
  obtain ⟨i, hi, rfl⟩ := mem_en he
  rw [useK_len] at hi
  rw [useK_at _ _ hi]
  have hmem : (en es i).1 ∈ txs es := mem_txs.2 ⟨i, hi, rfl⟩
  obtain ⟨al, a1, a2⟩ := hE.mult _ hmem
  split
  · rename_i hc
    show us (en es i).1 = t2
    have hq := begB_eq hc.2
    have hle := (begB_iff.1 hc.2).1
    rw [a2] at hq hle
    have := (hF.iff al a1 hle).1 (by rw [← hq]; exact hmem)
    rw [hq]
    exact h.now al a1 this
  · rename_i hc
    rw [h.rest (en es i).1 fun k k1 k2 e => hc ⟨hi, by rw [e]; exact begB_take _⟩]
    exact hu _ (en_mem hi)
theorem kfind_any {F : Nat → Prop} {p : Option Addr} {c : Cf} {pg sz : Nat} {tm : Int} {es : List En} (a : Option Addr) (nt cap : Nat) (ts : List Int) (w : World) (h : KvAt w p c pg sz tm es F) (hc : mayB c = true) (ht : Reads .i64 w a nt cap ts) (hk : Tk ts) (hap : ∀ q, a = some q → ¬ F q.block) (hn : nt ≤ 256) (h1 : tm ≤ 100000) :
    Calls Tryz.prog 12 #[.pointer p, .slice a nt cap] w fun e w' => ∃ q, e = .returned (.tuple #[.pointer q, .int .i64 (bestK ts es es.length)]) ∧ KvG w F p c pg sz (tm + 1) (useK (tm + 1) ts es es.length) w' ∧ FndS w' q c ts (bestK ts es es.length) := by
  obtain ⟨B, bb, r, pp, L, rfl, k1, k2, k3, rfl⟩ := h.rest
  obtain ⟨J, hJ⟩ := h.ok.far ts
  rw [hJ.best h.ok.e h.ok.z.1]
  refine (kfind_in k1 h.ok.z hc h.ok.t h1 a nt cap ts ht hk hn hap hJ).mono ?_
  rintro e w' ⟨q, rfl, hF, us, g1, g2, g3⟩
  refine ⟨q, rfl, ⟨_, KvB.at (es := useK (tm + 1) ts es es.length) (by rw [txs_use]; exact g1) (h.ok.find ts _) (g2.useK hJ h.ok.e k2) (by show (L.mx : Int) ≤ _; omega), fun k hk => .inl (by rw [txs_use] at hk; exact hk), g3⟩, hF⟩
theorem kput_any {F Fs : Nat → Prop} {p : Option Addr} {c : Cf} {pg sz : Nat} {tm : Int} {es : List En} (q : Option Addr) (ts : List Int) (w : World) (h : KvAt w p c pg sz tm es F) (hc : mayB c = true) (hs : StAt w q c ts Fs) (hk : Tk ts) (hap : ∀ k, Fs k → F k → NotInt w k) (h1 : tm ≤ 100000) :
    Calls Tryz.prog 18 #[.pointer p, .pointer q] w fun e w' => e = .returned (.int .i64 (putK pg (tm + 1) sz ts es (ts.length / sz)).2.1) ∧ KvG w F p c pg sz (tm + 1) (putK pg (tm + 1) sz ts es (ts.length / sz)).1 w' := by
  obtain ⟨B, bb, r, pp, L, rfl, k1, k2, k3, rfl⟩ := h.rest
  obtain ⟨ta, hT, hta⟩ := hs.d
  refine (kput_in k1 h.ok k2 hc h1 (by omega) q ts ta hT (fun k hk' hf => ?_) hk).mono ?_
  · obtain ⟨cur, t, fz, e1, e2⟩ := hap k (hta k hk') (.inr (.inr (.inl hf)))
    obtain ⟨_, _, _, _, _, _, _, _, h5, _⟩ := hT
    obtain ⟨a, e, rfl⟩ := hk'
    obtain ⟨cur', fz', hcur⟩ := h5 a e
    rw [hcur] at e1
    simp at e1
    exact e2 e1.2.1.symm
  · rintro e w' ⟨rfl, L', g1, g2, g3, g4, g5⟩
    exact ⟨rfl, _, g1.at (h.ok.put ts hs.most) g2 (by have := h.ok.t; omega), g4, g5⟩
theorem kput_nil {F : Nat → Prop} {p : Option Addr} {c : Cf} {pg sz : Nat} {tm : Int} {es : List En} (w : World) (h : KvAt w p c pg sz tm es F) (h1 : tm ≤ 100000) : Calls Tryz.prog 18 #[.pointer p, .pointer none] w fun e w' => e = .returned (.int .i64 0) ∧ Fb F w w' := by
  obtain ⟨B, bb, r, pp, L, rfl, k1, k2, k3, rfl⟩ := h.rest
  have hz := h.ok.z
  have hF : Far (txs es) sz [] 0 := ⟨by simp, fun i i1 i2 => by
    have : 1 * sz ≤ i * sz := Nat.mul_le_mul_right _ i1
    have i3 : i * sz ≤ 0 := i2
    omega⟩
  have hM := kmade_yes k1
  have HUse := hid fun (W : World) (hb : Below w.heap.size w W) => kuse_any (k1.below hb) hz h.ok.t h1 none 0 0 [] (Reads.nil _ _) (fun x hx => by cases hx) (by omega) (fun q hq => by cases hq) hF
  rw [Nat.zero_mul] at HUse
  have s1 : ¬ (sz : Int) ≤ 0 := by omega
  clear h k1 k2 k3 hF
  go_enter Tryz.func18, Tryz.ntmps18
  go_wp2_with fail
  refine hM.mono ?_
  rintro e w' ⟨rfl, rfl⟩
  clear hM
  go_wp2_with fail
  refine (dtok_nil2 _).mono ?_
  rintro e w1 ⟨rfl, hb⟩
  have hU := HUse.out w1 hb
  have HB := hid hb
  clear hb HUse
  go_wp2_with fail
  refine hU.mono ?_
  rintro e w2 ⟨rfl, us, hK, hUs, hF⟩
  have c0 := hK.cells.1
  have HF : Hid (Fb (ftB B bb L (txs es)) w w2) := (Fb.of HB.out).trans hF fun k hk => .inl hk
  clear hK hUs hF hU HB
  go_wp2_with fail
  go_loopw [7, 8] (fun y z W => y = .int .i64 sz ∧ z = .int .i64 0 ∧ W = w2) (fun _ _ _ => 0)
  case atStart => exact ⟨rfl, rfl, rfl⟩
  case round =>
  obtain ⟨rfl, rfl, rfl⟩ := hrel
  go_wp2
  go_ret
  exact ⟨rfl, HF.out⟩
theorem klen_any {F : Nat → Prop} {p : Option Addr} {c : Cf} {pg sz : Nat} {tm : Int} {es : List En} (w : World) (h : KvAt w p c pg sz tm es F) : Calls Tryz.prog 21 #[.pointer p] w fun e w' => e = .returned (.int .i64 es.length) ∧ Below w.heap.size w w' := by
  obtain ⟨B, bb, r, pp, L, rfl, k1, k2, k3, rfl⟩ := h.rest
  have := klen_in k1
  rw [k1.cnt h.ok.e.one, txs_len] at this
  exact this
theorem khas_any {F : Nat → Prop} {p : Option Addr} {c : Cf} {pg sz : Nat} {tm : Int} {es : List En} (a : Option Addr) (nt cap : Nat) (ts : List Int) (w : World) (h : KvAt w p c pg sz tm es F) (ht : Reads .i64 w a nt cap ts) (hk : Tk ts) (hn : nt ≤ 256) : Calls Tryz.prog 22 #[.pointer p, .slice a nt cap] w fun e w' => e = .returned (.bool (decide (0 ≤ plcZ es ts))) ∧ Below w.heap.size w w' := by
  obtain ⟨B, bb, r, pp, L, rfl, k1, k2, k3, rfl⟩ := h.rest
  obtain ⟨J, hJ⟩ := h.ok.far ts
  have hz := h.ok.z
  have he : decide (0 ≤ plcZ es ts) = decide (0 < nt ∧ J * sz = nt) := by
    rw [decide_eq_decide, plcZ_mem]
    have hs := ht.size
    constructor
    · intro hm
      obtain ⟨j, j1, j2⟩ := h.ok.e.mult ts hm
      have h1 : 1 * sz ≤ j * sz := Nat.mul_le_mul_right _ j1
      have h2 := (hJ.iff j j1 (by omega)).1 (by rw [← j2, List.take_length]; exact hm)
      have h3 : j * sz ≤ J * sz := Nat.mul_le_mul_right _ h2
      have h4 := hJ.le
      exact ⟨by omega, by omega⟩
    · rintro ⟨h1, h2⟩
      have hJ1 : 1 ≤ J := by
        rcases Nat.eq_zero_or_pos J with e | e
        · rw [e, Nat.zero_mul] at h2; omega
        · exact e
      have := hJ.take hJ1 (Nat.le_refl _)
      rw [h2, ← hs, List.take_length] at this
      exact this
  rw [he]
  exact khas_in k1 hz a nt cap ts ht hk hn hJ
theorem kclear_any {F : Nat → Prop} {p : Option Addr} {c : Cf} {pg sz : Nat} {tm : Int} {es : List En} (w : World) (h : KvAt w p c pg sz tm es F) : Calls Tryz.prog 17 #[.pointer p] w fun e w' => e = .returned (.tuple #[]) ∧ KvG w F p c pg sz tm [] w' := by
  obtain ⟨B, bb, r, pp, L, rfl, k1, k2, k3, rfl⟩ := h.rest
  refine (kclear_in k1 h.ok.p.1).mono ?_
  rintro e w' ⟨rfl, F', hs', vs', g1, g2, g3⟩
  exact ⟨rfl, _, KvB.at (es := []) g1 h.ok.clear (fun e he => by cases he) k3, g2, g3⟩
theorem kpages_any {F : Nat → Prop} {p : Option Addr} {c : Cf} {pg sz : Nat} {tm : Int} {es : List En} (w : World) (h : KvAt w p c pg sz tm es F) : Calls Tryz.prog 24 #[.pointer p] w fun e w' => ∃ a cap, e = .returned (.slice a es.length cap) ∧ es.length ≤ cap ∧ cap ≤ 9223372036854775807 ∧ Below w.heap.size w w' := by
  obtain ⟨B, bb, r, pp, L, rfl, k1, k2, k3, rfl⟩ := h.rest
  have := kpages_in k1
  rw [k1.cnt h.ok.e.one, txs_len] at this
  refine this.mono ?_
  rintro e w' ⟨a, cap, rfl, hr, hb⟩
  exact ⟨a, cap, rfl, hr.room, hr.most, hb⟩
theorem knew_nil (n m : Int) (w : World) : Calls Tryz.prog 8 #[.pointer none, .int .i64 n, .int .i64 m] w fun e w' => e = .returned (.tuple #[.pointer none, .int .i64 2]) ∧ Below w.heap.size w w' := by
  have hC := config_any none ⟨0, 0, 0, 0, 0, 0⟩ w (.inl ⟨rfl, rfl⟩)
  go_enter Tryz.func8, Tryz.ntmps8
  go_wp2_with fail
  refine hC.mono ?_
  rintro e w1 ⟨rfl, hb⟩
  go_wp2_with fail
  refine (may_any _ w1).mono ?_
  rintro e w2 ⟨rfl, hb2⟩
  have HB := hid (hb.trans (hb2.mono hb.size))
  have hf : mayB ⟨0, 0, 0, 0, 0, 0⟩ = false := by decide
  rw [hf]
  clear hb hb2 hC hf
  go_wp2
  go_ret2
  exact ⟨rfl, HB.out⟩
theorem knew_no (p : Option Addr) (c : Cf) (n m : Int) (w : World) (hp : MdAt w p c) (hc : mayB c = true) (h : n < 1 ∨ 256 < n ∨ m < 1 ∨ 16 < m) : Calls Tryz.prog 8 #[.pointer p, .int .i64 n, .int .i64 m] w fun e w' => e = .returned (.tuple #[.pointer none, .int .i64 1]) ∧ Below w.heap.size w w' := by
  have hC := config_any p c w hp
  by_cases h1 : m < 1
  · clear h hp
    go_enter Tryz.func8, Tryz.ntmps8
    go_wp2_with fail
    refine hC.mono ?_
    rintro e w1 ⟨rfl, hb⟩
    go_wp2_with fail
    refine (may_any _ w1).mono ?_
    rintro e w2 ⟨rfl, hb2⟩
    have HB := hid (hb.trans (hb2.mono hb.size))
    rw [hc]
    clear hb hb2 hC hc
    go_wp2
    go_ret2
    exact ⟨rfl, HB.out⟩
  by_cases h2 : 16 < m
  · clear h hp
    go_enter Tryz.func8, Tryz.ntmps8
    go_wp2_with fail
    refine hC.mono ?_
    rintro e w1 ⟨rfl, hb⟩
    go_wp2_with fail
    refine (may_any _ w1).mono ?_
    rintro e w2 ⟨rfl, hb2⟩
    have HB := hid (hb.trans (hb2.mono hb.size))
    rw [hc]
    clear hb hb2 hC hc
    go_wp2
    go_ret2
    exact ⟨rfl, HB.out⟩
  have HN := hid fun W : World => pnew_no n W (by omega)
  clear h hp
  go_enter Tryz.func8, Tryz.ntmps8
  go_wp2_with fail
  refine hC.mono ?_
  rintro e w1 ⟨rfl, hb⟩
  go_wp2_with fail
  refine (may_any _ w1).mono ?_
  rintro e w2 ⟨rfl, hb2⟩
  have HB := hid (hb.trans (hb2.mono hb.size))
  rw [hc]
  clear hb hb2 hC hc
  go_wp2_with fail
  refine (HN.out w2).mono ?_
  rintro e w3 ⟨rfl, hb3⟩
  have HB3 := hid (HB.out.trans (hb3.mono HB.out.size))
  clear hb3 HB HN
  go_wp2
  go_ret2
  exact ⟨rfl, HB3.out⟩
theorem make_ptrs (w : World) (m : Nat) (hm : m ≤ 1001) : (Instr.makeSlice 61 (.int .i64 (m : Int)) (.int .i64 (m : Int))).run Tryz.prog w = .ok (.slice (some ⟨w.heap.size, 0, none⟩) m m) (w.alloc (.cells (madeCells #[.pointer none] m) 60)) := by
  obtain ⟨i0, hi, hz0, hz1, hz2⟩ := info_parts Tryz.infoPe
  have := run_make (P := Tryz.prog) w 61 60 i0 (.pointer none) Tryz.underlying61 hi hz0 .i64 .i64 (m : Int) (m : Int) (by omega) (Int.le_refl _) (by rw [hz2]; omega) (by omega)
  rw [this, hz1, Int.toNat_natCast, Nat.mul_one]
  rfl
/-- How a new cache lies. -/
def Lay.new (F : Nat → Prop) (n eb mb : Nat) : Lay :=
  { Fp := F, hs := List.replicate n 0, vs := List.replicate n (.pointer none), mx := 0, nd := fun _ => eb, mp := fun _ => mb, st := fun _ => none, ta := fun _ => none, pgs := fun _ => 0, us := fun _ => 0 }
theorem kv_new {w3 w4 w5 w6 w7 : World} {F : Nat → Prop} {pp : Option Addr} {c : Cf} {n m : Nat} (hn : 1 ≤ n ∧ n ≤ 256) (hm : 1 ≤ m ∧ m ≤ 16) (hP : PgAt w3 pp (List.replicate n 0) F) (h4 : w4 = w3.alloc (.map #[] 0)) (h5 : w5 = w4.alloc (.cells (ndC none [] w3.heap.size none 0 0) 78)) (h6 : w6 = w5.alloc (.cells (madeCells #[.pointer none] n) 60))
    (h7 : w7 = w6.alloc (.cells #[.int .i64 m, .pointer pp, .pointer (some ⟨w4.heap.size, 0, none⟩), .slice (some ⟨w5.heap.size, 0, none⟩) n n, .int .u64 0] 63)) :
    KvAt w7 (some ⟨w6.heap.size, 0, none⟩) c n m 0 [] (ftB w6.heap.size w5.heap.size (Lay.new F n w4.heap.size w3.heap.size) []) ∧ (∀ k, ftB w6.heap.size w5.heap.size (Lay.new F n w4.heap.size w3.heap.size) [] k → F k ∨ w3.heap.size ≤ k) ∧ Below w3.heap.size w3 w7 := by
  have b4 : Below w3.heap.size w3 w4 := by rw [h4]; exact (Below.refl _ _).alloc (Nat.le_refl _) _
  have b5 : Below w4.heap.size w4 w5 := by rw [h5]; exact (Below.refl _ _).alloc (Nat.le_refl _) _
  have b6 : Below w5.heap.size w5 w6 := by rw [h6]; exact (Below.refl _ _).alloc (Nat.le_refl _) _
  have b7 : Below w6.heap.size w6 w7 := by rw [h7]; exact (Below.refl _ _).alloc (Nat.le_refl _) _
  have b67 : Below w5.heap.size w5 w7 := b6.trans (b7.mono b6.size)
  have b57 : Below w4.heap.size w4 w7 := b5.trans (b67.mono b5.size)
  have b37 : Below w3.heap.size w3 w7 := b4.trans (b57.mono b4.size)
  have hI : ∀ {x : List Int}, InT [] x → x = [] := fun {x} hx => hx.elim id fun h' => by cases h'
  have s4 := b4.size
  have s5 := b5.size
  have s6 := b6.size
  refine ⟨?_, fun k hk => ?_, b37⟩
  · refine KvB.at (r := w4.heap.size) (pp := pp) ⟨?_, rfl, hP.below b37, by simp [Lay.new], fun k hk => .inl ⟨?_, fun x hx => by cases hx⟩, (fun x hx => by cases hx), (fun x hx => by cases hx), ?_, (fun x hx => by cases hx), ⟨fun x hx => ?_, fun x hx => ?_, fun x y hx hy _ => by rw [hI hx, hI hy], fun x y hx hy _ => by rw [hI hx, hI hy]⟩, (fun x hx => by cases hx), (fun x hx => by cases hx)⟩ (okk_new hm hn) (fun e he => by cases he) (by simp [Lay.new])
    · rw [h7]; exact heap_alloc_new w6 _
    · simp [Lay.new, hk]
    · have := World.ownsRow_lit (base := w5.heap.size) (e := 60) (size := 1) w5 (madeCells #[.pointer none] n) n (Nat.le_refl _) (by unfold maxLen; omega) (by simp [madeCells])
      rw [toList_madeCells_one, ← h6] at this
      exact own_base (own_below this b7) (Nat.zero_le _)
    · rw [hI hx]
      have : w5.heap[w4.heap.size]? = some (.cells (ndC none [] w3.heap.size none 0 0) 78 (0, 0)) := by rw [h5]; exact heap_alloc_new w4 _
      show NdAt w7 w4.heap.size (ahP (fun _ => w4.heap.size) m []) (byL m []) w3.heap.size none 0 0
      rw [show ahP (fun _ => w4.heap.size) m [] = none from if_pos rfl, show byL m [] = [] by simp [byL]]
      exact (b67.block _ (lt_of_block this)).trans this
    · rw [hI hx]
      have : MvAt w4 w3.heap.size 0 (fun _ => none) := by rw [h4]; exact MvAt.new w3
      exact (this.below b57).ext fun v l _ => (chF_none (fun ch _ hm => by cases hm) v).symm
  · rcases hk with h' | h' | h' | ⟨x, hx, h' | h'⟩
    · exact .inr (by omega)
    · exact .inr (by omega)
    · exact .inl h'
    · exact .inr (by have e : k = w4.heap.size := h'; omega)
    · exact .inr (by have e : k = w3.heap.size := h'; omega)
set_option maxHeartbeats 1000000 in
theorem knew_yes (p : Option Addr) (c : Cf) (n m : Nat) (w : World) (hp : MdAt w p c) (hc : mayB c = true) (hn : 1 ≤ n ∧ n ≤ 256) (hm : 1 ≤ m ∧ m ≤ 16) : Calls Tryz.prog 8 #[.pointer p, .int .i64 n, .int .i64 m] w fun e w' => ∃ g F, e = .returned (.tuple #[.pointer (some ⟨g, 0, none⟩), .int .i64 0]) ∧ KvAt w' (some ⟨g, 0, none⟩) c n m 0 [] F ∧ (∀ k, F k → w.heap.size ≤ k) ∧ Below w.heap.size w w' := by
  have hC := config_any p c w hp
  have q1 : ¬ (m : Int) < 1 := by omega
  have q2 : ¬ (16 : Int) < (m : Int) := by omega
  have HN := hid fun W : World => pnew_yes n W hn.1 hn.2
  have hmk := fun (W : World) => make_ptrs W n (by omega)
  clear hp
  go_enter Tryz.func8, Tryz.ntmps8
  go_wp2_with fail
  refine hC.mono ?_
  rintro e w1 ⟨rfl, hb⟩
  go_wp2_with fail
  refine (may_any _ w1).mono ?_
  rintro e w2 ⟨rfl, hb2⟩
  have HB := hid (hb.trans (hb2.mono hb.size))
  rw [hc]
  clear hb hb2 hC hc
  go_wp2_with fail
  refine (HN.out w2).mono ?_
  rintro e w3 ⟨g, F, rfl, hP, hF, hb3⟩
  have HP := hid hP
  have HF := hid hF
  have HB3 := hid (HB.out.trans (hb3.mono HB.out.size))
  have HS3 := hid hb3.size
  clear hb3 hP hF HN
  obtain ⟨w4, hw4⟩ : ∃ w4, w4 = w3.alloc (.map #[] 0) := ⟨_, rfl⟩
  obtain ⟨w5, hw5⟩ : ∃ w5, w5 = w4.alloc (.cells (ndC none [] w3.heap.size none 0 0) 78) := ⟨_, rfl⟩
  obtain ⟨w6, hw6⟩ : ∃ w6, w6 = w5.alloc (.cells (madeCells #[.pointer none] n) 60) := ⟨_, rfl⟩
  obtain ⟨w7, hw7⟩ : ∃ w7, w7 = w6.alloc (.cells #[.int .i64 m, .pointer (some ⟨g, 0, none⟩), .pointer (some ⟨w4.heap.size, 0, none⟩), .slice (some ⟨w5.heap.size, 0, none⟩) n n, .int .u64 0] 63) := ⟨_, rfl⟩
  obtain ⟨g1, g2, g3⟩ := kv_new (c := c) hn hm HP.out hw4 hw5 hw6 hw7
  have HR : Hid (KvAt w7 (some ⟨w6.heap.size, 0, none⟩) c n m 0 [] (ftB w6.heap.size w5.heap.size (Lay.new F n w4.heap.size w3.heap.size) []) ∧ (∀ k, ftB w6.heap.size w5.heap.size (Lay.new F n w4.heap.size w3.heap.size) [] k → w.heap.size ≤ k) ∧ Below w.heap.size w w7) := ⟨g1, fun k hk => by
    rcases g2 k hk with h' | h'
    · exact Nat.le_trans HB.out.size (HF.out k h')
    · exact Nat.le_trans HB3.out.size h', HB3.out.trans (g3.mono HB3.out.size)⟩
  have hmm : (Instr.makeMap 74 none).run Tryz.prog w3 = .ok (.map (some w3.heap.size)) w4 := by rw [hw4]; rfl
  have hmk5 := hmk w5
  rw [← hw6] at hmk5
  replace hw5 : w5 = w4.alloc (.cells #[Value.pointer none, .int .i64 0, .int .i64 0, .int .i64 0, .int .i64 0, .int .i64 0, .int .i64 0, .int .i64 0, .int .i64 0, .int .i64 0, .int .i64 0, .int .i64 0, .int .i64 0, .int .i64 0, .int .i64 0, .int .i64 0, .int .i64 0, .map (some w3.heap.size), .pointer none, .int .i64 0, .int .u64 0] 78) := hw5.trans rfl
  clear hmk g1 g2 g3 hw4 hw6 HP HF HB HB3 HS3
  have hmk6 : (Instr.makeSlice 61 (.int .i64 (n : Int)) (.int .i64 (n : Int))).run Tryz.prog (w4.alloc (.cells #[Value.pointer none, .int .i64 0, .int .i64 0, .int .i64 0, .int .i64 0, .int .i64 0, .int .i64 0, .int .i64 0, .int .i64 0, .int .i64 0, .int .i64 0, .int .i64 0, .int .i64 0, .int .i64 0, .int .i64 0, .int .i64 0, .int .i64 0, .map (some w3.heap.size), .pointer none, .int .i64 0, .int .u64 0] 78)) = .ok (.slice (some ⟨w5.heap.size, 0, none⟩) n n) w6 := by rw [← hw5]; exact hmk5
  clear hw5 hmk5
  go_wp2_with fail
  rw [← hw7]
  go_ret2
  exact ⟨_, _, rfl, HR.out⟩
/-- The cells of a cache that nobody made (the code's own). -/
def zeroK : Array Value := #[.int .i64 0, .pointer none, .pointer none, .slice none 0 0, .int .u64 0]
/-- No cache, or one that nobody made. -/
def KvNo (W : World) (p : Option Addr) : Prop := p = none ∨ ∃ g, p = some ⟨g, 0, none⟩ ∧ W.heap[g]? = some (.cells zeroK 63 (0, 0))
theorem KvNo.below {W W' : World} {p : Option Addr} (h : KvNo W p) (hb : Below W.heap.size W W') : KvNo W' p := by
  rcases h with h | ⟨g, hp, hg⟩
  · exact .inl h
  · exact .inr ⟨g, hp, (hb.block g (lt_of_block hg)).trans hg⟩
theorem kmade_no {W : World} {p : Option Addr} (h : KvNo W p) : Calls Tryz.prog 31 #[.pointer p] W fun e w' => e = .returned (.bool false) ∧ W = w' := by
  rcases h with rfl | ⟨g, rfl, hg⟩
  · go_enter Tryz.func31, Tryz.ntmps31
    go_wp2
    go_ret
    exact ⟨rfl, rfl⟩
  · have c1 : W.cell? ⟨g, 1, none⟩ = some (.pointer none) := by rw [cell_of_row _ _ _ _ _ _ hg]; rfl
    clear hg
    go_enter Tryz.func31, Tryz.ntmps31
    go_wp2
    go_ret
    exact ⟨rfl, rfl⟩
theorem kno_clear (p : Option Addr) (w : World) (h : KvNo w p) : Calls Tryz.prog 17 #[.pointer p] w fun e w' => e = .returned (.tuple #[]) ∧ Below w.heap.size w w' := by
  have hM := kmade_no h
  clear h
  go_enter Tryz.func17, Tryz.ntmps17
  go_wp2_with fail
  refine hM.mono ?_
  rintro e w' ⟨rfl, rfl⟩
  go_wp2
  (try simp only [Exit.inBlock, Exit.then])
  refine bodyPost_ret (results_none rfl _ _ _) rfl ?_
  exact ⟨rfl, Below.refl _ _⟩
theorem kno_find (p : Option Addr) (a : Option Addr) (n cap : Nat) (w : World) (h : KvNo w p) (hm : n ≤ cap ∧ cap ≤ 9223372036854775807) : Calls Tryz.prog 12 #[.pointer p, .slice a n cap] w fun e w' => e = .returned (.tuple #[.pointer none, .int .i64 0]) ∧ Below w.heap.size w w' := by
  have hM := kmade_no h
  clear h hm
  go_enter Tryz.func12, Tryz.ntmps12
  go_wp2_with fail
  refine hM.mono ?_
  rintro e w' ⟨rfl, rfl⟩
  go_wp2
  go_ret2
  exact ⟨rfl, Below.refl _ _⟩
theorem kno_put (p : Option Addr) (w : World) (h : KvNo w p) : Calls Tryz.prog 18 #[.pointer p, .pointer none] w fun e w' => e = .returned (.int .i64 0) ∧ Below w.heap.size w w' := by
  have hM := kmade_no h
  clear h
  go_enter Tryz.func18, Tryz.ntmps18
  go_wp2_with fail
  refine hM.mono ?_
  rintro e w' ⟨rfl, rfl⟩
  go_wp2
  go_ret
  exact ⟨rfl, Below.refl _ _⟩
theorem kno_page (p : Option Addr) (w : World) (h : KvNo w p) : Calls Tryz.prog 24 #[.pointer p] w fun e w' => e = .returned (.slice none 0 0) ∧ Below w.heap.size w w' := by
  have hM := kmade_no h
  clear h
  go_enter Tryz.func24, Tryz.ntmps24
  go_wp2_with fail
  refine hM.mono ?_
  rintro e w' ⟨rfl, rfl⟩
  go_wp2
  go_ret
  exact ⟨rfl, Below.refl _ _⟩
theorem kno_len (p : Option Addr) (w : World) (h : KvNo w p) : Calls Tryz.prog 21 #[.pointer p] w fun e w' => e = .returned (.int .i64 0) ∧ Below w.heap.size w w' := by
  have hP := kno_page p w h
  clear h
  go_enter Tryz.func21, Tryz.ntmps21
  go_wp2_with fail
  refine hP.mono ?_
  rintro e w' ⟨rfl, hb⟩
  have HB := hid hb
  clear hb hP
  go_wp2
  go_ret
  exact ⟨rfl, HB.out⟩
theorem kno_has (p : Option Addr) (a : Option Addr) (n cap : Nat) (w : World) (h : KvNo w p) (hm : n ≤ cap ∧ cap ≤ 9223372036854775807) : Calls Tryz.prog 22 #[.pointer p, .slice a n cap] w fun e w' => e = .returned (.bool false) ∧ Below w.heap.size w w' := by
  have hM := kmade_no h
  clear h hm
  go_enter Tryz.func22, Tryz.ntmps22
  go_wp2_with fail
  refine hM.mono ?_
  rintro e w' ⟨rfl, rfl⟩
  go_wp2
  go_ret
  exact ⟨rfl, Below.refl _ _⟩
theorem kno_pages (p : Option Addr) (w : World) (h : KvNo w p) : Calls Tryz.prog 24 #[.pointer p] w fun e w' => ∃ a cap, e = .returned (.slice a 0 cap) ∧ cap ≤ 9223372036854775807 ∧ Below w.heap.size w w' :=
  (kno_page p w h).mono fun e w' ⟨h1, h2⟩ => ⟨none, 0, h1, by omega, h2⟩
end Go.Proofs.YtdomjdfancpbbaaGreat
namespace Go.Proofs.YtdomjdfancpbbaaGreat
open Go.RowKit
set_option linter.unusedVariables false
set_option maxRecDepth 1000000

theorem reads_3B (w : World) (x y z : Int) (t : TypeId) {B : Nat} (hB : w.heap.size = B) : Reads .i64 (w.alloc (.cells #[.int .i64 x, .int .i64 y, .int .i64 z] t)) (some ⟨B, 0, none⟩) 3 3 [x, y, z] := by
  subst hB
  exact Reads.lit w [x, y, z] t 3 rfl (by omega)
theorem reads_4B (w : World) (x y z u : Int) (t : TypeId) {B : Nat} (hB : w.heap.size = B) : Reads .i64 (w.alloc (.cells #[.int .i64 x, .int .i64 y, .int .i64 z, .int .i64 u] t)) (some ⟨B, 0, none⟩) 4 4 [x, y, z, u] := by
  subst hB
  exact Reads.lit w [x, y, z, u] t 4 rfl (by omega)
/-- The int blocks of a new state are none of a cache that was there. -/
theorem apart_st {F Fs : Nat → Prop} {w w' : World} {pm : Option Addr} (hF : ∀ k, F k → k < w.heap.size) (hm : ∀ k, mF pm k → NotInt w k) (hs : ∀ k, Fs k → mF pm k ∨ w.heap.size ≤ k ∨ NotInt w k) (hb : Below w.heap.size w w') : ∀ k, Fs k → F k → NotInt w' k := by
  intro k hk hf
  have keep : NotInt w k → NotInt w' k := fun ⟨cur, t, fz, h1, h2⟩ => ⟨cur, t, fz, (hb.block k (lt_of_block h1)).trans h1, h2⟩
  rcases hs k hk with h | h | h
  · exact keep (hm k h)
  · have := hF k hf; omega
  · exact keep h
theorem MdAt.notInt {w : World} {p : Option Addr} {c : Cf} (h : MdAt w p c) : ∀ k, mF p k → NotInt w k := by
  rintro k ⟨a, rfl, rfl⟩
  rcases h with ⟨h, _⟩ | ⟨g, hp, hg⟩
  · cases h
  · cases hp
    exact ⟨_, _, _, hg, by decide⟩
theorem alive14_any (w : World) : Calls Tryz.prog 9 #[] w fun e w' => e = .returned (.bool true) ∧ Below w.heap.size w w' := by
  have HN := hid fun g W (h : MdAt W (some ⟨g, 0, none⟩) c14) => knew_yes (some ⟨g, 0, none⟩) c14 2 2 W h may14 (by decide) (by decide)
  have HSt := hid fun g b W (h : MdAt W (some ⟨g, 0, none⟩) c14) (hr : Reads .i64 W (some ⟨b, 0, none⟩) 3 3 [1, 2, 3]) => state14_any (some ⟨g, 0, none⟩) (some ⟨b, 0, none⟩) 3 3 [1, 2, 3] W h hr (by decide) (by decide)
  have HPu := hid fun p F q Fs W (h : KvAt W p c14 2 2 0 [] F) (hs : StAt W q c14 [0, 1, 2, 3] Fs) hap => kput_any q [0, 1, 2, 3] W h may14 hs (by unfold Tk; decide) hap (by decide)
  have e1 : (putK ((2 : Nat) : Int) (0 + 1) 2 [0, 1, 2, 3] [] (([0, 1, 2, 3] : List Int).length / 2)) = ([([0, 1], 1), ([0, 1, 2, 3], 1)], 2, false) := by decide
  have HFi := hid fun p F b W (h : KvAt W p c14 2 2 1 [([0, 1], 1), ([0, 1, 2, 3], 1)] F) (hr : Reads .i64 W (some ⟨b, 0, none⟩) 4 4 [0, 1, 2, 1]) hap => kfind_any (some ⟨b, 0, none⟩) 4 4 [0, 1, 2, 1] W h may14 hr (by unfold Tk; decide) hap (by decide) (by decide)
  have e2 : bestK [0, 1, 2, 1] [([0, 1], 1), ([0, 1, 2, 3], 1)] ([([0, 1], 1), ([0, 1, 2, 3], 1)] : List En).length = 2 := by decide
  have HLe := hid fun p F tm es (he : List.length es = 2) W (h : KvAt W p c14 2 2 tm es F) => klen_any W h
  have e3 : (useK (1 + 1) [0, 1, 2, 1] [([0, 1], 1), ([0, 1, 2, 3], 1)] ([([0, 1], 1), ([0, 1, 2, 3], 1)] : List En).length) = [([0, 1], 2), ([0, 1, 2, 3], 1)] := by decide
  have HLn := hid fun p F W (h : KvAt W p c14 2 2 2 [([0, 1], 2), ([0, 1, 2, 3], 1)] F) => klen_any W h
  have HH1 := hid fun p F b W (h : KvAt W p c14 2 2 2 [([0, 1], 2), ([0, 1, 2, 3], 1)] F) (hr : Reads .i64 W (some ⟨b, 0, none⟩) 4 4 [0, 1, 2, 3]) => khas_any (some ⟨b, 0, none⟩) 4 4 [0, 1, 2, 3] W h hr (by unfold Tk; decide) (by decide)
  have HH2 := hid fun p F b W (h : KvAt W p c14 2 2 2 [([0, 1], 2), ([0, 1, 2, 3], 1)] F) (hr : Reads .i64 W (some ⟨b, 0, none⟩) 1 1 [0]) => khas_any (some ⟨b, 0, none⟩) 1 1 [0] W h hr (by unfold Tk; decide) (by decide)
  have e4 : decide (0 ≤ plcZ [([0, 1], 2), ([0, 1, 2, 3], 1)] [0, 1, 2, 3]) = true := by decide
  have e5 : decide (0 ≤ plcZ [([0, 1], 2), ([0, 1, 2, 3], 1)] [0]) = false := by decide
  rw [e1] at HPu
  rw [e2, e3] at HFi
  rw [e4] at HH1
  rw [e5] at HH2
  simp only [List.length_cons, List.length_nil, Nat.reduceAdd, show ((2 : Nat) : Int) = 2 from rfl, show (0 + 1 : Int) = 1 from rfl, show (1 + 1 : Int) = 2 from rfl] at HN HPu HFi HLn
  clear e1 e2 e3 e4 e5 HLe
  go_enter Tryz.func9, Tryz.ntmps9
  go_wp2_with fail
  refine (small14_any w).mono ?_
  rintro e w1 ⟨gm, rfl, hg, hgl, hM, hb⟩
  have HM := hid hM
  have HU := hid hb
  clear hg hgl hM hb
  go_wp2_with fail
  refine (HN.out _ _ HM.out).mono ?_
  rintro e w2 ⟨g, F, rfl, hK, hF, hb⟩
  have HK := hid hK
  have HLo : Hid (∀ k, F k → w.heap.size ≤ k) := fun k hk => Nat.le_trans HU.out.size (hF k hk)
  replace HM := hid (HM.out.below hb)
  replace HU := hid (HU.out.trans (hb.mono HU.out.size))
  clear hK hF hb HN
  obtain ⟨b3, hb3⟩ : ∃ b3, w2.heap.size = b3 := ⟨_, rfl⟩
  obtain ⟨w3, hw3⟩ : ∃ w3, w3 = w2.alloc (.cells #[.int .i64 1, .int .i64 2, .int .i64 3] 3) := ⟨_, rfl⟩
  have hA : Below w2.heap.size w2 w3 := by rw [hw3]; exact (Below.refl _ _).alloc (Nat.le_refl _) _
  have HR3 : Hid (Reads .i64 w3 (some ⟨b3, 0, none⟩) 3 3 [1, 2, 3]) := by unfold Hid; rw [hw3]; exact reads_3B w2 1 2 3 3 hb3
  replace HK := hid (HK.out.below hA)
  replace HM := hid (HM.out.below hA)
  replace HU := hid (HU.out.trans (hA.mono HU.out.size))
  clear hA
  go_wp2_with fail
  rw [← hw3]
  clear hw3 hb3
  refine (HSt.out _ _ _ HM.out HR3.out).mono ?_
  rintro e w4 ⟨g4, F4, rfl, hS, hF4, hb⟩
  have HS := hid hS
  have HAp := hid (apart_st HK.out.old HM.out.notInt hF4 hb)
  replace HK := hid (HK.out.below hb)
  replace HU := hid (HU.out.trans (hb.mono HU.out.size))
  clear hS hF4 hb HSt HR3 HM
  go_wp2_with fail
  refine (HPu.out _ _ _ _ _ HK.out HS.out HAp.out).mono ?_
  rintro e w5 ⟨rfl, F5, hK, hF, hb⟩
  have HK5 := hid hK
  have HLo5 : Hid (∀ k, F5 k → w.heap.size ≤ k) := fun k hk => (hF k hk).elim (HLo.out k) fun h => Nat.le_trans HU.out.size h
  have HU5 := hid (HU.out.trans (hb.to HLo.out HU.out.size))
  clear hK hF hb HK HLo HU HPu HS HAp
  obtain ⟨b6, hb6⟩ : ∃ b6, w5.heap.size = b6 := ⟨_, rfl⟩
  obtain ⟨w6, hw6⟩ : ∃ w6, w6 = w5.alloc (.cells #[.int .i64 0, .int .i64 1, .int .i64 2, .int .i64 1] 3) := ⟨_, rfl⟩
  have hA : Below w5.heap.size w5 w6 := by rw [hw6]; exact (Below.refl _ _).alloc (Nat.le_refl _) _
  have HR6 : Hid (Reads .i64 w6 (some ⟨b6, 0, none⟩) 4 4 [0, 1, 2, 1]) := by unfold Hid; rw [hw6]; exact reads_4B w5 0 1 2 1 3 hb6
  have HAp6 : Hid (∀ q : Addr, some (⟨b6, 0, none⟩ : Addr) = some q → ¬ F5 q.block) := fun q hq h => by cases hq; have := HK5.out.old _ h; simp only at this; omega
  replace HK5 := hid (HK5.out.below hA)
  replace HU5 := hid (HU5.out.trans (hA.mono HU5.out.size))
  clear hA
  go_wp2_with fail
  rw [← hw6]
  clear hw6 hb6
  refine (HFi.out _ _ _ _ HK5.out HR6.out HAp6.out).mono ?_
  rintro e w7 ⟨q7, rfl, ⟨F7, hK, hF, hb⟩, hS⟩
  have HK7 := hid hK
  have HU7 := hid (HU5.out.trans (hb.to HLo5.out HU5.out.size))
  rcases hS with ⟨h0, _⟩ | ⟨_, hS⟩
  · omega
  obtain ⟨Fq, hS⟩ := hS.at
  have HL7 := hid (dlen_any _ _ _ _ hS)
  rw [show (List.take (2 : Int).toNat [(0 : Int), 1, 2, 1]).length = 2 from rfl] at HL7
  clear hK hF hb hS HK5 HLo5 HU5 HFi HR6 HAp6
  go_wp2_with fail
  refine HL7.out.mono ?_
  rintro e w8 ⟨rfl, hb⟩
  have HK8 := hid (HK7.out.below hb)
  have HU8 := hid (HU7.out.trans (hb.mono HU7.out.size))
  clear hb HL7 HK7 HU7
  go_wp2_with fail
  refine (HLn.out _ _ _ HK8.out).mono ?_
  rintro e w9 ⟨rfl, hb⟩
  replace HK8 := hid (HK8.out.below hb)
  replace HU8 := hid (HU8.out.trans (hb.mono HU8.out.size))
  clear hb HLn
  obtain ⟨bA, hbA⟩ : ∃ bA, w9.heap.size = bA := ⟨_, rfl⟩
  obtain ⟨wA, hwA⟩ : ∃ wA, wA = w9.alloc (.cells #[.int .i64 0, .int .i64 1, .int .i64 2, .int .i64 3] 3) := ⟨_, rfl⟩
  have hA : Below w9.heap.size w9 wA := by rw [hwA]; exact (Below.refl _ _).alloc (Nat.le_refl _) _
  have HRA : Hid (Reads .i64 wA (some ⟨bA, 0, none⟩) 4 4 [0, 1, 2, 3]) := by unfold Hid; rw [hwA]; exact reads_4B w9 0 1 2 3 3 hbA
  replace HK8 := hid (HK8.out.below hA)
  replace HU8 := hid (HU8.out.trans (hA.mono HU8.out.size))
  clear hA
  go_wp2_with fail
  rw [← hwA]
  clear hwA hbA
  refine (HH1.out _ _ _ _ HK8.out HRA.out).mono ?_
  rintro e wB ⟨rfl, hb⟩
  replace HK8 := hid (HK8.out.below hb)
  replace HU8 := hid (HU8.out.trans (hb.mono HU8.out.size))
  clear hb HH1 HRA
  obtain ⟨bC, hbC⟩ : ∃ bC, wB.heap.size = bC := ⟨_, rfl⟩
  obtain ⟨wC, hwC⟩ : ∃ wC, wC = wB.alloc (.cells #[.int .i64 0] 3) := ⟨_, rfl⟩
  have hA : Below wB.heap.size wB wC := by rw [hwC]; exact (Below.refl _ _).alloc (Nat.le_refl _) _
  have HRC : Hid (Reads .i64 wC (some ⟨bC, 0, none⟩) 1 1 [0]) := by unfold Hid; rw [hwC]; exact Reads.oneB wB 0 3 hbC
  replace HK8 := hid (HK8.out.below hA)
  replace HU8 := hid (HU8.out.trans (hA.mono HU8.out.size))
  clear hA
  go_wp2_with fail
  rw [← hwC]
  clear hwC hbC
  refine (HH2.out _ _ _ _ HK8.out HRC.out).mono ?_
  rintro e wD ⟨rfl, hb⟩
  replace HU8 := hid (HU8.out.trans (hb.mono HU8.out.size))
  clear hb HH2 HRC HK8
  go_wp2
  go_ret
  exact ⟨rfl, HU8.out⟩
end Go.Proofs.YtdomjdfancpbbaaGreat
namespace Go.Proofs.YtdomjdfancpbbaaGreat
open Go.RowKit
set_option linter.unusedVariables false
set_option maxRecDepth 1000000
variable {P : Nat → Prop}

set_option maxHeartbeats 1000000 in
theorem rplace_any {B : Nat} {pg sz tm : Int} {v : Value} {qs : List Hu} {es : List En} (a : Option Addr) (nt cap : Nat) (ts : List Int) (w : World) (h : RcAtP P w B pg sz tm v qs es) (ht : Reads .i64 w a nt cap ts) (hn : nt ≤ 1000) :
    Calls Tryz.prog 41 #[.pointer (some ⟨B, 0, none⟩), .slice a nt cap] w fun e w' => e = .returned (.int .i64 (plcZ es ts)) ∧ Below w.heap.size w w' := by
  obtain ⟨av, cv, rfl, rv, mv⟩ := h.isSl
  have zt := ht.size
  have rt := ht.room
  have mt := ht.most
  have hfew := h.few
  have HH := hid fun (W : World) (hb : Below w.heap.size w W) => h.below hb
  have HT := hid fun (W : World) (hb : Below w.heap.size w W) => ht.below hb
  have HYe := hid fun (k : Nat) (hk : k < es.length) (h0 : (en es k).1 = ts) (hj : ∀ j, j < k → (en es j).1 ≠ ts) => plc_at hk h0 hj
  have HNo := hid fun (hj : ∀ j, j < es.length → (en es j).1 ≠ ts) => plc_none (es := es) (ts := ts) hj
  clear h ht
  generalize plcZ es ts = pz at *
  obtain ⟨n, hN⟩ : ∃ n, es.length = n := ⟨_, rfl⟩
  rw [hN] at rv HH HYe HNo hfew
  go_enter Tryz.func41, Tryz.ntmps41
  go_wp2_with fail
  go_loopw [5] (fun i W => ∃ k : Nat, k ≤ n ∧ i = .int .i64 k ∧ Hid (∀ j, j < k → (en es j).1 ≠ ts) ∧ Hid (Below w.heap.size w W)) (fun i _ => n - (intOf i).toNat)
  case atStart => exact ⟨0, Nat.zero_le _, rfl, fun j hj => absurd hj (by omega), Below.refl _ _⟩
  case round =>
  obtain ⟨k, hk, rfl, HJ, HW⟩ := hrel
  rename World => wr
  have hR := HH.out _ HW.out
  obtain ⟨c0, c1, c2, c3⟩ := hR.cells
  by_cases hlt : k < n
  · obtain ⟨g, cap', cur, hv, hg, _, _⟩ := hR.isSome (k := k) (by omega)
    have hav : av = some ⟨g, 0, none⟩ := by cases hv; rfl
    subst hav
    have ca := (hR.at (k := k) (by omega)).1
    have hro := hR.rows k (by omega)
    have HRo := hid hro
    have zr := hro.size
    have q1 : (k : Int) < (n : Int) := by omega
    have HTk := hid (HT.out _ HW.out)
    have HB := hid (rbegins_any a nt cap ts _ _ _ _ wr HTk.out HRo.out hn)
    have HNx : Hid ((en es k).1 ≠ ts → ∀ j, j < k + 1 → (en es j).1 ≠ ts) := fun hne j hj => by
      rcases (by omega : j < k ∨ j = k) with h' | rfl
      · exact HJ.out j h'
      · exact hne
    replace HYe := hid fun (h0 : (en es k).1 = ts) => HYe.out k hlt h0 HJ.out
    clear hR hro hv hg HH HT HNo HJ hN cur
    generalize qe qs k = y at *
    obtain ⟨⟨y1, y2, y3⟩, y4⟩ := y
    simp only at ca HRo HB zr
    by_cases hl : y2 = nt
    · subst hl
      by_cases he : (en es k).1 = ts
      · have hbb : begB ts (en es k).1 = true := (begB_like (by omega)).2 he.symm
        have hpz := HYe.out he
        rw [hbb] at HB
        subst hpz
        clear he hbb HNx HYe HRo HTk
        go_wp2_with fail
        refine HB.out.mono ?_
        rintro e w2 ⟨rfl, hb⟩
        have HV := hid (HW.out.trans (hb.mono HW.out.size))
        clear hb HB c0 c1 c2 c3 ca HW
        go_wp2
        go_ret
        exact ⟨rfl, HV.out⟩
      · have hbb : begB ts (en es k).1 = false := by
          rw [Bool.eq_false_iff]
          exact fun e => he ((begB_like (by omega)).1 e).symm
        have HJ2 := hid (HNx.out he)
        rw [hbb] at HB
        clear he hbb HNx HYe HRo HTk
        go_wp2_with fail
        refine HB.out.mono ?_
        rintro e w2 ⟨rfl, hb⟩
        have HV := hid (HW.out.trans (hb.mono HW.out.size))
        clear hb HB c0 c1 c2 c3 ca HW
        go_wp2_with fail
        go_round
        case rel => exact ⟨k + 1, by omega, by go_num, HJ2, HV⟩
        case measure => simp [intOf]; omega
    · have HJ2 := hid (HNx.out (fun e => hl (by rw [← zr, e, zt])))
      have hl1 : ((y2 : Int) == (nt : Int)) = false := by simp; omega
      have hl2 : ¬ (y2 : Int) = (nt : Int) := by omega
      clear HNx HYe HRo HTk HB zr
      go_wp2_with fail
      go_round
      case rel => exact ⟨k + 1, by omega, by go_num, HJ2, HW⟩
      case measure => simp [intOf]; omega
  · obtain rfl : k = n := by omega
    have hpz := HNo.out HJ.out
    subst hpz
    clear hR HH HT HYe HNo HJ hN
    go_wp2
    go_ret
    exact ⟨rfl, HW.out⟩
theorem rhas_any {B : Nat} {pg sz tm : Int} {v : Value} {qs : List Hu} {es : List En} (a : Option Addr) (nt cap : Nat) (ts : List Int) (w : World) (h : RcAtP P w B pg sz tm v qs es) (ht : Reads .i64 w a nt cap ts) (hn : nt ≤ 1000) :
    Calls Tryz.prog 23 #[.pointer (some ⟨B, 0, none⟩), .slice a nt cap] w fun e w' => e = .returned (.bool (decide (0 ≤ plcZ es ts))) ∧ Below w.heap.size w w' := by
  have hP := rplace_any a nt cap ts w h ht hn
  clear h ht
  generalize plcZ es ts = pz at *
  go_enter Tryz.func23, Tryz.ntmps23
  go_wp2_with fail
  refine hP.mono ?_
  rintro e w1 ⟨rfl, hb⟩
  have HV := hid hb
  clear hP hb
  go_wp2
  go_ret
  exact ⟨rfl, HV.out⟩
set_option maxHeartbeats 1000000 in
theorem rleaf_any {B : Nat} {pg sz tm : Int} {v : Value} {qs : List Hu} {es : List En} (i0 : Nat) (w : World) (h : RcAtP P w B pg sz tm v qs es) (hi0 : i0 < es.length) :
    Calls Tryz.prog 42 #[.pointer (some ⟨B, 0, none⟩), .int .i64 i0] w fun e w' => e = .returned (.bool (leafB es i0)) ∧ ∃ m, w' = w.drewN m := by
  obtain ⟨g, cv, cur, rfl, _, rv, mv⟩ := h.isSome hi0
  have hfew := h.few
  have HH : Hid (∀ W : World, (∃ m, W = w.drewN m) → RcAtP P W B pg sz tm (.slice (some ⟨g, 0, none⟩) es.length cv) qs es) := fun W ⟨m, hm⟩ => by rw [hm]; exact h.below ⟨rfl, rfl, rfl, Nat.le_refl _, fun _ _ => rfl⟩
  have HD : Hid (∀ (W : World) (n : Nat), Hid (∃ m, W = w.drewN m) → ∃ m, W.drewN n = w.drewN m) := fun W n h => by obtain ⟨m, hm⟩ := h.out; exact ⟨_, by rw [hm, World.drewN_drewN]⟩
  have HBg : Hid (∀ (W : World) (q i : Nat), (∃ m, W = w.drewN m) → i < es.length → Calls Tryz.prog 34 #[.slice (qe qs i0).1.1 (qe qs i0).1.2.1 (qe qs i0).1.2.2, .slice (qe qs i).1.1 (qe qs i).1.2.1 (qe qs i).1.2.2] (W.drewN q) fun e w' => e = .returned (.bool (begB (en es i0).1 (en es i).1)) ∧ ∃ m, w' = (W.drewN q).drewN m) := fun W q i hW hi => by
    have hR := (HH.out W hW).below (W' := W.drewN q) ⟨rfl, rfl, rfl, Nat.le_refl _, fun _ _ => rfl⟩
    have r0 := hR.rows i0 hi0
    refine rbegins_q _ _ _ _ _ _ _ _ _ r0 (hR.rows i hi) ?_
    rw [← r0.size]
    exact hR.short i0 hi0
  have HNo := hid fun (i : Nat) (hi : i < es.length) (hk : i ≠ i0) (hb : begB (en es i0).1 (en es i).1 = true) => leaf_no hi hk hb
  have HYe := hid fun (hj : ∀ i, i < es.length → i ≠ i0 → begB (en es i0).1 (en es i).1 = false) => leaf_yes hj
  clear h
  generalize leafB es i0 = lb at *
  obtain ⟨n, hN⟩ : ∃ n, es.length = n := ⟨_, rfl⟩
  rw [hN] at rv HH HBg HYe HNo hfew hi0
  have hi1 : (i0 : Int) < (n : Int) := by omega
  go_enter Tryz.func42, Tryz.ntmps42
  go_wp2_with fail
  go_loopw [5] (fun i W => ∃ k : Nat, k ≤ n ∧ i = .int .i64 k ∧ Hid (∀ i, i < k → i ≠ i0 → begB (en es i0).1 (en es i).1 = false) ∧ Hid (∃ m, W = w.drewN m)) (fun i _ => n - (intOf i).toNat)
  case atStart => exact ⟨0, Nat.zero_le _, rfl, fun j hj => absurd hj (by omega), 0, rfl⟩
  case round =>
  obtain ⟨k, hk, rfl, HJ, HW⟩ := hrel
  rename World => wr
  have hR := HH.out _ HW.out
  obtain ⟨c0, c1, c2, c3⟩ := hR.cells
  by_cases hlt : k < n
  · have q1 : (k : Int) < (n : Int) := by omega
    have ca := (hR.at (k := k) (by omega)).1
    have cb := (hR.at (k := i0) (by omega)).1
    have HBk := hid fun q => HBg.out wr q k HW.out hlt
    by_cases he : k = i0
    · subst he
      have HJ2 : Hid (∀ i, i < k + 1 → i ≠ k → begB (en es k).1 (en es i).1 = false) := fun i hi hne => HJ.out i (by omega) hne
      have d1 : ((k : Int) != (k : Int)) = false := by simp
      clear hR HH HBg HNo HYe HJ hN HBk
      go_wp2_with fail
      go_quiet (fail)
      go_wp2_with fail
      go_round
      case rel => exact ⟨k + 1, by omega, by go_num, HJ2, HD.out _ _ HW⟩
      case measure => simp [intOf]; omega
    · have d1 : ((k : Int) == (i0 : Int)) = false := by simp; omega
      have d2 : ((k : Int) != (i0 : Int)) = true := by simp; omega
      have d3 : ¬ (k : Int) = (i0 : Int) := by omega
      have d4 : ¬ k = i0 := he
      have HNx : Hid (begB (en es i0).1 (en es k).1 = false → ∀ i, i < k + 1 → i ≠ i0 → begB (en es i0).1 (en es i).1 = false) := fun hne i hi hik => by
        rcases (by omega : i < k ∨ i = k) with h' | rfl
        · exact HJ.out i h' hik
        · exact hne
      replace HNo := hid (HNo.out k hlt he)
      clear hR HH HBg HYe HJ hN
      generalize qe qs k = y at *
      generalize qe qs i0 = z at *
      obtain ⟨⟨y1, y2, y3⟩, y4⟩ := y
      obtain ⟨⟨z1, z2, z3⟩, z4⟩ := z
      simp only at ca cb HBk
      generalize begB (en es i0).1 (en es k).1 = bb at *
      cases bb with
      | true =>
        obtain rfl := HNo.out rfl
        clear HNo HNx
        go_wp2_with fail
        go_quiet ((go_at_call 34; exact Calls.quiet_of (HBk.out _)))
        go_wp2
        go_ret
        exact ⟨rfl, HD.out _ _ HW⟩
      | false =>
        have HJ2 := hid (HNx.out rfl)
        clear HNo HNx
        go_wp2_with fail
        go_quiet ((go_at_call 34; exact Calls.quiet_of (HBk.out _)))
        go_wp2_with fail
        go_round
        case rel => exact ⟨k + 1, by omega, by go_num, HJ2, HD.out _ _ HW⟩
        case measure => simp [intOf]; omega
  · obtain rfl : k = n := by omega
    have hpz := HYe.out HJ.out
    subst hpz
    clear hR HH HBg HYe HNo HJ hN
    go_wp2
    go_ret
    exact ⟨rfl, HW.out⟩
end Go.Proofs.YtdomjdfancpbbaaGreat
namespace Go.Proofs.YtdomjdfancpbbaaGreat
open Go.RowKit
set_option linter.unusedVariables false
set_option maxRecDepth 1000000
variable {P : Nat → Prop}

theorem Reads.kpi {W W' : World} {a : Option Addr} {l c : Nat} {zs : List Int} (hr : Reads .i64 W a l c zs) (h5 : BlN W a) (hk : KpI W W') : Reads .i64 W' a l c zs ∧ BlN W' a := by
  have key : ∀ p, a = some p → W'.heap[p.block]? = W.heap[p.block]? := by
    intro p hp
    obtain ⟨cur, fz, hc⟩ := h5 p hp
    rw [hc]
    exact hk _ _ _ hc
  refine ⟨hr.blk key, fun p hp => ?_⟩
  obtain ⟨cur, fz, hc⟩ := h5 p hp
  exact ⟨cur, fz, (key p hp).trans hc⟩
theorem RcAtP.apart {W : World} {B : Nat} {pg sz tm : Int} {v : Value} {qs : List Hu} {es : List En} (h : RcAtP P W B pg sz tm v qs es) {b : Nat} (hb : v.ownBlock = some b) : b ≠ B := by
  rintro rfl
  rcases id h.own.2 with ⟨hv, _⟩ | ⟨g, cap, cur, hv, _, hg, _⟩
  · rw [hv] at hb; cases hb
  · rw [hv] at hb
    cases hb
    rw [h.var] at hg
    simp at hg
theorem RcAtP.time {W : World} {B : Nat} {pg sz tm : Int} {v : Value} {qs : List Hu} {es : List En} (h : RcAtP P W B pg sz tm v qs es) (t : Int) :
    RcAtP P (W.setCell ⟨B, 2, none⟩ (.int .i64 t)) B pg sz t v qs es ∧ KpI W (W.setCell ⟨B, 2, none⟩ (.int .i64 t)) ∧ Fb (rcF B v) W (W.setCell ⟨B, 2, none⟩ (.int .i64 t)) := by
  have hk : KpI W (W.setCell ⟨B, 2, none⟩ (.int .i64 t)) := KpI.set h.var (by decide) _
  refine ⟨⟨row_set h.var, own_blk h.own fun b hb => Below.heap_setCell _ _ _ _ (by exact h.apart hb), h.len, h.used, fun i hi => ((h.rows i hi).kpi (h.ints i hi) hk).1, fun i hi => ((h.rows i hi).kpi (h.ints i hi) hk).2, h.short, h.few, h.off⟩, hk, Fb.set (F := rcF B v) (p := ⟨B, 2, none⟩) (.inl rfl) _⟩
theorem qe_set {qs : List Hu} {k : Nat} {x : Hu} (hk : k < qs.length) (i : Nat) : qe (qs.set k x) i = if i = k then x else qe qs i := by
  unfold qe
  rw [List.getElem?_set]
  by_cases e : k = i
  · subst e; rw [if_pos rfl, if_pos hk, if_pos rfl]; rfl
  · rw [if_neg e, if_neg (fun h => e h.symm)]
theorem RcAtP.use {W : World} {B : Nat} {pg sz tm : Int} {qs : List Hu} {es : List En} {g n cap : Nat} (h : RcAtP P W B pg sz tm (.slice (some ⟨g, 0, none⟩) n cap) qs es) {k : Nat} (hk : k < es.length) (t : Int) :
    RcAtP P (W.setCell ⟨g, k * 2 + 1, none⟩ (.int .i64 t)) B pg sz tm (.slice (some ⟨g, 0, none⟩) n cap) (qs.set k ((qe qs k).1, t)) (es.set k ((en es k).1, t)) ∧ KpI W (W.setCell ⟨g, k * 2 + 1, none⟩ (.int .i64 t)) ∧ Fb (rcF B (.slice (some ⟨g, 0, none⟩) n cap)) W (W.setCell ⟨g, k * 2 + 1, none⟩ (.int .i64 t)) := by
  have hl := h.len
  have hgB : g ≠ B := h.apart (b := g) rfl
  obtain ⟨g', cap', cur, hv, hg, _, _⟩ := h.isSome hk
  have hgg : g' = g ∧ n = es.length := by cases hv; exact ⟨rfl, rfl⟩
  obtain ⟨rfl, rfl⟩ := hgg
  have hkp : KpI W (W.setCell ⟨g', k * 2 + 1, none⟩ (.int .i64 t)) := KpI.set hg (by decide) _
  refine ⟨⟨?_, ?_, by rw [List.length_set, List.length_set]; exact hl, fun i hi => ?_, fun i hi => ?_, fun i hi => ?_, fun i hi => ?_, by rw [List.length_set]; exact h.few, fun i hi p hp => ?_⟩, hkp, Fb.set (F := rcF B _) (p := ⟨g', k * 2 + 1, none⟩) (.inr rfl) _⟩
  · rw [Below.heap_setCell _ _ _ _ (by exact fun e => hgB e.symm)]; exact h.var
  · rw [List.length_set, flatE_set qs t k (by omega)]
    exact (World.ownsRow.stored h.own (k * 2 + 1) (.int .i64 t)).1
  · rw [List.length_set] at hi
    rw [qe_set (by omega), en_set hk]
    by_cases e : i = k
    · rw [if_pos e, if_pos e]
    · rw [if_neg e, if_neg e]; exact h.used i hi
  · rw [List.length_set] at hi
    rw [qe_set (by omega), en_set hk]
    by_cases e : i = k
    · rw [if_pos e, if_pos e]; exact ((h.rows k hk).kpi (h.ints k hk) hkp).1
    · rw [if_neg e, if_neg e]; exact ((h.rows i hi).kpi (h.ints i hi) hkp).1
  · rw [List.length_set] at hi
    rw [qe_set (by omega)]
    by_cases e : i = k
    · rw [if_pos e]; exact ((h.rows k hk).kpi (h.ints k hk) hkp).2
    · rw [if_neg e]; exact ((h.rows i hi).kpi (h.ints i hi) hkp).2
  · rw [List.length_set] at hi
    rw [en_set hk]
    by_cases e : i = k
    · rw [if_pos e]; exact h.short k hk
    · rw [if_neg e]; exact h.short i hi
  · rw [List.length_set] at hi
    rw [qe_set (by omega)] at hp
    by_cases e : i = k
    · rw [if_pos e] at hp; exact h.off k hk p hp
    · rw [if_neg e] at hp; exact h.off i hi p hp
theorem bestK_bd (ts : List Int) {es : List En} (h : ∀ i, i < es.length → (en es i).1.length ≤ 1000) (k : Nat) (hk : k ≤ es.length) : 0 ≤ bestK ts es k ∧ bestK ts es k ≤ 1000 := by
  induction k with
  | zero => simp [bestK]
  | succ k ih =>
    have := ih (by omega)
    have hs := h k (by omega)
    simp only [bestK]
    split
    · omega
    · exact this
set_option maxHeartbeats 2000000 in
theorem rfind_any {B : Nat} {pg sz tm : Int} {v : Value} {qs : List Hu} {es : List En} (a : Option Addr) (nt cap : Nat) (ts : List Int) (w : World) (h : RcAtP P w B pg sz tm v qs es) (ht : Reads .i64 w a nt cap ts) (hta : BlN w a) (hn : nt ≤ 1000) (h0 : 0 ≤ tm) (h1 : tm ≤ 100000) :
    Calls Tryz.prog 13 #[.pointer (some ⟨B, 0, none⟩), .slice a nt cap] w fun e w' => e = .returned (.int .i64 (bestK ts es es.length)) ∧ (∃ qs', RcAtP P w' B pg sz (tm + 1) v qs' (useK (tm + 1) ts es es.length)) ∧ KpI w w' ∧ Fb (rcF B v) w w' := by
  obtain ⟨av, cv, rfl, rv, mv⟩ := h.isSl
  obtain ⟨t0, t1, t2⟩ := h.time (tm + 1)
  have hfew := h.few
  obtain ⟨c0, c1, c2, c3⟩ := h.cells
  have fB := frozen_of_row _ _ 2 _ _ h.var
  have HT := hid fun (W : World) (hk : KpI w W) => (ht.kpi hta hk).1
  have HBd := hid fun (k : Nat) (hk : k ≤ es.length) => bestK_bd ts h.short k hk
  have HSh := hid h.short
  have HBk : Hid (∀ k, bestK ts es (k + 1) = if begB (en es k).1 ts then max (bestK ts es k) ((en es k).1.length : Int) else bestK ts es k) := fun k => rfl
  have HB0 : Hid (bestK ts es 0 = 0) := rfl
  have HR0 : Hid (∃ qs', RcAtP P (w.setCell ⟨B, 2, none⟩ (.int .i64 (tm + 1))) B pg sz (tm + 1) (.slice av es.length cv) qs' (useK (tm + 1) ts es 0)) := ⟨qs, by rw [useK_0]; exact t0⟩
  have HK0 := hid t1
  have HF0 := hid t2
  have HUy := hid fun (k : Nat) (hk : k < es.length) (hb : begB (en es k).1 ts = true) => useK_yes (tm + 1) ts hk hb
  have HUn := hid fun (k : Nat) (hk : k < es.length) (hb : begB (en es k).1 ts = false) => useK_no (tm + 1) ts hk hb
  have HUa : Hid (∀ k, k < es.length → en (useK (tm + 1) ts es k) k = en es k) := fun k hk => by rw [useK_at _ _ hk, if_neg (by omega)]
  have HUl := hid fun (k : Nat) => useK_len (tm + 1) ts es k
  clear h ht hta t0 t1 t2
  obtain ⟨Bs, hBs⟩ : ∃ Bs : Nat → Int, Bs = bestK ts es := ⟨_, rfl⟩
  rw [← hBs] at HBd HBk HB0
  have HBl : Hid (bestK ts es es.length = Bs es.length) := by unfold Hid; rw [hBs]
  rw [HBl.out]
  clear hBs HBl
  obtain ⟨U, hU⟩ : ∃ U : Nat → List En, U = useK (tm + 1) ts es := ⟨_, rfl⟩
  rw [← hU] at HR0 HUy HUn HUa HUl ⊢
  clear hU
  obtain ⟨n, hN⟩ : ∃ n, es.length = n := ⟨_, rfl⟩
  rw [hN] at rv HBd HSh HR0 HUy HUn HUa HUl hfew HF0 c3 ⊢
  clear hN
  obtain ⟨tn, htn⟩ : ∃ tn : Int, tm + 1 = tn := ⟨_, rfl⟩
  rw [htn] at HR0 HK0 HF0 HUy ⊢
  have htb : 0 ≤ tn ∧ tn ≤ 100001 := by omega
  have hwt : IntKind.i64.wrap (tm + 1) = tn := by rw [htn]; exact wrap64_in (by omega) (by omega)
  obtain ⟨w0, hw0⟩ : ∃ w0, w0 = w.setCell ⟨B, 2, none⟩ (.int .i64 tn) := ⟨_, rfl⟩
  rw [← hw0] at HR0 HK0 HF0
  go_enter Tryz.func13, Tryz.ntmps13
  go_wp2_with fail
  try rw [htn]
  rw [← hw0]
  clear hw0 c0 c1 c2 c3 fB
  go_loopw [5, 6] (fun b i W => ∃ k : Nat, k ≤ n ∧ i = .int .i64 k ∧ b = .int .i64 (Bs k) ∧ Hid (∃ qs', RcAtP P W B pg sz tn (.slice av n cv) qs' (U k)) ∧ Hid (KpI w W) ∧ Hid (Fb (rcF B (.slice av n cv)) w W)) (fun _ i _ => n - (intOf i).toNat)
  case atStart => exact ⟨0, Nat.zero_le _, rfl, by rw [HB0.out], HR0, HK0, HF0⟩
  case round =>
  obtain ⟨k, hk, rfl, rfl, HR, HK, HF⟩ := hrel
  rename World => wr
  clear HR0 HK0 HF0 HB0
  obtain ⟨qs', hR⟩ := HR.out
  obtain ⟨c0, c1, c2, c3⟩ := hR.cells
  have hUl := HUl.out k
  by_cases hlt : k < n
  · obtain ⟨g, cap', cur, hv, hg, _, _⟩ := hR.isSome (k := k) (by omega)
    have hav : av = some ⟨g, 0, none⟩ := by cases hv; rfl
    subst hav
    have ca := (hR.at (k := k) (by omega)).1
    have cu := (hR.at (k := k) (by omega)).2
    have hro := hR.rows k (by omega)
    rw [HUa.out k hlt] at hro
    have zr := hro.size
    have hsh := HSh.out k hlt
    have q1 : (k : Int) < (n : Int) := by omega
    have hBn := HBk.out k
    obtain ⟨bd0, bd1⟩ := HBd.out k (by omega)
    have HBg := hid (rbegins_any _ _ _ _ a nt cap ts wr hro (HT.out _ HK.out) (by omega))
    have HRk := hid hR
    have HNk := hid (HUa.out k hlt)
    clear HT HBd HSh HBk hro hR hv hg cur HR HUa
    by_cases hb : begB (en es k).1 ts = true
    · rw [if_pos hb] at hBn
      have HU2 := hid (HUy.out k hlt hb)
      rw [hb] at HBg
      have HNk' := HNk.out
      have hlU : k < (U k).length := by omega
      have HX : Hid (∀ W, Below wr.heap.size wr W → (∃ qs'', RcAtP P (W.setCell ⟨g, k * 2 + 1, none⟩ (.int .i64 tn)) B pg sz tn (.slice (some ⟨g, 0, none⟩) n cv) qs'' (U (k + 1))) ∧ KpI W (W.setCell ⟨g, k * 2 + 1, none⟩ (.int .i64 tn)) ∧ Fb (rcF B (.slice (some ⟨g, 0, none⟩) n cv)) W (W.setCell ⟨g, k * 2 + 1, none⟩ (.int .i64 tn)) ∧ (W.cell? ⟨B, 2, none⟩ = some (.int .i64 tn) ∧ W.cell? ⟨B, 3, none⟩ = some (.slice (some ⟨g, 0, none⟩) n cv) ∧ W.frozen? ⟨g, k * 2 + 1, none⟩ = false ∧ ∃ u, W.cell? ⟨g, k * 2 + 1, none⟩ = some u) ∧ (W.setCell ⟨g, k * 2 + 1, none⟩ (.int .i64 tn)).cell? ⟨B, 3, none⟩ = some (.slice (some ⟨g, 0, none⟩) n cv) ∧ (W.setCell ⟨g, k * 2 + 1, none⟩ (.int .i64 tn)).cell? ⟨g, k * 2, none⟩ = some (.slice (qe qs' k).1.1 (qe qs' k).1.2.1 (qe qs' k).1.2.2)) := by
        intro W hb
        have hW := HRk.out.below hb
        obtain ⟨x1, x2, x3⟩ := hW.use hlU tn
        obtain ⟨g', cap', cur, hv, hg, _, _⟩ := hW.isSome hlU
        have hgg : g = g' := by cases hv; rfl
        subst hgg
        have hq := (x1.at (k := k) (by rw [List.length_set]; exact hlU)).1
        rw [qe_set (by rw [hW.len]; exact hlU), if_pos rfl] at hq
        refine ⟨⟨qs'.set k ((qe qs' k).1, tn), ?_⟩, x2, x3, ⟨hW.cells.2.2.1, hW.cells.2.2.2, frozen_of_row _ _ _ _ _ hg, _, (hW.at hlU).2⟩, x1.cells.2.2.2, hq⟩
        rw [HU2.out, ← HNk']
        exact x1
      clear HUy HUn hb hsh cu HRk HNk HNk' HU2
      generalize qe qs' k = y at *
      obtain ⟨⟨y1, y2, y3⟩, y4⟩ := y
      simp only at ca HBg HX zr
      go_wp2_with fail
      refine HBg.out.mono ?_
      rintro e w2 ⟨rfl, hb⟩
      obtain ⟨hR2, hK2, hF2, ⟨d2, d3, df, u, du⟩, d4, d5⟩ := HX.out w2 hb
      have HR2 := hid hR2
      have HK2 := hid ((HK.out.trans (KpI.of hb)).trans hK2)
      have HF2 := hid ((HF.out.below hb).trans hF2 fun x hx => .inl hx)
      clear hb HBg HX c0 c1 c2 c3 ca HK HF hR2 hK2 hF2
      go_wp2_with fail
      go_region
      go_wp2_with fail
      go_round
      case rel => exact ⟨k + 1, by omega, by go_num, by rw [hBn, ← zr]; congr 1; split <;> omega, HR2.out.imp fun _ hq => hq.below (Below.refl _ _).drew, HK2.out.trans (KpI.of (Below.refl _ _).drew), HF2.out.drew⟩
      case measure => simp [intOf]; omega
    · replace hb : begB (en es k).1 ts = false := by simpa using hb
      rw [hb] at HBg
      rw [hb] at hBn
      simp only [Bool.false_eq_true, if_false] at hBn
      have HU2 := hid (HUn.out k hlt hb)
      clear HUy HUn hb zr hsh cu
      generalize qe qs' k = y at *
      obtain ⟨⟨y1, y2, y3⟩, y4⟩ := y
      simp only at ca HBg
      go_wp2_with fail
      refine HBg.out.mono ?_
      rintro e w2 ⟨rfl, hb⟩
      have HR2 : Hid (∃ qs', RcAtP P w2 B pg sz tn (.slice (some ⟨g, 0, none⟩) n cv) qs' (U (k + 1))) := ⟨qs', by rw [HU2.out]; exact HRk.out.below hb⟩
      have HK2 := hid (HK.out.trans (KpI.of hb))
      have HF2 := hid (HF.out.below hb)
      have hBe : Value.int .i64 (Bs k) = .int .i64 (Bs (k + 1)) := by rw [hBn]
      have HBe := hid hBe
      clear hb HBg c0 c1 c2 c3 ca HK HF HRk hBn hBe
      go_wp2_with fail
      go_round
      case rel => exact ⟨k + 1, by omega, by go_num, HBe.out, HR2, HK2, HF2⟩
      case measure => simp [intOf]; omega
  · obtain rfl : k = n := by omega
    clear hR HT HBd HSh HBk HUy HUn HUa HUl
    go_wp2
    go_ret
    exact ⟨rfl, HR.out, HK.out, HF.out⟩
end Go.Proofs.YtdomjdfancpbbaaGreat
namespace Go.Proofs.YtdomjdfancpbbaaGreat
open Go.RowKit
set_option linter.unusedVariables false
set_option maxRecDepth 1000000
variable {P : Nat → Prop}

theorem Tryz.infoEn : (Tryz.prog.info? 48).map (fun i => (i.zero, i.size, i.bytes)) = some (some (.agg #[.slice none 0 0, .int .i64 0]), 2, 32) := by kernel_rfl
theorem Tryz.undEn : Tryz.prog.underlying 30 = some (.slice 48) := by kernel_rfl
/-- An append to a row of the call's own, whatever is appended, at a step of a region that draws its order. -/
theorem step_append_row {P : Program} {w : World} {ops : Array Oper} {o : Oper} {a : Act} {K : Act → World → Prop} {Q : Exit → Act → World → Prop} {E : Prop} (hgd : o.guard = none) (d : Tmp) (hd : o.dst = some d) (s x : Operand) (t : TypeId)
    (ho : o.op = .call { callee := .builtin .append, args := #[s, x], argTypes := #[t, t] })
    (base : Nat) (e : TypeId) (i : TypeInfo) (z : Value) (size bytes : Nat) (ht : P.underlying t = some (.slice e)) (hi : P.info? e = some i) (hz : i.zero = some z) (hsize : i.size = size) (hby : i.bytes = bytes) (hzs : z.cells.size = size) (hsz : 0 < size) (hbt : bytes ≤ 64)
    (v : Value) (n : Nat) (xs : List Value) (hs : a.eval s = v) (hown : w.ownsRow base e size v n xs)
    (ao : Option Addr) (m c : Nat) (news : List Value) (hx : a.eval x = .slice ao m c) (hnone : ao = none → m = 0 ∧ c = 0) (hl : news.length = m * size) (hnews : ∀ b, ao = some b → ∀ j u, news[j]? = some u → w.cell? (b.add j) = some u) (h1 : ∀ u ∈ news, u.oneCell' = true)
    (hnm : n + m ≤ 100000) (hbase : base ≤ w.heap.size)
    (h : ∀ v' w', w'.ownsRow base e size v' (n + m) (xs ++ news) → Below base w w' → K (a.put (some d) v') w') :
    if Region.wanted o (yielded ops a.tmps) = true then Oper.wp P o a w K Q else E := by
  have hw : Region.wanted o (yielded ops a.tmps) = true := by simp [Region.wanted, hgd]
  rw [if_pos hw]
  have hbytes : (n + m) * bytes ≤ 140737488355328 := by have : (n + m) * bytes ≤ (n + m) * 64 := Nat.mul_le_mul_left _ hbt; omega
  have key : ∃ v' w', (Builtin.append_ #[t, t] o.type #[v, .slice ao m c]).run P w = .ok v' w' ∧ w'.ownsRow base e size v' (n + m) (xs ++ news) ∧ Below base w w' := by
    cases ao with
    | some b =>
      obtain ⟨v', w', hrun, r1, r2, _⟩ := run_append_own (P := P) w base t o.type e i z size bytes ht hi hz hsize hby hzs hsz v n xs hown b m c news hl (hnews b rfl) h1 (by unfold maxLen; omega) hbytes hbase
      exact ⟨v', w', hrun, r1, (Below.refl _ _).grown r2 hbase fun g hg => (hown.lt g hg).1⟩
    | none =>
      obtain ⟨rfl, rfl⟩ := hnone rfl
      obtain rfl : news = [] := List.eq_nil_of_length_eq_zero (by simpa using hl)
      exact ⟨v, w, run_append_owned_none (P := P) (w := w) base t o.type e i size ht hi v n xs hown, by simpa using hown, Below.refl _ _⟩
  obtain ⟨v', w', hr, h2, h3⟩ := key
  unfold Oper.wp execOp
  simp only [ho, resolve, invoke, builtin, Sem.run_bind, Sem.run_pure, Result.andThen_ok, List.map_toArray, List.map_cons, List.map_nil, hs, hx, hr]
  show K (a.put o.dst _) w'
  rw [hd]
  exact h v' w' h2 h3
theorem flatE_one (qs : List Hu) : ∀ u ∈ flatE qs, u.oneCell' = true := by
  induction qs with
  | nil => intro u hu; simp [flatE] at hu
  | cons q qs ih =>
    intro u hu
    simp only [flatE, List.mem_cons] at hu
    rcases hu with rfl | rfl | hu
    · rfl
    · rfl
    · exact ih u hu
theorem flatE_take (qs : List Hu) : ∀ k, flatE (qs.take k) = (flatE qs).take (k * 2) := by
  induction qs with
  | nil => intro k; simp [flatE]
  | cons q qs ih =>
    intro k
    cases k with
    | zero => simp [flatE]
    | succ k =>
      rw [show (k + 1) * 2 = k * 2 + 1 + 1 by omega]
      simp [flatE, ih k]
theorem flatE_drop (qs : List Hu) : ∀ k, flatE (qs.drop k) = (flatE qs).drop (k * 2) := by
  induction qs with
  | nil => intro k; simp [flatE]
  | cons q qs ih =>
    intro k
    cases k with
    | zero => simp [flatE]
    | succ k =>
      rw [show (k + 1) * 2 = k * 2 + 1 + 1 by omega]
      simp [flatE, ih k]
theorem own_low {base e size n : Nat} {v : Value} {xs : List Value} {w : World} (h : w.ownsRow base e size v n xs) : w.ownsRow 0 e size v n xs := by
  refine ⟨h.1, ?_⟩
  rcases h.2 with h' | ⟨g, c, cur, hv, hB, rest⟩
  · exact .inl h'
  · exact .inr ⟨g, c, cur, hv, Nat.zero_le _, rest⟩
/-- Its list turned: the new one is a row of the call's own. -/
theorem RcAtP.list {W W' : World} {B : Nat} {pg sz tm : Int} {v v' : Value} {qs qs' : List Hu} {es es' : List En} {base : Nat} (h : RcAtP P W B pg sz tm v qs es) (hb : Below W.heap.size W W') (ho : W'.ownsRow base 48 2 v' es'.length (flatE qs')) (hbase : W.heap.size ≤ base)
    (hl : qs'.length = es'.length) (hq : ∀ i, i < es'.length → (qe qs' i).2 = (en es' i).2 ∧ Reads .i64 W' (qe qs' i).1.1 (qe qs' i).1.2.1 (qe qs' i).1.2.2 (en es' i).1 ∧ BlN W' (qe qs' i).1.1 ∧ (en es' i).1.length ≤ 1000 ∧ ∀ p, (qe qs' i).1.1 = some p → P p.block) (hf : es'.length ≤ 1000) :
    RcAtP P (W'.setCell ⟨B, 3, none⟩ v') B pg sz tm v' qs' es' ∧ KpI W (W'.setCell ⟨B, 3, none⟩ v') ∧ Fb (rcF B v) W (W'.setCell ⟨B, 3, none⟩ v') ∧ (∀ b, v'.ownBlock = some b → W.heap.size ≤ b) := by
  have hv' : W'.heap[B]? = _ := block_bel h.var hb
  have hk : KpI W' (W'.setCell ⟨B, 3, none⟩ v') := KpI.set hv' (by decide) _
  have hge : ∀ b, v'.ownBlock = some b → W.heap.size ≤ b := fun b hb' => Nat.le_trans hbase (ho.lt b hb').1
  have hB := lt_of_block h.var
  refine ⟨⟨row_set hv', ?_, hl, fun i hi => (hq i hi).1, fun i hi => ((hq i hi).2.1.kpi (hq i hi).2.2.1 hk).1, fun i hi => ((hq i hi).2.1.kpi (hq i hi).2.2.1 hk).2, fun i hi => (hq i hi).2.2.2.1, hf, fun i hi => (hq i hi).2.2.2.2⟩, (KpI.of hb).trans hk, (Fb.of hb).trans (Fb.set (F := rcF B v) (p := ⟨B, 3, none⟩) (.inl rfl) _) fun x hx => .inl hx, hge⟩
  refine own_low (own_blk ho fun b hb' => Below.heap_setCell _ _ _ _ ?_)
  have := hge b hb'
  intro e
  have e' : b = B := e
  omega
theorem qe_erase (qs : List Hu) (o i : Nat) : qe (qs.eraseIdx o) i = if i < o then qe qs i else qe qs (i + 1) := by
  unfold qe
  rw [List.getElem?_eraseIdx]
  split <;> rfl
theorem en_erase (es : List En) (o i : Nat) : en (es.eraseIdx o) i = if i < o then en es i else en es (i + 1) := by
  unfold en
  rw [List.getElem?_eraseIdx]
  split <;> rfl
theorem qe_snoc (qs : List Hu) (q : Hu) (i : Nat) (hi : i ≤ qs.length) : qe (qs ++ [q]) i = if i < qs.length then qe qs i else q := by
  unfold qe
  split
  · rw [List.getElem?_append_left (by assumption)]
  · rw [List.getElem?_append_right (by omega), show i - qs.length = 0 by omega]; rfl
theorem en_snoc (es : List En) (q : En) (i : Nat) (hi : i ≤ es.length) : en (es ++ [q]) i = if i < es.length then en es i else q := by
  unfold en
  split
  · rw [List.getElem?_append_left (by assumption)]
  · rw [List.getElem?_append_right (by omega), show i - es.length = 0 by omega]; rfl
/-- One entry gone. -/
theorem RcAtP.gone {W W' : World} {B : Nat} {pg sz tm : Int} {v v' : Value} {qs : List Hu} {es : List En} {base o : Nat} (h : RcAtP P W B pg sz tm v qs es) (hb : Below W.heap.size W W') (hlt : o < es.length) (ho : W'.ownsRow base 48 2 v' (es.length - 1) (flatE (qs.take o) ++ flatE (qs.drop (o + 1)))) (hbase : W.heap.size ≤ base) :
    RcAtP P (W'.setCell ⟨B, 3, none⟩ v') B pg sz tm v' (qs.eraseIdx o) (es.eraseIdx o) ∧ KpI W (W'.setCell ⟨B, 3, none⟩ v') ∧ Fb (rcF B v) W (W'.setCell ⟨B, 3, none⟩ v') ∧ (∀ b, v'.ownBlock = some b → W.heap.size ≤ b) := by
  have hl := h.len
  have hf := h.few
  have e1 : (es.eraseIdx o).length = es.length - 1 := by rw [List.length_eraseIdx, if_pos hlt]
  have e2 : (qs.eraseIdx o).length = es.length - 1 := by rw [List.length_eraseIdx, if_pos (by omega)]; omega
  rw [← flatE_app, ← List.eraseIdx_eq_take_drop_succ] at ho
  refine h.list hb (by rw [e1]; exact ho) hbase (by omega) (fun i hi => ?_) (by omega)
  have hW := h.below hb
  rw [qe_erase, en_erase]
  split
  · exact ⟨hW.used i (by omega), hW.rows i (by omega), hW.ints i (by omega), hW.short i (by omega), hW.off i (by omega)⟩
  · exact ⟨hW.used (i + 1) (by omega), hW.rows (i + 1) (by omega), hW.ints (i + 1) (by omega), hW.short (i + 1) (by omega), hW.off (i + 1) (by omega)⟩
/-- One entry more. -/
theorem RcAtP.more {W W' : World} {B : Nat} {pg sz tm : Int} {v v' : Value} {qs : List Hu} {es : List En} {base : Nat} (h : RcAtP P W B pg sz tm v qs es) (hb : Below W.heap.size W W') {ta : Option Addr} {tl tc : Nat} {x : List Int} {u : Int} (ho : W'.ownsRow base 48 2 v' (es.length + 1) (flatE qs ++ [.slice ta tl tc, .int .i64 u])) (hbase : W.heap.size ≤ base)
    (hx : Reads .i64 W' ta tl tc x) (hxa : BlN W' ta) (hxl : x.length ≤ 1000) (hf : es.length + 1 ≤ 1000) (hxo : ∀ p, ta = some p → P p.block) :
    RcAtP P (W'.setCell ⟨B, 3, none⟩ v') B pg sz tm v' (qs ++ [((ta, tl, tc), u)]) (es ++ [(x, u)]) ∧ KpI W (W'.setCell ⟨B, 3, none⟩ v') ∧ Fb (rcF B v) W (W'.setCell ⟨B, 3, none⟩ v') ∧ (∀ b, v'.ownBlock = some b → W.heap.size ≤ b) := by
  have hl := h.len
  have e1 : (es ++ [(x, u)]).length = es.length + 1 := by simp
  have e2 : flatE qs ++ [.slice ta tl tc, .int .i64 u] = flatE (qs ++ [((ta, tl, tc), u)]) := by rw [flatE_app]; rfl
  rw [e2] at ho
  refine h.list hb (by rw [e1]; exact ho) hbase (by simp [hl]) (fun i hi => ?_) (by omega)
  have hW := h.below hb
  rw [e1] at hi
  rw [qe_snoc _ _ _ (by omega), en_snoc _ _ _ (by omega), hl]
  split
  · exact ⟨hW.used i (by omega), hW.rows i (by omega), hW.ints i (by omega), hW.short i (by omega), hW.off i (by omega)⟩
  · exact ⟨rfl, hx, hxa, hxl, hxo⟩
end Go.Proofs.YtdomjdfancpbbaaGreat
