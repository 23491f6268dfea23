/-
  KvMath6: Mathematics of layer 14: Put as package kv does it: first all beginnings that are there are used, then the others are added behind them (PutB, PutI).
  KvW8: Package kv: the contract of Put over a cache as it lies.
  KvW9: Package kv: contracts of Clear and New over a cache as it lies, and of a cache that nobody made.
-/
import Derived.Test.YtjgggialnegddaaGreatPx33
import Derived.Lib.SliceRun
namespace Go.Proofs.YtjgggialnegddaaGreat
open Go.RowKit
set_option linter.unusedVariables false

theorem putK_used {pg tm : Int} {sz j0 : Nat} {ts : List Int} {es : List En} (hE : OkE sz es) (hz : 1 ≤ sz) (hf : Far (txs es) sz ts j0) : putK pg tm sz ts es j0 = (useK tm ts es es.length, 0, false) := by
  have hmul : ∀ i, i < es.length → ∃ a, 1 ≤ a ∧ (en es i).1.length = a * sz := fun i hi => hE.mult _ (mem_txs.2 ⟨i, hi, rfl⟩)
  have key : ∀ j, j ≤ j0 → (putK pg tm sz ts es j).2 = (0, false) ∧ (putK pg tm sz ts es j).1.length = es.length ∧ ∀ i, i < es.length → en (putK pg tm sz ts es j).1 i = if (en es i).1.length ≤ j * sz ∧ begB (en es i).1 ts = true then ((en es i).1, tm) else en es i := by
    intro j
    induction j with
    | zero =>
      intro _
      refine ⟨rfl, rfl, fun i hi => ?_⟩
      rw [if_neg]
      · rfl
      · intro h
        obtain ⟨a, a1, a2⟩ := hmul i hi
        have : 1 * sz ≤ a * sz := Nat.mul_le_mul_right _ a1
        omega
    | succ j ih =>
      intro hj
      obtain ⟨i1, i2, i3⟩ := ih (by omega)
      have hx := hf.take (i := j + 1) (by omega) hj
      obtain ⟨p, hp, hpx⟩ := mem_txs.1 hx
      have hle : (j + 1) * sz ≤ ts.length := Nat.le_trans (Nat.mul_le_mul_right _ hj) hf.le
      have hone : ∀ i, i < es.length → (en (putK pg tm sz ts es j).1 i).1 = (en es i).1 := fun i hi => by
        rw [i3 i hi]
        split <;> rfl
      have hpz : plcZ (putK pg tm sz ts es j).1 (ts.take ((j + 1) * sz)) = (p : Int) := plc_at (by rw [i2]; exact hp) (by rw [hone p hp]; exact hpx) fun q hq => by
        rw [hone q (by omega), ← hpx]
        intro e
        have := hE.inj (by omega) hp e
        omega
      obtain ⟨u1, u2⟩ := putK_use (by rw [i1]) rfl hpz
      rw [u1]
      refine ⟨by rw [i1], by rw [List.length_set]; exact i2, fun i hi => ?_⟩
      show en ((putK pg tm sz ts es j).1.set p _) i = _
      rw [en_set u2]
      by_cases e : i = p
      · subst e
        rw [if_pos rfl, if_pos]
        · rw [hone i hi]
        · rw [hpx]
          exact ⟨by rw [List.length_take]; omega, begB_take _⟩
      · rw [if_neg e, i3 i hi]
        have hiff : ((en es i).1.length ≤ j * sz ∧ begB (en es i).1 ts = true) ↔ ((en es i).1.length ≤ (j + 1) * sz ∧ begB (en es i).1 ts = true) := by
          constructor
          · rintro ⟨h1, h2⟩
            exact ⟨Nat.le_trans h1 (Nat.mul_le_mul_right _ (by omega)), h2⟩
          · rintro ⟨h1, h2⟩
            refine ⟨?_, h2⟩
            obtain ⟨a, a1, a2⟩ := hmul i hi
            rw [a2] at h1 ⊢
            have ha : a ≤ j + 1 := Nat.le_of_mul_le_mul_right h1 (by omega)
            rcases Nat.lt_or_ge a (j + 1) with hl | hl
            · exact Nat.mul_le_mul_right _ (by omega)
            · exfalso
              have hq := begB_eq h2
              rw [a2, show a = j + 1 by omega, ← hpx] at hq
              exact e (hE.inj hi hp hq)
        by_cases hc : (en es i).1.length ≤ j * sz ∧ begB (en es i).1 ts = true
        · rw [if_pos hc, if_pos (hiff.1 hc)]
        · rw [if_neg hc, if_neg fun h => hc (hiff.2 h)]
  obtain ⟨k1, k2, k3⟩ := key j0 (Nat.le_refl _)
  have h1 : (putK pg tm sz ts es j0).1 = useK tm ts es es.length := by
    refine en_ext (by rw [k2, useK_len]) fun i hi => ?_
    rw [k2] at hi
    rw [k3 i hi, useK_at _ _ hi]
    have hiff : ((en es i).1.length ≤ j0 * sz ∧ begB (en es i).1 ts = true) ↔ (i < es.length ∧ begB (en es i).1 ts = true) := by
      refine ⟨fun h => ⟨hi, h.2⟩, fun h => ⟨?_, h.2⟩⟩
      obtain ⟨a, a1, a2⟩ := hmul i hi
      have hq := begB_eq h.2
      have hl : (en es i).1.length ≤ ts.length := (begB_iff.1 h.2).1
      rw [a2] at hq hl ⊢
      have := (hf.iff a a1 hl).1 (by rw [← hq]; exact mem_txs.2 ⟨i, hi, rfl⟩)
      exact Nat.mul_le_mul_right _ this
    by_cases hc : (en es i).1.length ≤ j0 * sz ∧ begB (en es i).1 ts = true
    · rw [if_pos hc, if_pos (hiff.1 hc)]
    · rw [if_neg hc, if_neg fun h => hc (hiff.2 h)]
  exact Prod.ext h1 k1
/-- Before Put: the time has gone on already. -/
structure PutB (pg : Nat) (tm : Int) (sz : Nat) (ts : List Int) (es : List En) (j0 : Nat) : Prop where
  e : OkE sz es
  v : OkV tm ts es
  t : 0 ≤ tm
  z : 1 ≤ sz
  far : Far (txs es) sz ts j0
  few : es.length ≤ pg
/-- In the midst of Put. -/
structure PutI (pg : Nat) (tm : Int) (sz : Nat) (ts : List Int) (es : List En) (j : Nat) (E : List En) : Prop where
  eq : (putK pg tm sz ts es j).1 = E
  go : (putK pg tm sz ts es j).2.2 = false
  now : ∀ e ∈ E, begB e.1 ts = true → e.2 = tm
section
variable {pg : Nat} {tm : Int} {sz j0 : Nat} {ts : List Int} {es E : List En} {j : Nat}
theorem PutB.start (b : PutB pg tm sz ts es j0) : PutI pg tm sz ts es j0 (useK tm ts es es.length) := by
  have h := putK_used (pg := (pg : Int)) (tm := tm) b.e b.z b.far
  refine ⟨by rw [h], by rw [h], fun e he hb => ?_⟩
  obtain ⟨i, hi, rfl⟩ := mem_en he
  rw [useK_len] at hi
  rw [useK_at _ _ hi] at hb ⊢
  split
  · rfl
  · rename_i hn
    rw [if_neg hn] at hb
    exact absurd ⟨hi, hb⟩ hn
theorem PutI.facts (b : PutB pg tm sz ts es j0) (i : PutI pg tm sz ts es j E) (hj : j * sz ≤ ts.length) (h0 : j0 ≤ j) : OkE sz E ∧ OkV tm ts E ∧ Far (txs E) sz ts j ∧ E.length ≤ pg ∧ (putK pg tm sz ts es j).2.1 = ((j - j0 : Nat) : Int) := by
  obtain ⟨m, m1, m2, m3, m4, m5, m6, m7⟩ := putK_ok (pg := (pg : Int)) (tm := tm) b.e b.z b.v b.t b.far.iff j hj
  obtain rfl := m2 i.go
  rw [i.eq] at m4 m5 m6
  have := putK_len (pg := (pg : Int)) (tm := tm) (sz := sz) (ts := ts) (es := es) (by have := b.few; omega) m
  rw [i.eq] at this
  exact ⟨m4, m5, ⟨hj, fun k k1 k2 => (m6 k k1 k2).trans ⟨fun h => by omega, fun h => .inr h⟩⟩, by omega, m7⟩
theorem PutI.add (i : PutI pg tm sz ts es j E) (hx : ts.take ((j + 1) * sz) ∉ txs E) (hl : E.length < pg) : PutI pg tm sz ts es (j + 1) (E ++ [(ts.take ((j + 1) * sz), tm)]) ∧ (putK pg tm sz ts es (j + 1)).2.1 = (putK pg tm sz ts es j).2.1 + 1 := by
  have hp : plcZ E (ts.take ((j + 1) * sz)) < 0 := by
    rcases Int.lt_or_le (plcZ E (ts.take ((j + 1) * sz))) 0 with h | h
    · exact h
    · exact absurd (plcZ_mem.1 h) hx
  have h := putK_add i.go i.eq hp (by omega)
  refine ⟨⟨by rw [h], by rw [h], fun e he hb => ?_⟩, by rw [h]⟩
  rcases List.mem_append.1 he with h1 | h1
  · exact i.now e h1 hb
  · rw [List.mem_singleton] at h1
    rw [h1]
theorem PutI.swap (i : PutI pg tm sz ts es j E) (hx : ts.take ((j + 1) * sz) ∉ txs E) (hl : E.length = pg) {o : Nat} (ho : oldK E ts E.length = (o : Int)) : PutI pg tm sz ts es (j + 1) (E.eraseIdx o ++ [(ts.take ((j + 1) * sz), tm)]) ∧ (putK pg tm sz ts es (j + 1)).2.1 = (putK pg tm sz ts es j).2.1 + 1 := by
  have hp : plcZ E (ts.take ((j + 1) * sz)) < 0 := by
    rcases Int.lt_or_le (plcZ E (ts.take ((j + 1) * sz))) 0 with h | h
    · exact h
    · exact absurd (plcZ_mem.1 h) hx
  have h := putK_swap i.go i.eq hp (by omega) ho
  refine ⟨⟨by rw [h], by rw [h], fun e he hb => ?_⟩, by rw [h]⟩
  rcases List.mem_append.1 he with h1 | h1
  · obtain ⟨q, q1, _, rfl⟩ := mem_erase.1 h1
    exact i.now _ (en_mem q1) hb
  · rw [List.mem_singleton] at h1
    rw [h1]
theorem PutI.stop (i : PutI pg tm sz ts es j E) (hx : ts.take ((j + 1) * sz) ∉ txs E) (hl : E.length = pg) (ho : oldK E ts E.length < 0) : putK pg tm sz ts es (j + 1) = (E, (putK pg tm sz ts es j).2.1, true) := by
  have hp : plcZ E (ts.take ((j + 1) * sz)) < 0 := by
    rcases Int.lt_or_le (plcZ E (ts.take ((j + 1) * sz))) 0 with h | h
    · exact h
    · exact absurd (plcZ_mem.1 h) hx
  exact putK_stop i.go i.eq hp (by omega) ho
/-- Behind add: what Put has left. -/
theorem PutI.no (b : PutB pg tm sz ts es j0) (i : PutI pg tm sz ts es j E) (hj : (j + 1) * sz ≤ ts.length) (h0 : j0 ≤ j) {us : List Int → Int} (hu : ∀ e ∈ E, us e.1 = e.2) (hl : (txs E).length = pg) (ho : ∀ y ∈ txs E, lfB (txs E) sz y = true → tm ≤ us y) : putK pg tm sz ts es (j + 1) = (E, (putK pg tm sz ts es j).2.1, true) := by
  have hjl : j * sz ≤ ts.length := Nat.le_trans (Nat.mul_le_mul_right _ (by omega)) hj
  obtain ⟨f1, f2, f3, f4, f5⟩ := i.facts b hjl h0
  rw [txs_len] at hl
  refine i.stop (fun hm => by have := (f3.iff (j + 1) (by omega) hj).1 hm; omega) hl ?_
  rcases oldK_go E ts E.length with ⟨h1, _⟩ | ⟨o, h1, h2, h3, _⟩
  · exact h1
  · exfalso
    obtain ⟨g1, g2⟩ := goB_iff.1 h3
    have hmem : (en E o).1 ∈ txs E := mem_txs.2 ⟨o, h2, rfl⟩
    have h4 := ho _ hmem (lfB_iff.2 ((f1.leaf b.z h2).1 g1))
    rw [hu _ (en_mem h2)] at h4
    have h5 := (f2.bd _ (en_mem h2)).2
    have h6 := f2.now _ (en_mem h2) (by omega)
    rw [g2] at h6
    cases h6
theorem PutI.yes (b : PutB pg tm sz ts es j0) (i : PutI pg tm sz ts es j E) (hj : (j + 1) * sz ≤ ts.length) (h0 : j0 ≤ j) {L : Lay} (hu : ∀ e ∈ E, L.us e.1 = e.2) {T1 : List (List Int)} (hc : RoomC L pg sz tm (txs E) T1) (hl : T1.length < pg) :
    ∃ E', PutI pg tm sz ts es (j + 1) E' ∧ (putK pg tm sz ts es (j + 1)).2.1 = (putK pg tm sz ts es j).2.1 + 1 ∧ (∀ y, y ∈ T1 ++ [ts.take ((j + 1) * sz)] ↔ y ∈ txs E') ∧ ∀ us : List Int → Int, (∀ z, z ≠ ts.take ((j + 1) * sz) → us z = L.us z) → us (ts.take ((j + 1) * sz)) = tm → ∀ e ∈ E', us e.1 = e.2 := by
  have hjl : j * sz ≤ ts.length := Nat.le_trans (Nat.mul_le_mul_right _ (by omega)) hj
  obtain ⟨f1, f2, f3, f4, f5⟩ := i.facts b hjl h0
  have hx : ts.take ((j + 1) * sz) ∉ txs E := fun hm => by have := (f3.iff (j + 1) (by omega) hj).1 hm; omega
  have hus : ∀ e ∈ E, ∀ us : List Int → Int, (∀ z, z ≠ ts.take ((j + 1) * sz) → us z = L.us z) → us e.1 = e.2 := fun e he us h1 => by
    rw [h1 e.1 fun e2 => hx (by rw [← e2]; obtain ⟨q, q1, rfl⟩ := mem_en he; exact mem_txs.2 ⟨q, q1, rfl⟩)]
    exact hu e he
  rcases hc with ⟨h1, e⟩ | ⟨h1, ho, e⟩ | ⟨h1, y, hy, hly, hyu, ho, e⟩
  · subst e
    rw [txs_len] at h1
    obtain ⟨k1, k2⟩ := i.add hx h1
    refine ⟨_, k1, k2, fun y => ?_, fun us u1 u2 e he => ?_⟩
    · unfold txs
      rw [List.map_append]
      rfl
    · rcases List.mem_append.1 he with h3 | h3
      · exact hus e h3 us u1
      · rw [List.mem_singleton] at h3
        rw [h3]
        exact u2
  · subst e; omega
  · subst e
    rw [txs_len] at h1
    obtain ⟨q, q1, rfl⟩ := mem_txs.1 hy
    rw [hu _ (en_mem q1)] at hyu
    have hlf := (f1.leaf b.z q1).2 (lfB_iff.1 hly)
    have hgo : goB E ts q = true := goB_iff.2 ⟨hlf, by
      rw [Bool.eq_false_iff]
      intro hb
      have := i.now _ (en_mem q1) hb
      omega⟩
    have hold := oldK_one f2.u q1 hgo fun p p1 p2 => by
      have := ho _ (mem_txs.2 ⟨p, p1, rfl⟩) (lfB_iff.2 ((f1.leaf b.z p1).1 (goB_iff.1 p2).1))
      rw [hu _ (en_mem q1), hu _ (en_mem p1)] at this
      exact this
    obtain ⟨k1, k2⟩ := i.swap hx h1 hold
    refine ⟨_, k1, k2, fun y => ?_, fun us u1 u2 e he => ?_⟩
    · rw [List.mem_append, List.mem_singleton, mem_rmv]
      unfold txs
      rw [List.map_append, List.mem_append]
      have := (f1.erase q1 hlf).2 y
      unfold txs at this
      rw [this]
      simp
    · rcases List.mem_append.1 he with h3 | h3
      · obtain ⟨p, p1, _, rfl⟩ := mem_erase.1 h3
        exact hus _ (en_mem p1) us u1
      · rw [List.mem_singleton] at h3
        rw [h3]
        exact u2
end
end Go.Proofs.YtjgggialnegddaaGreat
namespace Go.Proofs.YtjgggialnegddaaGreat
open Go.RowKit Go.Maps
set_option linter.unusedVariables false
set_option maxRecDepth 1000000

/-- A copy of a list of ints lies in memory of its own. -/
theorem cloneI_new (ad : Addr) (n cap : Nat) (xs : List Int) (w : World) (ha : Reads .i64 w (some ad) n cap xs) (hn : n ≤ 1000) :
    Calls Tryz.prog 64 #[.slice (some ad) n cap] w fun e w' => ∃ a cap, e = .returned (.slice a n cap) ∧ Reads .i64 w' a n cap xs ∧ (∀ p, a = some p → w.heap.size ≤ p.block ∧ p.block < w'.heap.size) ∧ Below w.heap.size w w' := by
  obtain ⟨i0, hi, hz0, hz1, hz2⟩ := info_parts Tryz.info3
  have heq : ∀ W : World, (binOp .eql 41 (.slice (some ad) n cap) (.slice none 0 0)).run Tryz.prog W = .ok (.bool false) W := fun W => Lib.run_eql_slice_nil W _ _ (some ad) n cap 0 0 Tryz.underlying41
  have HA := hid ha
  have HB : Hid (Below w.heap.size w (w.alloc (.cells #[] 3))) := (Below.refl _ _).alloc (Nat.le_refl _) _
  have HO : Hid ((w.alloc (.cells #[] 3)).ownsRow w.heap.size 3 1 (.slice (some ⟨w.heap.size, 0, none⟩) 0 0) 0 (([] : List Int).map (Value.int .i64))) :=
    World.ownsRow_lit (base := w.heap.size) (e := 3) (size := 1) w #[] 0 (Nat.le_refl _) (by unfold maxLen; omega) (by simp)
  clear ha
  go_enter Tryz.func64, Tryz.ntmps64
  go_wp2_with (at_builtin; refine append_any _ rfl (.tmp 5) (.tmp 6) 41 rfl w.heap.size 3 i0 (.int .i64 0) 8 Tryz.underlying41 hi hz0 hz1 hz2 rfl .i64 _ 0 [] rfl HO.out (some ad) n cap xs rfl (HA.out.below HB.out) (by omega) (by omega) HB.out.size ?_; intro v' w3 hO3 hb3)
  rw [Nat.zero_add, List.nil_append] at hO3
  obtain ⟨a0, c0, e0, _, _, hl0, _⟩ := own_slc hO3
  obtain ⟨a3, c3, rfl, hr3⟩ := Reads.own (k := .i64) hO3
  cases e0
  have HL := hid hl0
  have HR3 := hid hr3
  have HB3 := hid (HB.out.trans hb3)
  clear hO3 hb3 HA HB HO hr3 hl0
  go_wp2
  go_ret
  exact ⟨_, _, rfl, HR3.out, HL.out, HB3.out⟩
theorem dtok_new {p : Option Addr} {c : Cf} {ts : List Int} {tb : Option Addr} (w : World) (hs : StT w p c ts tb) :
    Calls Tryz.prog 83 #[.pointer p] w fun e w' => ∃ a cap, e = .returned (.slice a ts.length cap) ∧ Reads .i64 w' a ts.length cap ts ∧ (∀ p, a = some p → w.heap.size ≤ p.block ∧ p.block < w'.heap.size) ∧ Below w.heap.size w w' := by
  obtain ⟨g, pm, tc, ha, hc, pq, rfl, h, _, h1, hm⟩ := hs
  obtain ⟨b, off, rfl, _⟩ := h.tk.cell 0 (by omega)
  have hC := cloneI_new _ ts.length tc ts w h.tk (by omega)
  obtain ⟨c0, c1, c2, c3⟩ := h.cells
  clear h hm h1
  generalize ts.length = n at *
  go_enter Tryz.func83, Tryz.ntmps83
  go_wp2_with fail
  refine hC.mono ?_
  rintro e w1 ⟨a1, d1, rfl, hr, hl, hb⟩
  have HR := hid hr
  have HL := hid hl
  have HB := hid hb
  clear hC hr hb c0 c1 c2 c3 hl
  go_wp2
  go_ret
  exact ⟨_, _, rfl, HR.out, HL.out, HB.out⟩
theorem dtok_nil2 (w : World) : Calls Tryz.prog 83 #[.pointer none] w fun e w' => e = .returned (.slice none 0 0) ∧ Below w.heap.size w w' := by
  go_enter Tryz.func83, Tryz.ntmps83
  go_wp2
  go_ret
  exact ⟨rfl, Below.refl _ _⟩
section
variable {B bb r : Nat} {pp : Option Addr} {L : Lay} {c : Cf} {pg sz : Nat} {tm : Int} {T : List (List Int)}
/-- The same entries in another order. -/
theorem KvB.congr {W : World} {T2 : List (List Int)} (h : KvB W B bb r pp L c pg sz tm T) (hT : ∀ y, y ∈ T ↔ y ∈ T2) : KvB W B bb r pp L c pg sz tm T2 := by
  have hI : ∀ y, InT T2 y → InT T y := fun y hy => hy.elim .inl fun h' => .inr ((hT y).2 h')
  refine ⟨h.var, h.root, h.pool, h.hsl, fun k hk => ?_, fun y hy => h.pgb y ((hT y).2 hy), fun y hy z hz => h.pgi y ((hT y).2 hy) z ((hT z).2 hz), h.row, fun y hy => h.at' y ((hT y).2 hy), ⟨fun y hy => h.tree.node y (hI y hy), fun y hy => (h.tree.map y (hI y hy)).ext fun v l hv => chF_ext fun ch hc _ => ⟨hT _, fun _ => rfl⟩, fun y z hy hz => h.tree.ndi y z (hI y hy) (hI z hz), fun y z hy hz => h.tree.mpi y z (hI y hy) (hI z hz)⟩, fun y hy => h.sts y ((hT y).2 hy), fun y hy => h.tok y ((hT y).2 hy)⟩
  rcases h.held k hk with ⟨h1, h2⟩ | ⟨h1, y, hy, h2⟩
  · exact .inl ⟨h1, fun y hy => h2 y ((hT y).2 hy)⟩
  · exact .inr ⟨h1, y, (hT y).1 hy, h2⟩
theorem ftB_congr {T2 : List (List Int)} (hT : ∀ y, y ∈ T ↔ y ∈ T2) {k : Nat} (h : ftB B bb L T2 k) : ftB B bb L T k := by
  rcases h with h' | h' | h' | ⟨y, hy, h'⟩
  · exact .inl h'
  · exact .inr (.inl h')
  · exact .inr (.inr (.inl h'))
  · exact .inr (.inr (.inr ⟨y, hy.elim .inl fun h'' => .inr ((hT y).2 h''), h'⟩))
/-- Behind Put. -/
def PutG (w : World) (B bb r : Nat) (pp : Option Addr) (L : Lay) (c : Cf) (pg sz : Nat) (t2 : Int) (T : List (List Int)) (tb : Option Addr) (R : List En × Int × Bool) (w' : World) : Prop :=
  ∃ L' : Lay, KvB w' B bb r pp L' c pg sz t2 (txs R.1) ∧ (∀ e ∈ R.1, L'.us e.1 = e.2) ∧ L'.mx ≤ L.mx + 256 ∧ (∀ k, ftB B bb L' (txs R.1) k → ftB B bb L T k ∨ w.heap.size ≤ k) ∧ Fb (ftB B bb L T) w w' ∧ ∀ x ∈ txs R.1, ∀ k, mF (L'.ta x) k → (∃ y ∈ T, mF (L.ta y) k) ∨ mF tb k ∨ w.heap.size ≤ k
/-- What the rounds of Put carry. -/
structure PutW (w : World) (B bb r : Nat) (pp : Option Addr) (L : Lay) (c : Cf) (pg sz : Nat) (t2 : Int) (T : List (List Int)) (q : Option Addr) (ts : List Int) (tb a : Option Addr) (cap bc : Nat) (E : List En) (W : World) (L' : Lay) : Prop where
  kv : KvB W B bb r pp L' c pg sz t2 (txs E)
  us : ∀ e ∈ E, L'.us e.1 = e.2
  mx : L'.mx = L.mx + bc
  ft : ∀ k, ftB B bb L' (txs E) k → ftB B bb L T k ∨ w.heap.size ≤ k
  fb : Fb (ftB B bb L T) w W
  st : StT W q c ts tb
  ta : ∀ k, mF tb k → ¬ L'.Fp k
  rd : Reads .i64 W a ts.length cap ts
  ao : ∀ p, a = some p → ¬ ftB B bb L' (txs E) p.block ∧ p.block < W.heap.size
  it : ∀ x ∈ txs E, ∀ k, mF (L'.ta x) k → (∃ y ∈ T, mF (L.ta y) k) ∨ mF tb k ∨ w.heap.size ≤ k
theorem PutW.below {w W W' : World} {t2 : Int} {q : Option Addr} {ts : List Int} {tb a : Option Addr} {cap bc : Nat} {E : List En} {L' : Lay} (h : PutW w B bb r pp L c pg sz t2 T q ts tb a cap bc E W L') (hb : Below W.heap.size W W') : PutW w B bb r pp L c pg sz t2 T q ts tb a cap bc E W' L' :=
  ⟨h.kv.below hb, h.us, h.mx, h.ft, h.fb.below hb, h.st.below hb, h.ta, h.rd.below hb, fun p hp => ⟨(h.ao p hp).1, Nat.lt_of_lt_of_le (h.ao p hp).2 hb.size⟩, h.it⟩
theorem PutW.next {w W W' : World} {t2 : Int} {q : Option Addr} {ts : List Int} {tb a : Option Addr} {cap bc : Nat} {E E' : List En} {L' L2 : Lay} (h : PutW w B bb r pp L c pg sz t2 T q ts tb a cap bc E W L') {T2 : List (List Int)} (hk : KvB W' B bb r pp L2 c pg sz t2 T2) (hF : ∀ k, ftB B bb L2 T2 k → ftB B bb L' (txs E) k ∨ W.heap.size ≤ k) (hb : Fb (ftB B bb L' (txs E)) W W') (hT : ∀ y, y ∈ T2 ↔ y ∈ txs E') (hu : ∀ e ∈ E', L2.us e.1 = e.2) (hm : L2.mx = L'.mx + 1) (hta : ∀ z ∈ T2, ∀ k, mF (L2.ta z) k → (∃ y ∈ txs E, mF (L'.ta y) k) ∨ mF tb k ∨ w.heap.size ≤ k) : PutW w B bb r pp L c pg sz t2 T q ts tb a cap (bc + 1) E' W' L2 := by
  have hs := h.fb.size
  refine ⟨hk.congr hT, hu, by rw [hm, h.mx]; omega, fun k hk' => ?_, h.fb.trans hb h.ft, StT.fbF h.kv hb (fun k hk => .inl hk) h.st h.ta, fun k hk' hf => ?_, h.rd.same fun x hx => ?_, fun p hp => ⟨fun hf => ?_, Nat.lt_of_lt_of_le (h.ao p hp).2 hb.size⟩, fun z hz k hk' => (hta z ((hT z).2 hz) k hk').elim (fun ⟨y, hy, h'⟩ => h.it y hy k h') .inr⟩
  · rcases hF k (ftB_congr hT hk') with h' | h'
    · exact h.ft k h'
    · exact .inr (by omega)
  · rcases hF k (.inr (.inr (.inl hf))) with h' | h'
    · exact h.kv.taft h.st h.ta hk' h'
    · have := h.st.lt hk'
      omega
  · obtain ⟨p, hp, rfl⟩ := hx
    exact hb.block _ (h.ao p hp).2 (h.ao p hp).1
  · rcases hF _ (ftB_congr hT hf) with h' | h'
    · exact (h.ao p hp).1 h'
    · have := (h.ao p hp).2
      omega
theorem OkK.putB {es : List En} (h : OkK pg sz tm es) (ts : List Int) {j0 : Nat} (hf : Far (txs es) sz ts j0) : PutB pg (tm + 1) sz ts es j0 := ⟨h.e, h.u.next h.t ts, by have := h.t; omega, h.z.1, hf, h.few⟩
set_option maxHeartbeats 4000000 in
theorem kput_in {w : World} {es : List En} (h : KvB w B bb r pp L c pg sz tm (txs es)) (ho : OkK pg sz tm es) (hu : ∀ e ∈ es, L.us e.1 = e.2) (hm : mayB c = true) (ht1 : tm ≤ 100000) (hmx : L.mx ≤ 50000000) (q : Option Addr) (ts : List Int) (tb : Option Addr) (hs : StT w q c ts tb) (hta : ∀ k, mF tb k → ¬ L.Fp k) (hk : Tk ts) :
    Calls Tryz.prog 59 #[.pointer (some ⟨B, 0, none⟩), .pointer q] w fun e w' => e = .returned (.int .i64 (putK pg (tm + 1) sz ts es (ts.length / sz)).2.1) ∧ PutG w B bb r pp L c pg sz (tm + 1) (txs es) tb (putK pg (tm + 1) sz ts es (ts.length / sz)) w' := by
  have hz := ho.z
  have ht0 := ho.t
  obtain ⟨j0, hj1, hj2⟩ := ho.e.was hz.1 ts
  have hF : Far (txs es) sz ts j0 := ⟨hj1, hj2⟩
  have hB := ho.putB ts hF
  obtain ⟨t2, ht2⟩ : ∃ t2, tm + 1 = t2 := ⟨_, rfl⟩
  have hM := kmade_yes h
  have hTk := dtok_new w hs
  obtain ⟨nt, hnt⟩ : ∃ nt, ts.length = nt := ⟨_, rfl⟩
  have hn1 : 1 ≤ nt := by obtain ⟨_, _, _, _, _, _, _, _, _, h1, _⟩ := hs; omega
  have hn2 : nt ≤ 256 := by obtain ⟨_, _, _, _, _, _, _, _, _, _, h1⟩ := hs; omega
  have HUse := hid fun (W : World) (hb : Below w.heap.size w W) (a : Option Addr) (cap : Nat) (hr : Reads .i64 W a nt cap ts) (hap : ∀ q, a = some q → ¬ ftB B bb L (txs es) q.block) => kuse_any (h.below hb) hz ht0 ht1 a nt cap ts hr hk hn2 hap hF
  rw [ht2] at hB HUse ⊢
  rw [hnt] at hTk hj1 ⊢
  have HK := hid h
  have HNt := hid hnt
  have HB := hid hB
  have HS := hid hs
  have HTa := hid hta
  have HTk := hid hk
  have HU := hid hu
  have HMay := hid hm
  have hj3 : j0 ≤ 256 := Nat.le_trans (Nat.le_trans (Nat.le_mul_of_pos_right _ (by omega)) hj1) hn2
  clear h ho hu hs hta hk hF hB hj2 ht2 hnt hm
  go_enter Tryz.func59, Tryz.ntmps59
  go_wp2_with fail
  refine hM.mono ?_
  rintro e w' ⟨rfl, rfl⟩
  clear hM
  go_wp2_with fail
  refine hTk.mono ?_
  rintro e w1 ⟨a, cap, rfl, hr, hl, hb⟩
  have r1 := hr.room
  have m1 := hr.most
  have hao : ∀ p, a = some p → ¬ ftB B bb L (txs es) p.block := fun p hp hf => by
    have := HK.out.old _ hf
    have := (hl p hp).1
    omega
  have hUse := HUse.out w1 hb a cap hr hao
  have HR1 := hid hr
  have HL1 := hid hl
  have HAo := hid hao
  have HB1 := hid hb
  clear hr hl hb hao hTk HUse
  go_wp2_with fail
  refine hUse.mono ?_
  rintro e w2 ⟨rfl, us, hK, hUs, hF⟩
  have HW : Hid (PutW w B bb r pp L c pg sz t2 (txs es) q ts tb a cap 0 (useK t2 ts es es.length) w2 { L with us := us }) := by
    refine ⟨by rw [txs_use]; exact hK, fun e he => ?_, rfl, fun k hk => .inl (by rw [txs_use] at hk; exact hk), (Fb.of HB1.out).trans hF fun k hk => .inl hk, StT.fbF (HK.out.below HB1.out) hF (fun k hk => .inl hk) (HS.out.below HB1.out) HTa.out, HTa.out, by rw [HNt.out]; exact HR1.out.same (fun x ⟨p, hp, e⟩ => by rw [← e]; exact hF.block _ (HL1.out p hp).2 (HAo.out p hp)), fun p hp => ⟨by rw [txs_use]; exact HAo.out p hp, Nat.lt_of_lt_of_le (HL1.out p hp).2 hF.size⟩, fun z hz k hk => .inl ⟨z, by rw [txs_use] at hz; exact hz, hk⟩⟩
    obtain ⟨i, hi, rfl⟩ := mem_en he
    rw [useK_len] at hi
    rw [useK_at _ _ hi]
    have hmem : (en es i).1 ∈ txs es := mem_txs.2 ⟨i, hi, rfl⟩
    obtain ⟨al, a1, a2⟩ := HB.out.e.mult _ hmem
    split
    · rename_i hc
      show us (en es i).1 = t2
      have hq := begB_eq hc.2
      have hle := (begB_iff.1 hc.2).1
      rw [a2] at hq hle
      have := (HB.out.far.iff al a1 hle).1 (by rw [← hq]; exact hmem)
      rw [hq]
      exact hUs.now al a1 this
    · rename_i hc
      show us (en es i).1 = (en es i).2
      rw [hUs.rest (en es i).1 fun k k1 k2 e => hc ⟨hi, by rw [e]; exact begB_take _⟩]
      exact HU.out _ (en_mem hi)
  have c0 := hK.cells.1
  obtain ⟨p0, hp0⟩ : ∃ p0, j0 * sz = p0 := ⟨_, rfl⟩
  have HP0 := hid hp0.symm
  rw [hp0] at hj1 ⊢
  obtain ⟨n0, hn0⟩ : ∃ n0, p0 + sz = n0 := ⟨_, rfl⟩
  have HN0 := hid hn0.symm
  have hsum : (p0 : Int) + (sz : Int) = (n0 : Int) := by omega
  clear hK hUs hF hUse HR1 HL1 HAo HB1 HS HTa HU HK hp0 hn0
  have HI := hid HB.out.start
  go_wp2_with fail
  go_loopw [6, 7, 8] (fun x y z W => ∃ (j p n bc : Nat) (E : List En) (L' : Lay), Hid (p = j * sz) ∧ Hid (n = p + sz) ∧ Hid (j = j0 + bc) ∧ j ≤ 256 ∧ bc ≤ 256 ∧ p ≤ nt ∧ x = .pointer (some ⟨L'.nd (ts.take p), 0, none⟩) ∧ y = .int .i64 n ∧ z = .int .i64 bc ∧ Hid (PutI pg t2 sz ts es j E) ∧ Hid (PutW w B bb r pp L c pg sz t2 (txs es) q ts tb a cap bc E W L')) (fun _ y _ _ => nt + 17 - (intOf y).toNat)
  case atStart => exact ⟨j0, p0, n0, 0, _, { L with us := us }, HP0, HN0, by unfold Hid; omega, by omega, by omega, by omega, rfl, rfl, rfl, HI, HW⟩
  case round =>
  obtain ⟨j, p, n, bc, E, L', HP, HN, HJ, hj, hbc, hp, rfl, rfl, rfl, HPi, HPw⟩ := hrel
  rename World => wr
  clear c0 hsum HP0 HN0 HW HI
  have hnb : n ≤ nt + 16 := by have := HN.out; omega
  obtain ⟨F1, F2, F3, F4, F5⟩ := HPi.out.facts HB.out (by rw [HNt.out, ← HP.out]; exact hp) (by have := HJ.out; omega)
  have HF5 : Hid ((bc : Int) = (putK pg t2 sz ts es j).2.1) := by unfold Hid; rw [F5]; have := HJ.out; omega
  by_cases hle : n ≤ nt
  · have q1 : (n : Int) ≤ (nt : Int) := by omega
    have hrd := HPw.out.rd
    rw [HNt.out] at hrd
    obtain ⟨b, off, hab, _⟩ := hrd.cell 0 (by omega)
    subst hab
    have hpn : p + sz = n := HN.out.symm
    have hsub : (n : Int) - (sz : Int) = (p : Int) := by omega
    have s1 : (0 : Int) ≤ (p : Int) := by omega
    have s2 : (p : Int) ≤ (n : Int) := by omega
    have s3 : (n : Int) ≤ (cap : Int) := by omega
    have hcp : ¬ cap = p := by omega
    have hp3 : n - p = sz := by omega
    have hcl : (chunk sz j ts).length = sz := chunk_len (by rw [HNt.out, Nat.succ_mul, ← HP.out]; omega)
    have hch : (ts.drop p).take sz = chunk sz j ts := by unfold chunk; rw [HP.out]
    have hnj : n = (j + 1) * sz := by rw [← hpn, HP.out, Nat.succ_mul]
    have htc : ts.take n = ts.take p ++ chunk sz j ts := by rw [HP.out, take_chunk, ← hnj]
    have hI : InT (txs E) (ts.take p) := by rw [HP.out]; exact F3.inT (Nat.le_refl _)
    have hxT : ts.take n ∉ txs E := fun e => by
      have := (F3.iff (j + 1) (by omega) (by rw [← hnj, HNt.out]; exact hle)).1 (by rw [← hnj]; exact e)
      omega
    have hnow : ts.take p ∈ txs E → L'.us (ts.take p) = t2 := fun e => by
      obtain ⟨i, hi, e2⟩ := mem_txs.1 e
      rw [← e2, HPw.out.us _ (en_mem hi)]
      exact HPi.out.now _ (en_mem hi) (by rw [e2]; exact begB_take _)
    have hKey := kkey_any (some ⟨b, off + p, none⟩) sz (cap - p) _ wr (hrd.part (by omega) (by omega)) hz.2
    rw [hch] at hKey
    have HAdd := hid fun (W : World) (hb : Below wr.heap.size wr W) (q' ta' : Option Addr) (hst : StT W q' c (ts.take n) ta') (hta : ∀ k, mF ta' k → ¬ L'.Fp k) => kadd_any (HPw.out.kv.below hb) hz F1.one (by rw [txs_len]; exact F4) F1.cls htc hcl hI hnow hxT (HTk.out.take _) hst hta (by rw [HPw.out.mx]; omega)
    have HCut := hid fun (W : World) (hb : Below wr.heap.size wr W) => dcut_T (HPw.out.st.below hb) HMay.out (n := n) (by omega) (by rw [HNt.out]; exact hle)
    have HTaF : Hid (∀ (W : World) (ta' : Option Addr), Below wr.heap.size wr W → (∀ k, mF ta' k → mF tb k ∨ W.heap.size ≤ k) → ∀ k, mF ta' k → ¬ L'.Fp k) := fun W ta' hb h1 k hk hf => by
      rcases h1 k hk with h' | h'
      · exact HPw.out.ta k h' hf
      · have := HPw.out.kv.old k (.inr (.inr (.inl hf)))
        have := hb.size
        omega
    have HNj := hid hnj
    have c0 := HPw.out.kv.cells.1
    have hn256 : j + 1 ≤ 256 := Nat.le_trans (Nat.le_mul_of_pos_right _ (show 0 < sz by omega)) (by rw [← hnj]; omega)
    have HFs := hid (And.intro F1 (And.intro F2 F3))
    clear F1 F2 F3 F4 F5 hrd hcl hch htc hI hxT hnow hnj HTk
    generalize hkv : keyV (chunk sz j ts) = kvv at *
    go_wp2_with fail
    refine hKey.mono ?_
    rintro e w4 ⟨rfl, hb⟩
    have HV4 := hid hb
    clear hb hKey
    go_wp2_with fail
    refine (HCut.out _ HV4.out).mono ?_
    rintro e w5 ⟨q', ta', rfl, hst, hta, hb⟩
    have HV5 := hid (HV4.out.trans (hb.mono HV4.out.size))
    have hAdd := HAdd.out w5 HV5.out q' ta' hst (HTaF.out w4 ta' HV4.out hta)
    have HTp : Hid (∀ k, mF ta' k → mF tb k ∨ w.heap.size ≤ k) := fun k hk => (hta k hk).elim .inl fun h' => .inr (Nat.le_trans (Nat.le_trans HPw.out.fb.size HV4.out.size) h')
    clear hst hta hb HCut HAdd HTaF HV4 c0
    have HPw5 := hid (HPw.out.below HV5.out)
    have hjl : (j + 1) * sz ≤ ts.length := by rw [← HNj.out, HNt.out]; exact hle
    have hjj : j0 ≤ j := by have := HJ.out; omega
    have HNo : Hid (∀ (L6 : Lay) (w6 : World), (txs E).length = pg → (∀ y ∈ txs E, lfB (txs E) sz y = true → t2 ≤ L'.us y) → KvB w6 B bb r pp L6 c pg sz t2 (txs E) → (∀ k, ftB B bb L6 (txs E) k → ftB B bb L' (txs E) k ∨ w5.heap.size ≤ k) → Fb (ftB B bb L' (txs E)) w5 w6 → L6.us = L'.us → L6.mx = L'.mx → L6.ta = L'.ta →
        Ending.returned (.int .i64 (bc : Int)) = .returned (.int .i64 (putK pg t2 sz ts es (nt / sz)).2.1) ∧ PutG w B bb r pp L c pg sz t2 (txs es) tb (putK pg t2 sz ts es (nt / sz)) w6) := fun L6 w6 h1 h2 h3 h4 h5 h6 h7 h8 => by
      have hp1 := HPi.out.no HB.out hjl hjj HPw.out.us h1 h2
      have hd : j + 1 ≤ nt / sz := (Nat.le_div_iff_mul_le (by omega)).2 (by rw [← HNj.out]; exact hle)
      have hp2 : putK pg t2 sz ts es (nt / sz) = (E, (putK pg t2 sz ts es j).2.1, true) := by
        have := putK_stay (pg := (pg : Int)) (tm := t2) (sz := sz) (ts := ts) (es := es) (j := j + 1) (by rw [hp1]) (nt / sz - (j + 1))
        rw [show j + 1 + (nt / sz - (j + 1)) = nt / sz by omega] at this
        rw [this, hp1]
      rw [hp2]
      have hsz := HPw5.out.fb.size
      refine ⟨by rw [HF5.out], L6, h3, fun e he => by rw [h6]; exact HPw.out.us e he, by rw [h7, HPw.out.mx]; omega, fun k hk => ?_, HPw5.out.fb.trans h5 HPw5.out.ft, fun z hz k hk => by rw [h8] at hk; exact HPw.out.it z hz k hk⟩
      rcases h4 k hk with h' | h'
      · exact HPw5.out.ft k h'
      · exact .inr (by omega)
    have HYes : Hid (∀ (L6 : Lay) (T1 : List (List Int)) (w6 : World), KvB w6 B bb r pp L6 c pg sz t2 (T1 ++ [ts.take n]) → (∀ k, ftB B bb L6 (T1 ++ [ts.take n]) k → ftB B bb L' (txs E) k ∨ w5.heap.size ≤ k) → Fb (ftB B bb L' (txs E)) w5 w6 → (∀ z, z ≠ ts.take n → L6.us z = L'.us z) → L6.us (ts.take n) = t2 → L6.mx = L'.mx + 1 → RoomC L' pg sz t2 (txs E) T1 → T1.length < pg → (∀ z, z ≠ ts.take n → L6.ta z = L'.ta z) → L6.ta (ts.take n) = ta' →
        ∃ E', PutI pg t2 sz ts es (j + 1) E' ∧ PutW w B bb r pp L c pg sz t2 (txs es) q ts tb (some ⟨b, off, none⟩) cap (bc + 1) E' w6 L6) := fun L6 T1 w6 h1 h2 h3 h4 h5 h6 h7 h8 h9 h10 => by
      obtain ⟨E', e1, e2, e3, e4⟩ := HPi.out.yes HB.out hjl hjj HPw.out.us h7 h8
      rw [← HNj.out] at e3 e4
      exact ⟨E', e1, HPw5.out.next h1 h2 h3 e3 (e4 L6.us h4 h5) h6 fun z hz k hk => by
        by_cases e : z = ts.take n
        · rw [e, h10] at hk
          exact .inr (HTp.out k hk)
        · rw [h9 z e] at hk
          rcases List.mem_append.1 hz with hz | hz
          · exact .inl ⟨z, h7.sub z hz, hk⟩
          · exact absurd (List.mem_singleton.1 hz) e⟩
    clear HPw5 HPw HPi HF5 HFs hkv HV5
    go_wp2_with fail
    refine hAdd.mono ?_
    rintro e w6 ⟨q6, rfl, hG⟩
    rcases hG with ⟨rfl, g1, g2, L6, g3, g4, g5, g6, g7, g8⟩ | ⟨L6, T1, rfl, g1, g2, g3, g4, g5, g6, g7, g8, g9, g10⟩
    · have HR := hid (HNo.out L6 w6 g1 g2 g3 g4 g5 g6 g7 g8)
      clear HNo HYes HTp hAdd g1 g2 g3 g4 g5 g6 g7 g8 HP HN HJ HB HMay HNt HNj
      go_wp2
      go_ret
      exact HR.out
    · have HR := hid (HYes.out L6 T1 w6 g1 g2 g3 g4 g5 g6 g7 g8 g9 g10)
      have d0 := g1.cells.1
      obtain ⟨n2, hn2'⟩ : ∃ n2, n + sz = n2 := ⟨_, rfl⟩
      have HN2 : Hid (n2 = n + sz) := hn2'.symm
      have hsum : (n : Int) + (sz : Int) = (n2 : Int) := by omega
      have hn3 : n2 ≤ nt + 16 := by omega
      have hn4 : n < n2 := by omega
      clear HNo HYes HTp hAdd g1 g2 g3 g4 g5 g6 g7 g8 g9 g10 hn2' hsub hp3 hcp
      go_wp2_with fail
      go_round
      case rel =>
        obtain ⟨E', e1, e2⟩ := HR.out
        exact ⟨j + 1, n, n2, bc + 1, E', L6, HNj, HN2, by unfold Hid; have := HJ.out; omega, by omega, by have := HJ.out; omega, by omega, rfl, rfl, by go_num, e1, e2⟩
      case measure => simp [intOf]; omega
  · have HE : Hid (j = nt / sz) := by
      unfold Hid
      have h1 := HP.out
      have h2 := HN.out
      refine (Nat.div_eq_of_lt_le ?_ ?_).symm
      · rw [← h1]; exact hp
      · rw [Nat.succ_mul, ← h1]; omega
    have q1 : ¬ (n : Int) ≤ (nt : Int) := by omega
    have HG : Hid (PutG w B bb r pp L c pg sz t2 (txs es) tb (putK pg t2 sz ts es (nt / sz)) wr) := by
      unfold Hid
      rw [← HE.out]
      refine ⟨L', ?_, ?_, ?_, ?_, HPw.out.fb, ?_⟩
      · rw [HPi.out.eq]; exact HPw.out.kv
      · rw [HPi.out.eq]; exact HPw.out.us
      · have := HPw.out.mx; omega
      · rw [HPi.out.eq]; exact HPw.out.ft
      · rw [HPi.out.eq]; exact HPw.out.it
    have HEq : Hid (Ending.returned (.int .i64 (bc : Int)) = .returned (.int .i64 (putK pg t2 sz ts es (nt / sz)).2.1)) := by unfold Hid; rw [← HE.out, HF5.out]
    clear F1 F2 F3 F4 F5 HP HN HJ HPi HPw HF5 HE HB HTk HMay HNt
    go_wp2
    go_ret
    exact ⟨HEq.out, HG.out⟩
end
end Go.Proofs.YtjgggialnegddaaGreat
namespace Go.Proofs.YtjgggialnegddaaGreat
open Go.RowKit Go.Maps
set_option linter.unusedVariables false
set_option maxRecDepth 1000000

set_option maxHeartbeats 1000000 in
theorem pused_new {F : Nat → Prop} (p : Option Addr) (hs : List Int) (w : World) (h : PgAt w p hs F) : Calls Tryz.prog 61 #[.pointer p] w fun e w' => ∃ a cap, e = .returned (.slice a (usedL hs).length cap) ∧ Reads .i64 w' a (usedL hs).length cap (usedL hs) ∧ (∀ p, a = some p → w.heap.size ≤ p.block ∧ p.block < w'.heap.size) ∧ Below w.heap.size w w' := by
  obtain ⟨B, b, g, n, fs, rfl, hB, rfl⟩ := h.rest
  have hM := pmade_yes hB h.ok
  obtain ⟨i0, hi, hz0, hz1, hz2⟩ := info_parts Tryz.info3
  have hl := hB.len
  have hn := h.ok.2.1
  have cB := hB.cells.1
  have HH := hid fun (W : World) (hb : Below w.heap.size w W) => hB.own.stays hb
  have HL := hid fun (k : Nat) => usedK_len hs k
  have HU : Hid (∀ k, usedK hs (k + 1) = if 0 < hs[k]?.getD 0 then usedK hs k ++ [(k : Int)] else usedK hs k) := fun k => rfl
  have HE : Hid (usedK hs n = usedL hs) := by unfold Hid usedL; rw [hl]
  rw [hl] at hn
  clear h hl hB
  obtain ⟨U, hU⟩ : ∃ U : Nat → List Int, U = usedK hs := ⟨_, rfl⟩
  have HU0 : Hid (U 0 = []) := by unfold Hid; rw [hU]; rfl
  rw [← hU] at HL HU HE
  clear hU
  go_enter Tryz.func61, Tryz.ntmps61
  go_wp2_with fail
  refine hM.mono ?_
  rintro e w' ⟨rfl, rfl⟩
  clear hM
  go_wp2_with fail
  go_loopw [3, 14] (fun v i W => ∃ k m : Nat, k ≤ n ∧ i = .int .i64 k ∧ m ≤ k ∧ Hid ((U k).length = m) ∧ Hid (W.ownsRow w.heap.size 3 1 v m ((U k).map (Value.int .i64))) ∧ Hid (Below w.heap.size w W)) (fun _ i _ => n - (intOf i).toNat)
  case atStart => exact ⟨0, 0, Nat.zero_le _, rfl, Nat.le_refl _, by unfold Hid; rw [HU0.out]; rfl, by unfold Hid; rw [HU0.out]; exact World.ownsRow_nil _ _ _ _, Below.refl _ _⟩
  case round =>
  obtain ⟨k, m, hk, rfl, hm, HM, HO, HW⟩ := hrel
  rename World => wr
  have hR := HH.out _ HW.out
  by_cases hlt : k < n
  · have q1 : (k : Int) < (n : Int) := by omega
    have ck := hR.cell hlt
    have HUk := hid (HU.out k)
    have HLk := hid (HL.out (k + 1))
    clear hR HL HU HU0 HE
    by_cases h0 : 0 < hs[k]?.getD 0
    · have HE2 : Hid (U (k + 1) = U k ++ [(k : Int)]) := by unfold Hid; rw [HUk.out, if_pos h0]
      have HAl : Hid (Below wr.heap.size wr (wr.alloc (.cells #[.int .i64 (k : Int)] 3))) := (Below.refl _ _).alloc (Nat.le_refl _) _
      have HSz : Hid (w.heap.size ≤ (wr.alloc (.cells #[.int .i64 (k : Int)] 3)).heap.size) := Nat.le_trans HW.out.size HAl.out.size
      clear HUk
      generalize hs[k]?.getD 0 = x at *
      go_wp2_with (at_builtin; refine append_any _ rfl (.tmp 21) (.tmp 23) 41 rfl w.heap.size 3 i0 (.int .i64 0) 8 Tryz.underlying41 hi hz0 hz1 hz2 rfl .i64 _ m (U k) rfl (own_below HO.out HAl.out) _ 1 1 [(k : Int)] rfl (Reads.one _ _ _) (by omega) (by omega) HSz.out ?_; intro v3 w3 hO3 hb3)
      have HO3 : Hid (w3.ownsRow w.heap.size 3 1 v3 (m + 1) ((U (k + 1)).map (Value.int .i64))) := by unfold Hid; rw [HE2.out]; exact hO3
      have HW3 : Hid (Below w.heap.size w w3) := (HW.out.trans (HAl.out.mono HW.out.size)).trans hb3
      have HM3 : Hid ((U (k + 1)).length = m + 1) := by unfold Hid; rw [HE2.out, List.length_append, HM.out]; rfl
      clear hO3 hb3 HO HW HAl HSz HM HE2 ck
      go_wp2_with fail
      go_round
      case rel => exact ⟨k + 1, m + 1, by omega, by go_num, by omega, HM3, HO3, HW3⟩
      case measure => simp [intOf]; omega
    · have HE2 : Hid (U (k + 1) = U k) := by unfold Hid; rw [HUk.out, if_neg h0]
      have HO3 : Hid (wr.ownsRow w.heap.size 3 1 u3 m ((U (k + 1)).map (Value.int .i64))) := by unfold Hid; rw [HE2.out]; exact HO.out
      have HM3 : Hid ((U (k + 1)).length = m) := by unfold Hid; rw [HE2.out]; exact HM.out
      clear HUk HE2 HO HM
      generalize hs[k]?.getD 0 = x at *
      go_wp2_with fail
      go_round
      case rel => exact ⟨k + 1, m, by omega, by go_num, by omega, HM3, HO3, HW⟩
      case measure => simp [intOf]; omega
  · obtain rfl : k = n := by omega
    obtain ⟨a6, c6, e6, _, _, hl6, _⟩ := own_slc HO.out
    obtain ⟨a5, c5, rfl, hr5⟩ := Reads.own (k := .i64) HO.out
    have e7 : a6 = a5 := by cases e6; rfl
    rw [e7] at hl6
    have HL6 := hid hl6
    clear hl6
    have HR5 : Hid (Reads .i64 wr a5 (usedL hs).length c5 (usedL hs)) := by unfold Hid; rw [← HE.out, HM.out]; exact hr5
    have HEq : Hid (Ending.returned (.slice a5 m c5) = .returned (.slice a5 (usedL hs).length c5)) := by unfold Hid; rw [← HE.out, HM.out]
    clear hr5 HO HE HM HL HU HU0 hR
    go_wp2
    go_ret
    exact ⟨_, _, HEq.out, HR5.out, HL6.out, HW.out⟩
theorem MvAt.wipe {W : World} {B n : Nat} {f : Value → Option Nat} (h : MvAt W B n f) (ty : TypeId) :
    ∃ W', (Builtin.clear_ #[122] ty #[.map (some B)]).run Tryz.prog W = .ok (.tuple #[]) W' ∧ MvAt W' B 0 (fun _ => none) ∧ Fb (at1 B) W W' := by
  obtain ⟨es, clock, hb⟩ := h.blk
  refine ⟨{ W with heap := W.heap.setIfInBounds B (.map #[] clock) }, ?_, ⟨.map [], ⟨#[], clock, (MapKept.heap_set hb).1, ⟨by simp, MapKept.stamped_empty clock, by simp⟩, Nat.le_refl _, rfl⟩, fun v l _ => ⟨rfl, rfl⟩⟩, ⟨rfl, rfl, rfl, by simp, fun k _ hk => (MapKept.heap_set hb).2 k hk⟩⟩
  simp [Builtin.clear_, run_underlying Tryz.underlying122, MapKept.run_getObj_map hb, MapKept.run_setObj_map _ hb, Result.andThen]
theorem zeroPe (w : World) : (zeroValue 113).run Tryz.prog w = .ok (.pointer none) w := by kernel_rfl
theorem row_cells {bb pg : Nat} : ∀ (us : List Value) (o : Nat) (vs : List Value) (W : World), W.ownsRow 0 113 1 (.slice (some ⟨bb, 0, none⟩) pg pg) pg vs → ∃ vs', (W.setCells bb o us).ownsRow 0 113 1 (.slice (some ⟨bb, 0, none⟩) pg pg) pg vs'
  | [], o, vs, W, h => ⟨vs, h⟩
  | u :: us, o, vs, W, h => row_cells us (o + 1) _ _ (World.ownsRow.stored h o u).1
theorem fb_cells {bb : Nat} : ∀ (us : List Value) (o : Nat) (W : World), Fb (at1 bb) W (W.setCells bb o us)
  | [], o, W => Fb.refl _ _
  | u :: us, o, W => (Fb.set (F := at1 bb) (w := W) (p := ⟨bb, o, none⟩) (by exact rfl) u).trans (fb_cells us (o + 1) _) fun k hk => .inl hk
theorem row_wipe {bb pg : Nat} {vs : List Value} {W : World} (h : W.ownsRow 0 113 1 (.slice (some ⟨bb, 0, none⟩) pg pg) pg vs) (hp : 1 ≤ pg) (ty : TypeId) :
    ∃ W' vs', (Builtin.clear_ #[114] ty #[.slice (some ⟨bb, 0, none⟩) pg pg]).run Tryz.prog W = .ok (.tuple #[]) W' ∧ W'.ownsRow 0 113 1 (.slice (some ⟨bb, 0, none⟩) pg pg) pg vs' ∧ Fb (at1 bb) W W' := by
  have hl : vs.length = pg := by have := h.1; simpa using this
  obtain ⟨vs', hv⟩ := row_cells (List.replicate pg (Value.pointer none)) 0 vs W h
  refine ⟨_, vs', Lib.run_clear_slice W _ _ ty (.pointer none) Tryz.underlying114 zeroPe rfl rfl bb 0 pg pg (by omega) (fun j hj => ?_) (fun j hj => ?_), hv, fb_cells _ _ _⟩
  · rw [Nat.zero_add, World.ownsRow.cellAt h j (by omega), List.getElem?_eq_getElem (by omega)]
    rfl
  · rw [Nat.zero_add]
    exact World.ownsRow.frozenAt h j
section
variable {B bb r : Nat} {pp : Option Addr} {L : Lay} {c : Cf} {pg sz : Nat} {tm : Int} {T : List (List Int)}
/-- All went. -/
theorem KvB.cleared {W W2 W3 W4 : World} (h : KvB W B bb r pp L c pg sz tm T) {hs' : List Int} {F' : Nat → Prop} (h1 : PgAt W2 pp hs' F') (hF : ∀ k, F' k → L.Fp k ∨ W.heap.size ≤ k) (hb : Fb L.Fp W W2) (hl : hs'.length = pg) (h0 : ∀ k, k < pg → hs'[k]?.getD 0 = 0) {vs' : List Value} (h3 : W3.ownsRow 0 113 1 (.slice (some ⟨bb, 0, none⟩) pg pg) pg vs') (hb3 : Fb (at1 bb) W2 W3) (h4 : MvAt W4 (L.mp []) 0 (fun _ => none)) (hb4 : Fb (at1 (L.mp [])) W3 W4) :
    KvB W4 B bb r pp { L with Fp := F', hs := hs', vs := vs' } c pg sz tm [] ∧ (∀ k, ftB B bb { L with Fp := F', hs := hs', vs := vs' } [] k → ftB B bb L T k ∨ W.heap.size ≤ k) ∧ Fb (ftB B bb L T) W W4 := by
  have hI : InT T [] := .inl rfl
  have hn : ∀ {x : List Int}, InT [] x → x = [] := fun {x} hx => hx.elim id fun h' => by cases h'
  have s2 := hb.size
  have s3 := hb3.size
  have hbb : bb < W.heap.size := by obtain ⟨cur, hc'⟩ := h.rowb; exact lt_of_block hc'
  have hmp := (h.tree.map [] hI).lt
  have key : ∀ k, k < W.heap.size → k ≠ L.mp [] → k ≠ bb → ¬ L.Fp k → W4.heap[k]? = W.heap[k]? := fun k hk e1 e2 e3 =>
    (hb4.block k (by omega) e1).trans ((hb3.block k (by omega) e2).trans (hb.block k hk e3))
  refine ⟨⟨?_, h.root, ?_, hl, fun k hk => .inl ⟨h0 k hk, fun x hx => by cases hx⟩, (fun x hx => by cases hx), (fun x hx => by cases hx), ?_, (fun x hx => by cases hx), ⟨fun x hx => ?_, fun x hx => ?_, fun x y hx hy _ => by rw [hn hx, hn hy], fun x y hx hy _ => by rw [hn hx, hn hy]⟩, (fun x hx => by cases hx), (fun x hx => by cases hx)⟩, fun k hk => ?_, ?_⟩
  · exact (key B (lt_of_block h.var) (fun e => h.Bmp hI e.symm) (fun e => h.bbB e.symm) h.BFp).trans h.var
  · refine h1.same (by have := hb4.size; omega) fun k hk => ?_
    have hlt := h1.old k hk
    have hne : k ≠ L.mp [] ∧ k ≠ bb := by
      rcases hF k hk with h' | h'
      · exact ⟨fun e => h.mpFp hI (e ▸ h'), fun e => h.bbFp (e ▸ h')⟩
      · exact ⟨by omega, by omega⟩
    exact (hb4.block k (by omega) hne.1).trans (hb3.block k hlt hne.2)
  · refine own_blk h3 fun b hb' => ?_
    cases hb'
    exact hb4.block bb (by omega) fun e => h.bbmp hI (Eq.symm e)
  · rw [hn hx]
    exact (key _ (lt_of_block (h.tree.node [] hI)) (fun e => h.ndmp hI hI e) (fun e => h.bbnd hI e) (h.ndFp hI)).trans (h.tree.node [] hI)
  · rw [hn hx]
    exact (h4.mono (Nat.zero_le _)).ext fun v l _ => (chF_none (fun ch _ hm => by cases hm) v).symm
  · rcases hk with h' | h' | h' | ⟨x, hx, h'⟩
    · exact .inl (.inl h')
    · exact .inl (.inr (.inl h'))
    · rcases hF k h' with h'' | h''
      · exact .inl (.inr (.inr (.inl h'')))
      · exact .inr h''
    · rw [hn hx] at h'
      exact .inl (.inr (.inr (.inr ⟨[], hI, h'⟩)))
  · have f2 : Fb (ftB B bb L T) W W2 := hb.mono fun k hk => .inr (.inr (.inl hk))
    have f3 : Fb (ftB B bb L T) W W3 := f2.trans (hb3.mono fun k hk => show ftB B bb L T k from .inr (.inl hk)) fun k hk => .inl hk
    exact f3.trans (hb4.mono fun k hk => show ftB B bb L T k from .inr (.inr (.inr ⟨[], hI, .inr hk⟩))) fun k hk => .inl hk
/-- What the rounds of Clear carry. -/
structure ClrW (w : World) (pp : Option Addr) (Fp : Nat → Prop) (hs : List Int) (U : List Int) (a : Option Addr) (n cap k : Nat) (W : World) (hs' : List Int) (F' : Nat → Prop) : Prop where
  pool : PgAt W pp hs' F'
  len : hs'.length = hs.length
  at0 : ∀ i : Nat, (i : Int) ∈ U.take k → hs'[i]?.getD 0 = 0
  at1 : ∀ i : Nat, (i : Int) ∉ U.take k → hs'[i]?.getD 0 = hs[i]?.getD 0
  ft : ∀ x, F' x → Fp x ∨ w.heap.size ≤ x
  fb : Fb Fp w W
  rd : Reads .i64 W a n cap U
  ao : ∀ p, a = some p → ¬ F' p.block ∧ p.block < W.heap.size
set_option maxHeartbeats 4000000 in
theorem kclear_in {w : World} (h : KvB w B bb r pp L c pg sz tm T) (hp : 1 ≤ pg) :
    Calls Tryz.prog 41 #[.pointer (some ⟨B, 0, none⟩)] w fun e w' => e = .returned (.tuple #[]) ∧ ∃ F' hs' vs', KvB w' B bb r pp { L with Fp := F', hs := hs', vs := vs' } c pg sz tm [] ∧ (∀ k, ftB B bb { L with Fp := F', hs := hs', vs := vs' } [] k → ftB B bb L T k ∨ w.heap.size ≤ k) ∧ Fb (ftB B bb L T) w w' := by
  have hM := kmade_yes h
  have hU := pused_new pp L.hs w h.pool
  have c1 := h.cells.2.1
  obtain ⟨U, hUe⟩ : ∃ U, usedL L.hs = U := ⟨_, rfl⟩
  have HUm : Hid (∀ m, m ∈ U ↔ ∃ i : Nat, i < pg ∧ m = i ∧ 0 < L.hs[i]?.getD 0) := fun m => by rw [← hUe]; unfold usedL; rw [usedK_mem, h.hsl]
  have HNd : Hid U.Nodup := by unfold Hid; rw [← hUe]; exact usedK_nodup _ _
  rw [hUe] at hU
  obtain ⟨n, hne⟩ : ∃ n, U.length = n := ⟨_, rfl⟩
  rw [hne] at hU
  have HNe := hid hne
  have HK := hid h
  have HH : Hid (∀ i : Nat, i < pg → L.hs[i]?.getD 0 = 0 ∨ L.hs[i]?.getD 0 = 1) := fun i hi => (h.held i hi).elim (fun h' => .inl h'.1) fun h' => .inr h'.1
  have HB : Hid (∀ (W : World), Fb L.Fp w W → W.cell? ⟨B, 1, none⟩ = some (.pointer pp)) := fun W hb => hb.cell h.cells.2.1 h.BFp
  clear h hUe hne
  go_enter Tryz.func41, Tryz.ntmps41
  go_wp2_with fail
  refine hM.mono ?_
  rintro e w' ⟨rfl, rfl⟩
  clear hM
  go_wp2_with fail
  refine hU.mono ?_
  rintro e w2 ⟨a, cap, rfl, hr, hl, hb⟩
  have r1 := hr.room
  have m1 := hr.most
  have HW : Hid (ClrW w pp L.Fp L.hs U a n cap 0 w2 L.hs L.Fp) := ⟨HK.out.pool.below hb, rfl, (fun i hi => by rw [List.take_zero] at hi; cases hi), (fun i _ => rfl), fun x hx => .inl hx, Fb.of hb, hr, fun p hp => ⟨fun hf => by have := HK.out.old _ (.inr (.inr (.inl hf))); have := (hl p hp).1; omega, (hl p hp).2⟩⟩
  clear hr hl hb hU c1
  go_wp2_with fail
  go_loopw [13] (fun i W => ∃ (k : Nat) (hs' : List Int) (F' : Nat → Prop), k ≤ n ∧ i = .int .i64 k ∧ Hid (ClrW w pp L.Fp L.hs U a n cap k W hs' F')) (fun i _ => n - (intOf i).toNat)
  case atStart => exact ⟨0, L.hs, L.Fp, Nat.zero_le _, rfl, HW⟩
  case round =>
  obtain ⟨k, hs', F', hk, rfl, HC⟩ := hrel
  rename World => wr
  clear HW
  by_cases hlt : k < n
  · have q1 : (k : Int) < (n : Int) := by omega
    obtain ⟨b, off, rfl, ck⟩ := HC.out.rd.cell k hlt
    have hkl : k < U.length := by rw [HNe.out]; exact hlt
    obtain ⟨i, i1, i2, i3⟩ := (HUm.out (U[k]?.getD 0)).1 (by rw [List.getElem?_eq_getElem hkl]; exact List.getElem_mem _)
    rw [i2] at ck
    have hnot : (i : Int) ∉ U.take k := fun hm => by
      obtain ⟨q, hq, e⟩ := List.getElem_of_mem hm
      rw [List.length_take] at hq
      rw [List.getElem_take] at e
      rw [List.getElem?_eq_getElem hkl] at i2
      have : U[q]'(by omega) = U[k] := by rw [e, ← i2]; rfl
      exact List.pairwise_iff_getElem.1 HNd.out q k (by omega) hkl (by omega) this
    have hhz : heldZ hs' (i : Int) = 1 := by
      rw [heldZ_at (by omega) (by rw [HC.out.len, HK.out.hsl]; omega), Int.toNat_natCast, HC.out.at1 i hnot]
      rcases HH.out i i1 with h' | h'
      · omega
      · exact h'
    have hdh : dropH hs' (i : Int) = hs'.set i 0 := by
      unfold dropH
      rw [hhz, if_neg (by omega), Int.toNat_natCast]
      rfl
    have hD := pdrop_any pp hs' (i : Int) wr HC.out.pool
    rw [hdh] at hD
    have htk : U.take (k + 1) = U.take k ++ [(i : Int)] := by
      rw [List.take_succ_eq_append_getElem hkl]
      rw [List.getElem?_eq_getElem hkl] at i2
      have : U[k] = (i : Int) := i2
      rw [this]
    have cB := HB.out wr HC.out.fb
    have HNx : Hid (∀ w3 : World, PgG wr F' pp (hs'.set i 0) w3 → ∃ F3, ClrW w pp L.Fp L.hs U (some ⟨b, off, none⟩) n cap (k + 1) w3 (hs'.set i 0) F3) := fun w3 ⟨F3, g1, g2, g3⟩ => by
      have hs := HC.out.fb.size
      refine ⟨F3, g1, by rw [List.length_set]; exact HC.out.len, fun x hx => ?_, fun x hx => ?_, fun x hx => ?_, HC.out.fb.trans g3 HC.out.ft, HC.out.rd.same fun x hx => ?_, fun p hp => ⟨fun hf => ?_, Nat.lt_of_lt_of_le (HC.out.ao p hp).2 g3.size⟩⟩
      · rw [htk, List.mem_append, List.mem_singleton] at hx
        by_cases e : i = x
        · subst e
          rw [List.getElem?_set_self (by rw [HC.out.len, HK.out.hsl]; exact i1)]
          rfl
        · rw [List.getElem?_set_ne e]
          exact HC.out.at0 x (hx.resolve_right fun e' => e (by omega))
      · rw [htk, List.mem_append, List.mem_singleton] at hx
        have e : i ≠ x := fun e' => hx (.inr (by rw [e']))
        rw [List.getElem?_set_ne e]
        exact HC.out.at1 x fun h' => hx (.inl h')
      · rcases g2 x hx with h' | h'
        · exact HC.out.ft x h'
        · exact .inr (by omega)
      · obtain ⟨p, hp, rfl⟩ := hx
        exact g3.block _ (HC.out.ao p hp).2 (HC.out.ao p hp).1
      · rcases g2 _ hf with h' | h'
        · exact (HC.out.ao p hp).1 h'
        · have := (HC.out.ao p hp).2
          omega
    clear htk hdh hhz hnot i1 i2 i3 HC HH HUm HNd HB
    go_wp2_with fail
    refine hD.mono ?_
    rintro e w3 ⟨rfl, hG⟩
    have HR := hid (HNx.out w3 hG)
    clear hG hD HNx cB ck
    go_wp2_with fail
    go_round
    case rel =>
      obtain ⟨F3, h3⟩ := HR.out
      exact ⟨k + 1, _, F3, by omega, by go_num, h3⟩
    case measure => simp [intOf]; omega
  · obtain rfl : k = n := by omega
    have q1 : ¬ (k : Int) < (k : Int) := by omega
    have hall : ∀ i, i < pg → hs'[i]?.getD 0 = 0 := fun i hi => by
      have hU : U.take k = U := List.take_of_length_le (by rw [HNe.out]; exact Nat.le_refl _)
      by_cases hm : (i : Int) ∈ U
      · exact HC.out.at0 i (by rw [hU]; exact hm)
      · rw [HC.out.at1 i (by rw [hU]; exact hm)]
        rcases HH.out i hi with h' | h'
        · exact h'
        · exact absurd ((HUm.out _).2 ⟨i, hi, rfl, by omega⟩) hm
    have hI : InT T [] := .inl rfl
    have hb := HC.out.fb
    have hrow : wr.ownsRow 0 113 1 (.slice (some ⟨bb, 0, none⟩) pg pg) pg L.vs := own_blk HK.out.row fun b hb' => by
      cases hb'
      obtain ⟨cur, hc⟩ := HK.out.rowb
      exact hb.block _ (lt_of_block hc) HK.out.bbFp
    obtain ⟨w3, vs3, hc3, hr3, hb3⟩ := row_wipe hrow hp 0
    have hmt : MvAt w3 (L.mp []) L.mx (chF T L.nd sz []) := ((HK.out.tree.map [] hI).fb hb (HK.out.mpFp hI)).fb hb3 fun e => HK.out.bbmp hI e
    obtain ⟨w4, hc4, hm4, hb4⟩ := hmt.wipe 0
    have e3 := hb.cell HK.out.cells.2.2.2.1 HK.out.BFp
    have e2 : w3.cell? ⟨B, 2, none⟩ = some (.pointer (some ⟨r, 0, none⟩)) := hb3.cell (hb.cell HK.out.cells.2.2.1 HK.out.BFp) fun e => HK.out.bbB (Eq.symm e)
    have e17 : w3.cell? ⟨r, 17, none⟩ = some (.map (some (L.mp []))) := by
      rw [← HK.out.root]
      have : (L.nd []) ≠ bb := HK.out.bbnd hI
      refine hb3.cell (hb.cell (p := ⟨L.nd [], 17, none⟩) ?_ (HK.out.ndFp hI)) this
      have := HK.out.tree.node [] hI
      exact (this.cells (by simp [byL])).2.1
    have HR := hid (HK.out.cleared HC.out.pool HC.out.ft hb (by rw [HC.out.len]; exact HK.out.hsl) hall hr3 hb3 hm4 hb4)
    clear hall hb hrow hr3 hb3 hmt hm4 hb4 HC HH HUm HNd HB HK HNe
    go_wp2_with fail
    go_end0
    exact ⟨rfl, F', hs', vs3, HR.out⟩
end
end Go.Proofs.YtjgggialnegddaaGreat
