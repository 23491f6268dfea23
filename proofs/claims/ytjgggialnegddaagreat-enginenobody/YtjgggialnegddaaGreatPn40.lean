/-
  The texts KvMath6, KvW8, KvCons, EnKv, EnSt of this proof.
-/
import Derived.Test.YtjgggialnegddaaGreatPn39
import Derived.Lib.SliceRun
import Derived.Test.YtjgggialnegddaaGreatPn26
import Derived.Test.YtjgggialnegddaaGreatPn24
import Derived.Test.YtjgggialnegddaaGreatPn27
set_option linter.unusedVariables false
set_option maxRecDepth 1000000
namespace Go.Proofs.YtjgggialnegddaaGreat
open Go.RowKit
theorem putK_used {pg tm : Int} {sz j0 : Nat} {ts : List Int} {es : List En} (hE : OkE sz es) (hz : 1 ≤ sz) (hf : Far (txs es) sz ts j0) : putK pg tm sz ts es j0 = (useK tm ts es es.length, 0, false) := by
 have hmul : ∀ i, i < es.length → ∃ a, 1 ≤ a ∧ (en es i).1.length = a * sz := fun i hi => hE.mult _ (mem_txs.2 ⟨i, hi, rfl⟩)
 have key : ∀ j, j ≤ j0 → (putK pg tm sz ts es j).2 = (0, false) ∧ (putK pg tm sz ts es j).1.length = es.length ∧ ∀ i, i < es.length → en (putK pg tm sz ts es j).1 i = if (en es i).1.length ≤ j * sz ∧ begB (en es i).1 ts = true then ((en es i).1, tm) else en es i := by
  intro j
  induction j with
  | zero =>
   intro _
   refine ⟨rfl, rfl, fun i hi => ?_⟩
   rw [if_neg]
   ·rfl
   ·intro h
    obtain ⟨a, a1, a2⟩ := hmul i hi
    have : 1 * sz ≤ a * sz := Nat.mul_le_mul_right _ a1
    omega
  | succ j ih =>
   intro hj
   obtain ⟨i1, i2, i3⟩ := ih (by omega)
   have hx := hf.take (i := j + 1) (by omega) hj
   obtain ⟨p, hp, hpx⟩ := mem_txs.1 hx
   have hle : (j + 1) * sz ≤ ts.length := Nat.le_trans (Nat.mul_le_mul_right _ hj) hf.le
   have hone : ∀ i, i < es.length → (en (putK pg tm sz ts es j).1 i).1 = (en es i).1 := fun i hi => by
    rw [i3 i hi]
    split <;> rfl
   have hpz : plcZ (putK pg tm sz ts es j).1 (ts.take ((j + 1) * sz)) = (p : Int) := plc_at (by rw [i2]; exact hp) (by rw [hone p hp]; exact hpx) fun q hq => by
    rw [hone q (by omega), ← hpx]
    intro e
    have := hE.inj (by omega) hp e
    omega
   obtain ⟨u1, u2⟩ := putK_use (by rw [i1]) rfl hpz
   rw [u1]
   refine ⟨by rw [i1], by rw [List.length_set]; exact i2, fun i hi => ?_⟩
   show en ((putK pg tm sz ts es j).1.set p _) i = _
   rw [en_set u2]
   by_cases e : i = p
   ·subst e
    rw [if_pos rfl, if_pos]
    ·rw [hone i hi]
    ·rw [hpx]
     exact ⟨by rw [List.length_take]; omega, begB_take _⟩
   ·rw [if_neg e, i3 i hi]
    have hiff : ((en es i).1.length ≤ j * sz ∧ begB (en es i).1 ts = true) ↔ ((en es i).1.length ≤ (j + 1) * sz ∧ begB (en es i).1 ts = true) := by
     constructor
     ·rintro ⟨h1, h2⟩
      exact ⟨Nat.le_trans h1 (Nat.mul_le_mul_right _ (by omega)), h2⟩
     ·rintro ⟨h1, h2⟩
      refine ⟨?_, h2⟩
      obtain ⟨a, a1, a2⟩ := hmul i hi
      rw [a2] at h1 ⊢
      have ha : a ≤ j + 1 := Nat.le_of_mul_le_mul_right h1 (by omega)
      rcases Nat.lt_or_ge a (j + 1) with hl | hl
      ·exact Nat.mul_le_mul_right _ (by omega)
      ·exfalso
       have hq := begB_eq h2
       rw [a2, show a = j + 1 by omega, ← hpx] at hq
       exact e (hE.inj hi hp hq)
    by_cases hc : (en es i).1.length ≤ j * sz ∧ begB (en es i).1 ts = true
    ·rw [if_pos hc, if_pos (hiff.1 hc)]
    ·rw [if_neg hc, if_neg fun h => hc (hiff.2 h)]
 obtain ⟨k1, k2, k3⟩ := key j0 (Nat.le_refl _)
 have h1 : (putK pg tm sz ts es j0).1 = useK tm ts es es.length := by
  refine en_ext (by rw [k2, useK_len]) fun i hi => ?_
  rw [k2] at hi
  rw [k3 i hi, useK_at _ _ hi]
  have hiff : ((en es i).1.length ≤ j0 * sz ∧ begB (en es i).1 ts = true) ↔ (i < es.length ∧ begB (en es i).1 ts = true) := by
   refine ⟨fun h => ⟨hi, h.2⟩, fun h => ⟨?_, h.2⟩⟩
   obtain ⟨a, a1, a2⟩ := hmul i hi
   have hq := begB_eq h.2
   have hl : (en es i).1.length ≤ ts.length := (begB_iff.1 h.2).1
   rw [a2] at hq hl ⊢
   have := (hf.iff a a1 hl).1 (by rw [← hq]; exact mem_txs.2 ⟨i, hi, rfl⟩)
   exact Nat.mul_le_mul_right _ this
  by_cases hc : (en es i).1.length ≤ j0 * sz ∧ begB (en es i).1 ts = true
  ·rw [if_pos hc, if_pos (hiff.1 hc)]
  ·rw [if_neg hc, if_neg fun h => hc (hiff.2 h)]
 exact Prod.ext h1 k1
structure PutB (pg : Nat) (tm : Int) (sz : Nat) (ts : List Int) (es : List En) (j0 : Nat) : Prop where
 e : OkE sz es
 v : OkV tm ts es
 t : 0 ≤ tm
 z : 1 ≤ sz
 far : Far (txs es) sz ts j0
 few : es.length ≤ pg
structure PutI (pg : Nat) (tm : Int) (sz : Nat) (ts : List Int) (es : List En) (j : Nat) (E : List En) : Prop where
 eq : (putK pg tm sz ts es j).1 = E
 go : (putK pg tm sz ts es j).2.2 = false
 now : ∀ e ∈ E, begB e.1 ts = true → e.2 = tm
section
variable {pg : Nat} {tm : Int} {sz j0 : Nat} {ts : List Int} {es E : List En} {j : Nat}
theorem PutB.start (b : PutB pg tm sz ts es j0) : PutI pg tm sz ts es j0 (useK tm ts es es.length) := by
 have h := putK_used (pg := (pg : Int)) (tm := tm) b.e b.z b.far
 refine ⟨by rw [h], by rw [h], fun e he hb => ?_⟩
 obtain ⟨i, hi, rfl⟩ := mem_en he
 rw [useK_len] at hi
 rw [useK_at _ _ hi] at hb ⊢
 split
 ·rfl
 ·rename_i hn
  rw [if_neg hn] at hb
  exact absurd ⟨hi, hb⟩ hn
theorem PutI.facts (b : PutB pg tm sz ts es j0) (i : PutI pg tm sz ts es j E) (hj : j * sz ≤ ts.length) (h0 : j0 ≤ j) : OkE sz E ∧ OkV tm ts E ∧ Far (txs E) sz ts j ∧ E.length ≤ pg ∧ (putK pg tm sz ts es j).2.1 = ((j - j0 : Nat) : Int) := by
 obtain ⟨m, m1, m2, m3, m4, m5, m6, m7⟩ := putK_ok (pg := (pg : Int)) (tm := tm) b.e b.z b.v b.t b.far.iff j hj
 obtain rfl := m2 i.go
 rw [i.eq] at m4 m5 m6
 have := putK_len (pg := (pg : Int)) (tm := tm) (sz := sz) (ts := ts) (es := es) (by have := b.few; omega) m
 rw [i.eq] at this
 exact ⟨m4, m5, ⟨hj, fun k k1 k2 => (m6 k k1 k2).trans ⟨fun h => by omega, fun h => .inr h⟩⟩, by omega, m7⟩
theorem PutI.add (i : PutI pg tm sz ts es j E) (hx : ts.take ((j + 1) * sz) ∉ txs E) (hl : E.length < pg) : PutI pg tm sz ts es (j + 1) (E ++ [(ts.take ((j + 1) * sz), tm)]) ∧ (putK pg tm sz ts es (j + 1)).2.1 = (putK pg tm sz ts es j).2.1 + 1 := by
 have hp : plcZ E (ts.take ((j + 1) * sz)) < 0 := by
  rcases Int.lt_or_le (plcZ E (ts.take ((j + 1) * sz))) 0 with h | h
  ·exact h
  ·exact absurd (plcZ_mem.1 h) hx
 have h := putK_add i.go i.eq hp (by omega)
 refine ⟨⟨by rw [h], by rw [h], fun e he hb => ?_⟩, by rw [h]⟩
 rcases List.mem_append.1 he with h1 | h1
 ·exact i.now e h1 hb
 ·rw [List.mem_singleton] at h1
  rw [h1]
theorem PutI.swap (i : PutI pg tm sz ts es j E) (hx : ts.take ((j + 1) * sz) ∉ txs E) (hl : E.length = pg) {o : Nat} (ho : oldK E ts E.length = (o : Int)) : PutI pg tm sz ts es (j + 1) (E.eraseIdx o ++ [(ts.take ((j + 1) * sz), tm)]) ∧ (putK pg tm sz ts es (j + 1)).2.1 = (putK pg tm sz ts es j).2.1 + 1 := by
 have hp : plcZ E (ts.take ((j + 1) * sz)) < 0 := by
  rcases Int.lt_or_le (plcZ E (ts.take ((j + 1) * sz))) 0 with h | h
  ·exact h
  ·exact absurd (plcZ_mem.1 h) hx
 have h := putK_swap i.go i.eq hp (by omega) ho
 refine ⟨⟨by rw [h], by rw [h], fun e he hb => ?_⟩, by rw [h]⟩
 rcases List.mem_append.1 he with h1 | h1
 ·obtain ⟨q, q1, _, rfl⟩ := mem_erase.1 h1
  exact i.now _ (en_mem q1) hb
 ·rw [List.mem_singleton] at h1
  rw [h1]
theorem PutI.stop (i : PutI pg tm sz ts es j E) (hx : ts.take ((j + 1) * sz) ∉ txs E) (hl : E.length = pg) (ho : oldK E ts E.length < 0) : putK pg tm sz ts es (j + 1) = (E, (putK pg tm sz ts es j).2.1, true) := by
 have hp : plcZ E (ts.take ((j + 1) * sz)) < 0 := by
  rcases Int.lt_or_le (plcZ E (ts.take ((j + 1) * sz))) 0 with h | h
  ·exact h
  ·exact absurd (plcZ_mem.1 h) hx
 exact putK_stop i.go i.eq hp (by omega) ho
theorem PutI.no (b : PutB pg tm sz ts es j0) (i : PutI pg tm sz ts es j E) (hj : (j + 1) * sz ≤ ts.length) (h0 : j0 ≤ j) {us : List Int → Int} (hu : ∀ e ∈ E, us e.1 = e.2) (hl : (txs E).length = pg) (ho : ∀ y ∈ txs E, lfB (txs E) sz y = true → tm ≤ us y) : putK pg tm sz ts es (j + 1) = (E, (putK pg tm sz ts es j).2.1, true) := by
 have hjl : j * sz ≤ ts.length := Nat.le_trans (Nat.mul_le_mul_right _ (by omega)) hj
 obtain ⟨f1, f2, f3, f4, f5⟩ := i.facts b hjl h0
 rw [txs_len] at hl
 refine i.stop (fun hm => by have := (f3.iff (j + 1) (by omega) hj).1 hm; omega) hl ?_
 rcases oldK_go E ts E.length with ⟨h1, _⟩ | ⟨o, h1, h2, h3, _⟩
 ·exact h1
 ·exfalso
  obtain ⟨g1, g2⟩ := goB_iff.1 h3
  have hmem : (en E o).1 ∈ txs E := mem_txs.2 ⟨o, h2, rfl⟩
  have h4 := ho _ hmem (lfB_iff.2 ((f1.leaf b.z h2).1 g1))
  rw [hu _ (en_mem h2)] at h4
  have h5 := (f2.bd _ (en_mem h2)).2
  have h6 := f2.now _ (en_mem h2) (by omega)
  rw [g2] at h6
  cases h6
theorem PutI.yes (b : PutB pg tm sz ts es j0) (i : PutI pg tm sz ts es j E) (hj : (j + 1) * sz ≤ ts.length) (h0 : j0 ≤ j) {L : Lay} (hu : ∀ e ∈ E, L.us e.1 = e.2) {T1 : List (List Int)} (hc : RoomC L pg sz tm (txs E) T1) (hl : T1.length < pg) :
  ∃ E', PutI pg tm sz ts es (j + 1) E' ∧ (putK pg tm sz ts es (j + 1)).2.1 = (putK pg tm sz ts es j).2.1 + 1 ∧ (∀ y, y ∈ T1 ++ [ts.take ((j + 1) * sz)] ↔ y ∈ txs E') ∧ ∀ us : List Int → Int, (∀ z, z ≠ ts.take ((j + 1) * sz) → us z = L.us z) → us (ts.take ((j + 1) * sz)) = tm → ∀ e ∈ E', us e.1 = e.2 := by
 have hjl : j * sz ≤ ts.length := Nat.le_trans (Nat.mul_le_mul_right _ (by omega)) hj
 obtain ⟨f1, f2, f3, f4, f5⟩ := i.facts b hjl h0
 have hx : ts.take ((j + 1) * sz) ∉ txs E := fun hm => by have := (f3.iff (j + 1) (by omega) hj).1 hm; omega
 have hus : ∀ e ∈ E, ∀ us : List Int → Int, (∀ z, z ≠ ts.take ((j + 1) * sz) → us z = L.us z) → us e.1 = e.2 := fun e he us h1 => by
  rw [h1 e.1 fun e2 => hx (by rw [← e2]; obtain ⟨q, q1, rfl⟩ := mem_en he; exact mem_txs.2 ⟨q, q1, rfl⟩)]
  exact hu e he
 rcases hc with ⟨h1, e⟩ | ⟨h1, ho, e⟩ | ⟨h1, y, hy, hly, hyu, ho, e⟩
 ·subst e
  rw [txs_len] at h1
  obtain ⟨k1, k2⟩ := i.add hx h1
  refine ⟨_, k1, k2, fun y => ?_, fun us u1 u2 e he => ?_⟩
  ·unfold txs
   rw [List.map_append]
   rfl
  ·rcases List.mem_append.1 he with h3 | h3
   ·exact hus e h3 us u1
   ·rw [List.mem_singleton] at h3
    rw [h3]
    exact u2
 ·subst e; omega
 ·subst e
  rw [txs_len] at h1
  obtain ⟨q, q1, rfl⟩ := mem_txs.1 hy
  rw [hu _ (en_mem q1)] at hyu
  have hlf := (f1.leaf b.z q1).2 (lfB_iff.1 hly)
  have hgo : goB E ts q = true := goB_iff.2 ⟨hlf, by
   rw [Bool.eq_false_iff]
   intro hb
   have := i.now _ (en_mem q1) hb
   omega⟩
  have hold := oldK_one f2.u q1 hgo fun p p1 p2 => by
   have := ho _ (mem_txs.2 ⟨p, p1, rfl⟩) (lfB_iff.2 ((f1.leaf b.z p1).1 (goB_iff.1 p2).1))
   rw [hu _ (en_mem q1), hu _ (en_mem p1)] at this
   exact this
  obtain ⟨k1, k2⟩ := i.swap hx h1 hold
  refine ⟨_, k1, k2, fun y => ?_, fun us u1 u2 e he => ?_⟩
  ·rw [List.mem_append, List.mem_singleton, mem_rmv]
   unfold txs
   rw [List.map_append, List.mem_append]
   have := (f1.erase q1 hlf).2 y
   unfold txs at this
   rw [this]
   simp
  ·rcases List.mem_append.1 he with h3 | h3
   ·obtain ⟨p, p1, _, rfl⟩ := mem_erase.1 h3
    exact hus _ (en_mem p1) us u1
   ·rw [List.mem_singleton] at h3
    rw [h3]
    exact u2
end
end Go.Proofs.YtjgggialnegddaaGreat
namespace Go.Proofs.YtjgggialnegddaaGreat
open Go.RowKit Go.Maps
theorem cloneI_new (ad : Addr) (n cap : Nat) (xs : List Int) (w : World) (ha : Reads .i64 w (some ad) n cap xs) (hn : n ≤ 1000) :
  Calls Tryz.prog 64 #[.slice (some ad) n cap] w fun e w' => ∃ a cap, e = .returned (.slice a n cap) ∧ Reads .i64 w' a n cap xs ∧ (∀ p, a = some p → w.heap.size ≤ p.block ∧ p.block < w'.heap.size) ∧ Below w.heap.size w w' := by
 obtain ⟨i0, hi, hz0, hz1, hz2⟩ := info_parts Tryz.info3
 have heq : ∀ W : World, (binOp .eql 41 (.slice (some ad) n cap) (.slice none 0 0)).run Tryz.prog W = .ok (.bool false) W := fun W => Lib.run_eql_slice_nil W _ _ (some ad) n cap 0 0 Tryz.underlying41
 have HA := hid ha
 have HB : Hid (Below w.heap.size w (w.alloc (.cells #[] 3))) := (Below.refl _ _).alloc (Nat.le_refl _) _
 have HO : Hid ((w.alloc (.cells #[] 3)).ownsRow w.heap.size 3 1 (.slice (some ⟨w.heap.size, 0, none⟩) 0 0) 0 (([] : List Int).map (Value.int .i64))) :=
  World.ownsRow_lit (base := w.heap.size) (e := 3) (size := 1) w #[] 0 (Nat.le_refl _) (by unfold maxLen; omega) (by simp)
 clear ha
 go_enter Tryz.func64, Tryz.ntmps64
 go_wp2_with (at_builtin; refine append_any _ rfl (.tmp 5) (.tmp 6) 41 rfl w.heap.size 3 i0 (.int .i64 0) 8 Tryz.underlying41 hi hz0 hz1 hz2 rfl .i64 _ 0 [] rfl HO.out (some ad) n cap xs rfl (HA.out.below HB.out) (by omega) (by omega) HB.out.size ?_; intro v' w3 hO3 hb3)
 rw [Nat.zero_add, List.nil_append] at hO3
 obtain ⟨a0, c0, e0, _, _, hl0, _⟩ := own_slc hO3
 obtain ⟨a3, c3, rfl, hr3⟩ := Reads.own (k := .i64) hO3
 cases e0
 have HL := hid hl0
 have HR3 := hid hr3
 have HB3 := hid (HB.out.trans hb3)
 clear hO3 hb3 HA HB HO hr3 hl0
 go_wp2
 go_ret
 exact ⟨_, _, rfl, HR3.out, HL.out, HB3.out⟩
theorem dtok_new {p : Option Addr} {c : Cf} {ts : List Int} {tb : Option Addr} (w : World) (hs : StT w p c ts tb) :
  Calls Tryz.prog 83 #[.pointer p] w fun e w' => ∃ a cap, e = .returned (.slice a ts.length cap) ∧ Reads .i64 w' a ts.length cap ts ∧ (∀ p, a = some p → w.heap.size ≤ p.block ∧ p.block < w'.heap.size) ∧ Below w.heap.size w w' := by
 obtain ⟨g, pm, tc, ha, hc, pq, rfl, h, _, h1, hm⟩ := hs
 obtain ⟨b, off, rfl, _⟩ := h.tk.cell 0 (by omega)
 have hC := cloneI_new _ ts.length tc ts w h.tk (by omega)
 obtain ⟨c0, c1, c2, c3⟩ := h.cells
 clear h hm h1
 generalize ts.length = n at *
 go_enter Tryz.func83, Tryz.ntmps83
 go_wp2_with fail
 refine hC.mono ?_
 rintro e w1 ⟨a1, d1, rfl, hr, hl, hb⟩
 have HR := hid hr
 have HL := hid hl
 have HB := hid hb
 clear hC hr hb c0 c1 c2 c3 hl
 go_wp2
 go_ret
 exact ⟨_, _, rfl, HR.out, HL.out, HB.out⟩
section
variable {B bb r : Nat} {pp : Option Addr} {L : Lay} {c : Cf} {pg sz : Nat} {tm : Int} {T : List (List Int)}
theorem KvB.congr {W : World} {T2 : List (List Int)} (h : KvB W B bb r pp L c pg sz tm T) (hT : ∀ y, y ∈ T ↔ y ∈ T2) : KvB W B bb r pp L c pg sz tm T2 := by
 have hI : ∀ y, InT T2 y → InT T y := fun y hy => hy.elim .inl fun h' => .inr ((hT y).2 h')
 refine ⟨h.var, h.root, h.pool, h.hsl, fun k hk => ?_, fun y hy => h.pgb y ((hT y).2 hy), fun y hy z hz => h.pgi y ((hT y).2 hy) z ((hT z).2 hz), h.row, fun y hy => h.at' y ((hT y).2 hy), ⟨fun y hy => h.tree.node y (hI y hy), fun y hy => (h.tree.map y (hI y hy)).ext fun v l hv => chF_ext fun ch hc _ => ⟨hT _, fun _ => rfl⟩, fun y z hy hz => h.tree.ndi y z (hI y hy) (hI z hz), fun y z hy hz => h.tree.mpi y z (hI y hy) (hI z hz)⟩, fun y hy => h.sts y ((hT y).2 hy), fun y hy => h.tok y ((hT y).2 hy)⟩
 rcases h.held k hk with ⟨h1, h2⟩ | ⟨h1, y, hy, h2⟩
 ·exact .inl ⟨h1, fun y hy => h2 y ((hT y).2 hy)⟩
 ·exact .inr ⟨h1, y, (hT y).1 hy, h2⟩
theorem ftB_congr {T2 : List (List Int)} (hT : ∀ y, y ∈ T ↔ y ∈ T2) {k : Nat} (h : ftB B bb L T2 k) : ftB B bb L T k := by
 rcases h with h' | h' | h' | ⟨y, hy, h'⟩
 ·exact .inl h'
 ·exact .inr (.inl h')
 ·exact .inr (.inr (.inl h'))
 ·exact .inr (.inr (.inr ⟨y, hy.elim .inl fun h'' => .inr ((hT y).2 h''), h'⟩))
def PutG (w : World) (B bb r : Nat) (pp : Option Addr) (L : Lay) (c : Cf) (pg sz : Nat) (t2 : Int) (T : List (List Int)) (tb : Option Addr) (R : List En × Int × Bool) (w' : World) : Prop :=
 ∃ L' : Lay, KvB w' B bb r pp L' c pg sz t2 (txs R.1) ∧ (∀ e ∈ R.1, L'.us e.1 = e.2) ∧ L'.mx ≤ L.mx + 256 ∧ (∀ k, ftB B bb L' (txs R.1) k → ftB B bb L T k ∨ w.heap.size ≤ k) ∧ Fb (ftB B bb L T) w w' ∧ ∀ x ∈ txs R.1, ∀ k, mF (L'.ta x) k → (∃ y ∈ T, mF (L.ta y) k) ∨ mF tb k ∨ w.heap.size ≤ k
structure PutW (w : World) (B bb r : Nat) (pp : Option Addr) (L : Lay) (c : Cf) (pg sz : Nat) (t2 : Int) (T : List (List Int)) (q : Option Addr) (ts : List Int) (tb a : Option Addr) (cap bc : Nat) (E : List En) (W : World) (L' : Lay) : Prop where
 kv : KvB W B bb r pp L' c pg sz t2 (txs E)
 us : ∀ e ∈ E, L'.us e.1 = e.2
 mx : L'.mx = L.mx + bc
 ft : ∀ k, ftB B bb L' (txs E) k → ftB B bb L T k ∨ w.heap.size ≤ k
 fb : Fb (ftB B bb L T) w W
 st : StT W q c ts tb
 ta : ∀ k, mF tb k → ¬ L'.Fp k
 rd : Reads .i64 W a ts.length cap ts
 ao : ∀ p, a = some p → ¬ ftB B bb L' (txs E) p.block ∧ p.block < W.heap.size
 it : ∀ x ∈ txs E, ∀ k, mF (L'.ta x) k → (∃ y ∈ T, mF (L.ta y) k) ∨ mF tb k ∨ w.heap.size ≤ k
theorem PutW.below {w W W' : World} {t2 : Int} {q : Option Addr} {ts : List Int} {tb a : Option Addr} {cap bc : Nat} {E : List En} {L' : Lay} (h : PutW w B bb r pp L c pg sz t2 T q ts tb a cap bc E W L') (hb : Below W.heap.size W W') : PutW w B bb r pp L c pg sz t2 T q ts tb a cap bc E W' L' :=
 ⟨h.kv.below hb, h.us, h.mx, h.ft, h.fb.below hb, h.st.below hb, h.ta, h.rd.below hb, fun p hp => ⟨(h.ao p hp).1, Nat.lt_of_lt_of_le (h.ao p hp).2 hb.size⟩, h.it⟩
theorem PutW.next {w W W' : World} {t2 : Int} {q : Option Addr} {ts : List Int} {tb a : Option Addr} {cap bc : Nat} {E E' : List En} {L' L2 : Lay} (h : PutW w B bb r pp L c pg sz t2 T q ts tb a cap bc E W L') {T2 : List (List Int)} (hk : KvB W' B bb r pp L2 c pg sz t2 T2) (hF : ∀ k, ftB B bb L2 T2 k → ftB B bb L' (txs E) k ∨ W.heap.size ≤ k) (hb : Fb (ftB B bb L' (txs E)) W W') (hT : ∀ y, y ∈ T2 ↔ y ∈ txs E') (hu : ∀ e ∈ E', L2.us e.1 = e.2) (hm : L2.mx = L'.mx + 1) (hta : ∀ z ∈ T2, ∀ k, mF (L2.ta z) k → (∃ y ∈ txs E, mF (L'.ta y) k) ∨ mF tb k ∨ w.heap.size ≤ k) : PutW w B bb r pp L c pg sz t2 T q ts tb a cap (bc + 1) E' W' L2 := by
 have hs := h.fb.size
 refine ⟨hk.congr hT, hu, by rw [hm, h.mx]; omega, fun k hk' => ?_, h.fb.trans hb h.ft, StT.fbF h.kv hb (fun k hk => .inl hk) h.st h.ta, fun k hk' hf => ?_, h.rd.same fun x hx => ?_, fun p hp => ⟨fun hf => ?_, Nat.lt_of_lt_of_le (h.ao p hp).2 hb.size⟩, fun z hz k hk' => (hta z ((hT z).2 hz) k hk').elim (fun ⟨y, hy, h'⟩ => h.it y hy k h') .inr⟩
 ·rcases hF k (ftB_congr hT hk') with h' | h'
  ·exact h.ft k h'
  ·exact .inr (by omega)
 ·rcases hF k (.inr (.inr (.inl hf))) with h' | h'
  ·exact h.kv.taft h.st h.ta hk' h'
  ·have := h.st.lt hk'
   omega
 ·obtain ⟨p, hp, rfl⟩ := hx
  exact hb.block _ (h.ao p hp).2 (h.ao p hp).1
 ·rcases hF _ (ftB_congr hT hf) with h' | h'
  ·exact (h.ao p hp).1 h'
  ·have := (h.ao p hp).2
   omega
theorem OkK.putB {es : List En} (h : OkK pg sz tm es) (ts : List Int) {j0 : Nat} (hf : Far (txs es) sz ts j0) : PutB pg (tm + 1) sz ts es j0 := ⟨h.e, h.u.next h.t ts, by have := h.t; omega, h.z.1, hf, h.few⟩
set_option maxHeartbeats 4000000 in
theorem kput_in {w : World} {es : List En} (h : KvB w B bb r pp L c pg sz tm (txs es)) (ho : OkK pg sz tm es) (hu : ∀ e ∈ es, L.us e.1 = e.2) (hm : mayB c = true) (ht1 : tm ≤ 100000) (hmx : L.mx ≤ 50000000) (q : Option Addr) (ts : List Int) (tb : Option Addr) (hs : StT w q c ts tb) (hta : ∀ k, mF tb k → ¬ L.Fp k) (hk : Tk ts) :
  Calls Tryz.prog 59 #[.pointer (some ⟨B, 0, none⟩), .pointer q] w fun e w' => e = .returned (.int .i64 (putK pg (tm + 1) sz ts es (ts.length / sz)).2.1) ∧ PutG w B bb r pp L c pg sz (tm + 1) (txs es) tb (putK pg (tm + 1) sz ts es (ts.length / sz)) w' := by
 have hz := ho.z
 have ht0 := ho.t
 obtain ⟨j0, hj1, hj2⟩ := ho.e.was hz.1 ts
 have hF : Far (txs es) sz ts j0 := ⟨hj1, hj2⟩
 have hB := ho.putB ts hF
 obtain ⟨t2, ht2⟩ : ∃ t2, tm + 1 = t2 := ⟨_, rfl⟩
 have hM := kmade_yes h
 have hTk := dtok_new w hs
 obtain ⟨nt, hnt⟩ : ∃ nt, ts.length = nt := ⟨_, rfl⟩
 have hn1 : 1 ≤ nt := by obtain ⟨_, _, _, _, _, _, _, _, _, h1, _⟩ := hs; omega
 have hn2 : nt ≤ 256 := by obtain ⟨_, _, _, _, _, _, _, _, _, _, h1⟩ := hs; omega
 have HUse := hid fun (W : World) (hb : Below w.heap.size w W) (a : Option Addr) (cap : Nat) (hr : Reads .i64 W a nt cap ts) (hap : ∀ q, a = some q → ¬ ftB B bb L (txs es) q.block) => kuse_any (h.below hb) hz ht0 ht1 a nt cap ts hr hk hn2 hap hF
 rw [ht2] at hB HUse ⊢
 rw [hnt] at hTk hj1 ⊢
 have HK := hid h
 have HNt := hid hnt
 have HB := hid hB
 have HS := hid hs
 have HTa := hid hta
 have HTk := hid hk
 have HU := hid hu
 have HMay := hid hm
 have hj3 : j0 ≤ 256 := Nat.le_trans (Nat.le_trans (Nat.le_mul_of_pos_right _ (by omega)) hj1) hn2
 clear h ho hu hs hta hk hF hB hj2 ht2 hnt hm
 go_enter Tryz.func59, Tryz.ntmps59
 go_wp2_with fail
 refine hM.mono ?_
 rintro e w' ⟨rfl, rfl⟩
 clear hM
 go_wp2_with fail
 refine hTk.mono ?_
 rintro e w1 ⟨a, cap, rfl, hr, hl, hb⟩
 have r1 := hr.room
 have m1 := hr.most
 have hao : ∀ p, a = some p → ¬ ftB B bb L (txs es) p.block := fun p hp hf => by
  have := HK.out.old _ hf
  have := (hl p hp).1
  omega
 have hUse := HUse.out w1 hb a cap hr hao
 have HR1 := hid hr
 have HL1 := hid hl
 have HAo := hid hao
 have HB1 := hid hb
 clear hr hl hb hao hTk HUse
 go_wp2_with fail
 refine hUse.mono ?_
 rintro e w2 ⟨rfl, us, hK, hUs, hF⟩
 have HW : Hid (PutW w B bb r pp L c pg sz t2 (txs es) q ts tb a cap 0 (useK t2 ts es es.length) w2 { L with us := us }) := by
  refine ⟨by rw [txs_use]; exact hK, fun e he => ?_, rfl, fun k hk => .inl (by rw [txs_use] at hk; exact hk), (Fb.of HB1.out).trans hF fun k hk => .inl hk, StT.fbF (HK.out.below HB1.out) hF (fun k hk => .inl hk) (HS.out.below HB1.out) HTa.out, HTa.out, by rw [HNt.out]; exact HR1.out.same (fun x ⟨p, hp, e⟩ => by rw [← e]; exact hF.block _ (HL1.out p hp).2 (HAo.out p hp)), fun p hp => ⟨by rw [txs_use]; exact HAo.out p hp, Nat.lt_of_lt_of_le (HL1.out p hp).2 hF.size⟩, fun z hz k hk => .inl ⟨z, by rw [txs_use] at hz; exact hz, hk⟩⟩
  obtain ⟨i, hi, rfl⟩ := mem_en he
  rw [useK_len] at hi
  rw [useK_at _ _ hi]
  have hmem : (en es i).1 ∈ txs es := mem_txs.2 ⟨i, hi, rfl⟩
  obtain ⟨al, a1, a2⟩ := HB.out.e.mult _ hmem
  split
  ·rename_i hc
   show us (en es i).1 = t2
   have hq := begB_eq hc.2
   have hle := (begB_iff.1 hc.2).1
   rw [a2] at hq hle
   have := (HB.out.far.iff al a1 hle).1 (by rw [← hq]; exact hmem)
   rw [hq]
   exact hUs.now al a1 this
  ·rename_i hc
   show us (en es i).1 = (en es i).2
   rw [hUs.rest (en es i).1 fun k k1 k2 e => hc ⟨hi, by rw [e]; exact begB_take _⟩]
   exact HU.out _ (en_mem hi)
 have c0 := hK.cells.1
 obtain ⟨p0, hp0⟩ : ∃ p0, j0 * sz = p0 := ⟨_, rfl⟩
 have HP0 := hid hp0.symm
 rw [hp0] at hj1 ⊢
 obtain ⟨n0, hn0⟩ : ∃ n0, p0 + sz = n0 := ⟨_, rfl⟩
 have HN0 := hid hn0.symm
 have hsum : (p0 : Int) + (sz : Int) = (n0 : Int) := by omega
 clear hK hUs hF hUse HR1 HL1 HAo HB1 HS HTa HU HK hp0 hn0
 have HI := hid HB.out.start
 go_wp2_with fail
 go_loopw [6, 7, 8] (fun x y z W => ∃ (j p n bc : Nat) (E : List En) (L' : Lay), Hid (p = j * sz) ∧ Hid (n = p + sz) ∧ Hid (j = j0 + bc) ∧ j ≤ 256 ∧ bc ≤ 256 ∧ p ≤ nt ∧ x = .pointer (some ⟨L'.nd (ts.take p), 0, none⟩) ∧ y = .int .i64 n ∧ z = .int .i64 bc ∧ Hid (PutI pg t2 sz ts es j E) ∧ Hid (PutW w B bb r pp L c pg sz t2 (txs es) q ts tb a cap bc E W L')) (fun _ y _ _ => nt + 17 - (intOf y).toNat)
 case atStart => exact ⟨j0, p0, n0, 0, _, { L with us := us }, HP0, HN0, by unfold Hid; omega, by omega, by omega, by omega, rfl, rfl, rfl, HI, HW⟩
 case round =>
 obtain ⟨j, p, n, bc, E, L', HP, HN, HJ, hj, hbc, hp, rfl, rfl, rfl, HPi, HPw⟩ := hrel
 rename World => wr
 clear c0 hsum HP0 HN0 HW HI
 have hnb : n ≤ nt + 16 := by have := HN.out; omega
 obtain ⟨F1, F2, F3, F4, F5⟩ := HPi.out.facts HB.out (by rw [HNt.out, ← HP.out]; exact hp) (by have := HJ.out; omega)
 have HF5 : Hid ((bc : Int) = (putK pg t2 sz ts es j).2.1) := by unfold Hid; rw [F5]; have := HJ.out; omega
 by_cases hle : n ≤ nt
 ·have q1 : (n : Int) ≤ (nt : Int) := by omega
  have hrd := HPw.out.rd
  rw [HNt.out] at hrd
  obtain ⟨b, off, hab, _⟩ := hrd.cell 0 (by omega)
  subst hab
  have hpn : p + sz = n := HN.out.symm
  have hsub : (n : Int) - (sz : Int) = (p : Int) := by omega
  have s1 : (0 : Int) ≤ (p : Int) := by omega
  have s2 : (p : Int) ≤ (n : Int) := by omega
  have s3 : (n : Int) ≤ (cap : Int) := by omega
  have hcp : ¬ cap = p := by omega
  have hp3 : n - p = sz := by omega
  have hcl : (chunk sz j ts).length = sz := chunk_len (by rw [HNt.out, Nat.succ_mul, ← HP.out]; omega)
  have hch : (ts.drop p).take sz = chunk sz j ts := by unfold chunk; rw [HP.out]
  have hnj : n = (j + 1) * sz := by rw [← hpn, HP.out, Nat.succ_mul]
  have htc : ts.take n = ts.take p ++ chunk sz j ts := by rw [HP.out, take_chunk, ← hnj]
  have hI : InT (txs E) (ts.take p) := by rw [HP.out]; exact F3.inT (Nat.le_refl _)
  have hxT : ts.take n ∉ txs E := fun e => by
   have := (F3.iff (j + 1) (by omega) (by rw [← hnj, HNt.out]; exact hle)).1 (by rw [← hnj]; exact e)
   omega
  have hnow : ts.take p ∈ txs E → L'.us (ts.take p) = t2 := fun e => by
   obtain ⟨i, hi, e2⟩ := mem_txs.1 e
   rw [← e2, HPw.out.us _ (en_mem hi)]
   exact HPi.out.now _ (en_mem hi) (by rw [e2]; exact begB_take _)
  have hKey := kkey_any (some ⟨b, off + p, none⟩) sz (cap - p) _ wr (hrd.part (by omega) (by omega)) hz.2
  rw [hch] at hKey
  have HAdd := hid fun (W : World) (hb : Below wr.heap.size wr W) (q' ta' : Option Addr) (hst : StT W q' c (ts.take n) ta') (hta : ∀ k, mF ta' k → ¬ L'.Fp k) => kadd_any (HPw.out.kv.below hb) hz F1.one (by rw [txs_len]; exact F4) F1.cls htc hcl hI hnow hxT (HTk.out.take _) hst hta (by rw [HPw.out.mx]; omega)
  have HCut := hid fun (W : World) (hb : Below wr.heap.size wr W) => dcut_T (HPw.out.st.below hb) HMay.out (n := n) (by omega) (by rw [HNt.out]; exact hle)
  have HTaF : Hid (∀ (W : World) (ta' : Option Addr), Below wr.heap.size wr W → (∀ k, mF ta' k → mF tb k ∨ W.heap.size ≤ k) → ∀ k, mF ta' k → ¬ L'.Fp k) := fun W ta' hb h1 k hk hf => by
   rcases h1 k hk with h' | h'
   ·exact HPw.out.ta k h' hf
   ·have := HPw.out.kv.old k (.inr (.inr (.inl hf)))
    have := hb.size
    omega
  have HNj := hid hnj
  have c0 := HPw.out.kv.cells.1
  have hn256 : j + 1 ≤ 256 := Nat.le_trans (Nat.le_mul_of_pos_right _ (show 0 < sz by omega)) (by rw [← hnj]; omega)
  have HFs := hid (And.intro F1 (And.intro F2 F3))
  clear F1 F2 F3 F4 F5 hrd hcl hch htc hI hxT hnow hnj HTk
  generalize hkv : keyV (chunk sz j ts) = kvv at *
  go_wp2_with fail
  refine hKey.mono ?_
  rintro e w4 ⟨rfl, hb⟩
  have HV4 := hid hb
  clear hb hKey
  go_wp2_with fail
  refine (HCut.out _ HV4.out).mono ?_
  rintro e w5 ⟨q', ta', rfl, hst, hta, hb⟩
  have HV5 := hid (HV4.out.trans (hb.mono HV4.out.size))
  have hAdd := HAdd.out w5 HV5.out q' ta' hst (HTaF.out w4 ta' HV4.out hta)
  have HTp : Hid (∀ k, mF ta' k → mF tb k ∨ w.heap.size ≤ k) := fun k hk => (hta k hk).elim .inl fun h' => .inr (Nat.le_trans (Nat.le_trans HPw.out.fb.size HV4.out.size) h')
  clear hst hta hb HCut HAdd HTaF HV4 c0
  have HPw5 := hid (HPw.out.below HV5.out)
  have hjl : (j + 1) * sz ≤ ts.length := by rw [← HNj.out, HNt.out]; exact hle
  have hjj : j0 ≤ j := by have := HJ.out; omega
  have HNo : Hid (∀ (L6 : Lay) (w6 : World), (txs E).length = pg → (∀ y ∈ txs E, lfB (txs E) sz y = true → t2 ≤ L'.us y) → KvB w6 B bb r pp L6 c pg sz t2 (txs E) → (∀ k, ftB B bb L6 (txs E) k → ftB B bb L' (txs E) k ∨ w5.heap.size ≤ k) → Fb (ftB B bb L' (txs E)) w5 w6 → L6.us = L'.us → L6.mx = L'.mx → L6.ta = L'.ta →
    Ending.returned (.int .i64 (bc : Int)) = .returned (.int .i64 (putK pg t2 sz ts es (nt / sz)).2.1) ∧ PutG w B bb r pp L c pg sz t2 (txs es) tb (putK pg t2 sz ts es (nt / sz)) w6) := fun L6 w6 h1 h2 h3 h4 h5 h6 h7 h8 => by
   have hp1 := HPi.out.no HB.out hjl hjj HPw.out.us h1 h2
   have hd : j + 1 ≤ nt / sz := (Nat.le_div_iff_mul_le (by omega)).2 (by rw [← HNj.out]; exact hle)
   have hp2 : putK pg t2 sz ts es (nt / sz) = (E, (putK pg t2 sz ts es j).2.1, true) := by
    have := putK_stay (pg := (pg : Int)) (tm := t2) (sz := sz) (ts := ts) (es := es) (j := j + 1) (by rw [hp1]) (nt / sz - (j + 1))
    rw [show j + 1 + (nt / sz - (j + 1)) = nt / sz by omega] at this
    rw [this, hp1]
   rw [hp2]
   have hsz := HPw5.out.fb.size
   refine ⟨by rw [HF5.out], L6, h3, fun e he => by rw [h6]; exact HPw.out.us e he, by rw [h7, HPw.out.mx]; omega, fun k hk => ?_, HPw5.out.fb.trans h5 HPw5.out.ft, fun z hz k hk => by rw [h8] at hk; exact HPw.out.it z hz k hk⟩
   rcases h4 k hk with h' | h'
   ·exact HPw5.out.ft k h'
   ·exact .inr (by omega)
  have HYes : Hid (∀ (L6 : Lay) (T1 : List (List Int)) (w6 : World), KvB w6 B bb r pp L6 c pg sz t2 (T1 ++ [ts.take n]) → (∀ k, ftB B bb L6 (T1 ++ [ts.take n]) k → ftB B bb L' (txs E) k ∨ w5.heap.size ≤ k) → Fb (ftB B bb L' (txs E)) w5 w6 → (∀ z, z ≠ ts.take n → L6.us z = L'.us z) → L6.us (ts.take n) = t2 → L6.mx = L'.mx + 1 → RoomC L' pg sz t2 (txs E) T1 → T1.length < pg → (∀ z, z ≠ ts.take n → L6.ta z = L'.ta z) → L6.ta (ts.take n) = ta' →
    ∃ E', PutI pg t2 sz ts es (j + 1) E' ∧ PutW w B bb r pp L c pg sz t2 (txs es) q ts tb (some ⟨b, off, none⟩) cap (bc + 1) E' w6 L6) := fun L6 T1 w6 h1 h2 h3 h4 h5 h6 h7 h8 h9 h10 => by
   obtain ⟨E', e1, e2, e3, e4⟩ := HPi.out.yes HB.out hjl hjj HPw.out.us h7 h8
   rw [← HNj.out] at e3 e4
   exact ⟨E', e1, HPw5.out.next h1 h2 h3 e3 (e4 L6.us h4 h5) h6 fun z hz k hk => by
    by_cases e : z = ts.take n
    ·rw [e, h10] at hk
     exact .inr (HTp.out k hk)
    ·rw [h9 z e] at hk
     rcases List.mem_append.1 hz with hz | hz
     ·exact .inl ⟨z, h7.sub z hz, hk⟩
     ·exact absurd (List.mem_singleton.1 hz) e⟩
  clear HPw5 HPw HPi HF5 HFs hkv HV5
  go_wp2_with fail
  refine hAdd.mono ?_
  rintro e w6 ⟨q6, rfl, hG⟩
  rcases hG with ⟨rfl, g1, g2, L6, g3, g4, g5, g6, g7, g8⟩ | ⟨L6, T1, rfl, g1, g2, g3, g4, g5, g6, g7, g8, g9, g10⟩
  ·have HR := hid (HNo.out L6 w6 g1 g2 g3 g4 g5 g6 g7 g8)
   clear HNo HYes HTp hAdd g1 g2 g3 g4 g5 g6 g7 g8 HP HN HJ HB HMay HNt HNj
   go_wp2
   go_ret
   exact HR.out
  ·have HR := hid (HYes.out L6 T1 w6 g1 g2 g3 g4 g5 g6 g7 g8 g9 g10)
   have d0 := g1.cells.1
   obtain ⟨n2, hn2'⟩ : ∃ n2, n + sz = n2 := ⟨_, rfl⟩
   have HN2 : Hid (n2 = n + sz) := hn2'.symm
   have hsum : (n : Int) + (sz : Int) = (n2 : Int) := by omega
   have hn3 : n2 ≤ nt + 16 := by omega
   have hn4 : n < n2 := by omega
   clear HNo HYes HTp hAdd g1 g2 g3 g4 g5 g6 g7 g8 g9 g10 hn2' hsub hp3 hcp
   go_wp2_with fail
   go_round
   case rel =>
    obtain ⟨E', e1, e2⟩ := HR.out
    exact ⟨j + 1, n, n2, bc + 1, E', L6, HNj, HN2, by unfold Hid; have := HJ.out; omega, by omega, by have := HJ.out; omega, by omega, rfl, rfl, by go_num, e1, e2⟩
   case measure => simp [intOf]; omega
 ·have HE : Hid (j = nt / sz) := by
   unfold Hid
   have h1 := HP.out
   have h2 := HN.out
   refine (Nat.div_eq_of_lt_le ?_ ?_).symm
   ·rw [← h1]; exact hp
   ·rw [Nat.succ_mul, ← h1]; omega
  have q1 : ¬ (n : Int) ≤ (nt : Int) := by omega
  have HG : Hid (PutG w B bb r pp L c pg sz t2 (txs es) tb (putK pg t2 sz ts es (nt / sz)) wr) := by
   unfold Hid
   rw [← HE.out]
   refine ⟨L', ?_, ?_, ?_, ?_, HPw.out.fb, ?_⟩
   ·rw [HPi.out.eq]; exact HPw.out.kv
   ·rw [HPi.out.eq]; exact HPw.out.us
   ·have := HPw.out.mx; omega
   ·rw [HPi.out.eq]; exact HPw.out.ft
   ·rw [HPi.out.eq]; exact HPw.out.it
  have HEq : Hid (Ending.returned (.int .i64 (bc : Int)) = .returned (.int .i64 (putK pg t2 sz ts es (nt / sz)).2.1)) := by unfold Hid; rw [← HE.out, HF5.out]
  clear F1 F2 F3 F4 F5 HP HN HJ HPi HPw HF5 HE HB HTk HMay HNt
  go_wp2
  go_ret
  exact ⟨HEq.out, HG.out⟩
end
end Go.Proofs.YtjgggialnegddaaGreat
namespace Go.Proofs.YtjgggialnegddaaGreat
open Go.RowKit Go.Maps
def KvX (W : World) (p : Option Addr) (c : Cf) (pg sz : Nat) (tm : Int) (es : List En) (F : Nat → Prop) : Prop :=
 ∃ B bb r pp L, p = some ⟨B, 0, none⟩ ∧ KvB W B bb r pp L c pg sz tm (txs es) ∧ (∀ e ∈ es, L.us e.1 = e.2) ∧ (L.mx : Int) ≤ 300 * tm ∧ F = ftB B bb L (txs es)
structure KvAt (W : World) (p : Option Addr) (c : Cf) (pg sz : Nat) (tm : Int) (es : List En) (F : Nat → Prop) : Prop where
 ptr : ∃ g, p = some ⟨g, 0, none⟩
 ok : OkK pg sz tm es
 old : ∀ k, F k → k < W.heap.size
 nd : ∀ k, F k → ¬ DocB W k
 rest : KvX W p c pg sz tm es F
section
variable {B bb r : Nat} {pp : Option Addr} {L : Lay} {c : Cf} {pg sz : Nat} {tm : Int} {es : List En}
theorem KvB.at {W : World} (h : KvB W B bb r pp L c pg sz tm (txs es)) (ho : OkK pg sz tm es) (hu : ∀ e ∈ es, L.us e.1 = e.2) (hm : (L.mx : Int) ≤ 300 * tm) : KvAt W (some ⟨B, 0, none⟩) c pg sz tm es (ftB B bb L (txs es)) := by
 refine ⟨⟨B, rfl⟩, ho, h.old, fun k hk hd => ?_, B, bb, r, pp, L, rfl, h, hu, hm, rfl⟩
 obtain ⟨cur, t, fz, h1, h2⟩ := hd
 rcases h.kind hk with ⟨cur', t', fz', h3, h4⟩ | ⟨es, cl, h3⟩
 ·rw [h1] at h3
  simp at h3
  obtain ⟨_, rfl, _⟩ := h3
  rcases h2 with h2 | h2 | h2 <;> (rw [h2] at h4; simp at h4)
 ·rw [h1] at h3
  simp at h3
end
theorem OkK.far {pg sz : Nat} {tm : Int} {es : List En} (h : OkK pg sz tm es) (ts : List Int) : ∃ J, Far (txs es) sz ts J := by
 obtain ⟨J, h1, h2⟩ := h.e.was h.z.1 ts
 exact ⟨J, h1, h2⟩
theorem Usd.useK {L : Lay} {sz : Nat} {ts : List Int} {t2 : Int} {J : Nat} {us : List Int → Int} {es : List En} (h : Usd L sz ts t2 J us) (hF : Far (txs es) sz ts J) (hE : OkE sz es) (hu : ∀ e ∈ es, L.us e.1 = e.2) : ∀ e ∈ useK t2 ts es es.length, us e.1 = e.2 := by
 intro e he
 obtain ⟨i, hi, rfl⟩ := mem_en he
 rw [useK_len] at hi
 rw [useK_at _ _ hi]
 have hmem : (en es i).1 ∈ txs es := mem_txs.2 ⟨i, hi, rfl⟩
 obtain ⟨al, a1, a2⟩ := hE.mult _ hmem
 split
 ·rename_i hc
  show us (en es i).1 = t2
  have hq := begB_eq hc.2
  have hle := (begB_iff.1 hc.2).1
  rw [a2] at hq hle
  have := (hF.iff al a1 hle).1 (by rw [← hq]; exact hmem)
  rw [hq]
  exact h.now al a1 this
 ·rename_i hc
  rw [h.rest (en es i).1 fun k k1 k2 e => hc ⟨hi, by rw [e]; exact begB_take _⟩]
  exact hu _ (en_mem hi)
theorem make_ptrs (w : World) (m : Nat) (hm : m ≤ 1001) : (Instr.makeSlice 114 (.int .i64 (m : Int)) (.int .i64 (m : Int))).run Tryz.prog w = .ok (.slice (some ⟨w.heap.size, 0, none⟩) m m) (w.alloc (.cells (madeCells #[.pointer none] m) 113)) := by
 obtain ⟨i0, hi, hz0, hz1, hz2⟩ := info_parts Tryz.infoPe
 have := run_make (P := Tryz.prog) w 114 113 i0 (.pointer none) Tryz.underlying114 hi hz0 .i64 .i64 (m : Int) (m : Int) (by omega) (Int.le_refl _) (by rw [hz2]; omega) (by omega)
 rw [this, hz1, Int.toNat_natCast, Nat.mul_one]
 rfl
def Lay.new (F : Nat → Prop) (n eb mb : Nat) : Lay :=
 { Fp := F, hs := List.replicate n 0, vs := List.replicate n (.pointer none), mx := 0, nd := fun _ => eb, mp := fun _ => mb, st := fun _ => none, ta := fun _ => none, pgs := fun _ => 0, us := fun _ => 0 }
theorem kv_new {w3 w4 w5 w6 w7 : World} {F : Nat → Prop} {pp : Option Addr} {c : Cf} {n m : Nat} (hn : 1 ≤ n ∧ n ≤ 256) (hm : 1 ≤ m ∧ m ≤ 16) (hP : PgAt w3 pp (List.replicate n 0) F) (h4 : w4 = w3.alloc (.map #[] 0)) (h5 : w5 = w4.alloc (.cells (ndC none [] w3.heap.size none 0 0) 124)) (h6 : w6 = w5.alloc (.cells (madeCells #[.pointer none] n) 113))
  (h7 : w7 = w6.alloc (.cells #[.int .i64 m, .pointer pp, .pointer (some ⟨w4.heap.size, 0, none⟩), .slice (some ⟨w5.heap.size, 0, none⟩) n n, .int .u64 0] 116)) :
  KvAt w7 (some ⟨w6.heap.size, 0, none⟩) c n m 0 [] (ftB w6.heap.size w5.heap.size (Lay.new F n w4.heap.size w3.heap.size) []) ∧ (∀ k, ftB w6.heap.size w5.heap.size (Lay.new F n w4.heap.size w3.heap.size) [] k → F k ∨ w3.heap.size ≤ k) ∧ Below w3.heap.size w3 w7 := by
 have b4 : Below w3.heap.size w3 w4 := by rw [h4]; exact (Below.refl _ _).alloc (Nat.le_refl _) _
 have b5 : Below w4.heap.size w4 w5 := by rw [h5]; exact (Below.refl _ _).alloc (Nat.le_refl _) _
 have b6 : Below w5.heap.size w5 w6 := by rw [h6]; exact (Below.refl _ _).alloc (Nat.le_refl _) _
 have b7 : Below w6.heap.size w6 w7 := by rw [h7]; exact (Below.refl _ _).alloc (Nat.le_refl _) _
 have b67 : Below w5.heap.size w5 w7 := b6.trans (b7.mono b6.size)
 have b57 : Below w4.heap.size w4 w7 := b5.trans (b67.mono b5.size)
 have b37 : Below w3.heap.size w3 w7 := b4.trans (b57.mono b4.size)
 have hI : ∀ {x : List Int}, InT [] x → x = [] := fun {x} hx => hx.elim id fun h' => by cases h'
 have s4 := b4.size
 have s5 := b5.size
 have s6 := b6.size
 refine ⟨?_, fun k hk => ?_, b37⟩
 ·refine KvB.at (r := w4.heap.size) (pp := pp) ⟨?_, rfl, hP.below b37, by simp [Lay.new], fun k hk => .inl ⟨?_, fun x hx => by cases hx⟩, (fun x hx => by cases hx), (fun x hx => by cases hx), ?_, (fun x hx => by cases hx), ⟨fun x hx => ?_, fun x hx => ?_, fun x y hx hy _ => by rw [hI hx, hI hy], fun x y hx hy _ => by rw [hI hx, hI hy]⟩, (fun x hx => by cases hx), (fun x hx => by cases hx)⟩ (okk_new hm hn) (fun e he => by cases he) (by simp [Lay.new])
  ·rw [h7]; exact heap_alloc_new w6 _
  ·simp [Lay.new, hk]
  ·have := World.ownsRow_lit (base := w5.heap.size) (e := 113) (size := 1) w5 (madeCells #[.pointer none] n) n (Nat.le_refl _) (by unfold maxLen; omega) (by simp [madeCells])
   rw [toList_madeCells_one, ← h6] at this
   exact own_base (own_below this b7) (Nat.zero_le _)
  ·rw [hI hx]
   have : w5.heap[w4.heap.size]? = some (.cells (ndC none [] w3.heap.size none 0 0) 124 (0, 0)) := by rw [h5]; exact heap_alloc_new w4 _
   show NdAt w7 w4.heap.size (ahP (fun _ => w4.heap.size) m []) (byL m []) w3.heap.size none 0 0
   rw [show ahP (fun _ => w4.heap.size) m [] = none from if_pos rfl, show byL m [] = [] by simp [byL]]
   exact (b67.block _ (lt_of_block this)).trans this
  ·rw [hI hx]
   have : MvAt w4 w3.heap.size 0 (fun _ => none) := by rw [h4]; exact MvAt.new w3
   exact (this.below b57).ext fun v l _ => (chF_none (fun ch _ hm => by cases hm) v).symm
 ·rcases hk with h' | h' | h' | ⟨x, hx, h' | h'⟩
  ·exact .inr (by omega)
  ·exact .inr (by omega)
  ·exact .inl h'
  ·exact .inr (by have e : k = w4.heap.size := h'; omega)
  ·exact .inr (by have e : k = w3.heap.size := h'; omega)
set_option maxHeartbeats 1000000 in
theorem knew_yes (p : Option Addr) (c : Cf) (n m : Nat) (w : World) (hp : MdAt w p c) (hc : mayB c = true) (hn : 1 ≤ n ∧ n ≤ 256) (hm : 1 ≤ m ∧ m ≤ 16) : Calls Tryz.prog 51 #[.pointer p, .int .i64 n, .int .i64 m] w fun e w' => ∃ g F, e = .returned (.tuple #[.pointer (some ⟨g, 0, none⟩), .int .i64 0]) ∧ KvAt w' (some ⟨g, 0, none⟩) c n m 0 [] F ∧ (∀ k, F k → w.heap.size ≤ k) ∧ Below w.heap.size w w' := by
 have hC := config_any p c w hp
 have q1 : ¬ (m : Int) < 1 := by omega
 have q2 : ¬ (16 : Int) < (m : Int) := by omega
 have HN := hid fun W : World => pnew_yes n W hn.1 hn.2
 have hmk := fun (W : World) => make_ptrs W n (by omega)
 clear hp
 go_enter Tryz.func51, Tryz.ntmps51
 go_wp2_with fail
 refine hC.mono ?_
 rintro e w1 ⟨rfl, hb⟩
 go_wp2_with fail
 refine (may_any _ w1).mono ?_
 rintro e w2 ⟨rfl, hb2⟩
 have HB := hid (hb.trans (hb2.mono hb.size))
 rw [hc]
 clear hb hb2 hC hc
 go_wp2_with fail
 refine (HN.out w2).mono ?_
 rintro e w3 ⟨g, F, rfl, hP, hF, hb3⟩
 have HP := hid hP
 have HF := hid hF
 have HB3 := hid (HB.out.trans (hb3.mono HB.out.size))
 have HS3 := hid hb3.size
 clear hb3 hP hF HN
 obtain ⟨w4, hw4⟩ : ∃ w4, w4 = w3.alloc (.map #[] 0) := ⟨_, rfl⟩
 obtain ⟨w5, hw5⟩ : ∃ w5, w5 = w4.alloc (.cells (ndC none [] w3.heap.size none 0 0) 124) := ⟨_, rfl⟩
 obtain ⟨w6, hw6⟩ : ∃ w6, w6 = w5.alloc (.cells (madeCells #[.pointer none] n) 113) := ⟨_, rfl⟩
 obtain ⟨w7, hw7⟩ : ∃ w7, w7 = w6.alloc (.cells #[.int .i64 m, .pointer (some ⟨g, 0, none⟩), .pointer (some ⟨w4.heap.size, 0, none⟩), .slice (some ⟨w5.heap.size, 0, none⟩) n n, .int .u64 0] 116) := ⟨_, rfl⟩
 obtain ⟨g1, g2, g3⟩ := kv_new (c := c) hn hm HP.out hw4 hw5 hw6 hw7
 have HR : Hid (KvAt w7 (some ⟨w6.heap.size, 0, none⟩) c n m 0 [] (ftB w6.heap.size w5.heap.size (Lay.new F n w4.heap.size w3.heap.size) []) ∧ (∀ k, ftB w6.heap.size w5.heap.size (Lay.new F n w4.heap.size w3.heap.size) [] k → w.heap.size ≤ k) ∧ Below w.heap.size w w7) := ⟨g1, fun k hk => by
  rcases g2 k hk with h' | h'
  ·exact Nat.le_trans HB.out.size (HF.out k h')
  ·exact Nat.le_trans HB3.out.size h', HB3.out.trans (g3.mono HB3.out.size)⟩
 have hmm : (Instr.makeMap 122 none).run Tryz.prog w3 = .ok (.map (some w3.heap.size)) w4 := by rw [hw4]; rfl
 have hmk5 := hmk w5
 rw [← hw6] at hmk5
 replace hw5 : w5 = w4.alloc (.cells #[Value.pointer none, .int .i64 0, .int .i64 0, .int .i64 0, .int .i64 0, .int .i64 0, .int .i64 0, .int .i64 0, .int .i64 0, .int .i64 0, .int .i64 0, .int .i64 0, .int .i64 0, .int .i64 0, .int .i64 0, .int .i64 0, .int .i64 0, .map (some w3.heap.size), .pointer none, .int .i64 0, .int .u64 0] 124) := hw5.trans rfl
 clear hmk g1 g2 g3 hw4 hw6 HP HF HB HB3 HS3
 have hmk6 : (Instr.makeSlice 114 (.int .i64 (n : Int)) (.int .i64 (n : Int))).run Tryz.prog (w4.alloc (.cells #[Value.pointer none, .int .i64 0, .int .i64 0, .int .i64 0, .int .i64 0, .int .i64 0, .int .i64 0, .int .i64 0, .int .i64 0, .int .i64 0, .int .i64 0, .int .i64 0, .int .i64 0, .int .i64 0, .int .i64 0, .int .i64 0, .int .i64 0, .map (some w3.heap.size), .pointer none, .int .i64 0, .int .u64 0] 124)) = .ok (.slice (some ⟨w5.heap.size, 0, none⟩) n n) w6 := by rw [← hw5]; exact hmk5
 clear hw5 hmk5
 go_wp2_with fail
 rw [← hw7]
 go_ret2
 exact ⟨_, _, rfl, HR.out⟩
def zeroK : Array Value := #[.int .i64 0, .pointer none, .pointer none, .slice none 0 0, .int .u64 0]
def KvNo (W : World) (p : Option Addr) : Prop := p = none ∨ ∃ g, p = some ⟨g, 0, none⟩ ∧ W.heap[g]? = some (.cells zeroK 116 (0, 0))
theorem kmade_no {W : World} {p : Option Addr} (h : KvNo W p) : Calls Tryz.prog 60 #[.pointer p] W fun e w' => e = .returned (.bool false) ∧ W = w' := by
 rcases h with rfl | ⟨g, rfl, hg⟩
 ·go_enter Tryz.func60, Tryz.ntmps60
  go_wp2
  go_ret
  exact ⟨rfl, rfl⟩
 ·have c1 : W.cell? ⟨g, 1, none⟩ = some (.pointer none) := by rw [cell_of_row _ _ _ _ _ _ hg]; rfl
  clear hg
  go_enter Tryz.func60, Tryz.ntmps60
  go_wp2
  go_ret
  exact ⟨rfl, rfl⟩
theorem kno_find (p : Option Addr) (a : Option Addr) (n cap : Nat) (w : World) (h : KvNo w p) (hm : n ≤ cap ∧ cap ≤ 9223372036854775807) : Calls Tryz.prog 105 #[.pointer p, .slice a n cap] w fun e w' => e = .returned (.tuple #[.pointer none, .int .i64 0]) ∧ Below w.heap.size w w' := by
 have hM := kmade_no h
 clear h hm
 go_enter Tryz.func105, Tryz.ntmps105
 go_wp2_with fail
 refine hM.mono ?_
 rintro e w' ⟨rfl, rfl⟩
 go_wp2
 go_ret2
 exact ⟨rfl, Below.refl _ _⟩
end Go.Proofs.YtjgggialnegddaaGreat
namespace Go.Proofs.YtjgggialnegddaaGreat
open Go.RowKit Go.Maps
def IntB (W : World) (k : Nat) : Prop := ∃ cur fz, W.heap[k]? = some (.cells cur 3 fz)
theorem IntB.lt {W : World} {k : Nat} (h : IntB W k) : k < W.heap.size := by obtain ⟨c, f, e⟩ := h; exact lt_of_block e
theorem IntB.same {W W' : World} {k : Nat} (h : IntB W k) (hb : W'.heap[k]? = W.heap[k]?) : IntB W' k := by obtain ⟨c, f, e⟩ := h; exact ⟨c, f, hb.trans e⟩
theorem StT.int {W : World} {q : Option Addr} {c : Cf} {ts : List Int} {ta : Option Addr} (h : StT W q c ts ta) {k : Nat} (hk : mF ta k) : IntB W k := by
 obtain ⟨g, pm, tc, ha, hc, pq, _, _, h5, _⟩ := h
 obtain ⟨a, e, rfl⟩ := hk
 exact h5 a e
theorem KvB.keep {W W' : World} {B bb r : Nat} {pp : Option Addr} {L : Lay} {c : Cf} {pg sz : Nat} {tm : Int} {T : List (List Int)} (h : KvB W B bb r pp L c pg sz tm T) (hs : W.heap.size ≤ W'.heap.size) (hone : ∀ k, ftB B bb L T k → W'.heap[k]? = W.heap[k]?) (hk : KpL W W') (hi : ∀ x ∈ T, ∀ k, mF (L.ta x) k → W'.heap[k]? = W.heap[k]?) : KvB W' B bb r pp L c pg sz tm T := by
 refine ⟨(hone B (.inl rfl)).trans h.var, h.root, h.pool.same hs fun k hk => hone k (.inr (.inr (.inl hk))), h.hsl, h.held, h.pgb, h.pgi, own_blk h.row fun b hb' => ?_, h.at', h.tree.same fun x hx => ⟨hone _ (.inr (.inr (.inr ⟨x, hx, .inl rfl⟩))), hone _ (.inr (.inr (.inr ⟨x, hx, .inr rfl⟩)))⟩, fun x hx => ⟨(h.sts x hx).1.keep hk (hi x hx), (h.sts x hx).2⟩, h.tok⟩
 cases hb'
 exact hone bb (.inr (.inl rfl))
structure KcAt (W : World) (p : Option Addr) (c : Cf) (pg sz : Nat) (tm : Int) (es : List En) (F It : Nat → Prop) : Prop where
 ok : OkK pg sz tm es
 rest : ∃ B bb r pp L, p = some ⟨B, 0, none⟩ ∧ KvB W B bb r pp L c pg sz tm (txs es) ∧ (∀ e ∈ es, L.us e.1 = e.2) ∧ (L.mx : Int) ≤ 300 * tm ∧ F = ftB B bb L (txs es) ∧ ∀ x ∈ txs es, ∀ k, mF (L.ta x) k → It k
section
variable {W W' : World} {p : Option Addr} {c : Cf} {pg sz : Nat} {tm : Int} {es : List En} {F It : Nat → Prop}
theorem KcAt.old (h : KcAt W p c pg sz tm es F It) (k : Nat) (hk : F k) : k < W.heap.size := by
 obtain ⟨B, bb, r, pp, L, rfl, h1, h2, h3, rfl, h5⟩ := h.rest
 exact h1.old k hk
theorem KcAt.kind (h : KcAt W p c pg sz tm es F It) {k : Nat} (hk : F k) :
  (∃ cur t fz, W.heap[k]? = some (.cells cur t fz) ∧ (t = 116 ∨ t = 113 ∨ t = 156 ∨ t = 3 ∨ t = 124)) ∨ ∃ es clock, W.heap[k]? = some (.map es clock) := by
 obtain ⟨B, bb, r, pp, L, rfl, h1, h2, h3, rfl, h5⟩ := h.rest
 exact h1.kind hk
theorem KcAt.mono (h : KcAt W p c pg sz tm es F It) {It' : Nat → Prop} (hi : ∀ k, It k → It' k) : KcAt W p c pg sz tm es F It' := by
 obtain ⟨B, bb, r, pp, L, h0, h1, h2, h3, h4, h5⟩ := h.rest
 exact ⟨h.ok, B, bb, r, pp, L, h0, h1, h2, h3, h4, fun x hx k hk => hi k (h5 x hx k hk)⟩
theorem KcAt.min (h : KcAt W p c pg sz tm es F It) : ∃ It0 : Nat → Prop, KcAt W p c pg sz tm es F It0 ∧ (∀ k, It0 k → It k) ∧ ∀ k, It0 k → IntB W k ∧ ¬ F k := by
 obtain ⟨B, bb, r, pp, L, h0, h1, h2, h3, h4, h5⟩ := h.rest
 refine ⟨fun k => ∃ x ∈ txs es, mF (L.ta x) k, ⟨h.ok, B, bb, r, pp, L, h0, h1, h2, h3, h4, fun x hx k hk => ⟨x, hx, hk⟩⟩, ?_, ?_⟩
 ·rintro k ⟨x, hx, hk⟩
  exact h5 x hx k hk
 ·rintro k ⟨x, hx, hk⟩
  obtain ⟨s1, s2⟩ := h1.sts x hx
  exact ⟨s1.int hk, by rw [h4]; exact h1.taft s1 s2 hk⟩
theorem KcAt.keep (h : KcAt W p c pg sz tm es F It) (hs : W.heap.size ≤ W'.heap.size) (hF : ∀ k, F k → W'.heap[k]? = W.heap[k]?) (hI : ∀ k, It k → W'.heap[k]? = W.heap[k]?) (hk : KpL W W') : KcAt W' p c pg sz tm es F It := by
 obtain ⟨B, bb, r, pp, L, h0, h1, h2, h3, rfl, h5⟩ := h.rest
 exact ⟨h.ok, B, bb, r, pp, L, h0, h1.keep hs hF hk fun x hx k hk => hI k (h5 x hx k hk), h2, h3, rfl, h5⟩
theorem kc_find (a : Option Addr) (nt cap : Nat) (ts : List Int) (w : World) (h : KcAt w p c pg sz tm es F It) (hc : mayB c = true) (ht : Reads .i64 w a nt cap ts) (hk : Tk ts) (hap : ∀ q, a = some q → ¬ F q.block) (hn : nt ≤ 256) (h1 : tm ≤ 100000) :
  Calls Tryz.prog 105 #[.pointer p, .slice a nt cap] w fun e w' => ∃ q n es' F', e = .returned (.tuple #[.pointer q, .int .i64 (n : Nat)]) ∧ n ≤ nt ∧ ((n = 0 ∧ q = none) ∨ (0 < n ∧ ∃ ta, StT w' q c (ts.take n) ta ∧ ∀ k, mF ta k → It k ∨ w.heap.size ≤ k)) ∧ KcAt w' p c pg sz (tm + 1) es' F' It ∧ (∀ k, F' k → F k) ∧ Fb F w w' := by
 obtain ⟨B, bb, r, pp, L, rfl, k1, k2, k3, rfl, k5⟩ := h.rest
 obtain ⟨J, hJ⟩ := h.ok.far ts
 have hle := hJ.le
 rw [ht.size] at hle
 refine (kfind_in k1 h.ok.z hc h.ok.t h1 a nt cap ts ht hk hn hap hJ).mono ?_
 rintro e w' ⟨q, rfl, hF, us, g1, g2, g3⟩
 refine ⟨q, J * sz, useK (tm + 1) ts es es.length, _, rfl, hle, ?_, ⟨h.ok.find ts _, B, bb, r, pp, { L with us := us }, rfl, by rw [txs_use]; exact g1, g2.useK hJ h.ok.e k2, by show (L.mx : Int) ≤ _; omega, rfl, fun x hx k hk => k5 x (by rw [txs_use] at hx; exact hx) k hk⟩, fun k hk => by rw [txs_use] at hk; exact hk, g3⟩
 rcases hF with ⟨h1, h2⟩ | ⟨h1, ta, h2, h3⟩
 ·exact .inl ⟨by omega, h2⟩
 ·refine .inr ⟨by omega, ta, by rw [Int.toNat_natCast] at h2; exact h2, fun k hk => ?_⟩
  rcases h3 k hk with ⟨y, hy, h'⟩ | h'
  ·exact .inl (k5 y hy k h')
  ·exact .inr h'
theorem kc_put (q : Option Addr) (ts : List Int) (tb : Option Addr) (w : World) (h : KcAt w p c pg sz tm es F It) (hc : mayB c = true) (hs : StT w q c ts tb) (hk : Tk ts) (hap : ∀ k, mF tb k → ¬ F k) (h1 : tm ≤ 100000) :
  Calls Tryz.prog 59 #[.pointer p, .pointer q] w fun e w' => ∃ n es' F' It', e = .returned (.int .i64 n) ∧ KcAt w' p c pg sz (tm + 1) es' F' It' ∧ (∀ k, F' k → F k ∨ w.heap.size ≤ k) ∧ (∀ k, It' k → It k ∨ mF tb k ∨ w.heap.size ≤ k) ∧ Fb F w w' := by
 obtain ⟨B, bb, r, pp, L, rfl, k1, k2, k3, rfl, k5⟩ := h.rest
 refine (kput_in k1 h.ok k2 hc h1 (by omega) q ts tb hs (fun k hk' hf => hap k hk' (.inr (.inr (.inl hf)))) hk).mono ?_
 rintro e w' ⟨rfl, L', g1, g2, g3, g4, g5, g6⟩
 have hm : ts.length ≤ 256 := by obtain ⟨_, _, _, _, _, _, _, _, _, _, h⟩ := hs; exact h
 refine ⟨_, _, _, fun k => It k ∨ mF tb k ∨ w.heap.size ≤ k, rfl, ⟨h.ok.put ts hm, B, bb, r, pp, L', rfl, g1, g2, by have := h.ok.t; omega, rfl, fun x hx k hk' => ?_⟩, g4, fun k hk => hk, g5⟩
 rcases g6 x hx k hk' with ⟨y, hy, h'⟩ | h'
 ·exact .inl (k5 y hy k h')
 ·exact .inr h'
end
theorem kno_put2 (p q : Option Addr) (w : World) (h : KvNo w p) : Calls Tryz.prog 59 #[.pointer p, .pointer q] w fun e w' => e = .returned (.int .i64 0) ∧ Below w.heap.size w w' := by
 have hM := kmade_no h
 clear h
 go_enter Tryz.func59, Tryz.ntmps59
 go_wp2_with fail
 refine hM.mono ?_
 rintro e w' ⟨rfl, rfl⟩
 go_wp2
 go_ret
 exact ⟨rfl, Below.refl _ _⟩
def CaAt (W : World) (p : Option Addr) (s : Sg) (tk : Nat) (F It : Nat → Prop) : Prop :=
 (s.pg = 0 ∧ p = none ∧ ∀ k, ¬ F k) ∨ ∃ (pg sz : Nat) (tm : Int) (es : List En), s.pg = pg ∧ tm ≤ tk ∧ KcAt W p s.c pg sz tm es F It
section
variable {W W' : World} {p : Option Addr} {s : Sg} {tk : Nat} {F It : Nat → Prop}
theorem CaAt.old (h : CaAt W p s tk F It) (k : Nat) (hk : F k) : k < W.heap.size := by
 rcases h with ⟨_, _, h⟩ | ⟨pg, sz, tm, es, h1, h2, h3⟩
 ·exact absurd hk (h k)
 ·exact h3.old k hk
theorem CaAt.kind (h : CaAt W p s tk F It) {k : Nat} (hk : F k) :
  (∃ cur t fz, W.heap[k]? = some (.cells cur t fz) ∧ (t = 116 ∨ t = 113 ∨ t = 156 ∨ t = 3 ∨ t = 124)) ∨ ∃ es clock, W.heap[k]? = some (.map es clock) := by
 rcases h with ⟨_, _, h⟩ | ⟨pg, sz, tm, es, h1, h2, h3⟩
 ·exact absurd hk (h k)
 ·exact h3.kind hk
theorem CaAt.mono (h : CaAt W p s tk F It) {It' : Nat → Prop} {tk' : Nat} (hi : ∀ k, It k → It' k) (ht : tk ≤ tk') : CaAt W p s tk' F It' := by
 rcases h with h | ⟨pg, sz, tm, es, h1, h2, h3⟩
 ·exact .inl h
 ·exact .inr ⟨pg, sz, tm, es, h1, by omega, h3.mono hi⟩
theorem CaAt.keep (h : CaAt W p s tk F It) (hs : W.heap.size ≤ W'.heap.size) (hF : ∀ k, F k → W'.heap[k]? = W.heap[k]?) (hI : ∀ k, It k → W'.heap[k]? = W.heap[k]?) (hk : KpL W W') : CaAt W' p s tk F It := by
 rcases h with h | ⟨pg, sz, tm, es, h1, h2, h3⟩
 ·exact .inl h
 ·exact .inr ⟨pg, sz, tm, es, h1, h2, h3.keep hs hF hI hk⟩
theorem ca_find (a : Option Addr) (nt cap : Nat) (ts : List Int) (w : World) (h : CaAt w p s tk F It) (hc : mayB s.c = true) (ht : Reads .i64 w a nt cap ts) (hk : Tk ts) (hap : ∀ q, a = some q → ¬ F q.block) (hn : nt ≤ 256) (h1 : tk ≤ 99990) :
  Calls Tryz.prog 105 #[.pointer p, .slice a nt cap] w fun e w' => ∃ q n F', e = .returned (.tuple #[.pointer q, .int .i64 (n : Nat)]) ∧ n ≤ nt ∧ ((n = 0 ∧ q = none) ∨ (0 < n ∧ ∃ ta, StT w' q s.c (ts.take n) ta ∧ ∀ k, mF ta k → It k ∨ w.heap.size ≤ k)) ∧ CaAt w' p s (tk + 1) F' It ∧ (∀ k, F' k → F k) ∧ Fb F w w' := by
 rcases h with ⟨h2, rfl, h3⟩ | ⟨pg, sz, tm, es, h2, h3, h4⟩
 ·refine (kno_find none a nt cap w (.inl rfl) ⟨ht.room, ht.most⟩).mono ?_
  rintro e w' ⟨rfl, hb⟩
  exact ⟨none, 0, F, rfl, Nat.zero_le _, .inl ⟨rfl, rfl⟩, .inl ⟨h2, rfl, h3⟩, fun k hk => hk, Fb.of hb⟩
 ·refine (kc_find a nt cap ts w h4 hc ht hk hap hn (by omega)).mono ?_
  rintro e w' ⟨q, n, es', F', rfl, g1, g2, g3, g4, g5⟩
  exact ⟨q, n, F', rfl, g1, g2, .inr ⟨pg, sz, _, es', h2, by omega, g3⟩, g4, g5⟩
theorem ca_put (q : Option Addr) (ts : List Int) (tb : Option Addr) (w : World) (h : CaAt w p s tk F It) (hc : mayB s.c = true) (hs : StT w q s.c ts tb) (hk : Tk ts) (hap : ∀ k, mF tb k → ¬ F k) (h1 : tk ≤ 99990) :
  Calls Tryz.prog 59 #[.pointer p, .pointer q] w fun e w' => ∃ n F' It', e = .returned (.int .i64 n) ∧ CaAt w' p s (tk + 1) F' It' ∧ (∀ k, F' k → F k ∨ w.heap.size ≤ k) ∧ (∀ k, It' k → It k ∨ mF tb k ∨ w.heap.size ≤ k) ∧ (∀ k, It' k → IntB w' k ∧ ¬ F' k) ∧ Fb F w w' := by
 rcases h with ⟨h2, rfl, h3⟩ | ⟨pg, sz, tm, es, h2, h3, h4⟩
 ·refine (kno_put2 none q w (.inl rfl)).mono ?_
  rintro e w' ⟨rfl, hb⟩
  exact ⟨0, F, fun _ => False, rfl, .inl ⟨h2, rfl, h3⟩, fun k hk => .inl hk, fun k hk => hk.elim, fun k hk => hk.elim, Fb.of hb⟩
 ·refine (kc_put q ts tb w h4 hc hs hk hap (by omega)).mono ?_
  rintro e w' ⟨n, es', F', It', rfl, g1, g2, g3, g4⟩
  obtain ⟨It0, j1, j2, j3⟩ := g1.min
  exact ⟨n, F', It0, rfl, .inr ⟨pg, sz, _, es', h2, by omega, j1⟩, g2, fun k hk => g3 k (j2 k hk), j3, g4⟩
end
end Go.Proofs.YtjgggialnegddaaGreat
namespace Go.Proofs.YtjgggialnegddaaGreat
open Go.RowKit Go.Maps
def AtV (a : At) (pa : Option Addr) (pc : Nat) (sp : Option Addr) : Array Value := #[.int .u64 a.id, .int .u64 a.seed, .slice pa a.ts.length pc, .int .i64 a.most, .int .i64 a.k, .pointer sp]
def StO (W : World) (c : Cf) (a : At) (sp : Option Addr) (It : Nat → Prop) : Prop := sp = none ∨ ∃ ta, StT W sp c (0 :: a.ts ++ (a.text c).take a.k) ta ∧ ∀ k, mF ta k → It k
def AtIn (W : World) (c : Cf) (b : Nat) (a : At) (It : Nat → Prop) : Prop :=
 ∃ (pa : Option Addr) (pc : Nat) (sp : Option Addr), W.heap[b]? = some (.cells (AtV a pa pc sp) 106 (0, 0)) ∧ Reads .i64 W pa a.ts.length pc a.ts ∧ (∀ k, mF pa k → It k) ∧ StO W c a sp It ∧ ∀ t ∈ a.ts, 0 ≤ t ∧ t < c.vocab
theorem StO.keep {W W' : World} {c : Cf} {a : At} {sp : Option Addr} {It : Nat → Prop} (h : StO W c a sp It) (hI : ∀ k, It k → W'.heap[k]? = W.heap[k]?) (hk : KpL W W') : StO W' c a sp It := by
 rcases h with h | ⟨ta, h1, h2⟩
 ·exact .inl h
 ·exact .inr ⟨ta, h1.keep hk fun k hk' => hI k (h2 k hk'), h2⟩
theorem AtIn.keep {W W' : World} {c : Cf} {b : Nat} {a : At} {It : Nat → Prop} (h : AtIn W c b a It) (hb : W'.heap[b]? = W.heap[b]?) (hI : ∀ k, It k → W'.heap[k]? = W.heap[k]?) (hk : KpL W W') : AtIn W' c b a It := by
 obtain ⟨pa, pc, sp, h1, h2, h3, h4, h5⟩ := h
 exact ⟨pa, pc, sp, hb.trans h1, h2.same fun k hk' => hI k (h3 k hk'), h3, h4.keep hI hk, h5⟩
theorem AtIn.mono {W : World} {c : Cf} {b : Nat} {a : At} {It It' : Nat → Prop} (h : AtIn W c b a It) (hi : ∀ k, It k → It' k) : AtIn W c b a It' := by
 obtain ⟨pa, pc, sp, h1, h2, h3, h4, h5⟩ := h
 refine ⟨pa, pc, sp, h1, h2, fun k hk => hi k (h3 k hk), ?_, h5⟩
 rcases h4 with h | ⟨ta, h1, h2⟩
 ·exact .inl h
 ·exact .inr ⟨ta, h1, fun k hk => hi k (h2 k hk)⟩
theorem AtIn.run {W : World} {c : Cf} {b : Nat} {a : At} {It : Nat → Prop} (h : AtIn W c b a It) (r : Bool) : AtIn W c b { a with run := r } It := h
def RpV (pm pc : Option Addr) (S : Rs) (mb : Nat) (qv bv : Value) : Array Value := #[.pointer pm, .pointer pc, .int .i64 S.s.q, .int .i64 S.s.b, .int .i64 S.s.ch, .int .u64 S.inc, .bool S.dr, .map (some mb), qv, bv]
def mapF (L : List At) (nd : Int → Nat) (x : Int) : Option Nat := if hasB L x = true then some (nd x) else none
structure EnI (W : World) (B mb : Nat) (pm pc : Option Addr) (qv bv : Value) (nd : Int → Nat) (S : Rs) (bs qs : List At) (Fc It : Nat → Prop) : Prop where
 ok : OkR S
 bsl : (bs.length : Int) ≤ S.s.b
 qsl : (qs.length : Int) ≤ S.s.q
 L : S.L = bs ++ qs
 rb : ∀ a ∈ bs, a.run = true
 rq : ∀ a ∈ qs, a.run = false
 var : W.heap[B]? = some (.cells (RpV pm pc S mb qv bv) 73 (0, 0))
 md : ∃ g, pm = some ⟨g, 0, none⟩ ∧ W.heap[g]? = some (.cells (CfV S.s.c) 100 (0, 0))
 ca : CaAt W pc S.s S.tk Fc It
 map : AmAt W mb S.L.length (mapF S.L nd)
 mbc : ¬ Fc mb
 qrow : UQ W qv (qs.map (·.id))
 brow : UQ W bv (bs.map (·.id))
 qb : ∀ k, qv.ownBlock = some k → bv.ownBlock ≠ some k
 att : ∀ a ∈ S.L, AtIn W S.s.c (nd a.id) a It
 itI : ∀ k, It k → IntB W k ∧ ¬ Fc k
def enF (B mb : Nat) (qv bv : Value) (nd : Int → Nat) (S : Rs) (Fc : Nat → Prop) (k : Nat) : Prop := k = B ∨ k = mb ∨ qv.ownBlock = some k ∨ bv.ownBlock = some k ∨ (∃ a ∈ S.L, k = nd a.id) ∨ Fc k
theorem UQ.kind {W : World} {v : Value} {ids : List Int} (h : UQ W v ids) {k : Nat} (hk : v.ownBlock = some k) : ∃ cur, W.heap[k]? = some (.cells cur 22 (0, 0)) := own_type h hk
section
variable {W W' : World} {B mb : Nat} {pm pc : Option Addr} {qv bv : Value} {nd : Int → Nat} {S : Rs} {bs qs : List At} {Fc It : Nat → Prop}
theorem EnI.may (h : EnI W B mb pm pc qv bv nd S bs qs Fc It) : mayB S.s.c = true := by
 have := h.ok.set
 unfold setB at this
 simp only [Bool.and_eq_true] at this
 exact this.1
theorem EnI.mdAt (h : EnI W B mb pm pc qv bv nd S bs qs Fc It) : MdAt W pm S.s.c := by
 obtain ⟨g, e, hg⟩ := h.md
 exact .inr ⟨g, e, hg⟩
theorem EnI.kind (h : EnI W B mb pm pc qv bv nd S bs qs Fc It) {k : Nat} (hk : enF B mb qv bv nd S Fc k) :
  (∃ cur t fz, W.heap[k]? = some (.cells cur t fz) ∧ (t = 73 ∨ t = 22 ∨ t = 106 ∨ t = 116 ∨ t = 113 ∨ t = 156 ∨ (t = 3 ∧ Fc k) ∨ t = 124)) ∨ ∃ es clock, W.heap[k]? = some (.map es clock) := by
 rcases hk with rfl | rfl | hk | hk | ⟨a, ha, rfl⟩ | hk
 ·exact .inl ⟨_, _, _, h.var, .inl rfl⟩
 ·exact .inr h.map.blk
 ·obtain ⟨cur, hc⟩ := h.qrow.kind hk
  exact .inl ⟨_, _, _, hc, .inr (.inl rfl)⟩
 ·obtain ⟨cur, hc⟩ := h.brow.kind hk
  exact .inl ⟨_, _, _, hc, .inr (.inl rfl)⟩
 ·obtain ⟨pa, pc, sp, h1, _⟩ := h.att a ha
  exact .inl ⟨_, _, _, h1, .inr (.inr (.inl rfl))⟩
 ·rcases h.ca.kind hk with ⟨cur, t, fz, h1, h2⟩ | h'
  ·refine .inl ⟨cur, t, fz, h1, ?_⟩
   rcases h2 with h2 | h2 | h2 | h2 | h2
   ·exact .inr (.inr (.inr (.inl h2)))
   ·exact .inr (.inr (.inr (.inr (.inl h2))))
   ·exact .inr (.inr (.inr (.inr (.inr (.inl h2)))))
   ·exact .inr (.inr (.inr (.inr (.inr (.inr (.inl ⟨h2, hk⟩))))))
   ·exact .inr (.inr (.inr (.inr (.inr (.inr (.inr h2))))))
  ·exact .inr h'
theorem EnI.old (h : EnI W B mb pm pc qv bv nd S bs qs Fc It) (k : Nat) (hk : enF B mb qv bv nd S Fc k) : k < W.heap.size := by
 rcases h.kind hk with ⟨cur, t, fz, h1, _⟩ | ⟨es, cl, h1⟩ <;> exact lt_of_block h1
theorem EnI.oldI (h : EnI W B mb pm pc qv bv nd S bs qs Fc It) (k : Nat) (hk : It k) : k < W.heap.size := (h.itI k hk).1.lt
theorem EnI.kpl (h : EnI W B mb pm pc qv bv nd S bs qs Fc It) {G : Nat → Prop} (hb : Fb G W W') (hG : ∀ k, G k → enF B mb qv bv nd S Fc k ∨ W.heap.size ≤ k) : KpL W W' := by
 refine KpL.fb hb fun k cur t fz hk hc ht => ?_
 rcases hG k hk with hk | hk
 ·rcases h.kind hk with ⟨cur', t', fz', h1, h2⟩ | ⟨es, cl, h1⟩
  ·rw [hc] at h1
   simp at h1
   obtain ⟨_, rfl, _⟩ := h1
   rcases h2 with h2 | h2 | h2 | h2 | h2 | h2 | ⟨h2, _⟩ | h2 <;> (rw [h2] at ht; simp at ht)
  ·rw [hc] at h1
   simp at h1
 ·have := lt_of_block hc
  omega
theorem EnI.itF (h : EnI W B mb pm pc qv bv nd S bs qs Fc It) {k : Nat} (hi : It k) : ¬ enF B mb qv bv nd S Fc k := fun hk => by
 obtain ⟨⟨cur, fz, hc⟩, hn⟩ := h.itI k hi
 rcases h.kind hk with ⟨cur', t', fz', h1, h2⟩ | ⟨es, cl, h1⟩
 ·rw [hc] at h1
  simp at h1
  obtain ⟨_, rfl, _⟩ := h1
  rcases h2 with h2 | h2 | h2 | h2 | h2 | h2 | ⟨_, h2⟩ | h2
  all_goals first | exact hn h2 | simp at h2
 ·rw [hc] at h1
  simp at h1
theorem EnI.its (h : EnI W B mb pm pc qv bv nd S bs qs Fc It) {G : Nat → Prop} (hb : Fb G W W') (hG : ∀ k, G k → enF B mb qv bv nd S Fc k ∨ W.heap.size ≤ k) (k : Nat) (hk : It k) : W'.heap[k]? = W.heap[k]? :=
 hb.block k (h.oldI k hk) fun hg => (hG k hg).elim (h.itF hk) fun hl => by have := h.oldI k hk; omega
theorem EnI.keep (h : EnI W B mb pm pc qv bv nd S bs qs Fc It) (hs : W.heap.size ≤ W'.heap.size) (hF : ∀ k, enF B mb qv bv nd S Fc k → W'.heap[k]? = W.heap[k]?) (hI : ∀ k, It k → W'.heap[k]? = W.heap[k]?) (hk : KpL W W') : EnI W' B mb pm pc qv bv nd S bs qs Fc It := by
 refine ⟨h.ok, h.bsl, h.qsl, h.L, h.rb, h.rq, (hF B (.inl rfl)).trans h.var, ?_, h.ca.keep hs (fun k hk' => hF k (.inr (.inr (.inr (.inr (.inr hk')))))) hI hk, h.map.same (hF mb (.inr (.inl rfl))), h.mbc, own_blk h.qrow fun b hb => hF b (.inr (.inr (.inl hb))), own_blk h.brow fun b hb => hF b (.inr (.inr (.inr (.inl hb)))), h.qb, fun a ha => (h.att a ha).keep (hF _ (.inr (.inr (.inr (.inr (.inl ⟨a, ha, rfl⟩)))))) hI hk, fun k hk' => ⟨(h.itI k hk').1.same (hI k hk'), (h.itI k hk').2⟩⟩
 obtain ⟨g, e, hg⟩ := h.md
 exact ⟨g, e, hk _ _ _ _ hg (by decide)⟩
theorem EnI.below (h : EnI W B mb pm pc qv bv nd S bs qs Fc It) (hb : Below W.heap.size W W') : EnI W' B mb pm pc qv bv nd S bs qs Fc It := h.keep hb.size (fun k hk => hb.block k (h.old k hk)) (fun k hk => hb.block k (h.oldI k hk)) (KpL.of hb)
theorem EnI.cells (h : EnI W B mb pm pc qv bv nd S bs qs Fc It) : W.cell? ⟨B, 0, none⟩ = some (.pointer pm) ∧ W.cell? ⟨B, 1, none⟩ = some (.pointer pc) ∧ W.cell? ⟨B, 2, none⟩ = some (.int .i64 S.s.q) ∧ W.cell? ⟨B, 3, none⟩ = some (.int .i64 S.s.b) ∧ W.cell? ⟨B, 4, none⟩ = some (.int .i64 S.s.ch) ∧ W.cell? ⟨B, 5, none⟩ = some (.int .u64 S.inc) ∧ W.cell? ⟨B, 6, none⟩ = some (.bool S.dr) ∧ W.cell? ⟨B, 7, none⟩ = some (.map (some mb)) ∧ W.cell? ⟨B, 8, none⟩ = some qv ∧ W.cell? ⟨B, 9, none⟩ = some bv := by
 refine ⟨?_, ?_, ?_, ?_, ?_, ?_, ?_, ?_, ?_, ?_⟩ <;> (rw [cell_of_row _ _ _ _ _ _ h.var]; rfl)
theorem EnI.frozen (h : EnI W B mb pm pc qv bv nd S bs qs Fc It) (j : Nat) : W.frozen? ⟨B, j, none⟩ = false := frozen_of_row _ _ j _ _ h.var
theorem EnI.Bmb (h : EnI W B mb pm pc qv bv nd S bs qs Fc It) : B ≠ mb := fun e => by
 obtain ⟨es, cl, hm⟩ := h.map.blk
 rw [← e, h.var] at hm
 simp at hm
theorem EnI.Bq (h : EnI W B mb pm pc qv bv nd S bs qs Fc It) : qv.ownBlock ≠ some B := fun e => by
 obtain ⟨cur, hc⟩ := h.qrow.kind e
 rw [h.var] at hc
 simp at hc
theorem EnI.Bb (h : EnI W B mb pm pc qv bv nd S bs qs Fc It) : bv.ownBlock ≠ some B := fun e => by
 obtain ⟨cur, hc⟩ := h.brow.kind e
 rw [h.var] at hc
 simp at hc
theorem EnI.Bn (h : EnI W B mb pm pc qv bv nd S bs qs Fc It) {a : At} (ha : a ∈ S.L) : nd a.id ≠ B := fun e => by
 obtain ⟨pa, pc, sp, h1, _⟩ := h.att a ha
 rw [e, h.var] at h1
 simp at h1
theorem EnI.Bc (h : EnI W B mb pm pc qv bv nd S bs qs Fc It) : ¬ Fc B := fun hk => by
 rcases h.ca.kind hk with ⟨cur, t, fz, h1, h2⟩ | ⟨es, cl, h1⟩
 ·rw [h.var] at h1
  simp at h1
  obtain ⟨_, rfl, _⟩ := h1
  rcases h2 with h2 | h2 | h2 | h2 | h2 <;> simp at h2
 ·rw [h.var] at h1
  simp at h1
theorem EnI.mq (h : EnI W B mb pm pc qv bv nd S bs qs Fc It) : qv.ownBlock ≠ some mb := fun e => by
 obtain ⟨cur, hc⟩ := h.qrow.kind e
 obtain ⟨es, cl, hm⟩ := h.map.blk
 rw [hm] at hc
 simp at hc
theorem EnI.mbv (h : EnI W B mb pm pc qv bv nd S bs qs Fc It) : bv.ownBlock ≠ some mb := fun e => by
 obtain ⟨cur, hc⟩ := h.brow.kind e
 obtain ⟨es, cl, hm⟩ := h.map.blk
 rw [hm] at hc
 simp at hc
theorem EnI.mn (h : EnI W B mb pm pc qv bv nd S bs qs Fc It) {a : At} (ha : a ∈ S.L) : nd a.id ≠ mb := fun e => by
 obtain ⟨pa, pc, sp, h1, _⟩ := h.att a ha
 obtain ⟨es, cl, hm⟩ := h.map.blk
 rw [e, hm] at h1
 simp at h1
theorem EnI.qn (h : EnI W B mb pm pc qv bv nd S bs qs Fc It) {a : At} (ha : a ∈ S.L) : qv.ownBlock ≠ some (nd a.id) := fun e => by
 obtain ⟨cur, hc⟩ := h.qrow.kind e
 obtain ⟨pa, pc, sp, h1, _⟩ := h.att a ha
 rw [hc] at h1
 simp at h1
theorem EnI.bn (h : EnI W B mb pm pc qv bv nd S bs qs Fc It) {a : At} (ha : a ∈ S.L) : bv.ownBlock ≠ some (nd a.id) := fun e => by
 obtain ⟨cur, hc⟩ := h.brow.kind e
 obtain ⟨pa, pc, sp, h1, _⟩ := h.att a ha
 rw [hc] at h1
 simp at h1
theorem EnI.cn (h : EnI W B mb pm pc qv bv nd S bs qs Fc It) {a : At} (ha : a ∈ S.L) : ¬ Fc (nd a.id) := fun hk => by
 obtain ⟨pa, pc, sp, g1, _⟩ := h.att a ha
 rcases h.ca.kind hk with ⟨cur, t, fz, h1, h2⟩ | ⟨es, cl, h1⟩
 ·rw [g1] at h1
  simp at h1
  obtain ⟨_, rfl, _⟩ := h1
  rcases h2 with h2 | h2 | h2 | h2 | h2 <;> simp at h2
 ·rw [g1] at h1
  simp at h1
theorem EnI.cq (h : EnI W B mb pm pc qv bv nd S bs qs Fc It) {k : Nat} (e : qv.ownBlock = some k) : ¬ Fc k := fun hk => by
 obtain ⟨cur', hc⟩ := h.qrow.kind e
 rcases h.ca.kind hk with ⟨cur, t, fz, h1, h2⟩ | ⟨es, cl, h1⟩
 ·rw [hc] at h1
  simp at h1
  obtain ⟨_, rfl, _⟩ := h1
  rcases h2 with h2 | h2 | h2 | h2 | h2 <;> simp at h2
 ·rw [hc] at h1
  simp at h1
theorem EnI.cb (h : EnI W B mb pm pc qv bv nd S bs qs Fc It) {k : Nat} (e : bv.ownBlock = some k) : ¬ Fc k := fun hk => by
 obtain ⟨cur', hc⟩ := h.brow.kind e
 rcases h.ca.kind hk with ⟨cur, t, fz, h1, h2⟩ | ⟨es, cl, h1⟩
 ·rw [hc] at h1
  simp at h1
  obtain ⟨_, rfl, _⟩ := h1
  rcases h2 with h2 | h2 | h2 | h2 | h2 <;> simp at h2
 ·rw [hc] at h1
  simp at h1
theorem EnI.ndi (h : EnI W B mb pm pc qv bv nd S bs qs Fc It) {a b : At} (ha : a ∈ S.L) (hb : b ∈ S.L) (e : nd a.id = nd b.id) : a.id = b.id := by
 obtain ⟨pa, pc, sp, h1, _⟩ := h.att a ha
 obtain ⟨pa', pc', sp', h2, _⟩ := h.att b hb
 rw [e, h2] at h1
 simp [AtV] at h1
 exact h1.1.symm
end
def EnX (W : World) (p : Option Addr) (S : Rs) (F It : Nat → Prop) : Prop :=
 ∃ B mb pm pc qv bv nd bs qs Fc, p = some ⟨B, 0, none⟩ ∧ EnI W B mb pm pc qv bv nd S bs qs Fc It ∧ F = enF B mb qv bv nd S Fc
structure EnAt (W : World) (p : Option Addr) (S : Rs) (F It : Nat → Prop) : Prop where
 ptr : ∃ g, p = some ⟨g, 0, none⟩
 ok : OkR S
 old : ∀ k, F k → k < W.heap.size
 oldI : ∀ k, It k → k < W.heap.size
 rest : EnX W p S F It
theorem EnI.at {W : World} {B mb : Nat} {pm pc : Option Addr} {qv bv : Value} {nd : Int → Nat} {S : Rs} {bs qs : List At} {Fc It : Nat → Prop} (h : EnI W B mb pm pc qv bv nd S bs qs Fc It) : EnAt W (some ⟨B, 0, none⟩) S (enF B mb qv bv nd S Fc) It :=
 ⟨⟨B, rfl⟩, h.ok, h.old, h.oldI, B, mb, pm, pc, qv, bv, nd, bs, qs, Fc, rfl, h, rfl⟩
theorem EnAt.keep {W W' : World} {p : Option Addr} {S : Rs} {F It : Nat → Prop} (h : EnAt W p S F It) (hs : W.heap.size ≤ W'.heap.size) (hF : ∀ k, F k → W'.heap[k]? = W.heap[k]?) (hI : ∀ k, It k → W'.heap[k]? = W.heap[k]?) (hk : KpL W W') : EnAt W' p S F It := by
 obtain ⟨B, mb, pm, pc, qv, bv, nd, bs, qs, Fc, rfl, h1, rfl⟩ := h.rest
 exact (h1.keep hs hF hI hk).at
theorem EnAt.below {W W' : World} {p : Option Addr} {S : Rs} {F It : Nat → Prop} (h : EnAt W p S F It) (hb : Below W.heap.size W W') : EnAt W' p S F It := h.keep hb.size (fun k hk => hb.block k (h.old k hk)) (fun k hk => hb.block k (h.oldI k hk)) (KpL.of hb)
def EnO (w : World) (F It Ex : Nat → Prop) (p : Option Addr) (S : Rs) (ms : List Mg) (e : Ending) (w' : World) : Prop := ∃ a cap F' It', e = .returned (.slice a ms.length cap) ∧ MgsAt w.heap.size w' a ms.length cap ms ∧ (∀ q, a = some q → w.heap.size ≤ q.block ∧ ¬ F' q.block) ∧ EnAt w' p S F' It' ∧ (∀ k, F' k → F k ∨ w.heap.size ≤ k) ∧ (∀ k, It' k → It k ∨ Ex k ∨ w.heap.size ≤ k) ∧ Fb F w w'
def mJ (j : Jb) (k : Nat) : Prop := 0 < j.lp ∧ mF j.ap k
end Go.Proofs.YtjgggialnegddaaGreat
