/-
  The texts Weights, Mrows of this proof.
-/
import Derived.Test.YtjgggialnegddaaGreatPn04
set_option linter.unusedVariables false
set_option maxRecDepth 1000000
namespace Go.Proofs.YtjgggialnegddaaGreat
open Go.RowKit
def weightZ (s t r c : Int) : Int := belowZ (deriveZ s [t]) (64 * r + c) 131073 - 65536
theorem tableof_any (c : Cf) (n : Int) (w : World) (n0 : 0 ≤ n) (n1 : n ≤ 1000) :
  Calls Tryz.prog 180 #[.agg (CfV c), .int .i64 n] w fun e w' => e = .returned (.agg #[.int .u64 (deriveZ c.seed [n])]) ∧ Below w.heap.size w w' := by
 obtain ⟨s, v, d, l, t, h⟩ := c
 unfold CfV
 simp only
 have HD := hid fun a W (hr : Reads .u64 W a 1 1 [n]) => derive_any s a 1 1 [n] W hr (by omega)
 generalize deriveZ s [n] = x at *
 go_enter Tryz.func180, Tryz.ntmps180
 go_wp2_with fail
 refine (HD.out _ _ (Reads.oneB _ _ _ (by simp))).mono ?_
 rintro e w' ⟨rfl, rfl⟩
 clear HD
 go_wp2
 exact bodyPost_ret (v := .agg #[.int .u64 x]) (by simp [results, Tryz.results180, go_sem]) rfl ⟨rfl, by go_grown⟩
theorem weight_any (s t r c : Int) (w : World) (r0 : 0 ≤ r) (r1 : r ≤ 1000) (c0 : 0 ≤ c) (c1 : c ≤ 1000) :
  Calls Tryz.prog 181 #[.agg #[.int .u64 (deriveZ s [t])], .int .i64 r, .int .i64 c] w fun e w' => e = .returned (.int .i64 (weightZ s t r c)) ∧ Below w.heap.size w w' := by
 have HW : Hid (weightZ s t r c = belowZ (deriveZ s [t]) (64 * r + c) 131073 - 65536) := rfl
 have hb := below_bd (deriveZ s [t]) (64 * r + c) (m := 131073) (by omega)
 obtain ⟨hb0, hb1⟩ := hb
 generalize deriveZ s [t] = x at *
 go_enter Tryz.func181, Tryz.ntmps181
 go_wp2_with fail
 refine (dbelow_any _ _ _ _ (by omega) (by omega)).mono ?_
 rintro e w' ⟨rfl, rfl⟩
 go_wp2
 go_ret
 exact ⟨ret_int HW.out.symm, by go_grown⟩
theorem placeweight_any (s t r c : Int) (w : World) (r0 : 0 ≤ r) (r1 : r ≤ 1000) (c0 : 0 ≤ c) (c1 : c ≤ 1000) :
  Calls Tryz.prog 182 #[.agg #[.int .u64 (deriveZ s [t])], .int .i64 r, .int .i64 c] w fun e w' => e = .returned (.int .i64 (mulZ (weightZ s t r c) 16384)) ∧ Below w.heap.size w w' := by
 have hC := weight_any s t r c (w.alloc (.cells #[.int .u64 (deriveZ s [t])] 245)) r0 r1 c0 c1
 have HB : Hid (Below w.heap.size w (w.alloc (.cells #[.int .u64 (deriveZ s [t])] 245))) := (Below.refl _ _).alloc (Nat.le_refl _) _
 generalize deriveZ s [t] = x at *
 go_enter Tryz.func182, Tryz.ntmps182
 go_wp2_with fail
 refine hC.mono ?_
 rintro e w1 ⟨rfl, hb⟩
 have HB1 := hid (HB.out.trans (hb.mono HB.out.size))
 clear hb hC HB
 go_wp2_with fail
 refine (mul_any _ _ _).mono ?_
 rintro e w' ⟨rfl, rfl⟩
 go_wp2
 go_ret
 exact ⟨rfl, HB1.out⟩
end Go.Proofs.YtjgggialnegddaaGreat
namespace Go.Proofs.YtjgggialnegddaaGreat
open Go.RowKit
def hdV (h : Hd) : Value := .slice h.1 h.2.1 h.2.2
def OwnS (base g m cap : Nat) (hs : List Hd) (w : World) : Prop := w.ownsRow base 131 1 (.slice (some ⟨g, 0, none⟩) m cap) m (hs.map hdV)
theorem OwnS.len {base g m cap : Nat} {hs : List Hd} {w : World} (h : OwnS base g m cap hs w) : hs.length = m := by have := h.1; simpa using this
theorem OwnS.cell {base g m cap : Nat} {hs : List Hd} {w : World} (h : OwnS base g m cap hs w) {k : Nat} (hk : k < m) : w.cell? ⟨g, k, none⟩ = some (hdV (hs[k]?.getD (none, 0, 0))) := by
 have hl := h.len
 have := World.ownsRow.cellAt h k (by omega)
 rw [this]
 simp [(by omega : k < hs.length)]
theorem OwnS.frozen {base g m cap : Nat} {hs : List Hd} {w : World} (h : OwnS base g m cap hs w) (k : Nat) : w.frozen? ⟨g, k, none⟩ = false := World.ownsRow.frozenAt h k
theorem OwnS.set {base g m cap : Nat} {hs : List Hd} {w : World} (h : OwnS base g m cap hs w) (k : Nat) (v : Hd) : OwnS base g m cap (hs.set k v) (w.setCell ⟨g, k, none⟩ (hdV v)) := by
 have := (World.ownsRow.stored h k (hdV v)).1
 unfold OwnS
 rw [List.map_set]
 exact this
theorem OwnS.base {base g m cap : Nat} {hs : List Hd} {w : World} (h : OwnS base g m cap hs w) : base ≤ g := (World.ownsRow.lt h g rfl).1
theorem OwnS.lt {base g m cap : Nat} {hs : List Hd} {w : World} (h : OwnS base g m cap hs w) : g < w.heap.size := (World.ownsRow.lt h g rfl).2
theorem OwnS.stays {base g m cap : Nat} {hs : List Hd} {w w' : World} (h : OwnS base g m cap hs w) (hb : Below w.heap.size w w') : OwnS base g m cap hs w' := own_below h hb
theorem OwnS.rd {base g m cap : Nat} {hs : List Hd} {w : World} (h : OwnS base g m cap hs w) : Rd2 w (some ⟨g, 0, none⟩) m cap hs := by
 rcases h.2 with ⟨h', _⟩ | ⟨g', c, cur, hv, hB, hg, hnc, hm, _⟩
 ·cases h'
 ·cases hv
  refine ⟨h.len, hnc, by unfold maxLen at hm; omega, (fun e => by cases e), fun i hi => ⟨g, 0, rfl, ?_⟩⟩
  rw [Nat.zero_add]
  exact h.cell hi
theorem OwnS.low {base base' g m cap : Nat} {hs : List Hd} {w : World} (h : OwnS base g m cap hs w) (hb : base' ≤ base) : OwnS base' g m cap hs w := by
 refine ⟨h.1, ?_⟩
 rcases h.2 with h' | ⟨g', c, cur, hv, hB, rest⟩
 ·exact .inl h'
 ·exact .inr ⟨g', c, cur, hv, Nat.le_trans hb hB, rest⟩
theorem Tryz.infoS : (Tryz.prog.info? 131).map (fun i => (i.zero, i.size, i.bytes)) = some (some (.slice none 0 0), 1, 24) := by kernel_rfl
theorem make_rows (w : World) (m : Nat) (hm : m ≤ 1001) : (Instr.makeSlice 132 (.int .i64 (m : Int)) (.int .i64 (m : Int))).run Tryz.prog w = .ok (.slice (some ⟨w.heap.size, 0, none⟩) m m) (w.alloc (.cells (madeCells #[.slice none 0 0] m) 131)) := by
 obtain ⟨i0, hi, hz0, hz1, hz2⟩ := info_parts Tryz.infoS
 have := run_make (P := Tryz.prog) w 132 131 i0 (.slice none 0 0) Tryz.underlying132 hi hz0 .i64 .i64 (m : Int) (m : Int) (by omega) (Int.le_refl _) (by rw [hz2]; omega) (by omega)
 rw [this, hz1, Int.toNat_natCast, Nat.mul_one]
 rfl
theorem own_rows (w : World) (m : Nat) (hm : m ≤ 1001) : OwnS w.heap.size w.heap.size m m (List.replicate m (none, 0, 0)) (w.alloc (.cells (madeCells #[.slice none 0 0] m) 131)) := by
 have := World.ownsRow_lit (base := w.heap.size) (e := 131) (size := 1) w (madeCells #[.slice none 0 0] m) m (Nat.le_refl _) (by unfold maxLen; omega) (by simp [madeCells])
 unfold OwnS
 rw [List.map_replicate, show hdV (none, 0, 0) = .slice none 0 0 from rfl, ← toList_madeCells_one]
 exact this
theorem makerow_any (fn : Nat) (recv : Value) (hE : ∀ args w, (callFunc fn args).run Tryz.prog w = .ok (.enter fn args) w) (r : Int) (n : Nat) (w : World) (hn : n ≤ 1000) (f : Nat → Int)
  (hC : ∀ k wr, k < n → Below w.heap.size w wr → Calls Tryz.prog fn #[recv, .int .i64 r, .int .i64 (k : Int)] wr fun e w' => e = .returned (.int .i64 (f k)) ∧ Below wr.heap.size wr w') :
  Calls Tryz.prog 179 #[.int .i64 r, .int .i64 n, .func (.func fn) #[recv] #[]] w fun e w' => Made w n (rowK f n) e w' := by
 have hmk := make_ints w n (by omega)
 have HO0 : Hid (OwnK 2 w.heap.size w.heap.size n n (rowK f 0 ++ List.replicate (n - 0) 0) (w.alloc (.cells (madeCells #[.int .i64 0] n) 2))) := own_made _ w n (by omega)
 have HB0 : Hid (Below w.heap.size w (w.alloc (.cells (madeCells #[.int .i64 0] n) 2))) := (Below.refl _ _).alloc (Nat.le_refl _) _
 have HC := hid hC
 clear hC
 go_enter Tryz.func179, Tryz.ntmps179
 go_wp2_with fail
 go_loopw [13] (fun i W => ∃ k : Nat, k ≤ n ∧ i = .int .i64 k ∧ Hid (OwnK 2 w.heap.size w.heap.size n n (rowK f k ++ List.replicate (n - k) 0) W) ∧ Hid (Below w.heap.size w W)) (fun i _ => n - (intOf i).toNat)
 case atStart => exact ⟨0, Nat.zero_le _, rfl, HO0, HB0⟩
 case round =>
  obtain ⟨k, hk, rfl, HO, HB⟩ := hrel
  clear HO0 HB0 hmk
  by_cases hlt : k < n
  ·have hC := HC.out k wr hlt HB.out
   have HS := hid (rowK_set f hlt)
   clear HC
   go_wp2_with fail
   refine hC.mono ?_
   rintro e w2 ⟨rfl, hb⟩
   have HO2 := hid (HO.out.stays hb)
   have HB2 := hid (HB.out.trans (hb.mono HB.out.size))
   have ck := HO2.out.cell hlt
   have fk := HO2.out.frozen k
   have HO3 : Hid (OwnK 2 w.heap.size w.heap.size n n (rowK f (k + 1) ++ List.replicate (n - (k + 1)) 0) (w2.setCell ⟨w.heap.size, k, none⟩ (.int .i64 (f k)))) := by
    have := HO2.out.set k (f k)
    rw [HS.out] at this
    exact this
   have HB3 := hid (HB2.out.setCell (p := ⟨w.heap.size, k, none⟩) (Nat.le_refl _) (.int .i64 (f k)))
   clear hb hC HO HO2 HB HB2 HS
   go_wp2_with fail
   go_round
   case rel => exact ⟨k + 1, by omega, by go_num, HO3, HB3⟩
   case measure => simp [intOf]; omega
  ·obtain rfl : k = n := by omega
   have HO3 : Hid (OwnK 2 w.heap.size w.heap.size k k (rowK f k) wr) := by
    have := HO.out
    rw [Nat.sub_self, List.replicate_zero, List.append_nil] at this
    exact this
   clear HO HC
   go_wp2
   go_ret
   exact ⟨_, _, rfl, HO3.out, HB.out⟩
structure TblUp (w : World) (G n m : Nat) (F : Nat → List Int) (k : Nat) (hs : List Hd) (W : World) : Prop where
 own : OwnS w.heap.size G n n hs W
 rows : ∀ j, j < k → ∃ g c, hs[j]?.getD (none, 0, 0) = (some ⟨g, 0, none⟩, m, c) ∧ g ≠ G ∧ OwnK 2 w.heap.size g m c (F j) W
 old : Below w.heap.size w W
theorem TblUp.below {w : World} {G n m : Nat} {F : Nat → List Int} {k : Nat} {hs : List Hd} {W W' : World} (h : TblUp w G n m F k hs W) (hb : Below W.heap.size W W') : TblUp w G n m F k hs W' :=
 ⟨h.own.stays hb, fun j hj => by
  obtain ⟨g, c, h1, h2, h3⟩ := h.rows j hj
  exact ⟨g, c, h1, h2, h3.stays hb⟩, h.old.trans (hb.mono h.old.size)⟩
theorem TblUp.low {w w0 : World} {G n m : Nat} {F : Nat → List Int} {k : Nat} {hs : List Hd} {W : World} (h : TblUp w G n m F k hs W) (hb : Below w0.heap.size w0 w) : TblUp w0 G n m F k hs W :=
 ⟨h.own.low hb.size, fun j hj => by
  obtain ⟨g, c, h1, h2, h3⟩ := h.rows j hj
  exact ⟨g, c, h1, h2, h3.low hb.size⟩, hb.trans (h.old.mono hb.size)⟩
theorem TblUp.step {w : World} {G n m : Nat} {F : Nat → List Int} {k : Nat} {hs : List Hd} {W : World} (h : TblUp w G n m F k hs W) (hk : k < n) {g c : Nat} (hg : g ≠ G) (hw : OwnK 2 w.heap.size g m c (F k) W) :
  TblUp w G n m F (k + 1) (hs.set k (some ⟨g, 0, none⟩, m, c)) (W.setCell ⟨G, k, none⟩ (.slice (some ⟨g, 0, none⟩) m c)) := by
 have hl := h.own.len
 refine ⟨h.own.set k (some ⟨g, 0, none⟩, m, c), fun j hj => ?_, h.old.setCell h.own.base _⟩
 by_cases e : j = k
 ·subst e
  refine ⟨g, c, by simp [(by omega : j < hs.length)], hg, hw.same (Below.heap_setCell _ _ _ _ ?_)⟩
  exact hg
 ·obtain ⟨g', c', h1, h2, h3⟩ := h.rows j (by omega)
  refine ⟨g', c', ?_, h2, h3.same (Below.heap_setCell _ _ _ _ h2)⟩
  rw [List.getElem?_set_ne (by omega)]
  exact h1
def tblK (F : Nat → List Int) (n : Nat) : List (List Int) := (List.range n).map F
theorem tblK_at (F : Nat → List Int) {n i : Nat} (h : i < n) : (tblK F n)[i]?.getD [] = F i := by simp [tblK, h]
theorem TblUp.tbl {w : World} {G n m : Nat} {F : Nat → List Int} {hs : List Hd} {W : World} (h : TblUp w G n m F n hs W) (hm : m ≤ 1000) : Tbl W (some ⟨G, 0, none⟩) n n hs (tblK F n) := by
 refine ⟨h.own.rd, fun i hi => ?_, fun i hi => ?_⟩
 ·obtain ⟨g, c, h1, h2, h3⟩ := h.rows i hi
  rw [h1, tblK_at F hi]
  exact h3.reads
 ·obtain ⟨g, c, h1, h2, h3⟩ := h.rows i hi
  rw [h1]
  exact hm
def MadeT (w : World) (n m : Nat) (F : Nat → List Int) (e : Ending) (w' : World) : Prop := ∃ G hs, e = .returned (.slice (some ⟨G, 0, none⟩) n n) ∧ TblUp w G n m F n hs w'
theorem makerows_any (fn : Nat) (recv : Value) (hE : ∀ args w, (callFunc fn args).run Tryz.prog w = .ok (.enter fn args) w) (n m : Nat) (w : World) (hn : n ≤ 1000) (hm : m ≤ 1000) (f : Nat → Nat → Int)
  (hC : ∀ r k wr, r < n → k < m → Below w.heap.size w wr → Calls Tryz.prog fn #[recv, .int .i64 (r : Int), .int .i64 (k : Int)] wr fun e w' => e = .returned (.int .i64 (f r k)) ∧ Below wr.heap.size wr w') :
  Calls Tryz.prog 232 #[.int .i64 n, .int .i64 m, .func (.func fn) #[recv] #[]] w fun e w' => MadeT w n m (fun r => rowK (f r) m) e w' := by
 have hmk := make_rows w n (by omega)
 have HU0 : Hid (TblUp w w.heap.size n m (fun r => rowK (f r) m) 0 (List.replicate n (none, 0, 0)) (w.alloc (.cells (madeCells #[.slice none 0 0] n) 131))) :=
  ⟨own_rows w n (by omega), fun j hj => absurd hj (by omega), (Below.refl _ _).alloc (Nat.le_refl _) _⟩
 have HR : Hid (∀ r W, r < n → Below w.heap.size w W → Calls Tryz.prog 179 #[.int .i64 (r : Int), .int .i64 m, .func (.func fn) #[recv] #[]] W fun e w' => Made W m (rowK (f r) m) e w') :=
  fun r W hr hW => makerow_any fn recv hE r m W hm (f r) fun k wr hk hb => hC r k wr hr hk (hW.trans (hb.mono hW.size))
 clear hC
 go_enter Tryz.func232, Tryz.ntmps232
 go_wp2_with fail
 go_loopw [13] (fun i W => ∃ (k : Nat) (hs : List Hd), k ≤ n ∧ i = .int .i64 k ∧ Hid (TblUp w w.heap.size n m (fun r => rowK (f r) m) k hs W)) (fun i _ => n - (intOf i).toNat)
 case atStart => exact ⟨0, _, Nat.zero_le _, rfl, HU0⟩
 case round =>
  obtain ⟨k, hs, hk, rfl, HU⟩ := hrel
  clear HU0 hmk
  by_cases hlt : k < n
  ·have hC := HR.out k wr hlt HU.out.old
   clear HR
   go_wp2_with fail
   refine hC.mono ?_
   rintro e w2 ⟨g, c, rfl, hO, hb⟩
   have HU2 := hid (HU.out.below hb)
   have hGlt := HU.out.own.lt
   have hgb := hO.base
   have hgG : g ≠ w.heap.size := by omega
   have HU3 := hid (HU2.out.step hlt hgG (hO.low HU.out.old.size))
   have ck := HU2.out.own.cell hlt
   have fk := HU2.out.own.frozen k
   generalize hs[k]?.getD (none, 0, 0) = z at *
   obtain ⟨z1, z2, z3⟩ := z
   unfold hdV at ck
   simp only at ck
   clear hb hC HU HU2 hO hGlt hgb hgG
   go_wp2_with fail
   go_round
   case rel => exact ⟨k + 1, _, by omega, by go_num, HU3⟩
   case measure => simp [intOf]; omega
  ·obtain rfl : k = n := by omega
   clear HR
   go_wp2
   go_ret
   exact ⟨_, _, rfl, HU.out⟩
end Go.Proofs.YtjgggialnegddaaGreat
