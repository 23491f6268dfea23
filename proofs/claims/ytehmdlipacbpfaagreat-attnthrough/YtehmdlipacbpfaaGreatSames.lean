/-
  Contracts: slices.Equal, slices.EqualFunc of rows and of layers, sameRows, places.same, Same of two memories.
-/
import Derived.Test.YtehmdlipacbpfaaGreatThroughs
namespace Go.Proofs.YtehmdlipacbpfaaGreat
open Go.RowKit
set_option linter.unusedVariables false
set_option maxRecDepth 1000000

theorem equal_yes (a b : Option Addr) (len ca cb : Nat) (xs : List Int) (w : World) (ha : Reads .i64 w a len ca xs) (hb : Reads .i64 w b len cb xs) (hlen : len ≤ 1000) :
    Calls Tryz.prog 104 #[.slice a len ca, .slice b len cb] w fun e w' => e = .returned (.bool true) ∧ Below w.heap.size w w' := by
  have HA := hid ha
  have HB := hid hb
  clear ha hb
  go_enter Tryz.func104, Tryz.ntmps104
  go_wp2_with fail
  go_loopw [13] (fun i W => ∃ k : Nat, k ≤ len ∧ i = .int .i64 k ∧ Hid (Below w.heap.size w W)) (fun i _ => len - (intOf i).toNat)
  case atStart => exact ⟨0, Nat.zero_le _, rfl, Below.refl _ _⟩
  case round =>
    obtain ⟨k, hk, rfl, HW⟩ := hrel
    by_cases hlt : k < len
    · obtain ⟨b1, o1, rfl, c1⟩ := (HA.out.below HW.out).cell k hlt
      obtain ⟨b2, o2, rfl, c2⟩ := (HB.out.below HW.out).cell k hlt
      have r1 := HA.out.room
      have r2 := HB.out.room
      have m1 := HA.out.most
      have m2 := HB.out.most
      clear HA HB
      generalize xs[k]?.getD 0 = x at *
      go_wp2_with fail
      go_region
      go_wp2_with fail
      go_round
      case rel => exact ⟨k + 1, by omega, by go_num, HW.out.drew⟩
      case measure => simp [intOf]; omega
    · go_wp2
      go_ret
      exact ⟨rfl, HW.out⟩
theorem eqrows_yes (a b : Option Addr) (n ca cb : Nat) (hs1 hs2 : List Hd) (ls : List (List Int)) (w : World) (ha : Tbl w a n ca hs1 ls) (hb : Tbl w b n cb hs2 ls) (hn : n ≤ 1000) :
    Calls Tryz.prog 103 #[.slice a n ca, .slice b n cb, .func (.func 104) #[] #[]] w fun e w' => e = .returned (.bool true) ∧ Below w.heap.size w w' := by
  have HA := hid ha
  have HB := hid hb
  have r1 := ha.rd.room
  have r2 := hb.rd.room
  have m1 := ha.rd.most
  have m2 := hb.rd.most
  clear ha hb
  go_enter Tryz.func103, Tryz.ntmps103
  go_wp2_with fail
  go_loopw [17] (fun i W => ∃ k : Nat, k ≤ n ∧ i = .int .i64 k ∧ Hid (Below w.heap.size w W)) (fun i _ => n - (intOf i).toNat)
  case atStart => exact ⟨0, Nat.zero_le _, rfl, Below.refl _ _⟩
  case round =>
    obtain ⟨k, hk, rfl, HW⟩ := hrel
    by_cases hlt : k < n
    · obtain ⟨b1, o1, rfl, c1⟩ := (HA.out.rd.below HW.out).cell k hlt
      obtain ⟨b2, o2, rfl, c2⟩ := (HB.out.rd.below HW.out).cell k hlt
      have h1 := (HA.out.below HW.out).rows k hlt
      have h2 := (HB.out.below HW.out).rows k hlt
      have s1 := HA.out.short k hlt
      have q1 : (k : Int) < (n : Int) := by omega
      clear HA HB
      generalize hs1[k]?.getD (none, 0, 0) = y at *
      generalize hs2[k]?.getD (none, 0, 0) = z at *
      generalize ls[k]?.getD [] = xs at *
      obtain ⟨y1, y2, y3⟩ := y
      obtain ⟨z1, z2, z3⟩ := z
      simp only at h1 h2 s1 c1 c2
      obtain rfl : y2 = z2 := by rw [← h1.size, ← h2.size]
      have HC := hid (equal_yes y1 z1 y2 y3 z3 xs wr h1 h2 s1)
      clear h1 h2
      go_wp2_with fail
      refine HC.out.mono ?_
      rintro e w2 ⟨rfl, hb⟩
      have HW2 := hid (HW.out.trans (hb.mono HW.out.size))
      clear hb HC HW c1 c2
      go_wp2_with fail
      go_round
      case rel => exact ⟨k + 1, by omega, by go_num, HW2⟩
      case measure => simp [intOf]; omega
    · go_wp2
      go_ret
      exact ⟨rfl, HW.out⟩
theorem eqrows_no (a b : Option Addr) (n ca n2 cb : Nat) (f : Value) (w : World) (hn : n ≠ n2) (h1 : n ≤ 1000) (h2 : n2 ≤ 1000) :
    Calls Tryz.prog 103 #[.slice a n ca, .slice b n2 cb, f] w fun e w' => e = .returned (.bool false) ∧ Below w.heap.size w w' := by
  have h3 : ¬ (n : Int) = (n2 : Int) := by omega
  go_enter Tryz.func103, Tryz.ntmps103
  go_wp2
  go_ret
  exact ⟨rfl, Below.refl _ _⟩
theorem samerows_yes (a b : Option Addr) (n ca cb : Nat) (hs1 hs2 : List Hd) (ls : List (List Int)) (w : World) (ha : Tbl w a n ca hs1 ls) (hb : Tbl w b n cb hs2 ls) (hn : n ≤ 1000) :
    Calls Tryz.prog 85 #[.slice a n ca, .slice b n cb] w fun e w' => e = .returned (.bool true) ∧ Below w.heap.size w w' := by
  have HC := hid (eqrows_yes a b n ca cb hs1 hs2 ls w ha hb hn)
  clear ha hb
  go_enter Tryz.func85, Tryz.ntmps85
  go_wp2_with fail
  refine HC.out.mono ?_
  rintro e w2 ⟨rfl, hb⟩
  have HW := hid hb
  clear hb HC
  go_wp2
  go_ret
  exact ⟨rfl, HW.out⟩
theorem samerows_no (a b : Option Addr) (n ca n2 cb : Nat) (w : World) (hn : n ≠ n2) (h1 : n ≤ 1000) (h2 : n2 ≤ 1000) :
    Calls Tryz.prog 85 #[.slice a n ca, .slice b n2 cb] w fun e w' => e = .returned (.bool false) ∧ Below w.heap.size w w' := by
  have HC := hid (eqrows_no a b n ca n2 cb (.func (.func 104) #[] #[]) w hn h1 h2)
  go_enter Tryz.func85, Tryz.ntmps85
  go_wp2_with fail
  refine HC.out.mono ?_
  rintro e w2 ⟨rfl, hb⟩
  have HW := hid hb
  clear hb HC
  go_wp2
  go_ret
  exact ⟨rfl, HW.out⟩
/-- Two slices' cells in one block. -/
theorem two_cells {W : World} {g : Nat} {x y : Value} {T : TypeId} (h : W.heap[g]? = some (.cells #[x, y] T (0, 0))) : W.cell? ⟨g, 0, none⟩ = some x ∧ W.cell? ⟨g, 1, none⟩ = some y :=
  ⟨by rw [cell_of_row _ _ _ _ _ _ h]; rfl, by rw [cell_of_row _ _ _ _ _ _ h]; rfl⟩
theorem psame_yes (a1 a2 b1 b2 : Option Addr) (n1 n2 c1 c2 d1 d2 : Nat) (ks vs : List (List Int)) (w : World) (h1 : TbH w (a1, n1, c1) ks) (h2 : TbH w (a2, n2, c2) vs) (h3 : TbH w (b1, n1, d1) ks) (h4 : TbH w (b2, n2, d2) vs) (m1 : n1 ≤ 1000) (m2 : n2 ≤ 1000) :
    Calls Tryz.prog 51 #[.agg #[.slice a1 n1 c1, .slice a2 n2 c2], .agg #[.slice b1 n1 d1, .slice b2 n2 d2]] w fun e w' => e = .returned (.bool true) ∧ Below w.heap.size w w' := by
  obtain ⟨_, hs1, t1, _⟩ := h1
  obtain ⟨_, hs2, t2, _⟩ := h2
  obtain ⟨_, hs3, t3, _⟩ := h3
  obtain ⟨_, hs4, t4, _⟩ := h4
  simp only at t1 t2 t3 t4
  obtain ⟨W0, hW0⟩ : ∃ W0, W0 = (w.alloc (.cells #[.slice a1 n1 c1, .slice a2 n2 c2] 77)).alloc (.cells #[.slice b1 n1 d1, .slice b2 n2 d2] 77) := ⟨_, rfl⟩
  have HB0 : Hid (Below w.heap.size w W0) := by unfold Hid; rw [hW0]; exact ((Below.refl _ _).alloc (Nat.le_refl _) _).alloc (by simp) _
  have HA : Hid (W0.heap[w.heap.size]? = some (.cells #[.slice a1 n1 c1, .slice a2 n2 c2] 77 (0, 0))) := by
    unfold Hid; rw [hW0, Below.heap_alloc _ _ _ (by simp)]; exact heap_alloc_new w _
  have HB : Hid (W0.heap[w.heap.size + 1]? = some (.cells #[.slice b1 n1 d1, .slice b2 n2 d2] 77 (0, 0))) := by
    unfold Hid; rw [hW0]
    have := heap_alloc_new (w.alloc (.cells #[.slice a1 n1 c1, .slice a2 n2 c2] 77)) (.cells #[.slice b1 n1 d1, .slice b2 n2 d2] 77)
    rw [World.size_alloc] at this
    exact this
  have HK := hid (samerows_yes a1 b1 n1 c1 d1 hs1 hs3 ks W0 (t1.below HB0.out) (t3.below HB0.out) m1)
  have HV := hid fun W (hb : Below W0.heap.size W0 W) => samerows_yes a2 b2 n2 c2 d2 hs2 hs4 vs W ((t2.below HB0.out).below hb) ((t4.below HB0.out).below hb) m2
  clear t1 t2 t3 t4
  go_enter Tryz.func51, Tryz.ntmps51
  go_wp2_with fail
  rw [← hW0]
  refine HK.out.mono ?_
  rintro e w1 ⟨rfl, hb⟩
  have HX := hid hb
  obtain ⟨x0, x1⟩ := two_cells (block_below HA.out hb)
  obtain ⟨x2, x3⟩ := two_cells (block_below HB.out hb)
  clear hb HK hW0 HA HB
  go_wp2_with fail
  refine (HV.out _ HX.out).mono ?_
  rintro e w2 ⟨rfl, hb⟩
  have HY := hid (HB0.out.trans ((HX.out.trans (hb.mono HX.out.size)).mono HB0.out.size))
  clear hb HV HX HB0 x0 x1 x2 x3
  go_wp2
  go_ret
  exact ⟨rfl, HY.out⟩
theorem psame_no (a1 a2 b1 b2 : Option Addr) (n1 n2 c1 c2 n3 n4 d1 d2 : Nat) (w : World) (hn : n1 ≠ n3) (m1 : n1 ≤ 1000) (m3 : n3 ≤ 1000) :
    Calls Tryz.prog 51 #[.agg #[.slice a1 n1 c1, .slice a2 n2 c2], .agg #[.slice b1 n3 d1, .slice b2 n4 d2]] w fun e w' => e = .returned (.bool false) ∧ Below w.heap.size w w' := by
  obtain ⟨W0, hW0⟩ : ∃ W0, W0 = (w.alloc (.cells #[.slice a1 n1 c1, .slice a2 n2 c2] 77)).alloc (.cells #[.slice b1 n3 d1, .slice b2 n4 d2] 77) := ⟨_, rfl⟩
  have HB0 : Hid (Below w.heap.size w W0) := by unfold Hid; rw [hW0]; exact ((Below.refl _ _).alloc (Nat.le_refl _) _).alloc (by simp) _
  have HK := hid (samerows_no a1 b1 n1 c1 n3 d1 W0 hn m1 m3)
  go_enter Tryz.func51, Tryz.ntmps51
  go_wp2_with fail
  rw [← hW0]
  refine HK.out.mono ?_
  rintro e w1 ⟨rfl, hb⟩
  have HX := hid (HB0.out.trans (hb.mono HB0.out.size))
  clear hb HK hW0 HB0
  go_wp2
  go_ret
  exact ⟨rfl, HX.out⟩
theorem cell_later_of {w w' : World} {p : Addr} {v : Value} (h : w.cell? p = some v) (hb : Below w.heap.size w w') : w'.cell? p = some v := (hb.cell (World.block_lt_of_cell? _ _ h)).trans h
/-- A list of layers reads as these. -/
structure PlR (W : World) (a : Option Addr) (n : Nat) (M : List KV) : Prop where
  len : M.length = n
  cell : ∀ k, k < n → ∃ g ps, a = some ⟨g, 0, none⟩ ∧ OwnP 0 g n ps W ∧ TbH W (pk ps k).1 (kv M k).1 ∧ TbH W (pk ps k).2 (kv M k).2
theorem PlR.below {W W' : World} {a : Option Addr} {n : Nat} {M : List KV} (h : PlR W a n M) (hb : Below W.heap.size W W') : PlR W' a n M :=
  ⟨h.len, fun k hk => by
    obtain ⟨g, ps, h1, h2, h3, h4⟩ := h.cell k hk
    exact ⟨g, ps, h1, h2.stays hb, h3.below hb, h4.below hb⟩⟩
theorem all_g (p : Option Addr) (M : List KV) (w : World) (h : MemAt w p M) : Calls Tryz.prog 43 #[.pointer p] w fun e w' => ∃ a, e = .returned (.slice a M.length M.length) ∧ PlR w a M.length M ∧ w' = w := by
  rcases h with ⟨rfl, rfl⟩ | ⟨B, g, ps, rfl, h⟩
  · exact (all_none w).mono fun e w' ⟨h1, h2⟩ => ⟨none, h1, ⟨rfl, fun k hk => absurd hk (by simp)⟩, h2⟩
  · exact (all_some w h).mono fun e w' ⟨h1, h2⟩ => ⟨_, h1, ⟨rfl, fun k hk => ⟨g, ps, rfl, h.own, h.rows k hk⟩⟩, h2⟩
set_option maxHeartbeats 1000000 in
theorem eqplaces_yes (a b : Option Addr) (n q : Nat) (M : List KV) (w : World) (ha : PlR w a n M) (hb : PlR w b n M) (hE : Even M q) (hq : q ≤ 900) (hn : n ≤ 4) :
    Calls Tryz.prog 50 #[.slice a n n, .slice b n n, .func (.func 51) #[] #[]] w fun e w' => e = .returned (.bool true) ∧ Below w.heap.size w w' := by
  have HA := hid ha
  have HB := hid hb
  have HE := hid hE
  clear ha hb hE
  go_enter Tryz.func50, Tryz.ntmps50
  go_wp2_with fail
  go_loopw [17] (fun i W => ∃ k : Nat, k ≤ n ∧ i = .int .i64 k ∧ Hid (Below w.heap.size w W)) (fun i _ => n - (intOf i).toNat)
  case atStart => exact ⟨0, Nat.zero_le _, rfl, Below.refl _ _⟩
  case round =>
    obtain ⟨k, hk, rfl, HW⟩ := hrel
    by_cases hlt : k < n
    · obtain ⟨g1, ps1, rfl, o1, x1, x2⟩ := (HA.out.below HW.out).cell k hlt
      obtain ⟨g2, ps2, rfl, o2, x3, x4⟩ := (HB.out.below HW.out).cell k hlt
      have c1 := o1.cell0 hlt
      have c2 := o1.cell1 hlt
      have c3 := o2.cell0 hlt
      have c4 := o2.cell1 hlt
      obtain ⟨s1, s2⟩ := HE.out k (by rw [HA.out.len]; exact hlt)
      have q1 : (k : Int) < (n : Int) := by omega
      have HX1 := hid x1
      have HX2 := hid x2
      have HX3 := hid x3
      have HX4 := hid x4
      clear HA HB HE o1 o2 x1 x2 x3 x4
      generalize pk ps1 k = y at *
      generalize pk ps2 k = z at *
      generalize kv M k = xs at *
      obtain ⟨⟨y1, y2, y3⟩, ⟨y4, y5, y6⟩⟩ := y
      obtain ⟨⟨z1, z2, z3⟩, ⟨z4, z5, z6⟩⟩ := z
      unfold hdV at c1 c2 c3 c4
      simp only at c1 c2 c3 c4
      obtain rfl : y2 = q := by have := HX1.out.1; simp only at this; omega
      obtain rfl : y5 = y2 := by have := HX2.out.1; simp only at this; omega
      obtain rfl : z2 = y5 := by have := HX3.out.1; simp only at this; omega
      obtain rfl : z5 = z2 := by have := HX4.out.1; simp only at this; omega
      have hA : Below wr.heap.size wr (wr.alloc (.cells #[.slice y1 z5 y3, .slice y4 z5 y6] 77)) := (Below.refl _ _).alloc (Nat.le_refl _) _
      have c5 := cell_later_of c3 hA
      have c6 := cell_later_of c4 hA
      obtain ⟨W0, hW0⟩ : ∃ W0, W0 = (wr.alloc (.cells #[.slice y1 z5 y3, .slice y4 z5 y6] 77)).alloc (.cells #[.slice z1 z5 z3, .slice z4 z5 z6] 77) := ⟨_, rfl⟩
      have HB0 : Hid (Below wr.heap.size wr W0) := by unfold Hid; rw [hW0]; exact ((Below.refl _ _).alloc (Nat.le_refl _) _).alloc (by simp) _
      have HC := hid (psame_yes y1 y4 z1 z4 z5 z5 y3 y6 z3 z6 _ _ W0 (HX1.out.below HB0.out) (HX2.out.below HB0.out) (HX3.out.below HB0.out) (HX4.out.below HB0.out) (by omega) (by omega))
      clear HX1 HX2 HX3 HX4 s1 s2 hA
      go_wp2_with fail
      rw [← hW0]
      refine HC.out.mono ?_
      rintro e w2 ⟨rfl, hb⟩
      have HW2 := hid (HW.out.trans ((HB0.out.trans (hb.mono HB0.out.size)).mono HW.out.size))
      clear hb HC HW c1 c2 c3 c4 c5 c6 HB0 hW0
      go_wp2_with fail
      go_round
      case rel => exact ⟨k + 1, by omega, by go_num, HW2⟩
      case measure => simp [intOf]; omega
    · go_wp2
      go_ret
      exact ⟨rfl, HW.out⟩
theorem msame_yes (p q : Option Addr) (M : List KV) (z : Nat) (w : World) (ha : MemAt w p M) (hb : MemAt w q M) (hE : Even M z) (hz : z ≤ 900) (hn : M.length ≤ 4) :
    Calls Tryz.prog 19 #[.pointer p, .pointer q] w fun e w' => e = .returned (.bool true) ∧ Below w.heap.size w w' := by
  have HA := hid (all_g p M w ha)
  have HB := hid (all_g q M w hb)
  have HE := hid hE
  clear ha hb hE
  go_enter Tryz.func19, Tryz.ntmps19
  go_wp2_with fail
  refine HA.out.mono ?_
  rintro e w' ⟨a, rfl, hP, rfl⟩
  rename World => w
  have HP := hid hP
  clear hP HA
  go_wp2_with fail
  refine HB.out.mono ?_
  rintro e w' ⟨b, rfl, hP, rfl⟩
  rename World => w
  have HQ := hid hP
  clear hP HB
  go_wp2_with fail
  refine (eqplaces_yes a b M.length z M _ HP.out HQ.out HE.out hz hn).mono ?_
  rintro e w2 ⟨rfl, hb⟩
  have HW := hid hb
  clear hb HP HQ HE
  go_wp2
  go_ret
  exact ⟨rfl, HW.out⟩
end Go.Proofs.YtehmdlipacbpfaaGreat
