/-
  Contracts: New of any number, all, Layers, Len of a memory; first and with of a layer.
-/
import Derived.Test.YtehmdlipacbpfaaGreatMems
namespace Go.Proofs.YtehmdlipacbpfaaGreat
open Go.RowKit
set_option linter.unusedVariables false
set_option maxRecDepth 1000000

theorem anew_any (n : Int) (w : World) : Calls Tryz.prog 11 #[.int .i64 n] w fun e w' => MemG w (noneM (clampL n)) e w' := by
  obtain ⟨m, hm⟩ : ∃ m, clampL n = m := ⟨_, rfl⟩
  obtain ⟨x, hx⟩ : ∃ x : Int, (if (4 : Int) < n then 4 else n) = x := ⟨_, rfl⟩
  have h4 : m ≤ 4 := by unfold clampL at hm; omega
  have hA : (if (0 : Int) < x then x else 0) = (m : Int) := by
    unfold clampL at hm
    rw [← hx]
    split <;> split at * <;> omega
  have hB : (if x < (0 : Int) then 0 else x) = (m : Int) := by
    unfold clampL at hm
    rw [← hx]
    split <;> split at * <;> omega
  rw [hm]
  clear hm
  have hmk := make_places w m (by omega)
  have HN := hid (mem_new w m h4)
  have HB : Hid (Below w.heap.size w ((w.alloc (.cells (madeCells #[.slice none 0 0, .slice none 0 0] (m * 2)) 77)).alloc (.cells #[.slice (some ⟨w.heap.size, 0, none⟩) m m] 74))) := ((Below.refl _ _).alloc (Nat.le_refl _) _).alloc (by simp) _
  go_enter Tryz.func11, Tryz.ntmps11
  go_wp2
  go_ret
  exact ⟨_, _, _, rfl, by omega, Nat.le_refl _, HN.out, HB.out⟩
theorem all_none (w : World) : Calls Tryz.prog 43 #[.pointer none] w fun e w' => e = .returned (.slice none 0 0) ∧ w' = w := by
  go_enter Tryz.func43, Tryz.ntmps43
  go_wp2
  go_ret
  exact ⟨rfl, rfl⟩
theorem all_some {B g : Nat} {M : List KV} {ps : List Hp} (w : World) (h : MemB w B g M ps) : Calls Tryz.prog 43 #[.pointer (some ⟨B, 0, none⟩)] w fun e w' => e = .returned (.slice (some ⟨g, 0, none⟩) M.length M.length) ∧ w' = w := by
  have cv := cell_of_one h.var
  clear h
  generalize M.length = L at *
  go_enter Tryz.func43, Tryz.ntmps43
  go_wp2
  go_ret
  exact ⟨rfl, rfl⟩
theorem layers_any (p : Option Addr) (M : List KV) (w : World) (h : MemAt w p M) : Calls Tryz.prog 17 #[.pointer p] w fun e w' => e = .returned (.int .i64 M.length) ∧ w' = w := by
  rcases h with ⟨rfl, rfl⟩ | ⟨B, g, ps, rfl, h⟩
  · go_enter Tryz.func17, Tryz.ntmps17
    go_wp2_with fail
    refine (all_none _).mono ?_
    rintro e w' ⟨rfl, rfl⟩
    go_wp2
    go_ret
    exact ⟨rfl, rfl⟩
  · have hA := all_some w h
    clear h
    generalize M.length = L at *
    go_enter Tryz.func17, Tryz.ntmps17
    go_wp2_with fail
    refine hA.mono ?_
    rintro e w' ⟨rfl, rfl⟩
    go_wp2
    go_ret
    exact ⟨rfl, rfl⟩
theorem len_any (p : Option Addr) (M : List KV) (q : Nat) (w : World) (h : MemAt w p M) (h0 : M.length = 0 → q = 0) (h1 : 0 < M.length → (kv M 0).1.length = q) (hM : M.length ≤ 4) : Calls Tryz.prog 14 #[.pointer p] w fun e w' => e = .returned (.int .i64 q) ∧ w' = w := by
  have hL := layers_any p M w h
  by_cases hz : M.length = 0
  · have hq := h0 hz
    subst hq
    rw [hz] at hL
    clear h0 h1 hM h hz
    go_enter Tryz.func14, Tryz.ntmps14
    go_wp2_with fail
    refine hL.mono ?_
    rintro e w' ⟨rfl, rfl⟩
    go_wp2
    go_ret
    exact ⟨rfl, rfl⟩
  · rcases h with ⟨rfl, rfl⟩ | ⟨B, g, ps, rfl, h⟩
    · exact absurd rfl hz
    · have cv := cell_of_one h.var
      have c0 := h.own.cell0 (k := 0) (by omega)
      have hr := (h.rows 0 (by omega)).1.1
      rw [h1 (by omega)] at hr
      rw [Nat.zero_mul] at c0
      clear h h0 h1
      generalize pk ps 0 = y at *
      obtain ⟨⟨y1, y2, y3⟩, y4⟩ := y
      unfold hdV at c0
      simp only at c0 hr
      subst hr
      generalize M.length = L at *
      have hz1 : (L : Int) ≠ 0 := by omega
      have hz2 : (0 : Int) < (L : Int) := by omega
      have hz3 : ((L : Int) == 0) = false := by simp; omega
      go_enter Tryz.func14, Tryz.ntmps14
      go_wp2_with fail
      refine hL.mono ?_
      rintro e w' ⟨rfl, rfl⟩
      go_wp2
      go_ret
      exact ⟨rfl, rfl⟩
theorem first_any (a1 a2 : Option Addr) (n1 c1 n2 c2 k : Nat) (w : World) (h1 : k ≤ c1) (h2 : k ≤ c2) (m1 : c1 ≤ 9223372036854775807) (m2 : c2 ≤ 9223372036854775807) :
    Calls Tryz.prog 49 #[.agg #[.slice a1 n1 c1, .slice a2 n2 c2], .int .i64 k] w fun e w' => e = .returned (.agg #[.slice a1 k k, .slice a2 k k]) ∧ Below w.heap.size w w' := by
  go_enter Tryz.func49, Tryz.ntmps49
  go_wp2_with fail
  go_region
  go_wp2
  exact bodyPost_ret (v := .agg #[.slice a1 k k, .slice a2 k k]) (by simp [results, Tryz.results49, go_sem]) rfl ⟨rfl, by go_grown⟩

theorem own_same {base e size n g c : Nat} {xs : List Value} {w w' : World} (h : w.ownsRow base e size (.slice (some ⟨g, 0, none⟩) n c) n xs) (hb : w'.heap[g]? = w.heap[g]?) : w'.ownsRow base e size (.slice (some ⟨g, 0, none⟩) n c) n xs := by
  refine ⟨h.1, ?_⟩
  rcases h.2 with h' | ⟨g', c', cur, hv, hB, hg, rest⟩
  · exact .inl h'
  · cases hv
    exact .inr ⟨g, c, cur, rfl, hB, hb.trans hg, rest⟩
theorem own_up {base base' e size n g c : Nat} {xs : List Value} {w : World} (h : w.ownsRow base e size (.slice (some ⟨g, 0, none⟩) n c) n xs) (hg : base' ≤ g) : w.ownsRow base' e size (.slice (some ⟨g, 0, none⟩) n c) n xs := by
  refine ⟨h.1, ?_⟩
  rcases h.2 with h' | ⟨g', c', cur, hv, hB, rest⟩
  · exact .inl h'
  · cases hv
    exact .inr ⟨g, c, cur, rfl, hg, rest⟩
/-- Cells of a block, one turned. -/
theorem row_setCell {w : World} {b k : Nat} {cs : Array Value} {u : Value} {T : TypeId} (h : w.heap[b]? = some (.cells cs T (0, 0))) : (w.setCell ⟨b, k, none⟩ u).heap[b]? = some (.cells (cs.setIfInBounds k u) T (0, 0)) := by
  have hlt := lt_of_block h
  have h' : w.heap[b] = .cells cs T (0, 0) := by simpa [Array.getElem?_eq_getElem hlt] using h
  show (w.heap.modify b _)[b]? = _
  rw [Array.getElem?_eq_getElem (by simpa using hlt), Array.getElem_modify_self, h']
  rfl
theorem BlS.own {w : World} {B n l c : Nat} {a : Option Addr} {xs : List Value} (h : w.ownsRow B 25 1 (.slice a l c) n xs) : BlS w a := by
  rcases h.2 with ⟨h', _⟩ | ⟨g, cap, cur, h', _, hg, _⟩
  · cases h'; exact BlS.none w
  · cases h'; intro p hp; cases hp; exact ⟨cur, (0, 0), hg⟩
theorem bli_snoc {W : World} {hs : List Hd} {y : Hd} {n : Nat} (hl : hs.length = n) (h : ∀ j, j < n → BlI W (hs[j]?.getD (none, 0, 0)).1) (hy : BlI W y.1) {i : Nat} (hi : i < n + 1) : BlI W ((hs ++ [y])[i]?.getD (none, 0, 0)).1 := by
  rw [at_snoc hs y _ hl hi]
  by_cases e : i < n
  · rw [if_pos e]; exact h i e
  · rw [if_neg e]; exact hy
/-- What 'with' hands back: two tables, each with a vector behind. -/
def WithG (w : World) (K V : List (List Int)) (e : Ending) (w' : World) : Prop := ∃ x y : Hd, e = .returned (.agg #[.slice x.1 x.2.1 x.2.2, .slice y.1 y.2.1 y.2.2]) ∧ TbH w' x K ∧ TbH w' y V ∧ (∀ ad, x.1 = some ad → w.heap.size ≤ ad.block) ∧ (∀ ad, y.1 = some ad → w.heap.size ≤ ad.block) ∧ Below w.heap.size w w'
theorem with_any (a1 a2 : Option Addr) (n1 c1 n2 c2 : Nat) (ls1 ls2 : List (List Int)) (b1 b2 : Option Addr) (k1 d1 k2 d2 : Nat) (ys1 ys2 : List Int) (w : World) (h1 : TbH w (a1, n1, c1) ls1) (h2 : TbH w (a2, n2, c2) ls2) (m1 : n1 ≤ 900) (m2 : n2 ≤ 900)
    (r1 : Reads .i64 w b1 k1 d1 ys1) (r2 : Reads .i64 w b2 k2 d2 ys2) (q1 : k1 ≤ 1000) (q2 : k2 ≤ 1000) (i1 : BlI w b1) (i2 : BlI w b2) :
    Calls Tryz.prog 44 #[.agg #[.slice a1 n1 c1, .slice a2 n2 c2], .slice b1 k1 d1, .slice b2 k2 d2] w fun e w' => WithG w (ls1 ++ [ys1]) (ls2 ++ [ys2]) e w' := by
  obtain ⟨l1, hs1, t1, s1, u1⟩ := h1
  obtain ⟨l2, hs2, t2, s2, u2⟩ := h2
  simp only at l1 l2 t1 t2 s1 s2 u1 u2
  obtain ⟨W0, hW0⟩ : ∃ W0, W0 = (w.alloc (.cells #[.slice a1 n1 c1, .slice a2 n2 c2] 77)).alloc (.cells #[.slice none 0 0, .slice none 0 0] 77) := ⟨_, rfl⟩
  have HB0 : Hid (Below w.heap.size w W0) := by unfold Hid; rw [hW0]; exact ((Below.refl _ _).alloc (Nat.le_refl _) _).alloc (by simp) _
  have HC1 := hid fun W (hb : Below W0.heap.size W0 W) => behind_own a1 n1 c1 hs1 b1 k1 d1 W ((t1.rd.below HB0.out).below hb) (by omega)
  have HC2 := hid fun W (hb : Below W0.heap.size W0 W) => behind_own a2 n2 c2 hs2 b2 k2 d2 W ((t2.rd.below HB0.out).below hb) (by omega)
  have HBx : Hid (W0.heap[w.heap.size]? = some (.cells #[.slice a1 n1 c1, .slice a2 n2 c2] 77 (0, 0))) := by
    unfold Hid; rw [hW0, Below.heap_alloc _ _ _ (by simp)]; exact heap_alloc_new w _
  have HBr : Hid (W0.heap[w.heap.size + 1]? = some (.cells #[.slice none 0 0, .slice none 0 0] 77 (0, 0))) := by
    unfold Hid; rw [hW0]
    have := heap_alloc_new (w.alloc (.cells #[.slice a1 n1 c1, .slice a2 n2 c2] 77)) (.cells #[.slice none 0 0, .slice none 0 0] 77)
    rw [World.size_alloc] at this
    exact this
  have HK : Hid (∀ W : World, Below W0.heap.size W0 W → W.cell? ⟨w.heap.size, 0, none⟩ = some (.slice a1 n1 c1) ∧ W.cell? ⟨w.heap.size, 1, none⟩ = some (.slice a2 n2 c2)) := fun W hb => by
    have := block_below HBx.out hb
    exact ⟨by rw [cell_of_row _ _ _ _ _ _ this]; rfl, by rw [cell_of_row _ _ _ _ _ _ this]; rfl⟩
  have HL1 : Hid ((ls1 ++ [ys1]).length = n1 + 1) := by unfold Hid; simp [l1]
  have HL2 : Hid ((ls2 ++ [ys2]).length = n2 + 1) := by unfold Hid; simp [l2]
  have HE1 : Hid (∀ (W : World) (g c : Nat), Below w.heap.size w W → OwnS 0 g (n1 + 1) c (hs1 ++ [(b1, k1, d1)]) W → TbH W (some ⟨g, 0, none⟩, n1 + 1, c) (ls1 ++ [ys1])) := fun W g c hb ho => ⟨HL1.out, _, Tbl.snoc (b := b1) (t1.below hb) l1 (r1.below hb) q1 ho.rd, BlS.own ho, fun i hi => bli_snoc t1.rd.size (fun j hj => (u1 j hj).below hb) (i1.below hb) hi⟩
  have HE2 : Hid (∀ (W : World) (g c : Nat), Below w.heap.size w W → OwnS 0 g (n2 + 1) c (hs2 ++ [(b2, k2, d2)]) W → TbH W (some ⟨g, 0, none⟩, n2 + 1, c) (ls2 ++ [ys2])) := fun W g c hb ho => ⟨HL2.out, _, Tbl.snoc (b := b2) (t2.below hb) l2 (r2.below hb) q2 ho.rd, BlS.own ho, fun i hi => bli_snoc t2.rd.size (fun j hj => (u2 j hj).below hb) (i2.below hb) hi⟩
  have HSz : Hid (w.heap.size + 1 < W0.heap.size) := by unfold Hid; rw [hW0]; simp
  have HU : Hid (Below W0.heap.size W0 W0.drew) := (Below.refl _ _).drew
  clear t1 t2 r1 r2 l1 l2 HL1 HL2 s1 s2 u1 u2 i1 i2
  go_enter Tryz.func44, Tryz.ntmps44
  go_wp2_with fail
  rw [← hW0]
  have HKS : Hid (∀ (W : World) (u v : Value), Below W0.heap.size W0 W → ((W.setCell ⟨w.heap.size + 1, 0, none⟩ u).setCell ⟨w.heap.size + 1, 1, none⟩ v).cell? ⟨w.heap.size, 0, none⟩ = some (.slice a1 n1 c1) ∧ ((W.setCell ⟨w.heap.size + 1, 0, none⟩ u).setCell ⟨w.heap.size + 1, 1, none⟩ v).cell? ⟨w.heap.size, 1, none⟩ = some (.slice a2 n2 c2)) := fun W u v hb => by
    have h1 := block_below HBx.out hb
    have h2 : ((W.setCell ⟨w.heap.size + 1, 0, none⟩ u).setCell ⟨w.heap.size + 1, 1, none⟩ v).heap[w.heap.size]? = some (.cells #[.slice a1 n1 c1, .slice a2 n2 c2] 77 (0, 0)) := by
      rw [Below.heap_setCell _ _ _ _ (by show w.heap.size ≠ w.heap.size + 1; omega), Below.heap_setCell _ _ _ _ (by show w.heap.size ≠ w.heap.size + 1; omega)]
      exact h1
    exact ⟨by rw [cell_of_row _ _ _ _ _ _ h2]; rfl, by rw [cell_of_row _ _ _ _ _ _ h2]; rfl⟩
  clear HBx hW0
  go_region_held3 (fun W : World => W.cell? ⟨w.heap.size, 0, none⟩ = some (.slice a1 n1 c1) ∧ W.cell? ⟨w.heap.size, 1, none⟩ = some (.slice a2 n2 c2)) (first | (with_reducible exact HK.out _ (Below.refl _ _)) | (with_reducible exact HK.out _ HU.out) | (with_reducible exact HKS.out _ _ _ HU.out))
    (first
      | (go_at_call 28; (with_reducible refine (HC1.out _ HU.out).mono ?_); rintro e z1 ⟨g1, e1, rfl, hT1, hb⟩; have HT1 := hid (hT1.low HU.out.size); replace HU := hid (HU.out.trans (hb.mono HU.out.size)); clear hT1 hb)
      | (go_at_call 28; (with_reducible refine (HC2.out _ HU.out).mono ?_); rintro e z2 ⟨g2, e2, rfl, hT2, hb⟩; have HT2 := hid (hT2.low HU.out.size); replace HT1 := hid (HT1.out.stays hb); replace HU := hid (HU.out.trans (hb.mono HU.out.size)); clear hT2 hb; have HRb := hid (block_below HBr.out HU.out); have cr0 := cell_of_row _ _ 0 _ _ _ HRb.out; have cr1 := cell_of_row _ _ 1 _ _ _ HRb.out; have fr := frozen_of_row _ _ 0 _ _ HRb.out; have fr1 := frozen_of_row _ _ 1 _ _ HRb.out))
  have HF : Hid (∀ (s1 s2 : Value), ((z2.setCell ⟨w.heap.size + 1, 0, none⟩ s1).setCell ⟨w.heap.size + 1, 1, none⟩ s2).heap[w.heap.size + 1]? = some (.cells #[s1, s2] 77 (0, 0)) ∧ Below w.heap.size w ((z2.setCell ⟨w.heap.size + 1, 0, none⟩ s1).setCell ⟨w.heap.size + 1, 1, none⟩ s2) ∧
      OwnS 0 g1 (n1 + 1) e1 (hs1 ++ [(b1, k1, d1)]) ((z2.setCell ⟨w.heap.size + 1, 0, none⟩ s1).setCell ⟨w.heap.size + 1, 1, none⟩ s2) ∧ OwnS 0 g2 (n2 + 1) e2 (hs2 ++ [(b2, k2, d2)]) ((z2.setCell ⟨w.heap.size + 1, 0, none⟩ s1).setCell ⟨w.heap.size + 1, 1, none⟩ s2)) := by
    intro s1 s2
    have hs := HSz.out
    have b1' := HT1.out.base
    have b2' := HT2.out.base
    have hbw := HB0.out.trans (HU.out.mono HB0.out.size)
    refine ⟨row_setCell (row_setCell HRb.out), (hbw.setCell (by show w.heap.size ≤ w.heap.size + 1; omega) _).setCell (by show w.heap.size ≤ w.heap.size + 1; omega) _, ?_, ?_⟩
    · refine own_same (HT1.out.low (Nat.zero_le _)) ?_
      rw [Below.heap_setCell _ _ _ _ (by show g1 ≠ w.heap.size + 1; omega), Below.heap_setCell _ _ _ _ (by show g1 ≠ w.heap.size + 1; omega)]
    · refine own_same (HT2.out.low (Nat.zero_le _)) ?_
      rw [Below.heap_setCell _ _ _ _ (by show g2 ≠ w.heap.size + 1; omega), Below.heap_setCell _ _ _ _ (by show g2 ≠ w.heap.size + 1; omega)]
  obtain ⟨hF1, hF2, hF3, hF4⟩ := HF.out (.slice (some ⟨g1, 0, none⟩) (n1 + 1) e1) (.slice (some ⟨g2, 0, none⟩) (n2 + 1) e2)
  generalize (z2.setCell ⟨w.heap.size + 1, 0, none⟩ (.slice (some ⟨g1, 0, none⟩) (n1 + 1) e1)).setCell ⟨w.heap.size + 1, 1, none⟩ (.slice (some ⟨g2, 0, none⟩) (n2 + 1) e2) = Wf at *
  have HY1 := hid (HE1.out Wf g1 e1 hF2 hF3)
  have HY2 := hid (HE2.out Wf g2 e2 hF2 hF4)
  have HY3 := hid hF2
  have f0 : Wf.cell? ⟨w.heap.size + 1, 0, none⟩ = some (.slice (some ⟨g1, 0, none⟩) (n1 + 1) e1) := by rw [cell_of_row _ _ _ _ _ _ hF1]; rfl
  have f1 : Wf.cell? ⟨w.heap.size + 1, 1, none⟩ = some (.slice (some ⟨g2, 0, none⟩) (n2 + 1) e2) := by rw [cell_of_row _ _ _ _ _ _ hF1]; rfl
  have HZ1 : Hid (w.heap.size ≤ g1) := Nat.le_trans HB0.out.size HT1.out.base
  have HZ2 : Hid (w.heap.size ≤ g2) := Nat.le_trans HB0.out.size HT2.out.base
  clear HF hF1 hF2 hF3 hF4 HRb cr0 cr1 fr fr1 HT1 HT2 HU HC1 HC2 HK HKS HE1 HE2 HBr HB0 HSz
  go_wp2
  exact bodyPost_ret (v := .agg #[.slice (some ⟨g1, 0, none⟩) (n1 + 1) e1, .slice (some ⟨g2, 0, none⟩) (n2 + 1) e2]) (by simp [results, Tryz.results44, go_sem, f0, f1]) rfl ⟨(some ⟨g1, 0, none⟩, n1 + 1, e1), (some ⟨g2, 0, none⟩, n2 + 1, e2), rfl, HY1.out, HY2.out, (fun ad h => by cases h; exact HZ1.out), (fun ad h => by cases h; exact HZ2.out), HY3.out⟩
end Go.Proofs.YtehmdlipacbpfaaGreat
