/-
  Pushs: Contracts: the marks' Push and Pop, heap.Push, heap.Pop and next: what is pushed and popped of a heap.
  TMath: Mathematics of the greatest ones: what is kept of marks, one by one (TopSet); the places of the greatest (TopOf), of which there is one list alone.
  Tops: Contract: Top hands back the places of the greatest (TopOf), in memory of the call's own.
  SaMath: Mathematics of the draws of layer 11: the first place up to which weights, added, are above a number (FirstAt), the likeliest (BestOf, bestZ), what is drawn (DrawOf, drawZ); the weights' sum is above 0; the marks of a vector (markL).
-/
import Derived.Test.YtdomjdfancpbbaaGreatPk08
import Derived.Deep.RegionWith
import Derived.Deep.DeepCutAuto
import Derived.Test.YtdomjdfancpbbaaGreatPk07
import Derived.Test.YtdomjdfancpbbaaGreatPk03
namespace Go.Proofs.YtdomjdfancpbbaaGreat
open Go.RowKit
set_option linter.unusedVariables false
set_option maxRecDepth 1000000

theorem Tryz.info178 : (Tryz.prog.info? 178).map (fun i => (i.zero, i.size, i.bytes)) = some (some (.agg #[.int .i64 0, .int .i64 0]), 2, 16) := by kernel_rfl
theorem one_cellM (x : Mk) : ∀ u ∈ [Value.int .i64 x.1, Value.int .i64 x.2], u.oneCell' = true := by intro u hu; simp at hu; rcases hu with rfl | rfl <;> rfl
theorem news_mark (x : Mk) (w : World) (t : TypeId) : ∀ j u, [Value.int .i64 x.1, Value.int .i64 x.2][j]? = some u → (w.alloc (.cells #[.int .i64 x.1, .int .i64 x.2] t)).cell? ((⟨w.heap.size, 0, none⟩ : Addr).add j) = some u :=
  World.news_of_block (heap_alloc_new w (.cells #[.int .i64 x.1, .int .i64 x.2] t))
/-- A mark as a value of an interface. -/
abbrev mv (x : Mk) : Value := .iface 178 (.agg #[.int .i64 x.1, .int .i64 x.2])

theorem mpush_end {base B g cap : Nat} {ms : List Mk} {x : Mk} {w w3 : World} (hne : B ≠ g) (hO3 : w3.ownsRow base 178 2 (.slice (some ⟨g, 0, none⟩) (ms.length + 1) cap) (ms.length + 1) (cellsM ms ++ [.int .i64 x.1, .int .i64 x.2]))
    (hq : w3.heap[B]? = some (.cells #[.slice (some ⟨g, 0, none⟩) ms.length cap] 174 (0, 0))) (hG : But [g] w w3) :
    HpAt base B g cap (ms ++ [x]) (w3.setCell ⟨B, 0, none⟩ (.slice (some ⟨g, 0, none⟩) (ms.length + 1) cap)) ∧ But [B, g] w (w3.setCell ⟨B, 0, none⟩ (.slice (some ⟨g, 0, none⟩) (ms.length + 1) cap)) := by
  have hl : (ms ++ [x]).length = ms.length + 1 := by simp
  refine ⟨⟨?_, ?_, hne⟩, (hG.mono (by simp)).set (p := ⟨B, 0, none⟩) (by simp) _⟩
  · rw [hl]; exact one_setCell hq
  · rw [hl]
    unfold OwnM
    rw [cellsM_app]
    exact ownsRow_setCell_other hO3 (by simp [Value.ownBlock]; exact fun e => hne e.symm) _
theorem assert_mark (x : Mk) (W : World) : (Instr.typeAssert (mv x) 20 178 false).run Tryz.prog W = .ok (.agg #[.int .i64 x.1, .int .i64 x.2]) W := by kernel_rfl
set_option maxHeartbeats 2000000 in
theorem mpush_any (base B g cap : Nat) (ms : List Mk) (x : Mk) (w : World) (h : HpAt base B g cap ms w) (hr : ms.length < cap) (hcap : cap ≤ 1001) :
    Calls Tryz.prog 178 #[.pointer (some ⟨B, 0, none⟩), mv x] w fun e w' => e = .returned (.tuple #[]) ∧ HpAt base B g cap (ms ++ [x]) w' ∧ But [B, g] w w' := by
  obtain ⟨i0, hi, hz0, hz1, hz2⟩ := info_parts Tryz.info178
  have cv := cell_of_one h.var
  have H := hid h
  have hta := assert_mark x
  have cv2 := cell_al cv (.cells #[.int .i64 x.1, .int .i64 x.2] 178)
  clear h
  go_enter Tryz.func178, Tryz.ntmps178
  go_wp2_with fail
  go_region_law ((refine step_append_fits (by rfl) 11 (by rfl) (.tmp 7) (.tmp 10) 174 (by rfl) base 178 i0 2 Tryz.underlying174 hi hz1 g ms.length cap (cellsM ms) (by rfl) (H.out.own.alloc _) ⟨w.heap.size, 0, none⟩ 1 1 [.int .i64 x.1, .int .i64 x.2] (by rfl) rfl (news_mark _ _ _) (one_cellM _) (by omega) ?_; intro w3 hO3 hg; have HG := hid (but_grown (S := [g]) ((But.refl [g] w).drew.alloc _) hg (List.mem_singleton.2 rfl)); have hq := HG.out.one H.out.var (by simpa using H.out.ne); have cm := cell_of_one hq; have fm := free_of_one hq))
  all_goals
    have HE1 := hid (mpush_end H.out.ne hO3 hq HG.out)
    clear hO3 hg HG cm fm hq cv cv2 hi hz0 hz1 hz2 H hta
    go_wp2
    go_end0
    exact ⟨rfl, HE1.out.1, HE1.out.2⟩
theorem OwnM.pop {base g n cap : Nat} {ms : List Mk} {w : World} (h : OwnM base g (n + 1) cap ms w) : OwnM base g n cap (ms.take n) w := by
  have hl := h.len
  refine ⟨by rw [cellsM_len, List.length_take]; omega, ?_⟩
  rcases h.2 with ⟨h', _⟩ | ⟨g', c, cur, hv, hB, hg, hnc, hm, hs, ht⟩
  · cases h'
  · cases hv
    refine .inr ⟨g, cap, cur, rfl, hB, hg, by omega, hm, hs, ?_⟩
    have e1 : cellsM ms = cellsM (ms.take n) ++ cellsM (ms.drop n) := by rw [← cellsM_app, List.take_append_drop]
    have e2 : (cellsM (ms.take n)).length = n * 2 := by rw [cellsM_len, List.length_take]; omega
    have e3 : cur.toList.take (n * 2) = ((cur.toList).take ((n + 1) * 2)).take (n * 2) := by rw [List.take_take]; congr 1; omega
    rw [e3, ht, e1, List.take_left' e2]
theorem HpAt.pop {base B g cap n : Nat} {ms : List Mk} {W : World} (h : HpAt base B g cap ms W) (hn : ms.length = n + 1) (o : Obj) :
    HpAt base B g cap (ms.take n) ((W.setCell ⟨B, 0, none⟩ (.slice (some ⟨g, 0, none⟩) n cap)).alloc o) ∧ But [B, g] W ((W.setCell ⟨B, 0, none⟩ (.slice (some ⟨g, 0, none⟩) n cap)).alloc o) := by
  have hl : (ms.take n).length = n := by rw [List.length_take]; omega
  refine ⟨HpAt.below (W := W.setCell ⟨B, 0, none⟩ (.slice (some ⟨g, 0, none⟩) n cap)) ⟨?_, ?_, h.ne⟩ ((Below.refl _ _).alloc (Nat.le_refl _) _), ((But.refl _ _).set (p := ⟨B, 0, none⟩) (by simp) _).alloc _⟩
  · rw [hl]; exact one_setCell h.var
  · rw [hl]
    have h2 := h.own
    rw [hn] at h2
    exact ownsRow_setCell_other h2.pop (by simp [Value.ownBlock]; exact fun e => h.ne e.symm) _
theorem mpop_any (base B g cap n : Nat) (ms : List Mk) (w : World) (h : HpAt base B g cap ms w) (hn : ms.length = n + 1) (hcap : cap ≤ 1001) :
    Calls Tryz.prog 177 #[.pointer (some ⟨B, 0, none⟩)] w fun e w' => e = .returned (mv (gx ms n)) ∧ HpAt base B g cap (ms.take n) w' ∧ But [B, g] w w' := by
  have hvar := h.var
  have hro := h.own.room
  have H := hid fun o => h.pop hn o
  rw [hn] at hvar hro
  have cv := cell_of_one hvar
  have fv := free_of_one hvar
  have c0 := h.own.at0 (k := n) (by omega)
  have c1 := h.own.at1 (k := n) (by omega)
  have HB : Hid (B < w.heap.size) := lt_of_block hvar
  have hlt := lt_of_block hvar
  clear h hn
  generalize gx ms n = x at *
  have ca := cell_al cv (.cells #[.int .i64 x.1, .int .i64 x.2] 178)
  have hvar2 : (w.alloc (.cells #[.int .i64 x.1, .int .i64 x.2] 178)).heap[B]? = _ := (Below.heap_alloc _ _ _ hlt).trans hvar
  have fa := free_of_one hvar2
  have hnew := heap_alloc_new w (.cells #[.int .i64 x.1, .int .i64 x.2] 178)
  have hnew2 : ((w.alloc (.cells #[.int .i64 x.1, .int .i64 x.2] 178)).setCell ⟨B, 0, none⟩ (.slice (some ⟨g, 0, none⟩) n cap)).heap[w.heap.size]? = _ := (Below.heap_setCell _ _ _ _ (show w.heap.size ≠ B by omega)).trans hnew
  have m0 := cell_of_row _ w.heap.size 0 _ _ _ hnew2
  have m1 := cell_of_row _ w.heap.size 1 _ _ _ hnew2
  simp only [List.getElem?_toArray, List.getElem?_cons_zero, List.getElem?_cons_succ] at m0 m1
  clear hvar hvar2 hnew hnew2
  go_enter Tryz.func177, Tryz.ntmps177
  go_wp2
  go_ret
  exact ⟨rfl, H.out _⟩

theorem hpush_any (base B g cap : Nat) (ms : List Mk) (x : Mk) (w : World) (h : HpAt base B g cap ms w) (hH : HeapN ms ms.length) (hr : ms.length < cap) (hcap : cap ≤ 1001) :
    Calls Tryz.prog 54 #[hv B, mv x] w fun e w' => e = .returned (.tuple #[]) ∧ (∃ ns, ns.Perm (ms ++ [x]) ∧ HeapN ns ns.length ∧ HpAt base B g cap ns w') ∧ But [B, g] w w' := by
  have hP := mpush_any base B g cap ms x w h hr hcap
  have hmp := meth_push ⟨B, 0, none⟩
  have HU : Hid (UpAt (ms ++ [x]) (ms ++ [x]).length ms.length) := by
    have := hH.push x
    unfold Hid
    rw [List.length_append, List.length_singleton]
    exact this
  clear h hH
  go_enter Tryz.func54, Tryz.ntmps54
  go_wp2_with fail
  refine hP.mono ?_
  rintro e w1 ⟨rfl, h1, hb1⟩
  have hvar := h1.var
  rw [List.length_append, List.length_singleton] at hvar
  have hml := meth_len B w1 _ (cell_of_one hvar)
  have hU := up_any base B g cap (ms ++ [x]) ms.length w1 h1 (by simp) (by simp; omega) HU.out
  have HB1 := hid hb1
  clear h1 hb1 hP hvar
  go_wp2_with fail
  refine (mlen_any _ _ _ _).mono ?_
  rintro e w' ⟨rfl, rfl⟩
  go_wp2_with fail
  refine hU.mono ?_
  rintro e w2 ⟨rfl, hE, hb2⟩
  have HE := hid hE
  have HB2 := hid (HB1.out.trans hb2)
  clear hE hb2 hU hml HB1
  go_wp2
  go_end0
  exact ⟨rfl, HE.out, HB2.out⟩

theorem pop_perm {ns ms : List Mk} {n : Nat} (hl : ns.length = n + 1) (hp : ns.Perm ms) : (gx ns n :: ns.take n).Perm ms := by
  refine List.Perm.trans ?_ hp
  have e : ns = ns.take n ++ [gx ns n] := by
    rw [gx_of (by omega)]
    have := List.take_succ_eq_append_getElem (l := ns) (i := n) (by omega)
    rw [← this, List.take_of_length_le (by omega)]
  have p1 : (gx ns n :: ns.take n).Perm (ns.take n ++ [gx ns n]) := (List.perm_append_singleton _ _).symm
  rw [← e] at p1
  exact p1
theorem HpAt.but {base B g cap : Nat} {ms : List Mk} {W W' : World} {S : List Nat} (h : HpAt base B g cap ms W) (hb : But S W W') (h1 : B ∉ S) (h2 : g ∉ S) : HpAt base B g cap ms W' :=
  ⟨hb.one h.var h1, h.own.same (hb.block g h.own.lt h2), h.ne⟩
theorem hpop_any (base B g cap n : Nat) (ms : List Mk) (w : World) (h : HpAt base B g cap ms w) (hH : HeapN ms ms.length) (hn : ms.length = n + 1) (hcap : cap ≤ 1001) :
    Calls Tryz.prog 102 #[hv B] w fun e w' => ∃ x ns, e = .returned (mv x) ∧ (x :: ns).Perm ms ∧ (∀ y ∈ ms, leM x y) ∧ HeapN ns ns.length ∧ HpAt base B g cap ns w' ∧ But [B, g] w w' := by
  have hro := h.own.room
  have hvar := h.var
  have hS := h.swap 0 n (by omega) (by omega) (by omega)
  rw [hn] at hvar hro hS
  have hml := meth_len B w _ (cell_of_one hvar)
  have hms := meth_swap B w _ (cell_of_one hvar)
  have HD : Hid (DownAt (swp ms 0 n) n 0) := by rw [hn] at hH; exact HeapN.cut (fun i a b => hH i a (by omega)) (by omega) hH
  have HG : Hid (gx (swp ms 0 n) n = gx ms 0) := by unfold Hid; rw [gx_swp (by omega) (by omega), if_pos rfl]
  have HPm : Hid ((swp ms 0 n).Perm ms) := swp_perm (by omega) (by omega)
  have HL : Hid (∀ y ∈ ms, leM (gx ms 0) y) := by
    intro y hy
    obtain ⟨i, hi, rfl⟩ := List.getElem_of_mem hy
    rw [← gx_of hi]
    exact hH.least i hi
  have HN : Hid ((swp ms 0 n).length = n + 1) := by unfold Hid; rw [swp_len, hn]
  clear h hH hvar hn
  go_enter Tryz.func102, Tryz.ntmps102
  go_wp2_with fail
  refine (mlen_any _ _ _ _).mono ?_
  rintro e w' ⟨rfl, rfl⟩
  go_wp2_with fail
  refine hS.mono ?_
  rintro e w1 ⟨rfl, h1, hb1⟩
  have hD := down_any base B g cap n (swp ms 0 n) w1 h1 HN.out (by rw [HN.out]; omega) HD.out
  have HB1 := hid hb1
  clear h1 hb1 hS hms hml
  go_wp2_with fail
  refine hD.mono ?_
  rintro e w2 ⟨⟨b, rfl⟩, ⟨ns, hp, hg, hh, h2⟩, hb2⟩
  have hnl : ns.length = n + 1 := by rw [hp.length_eq, HN.out]
  have hO := mpop_any base B g cap n ns w2 h2 hnl hcap
  have hmp := meth_pop ⟨B, 0, none⟩
  have HX : Hid (gx ns n = gx ms 0) := hg.trans HG.out
  have HP2 : Hid ((gx ns n :: ns.take n).Perm ms) := pop_perm hnl (hp.trans HPm.out)
  have HH : Hid (HeapN (ns.take n) (ns.take n).length) := by
    unfold Hid
    rw [List.length_take, Nat.min_eq_left (by omega)]
    exact hh.take
  have HB2 := hid (HB1.out.trans hb2)
  clear h2 hb2 hD hp hg hh hnl HB1
  go_wp2_with fail
  refine hO.mono ?_
  rintro e w3 ⟨rfl, h3, hb3⟩
  have H3 := hid h3
  have HB3 := hid (HB2.out.trans hb3)
  clear h3 hb3 hO
  go_wp2
  go_ret
  exact ⟨_, _, rfl, HP2.out, by rw [HX.out]; exact HL.out, HH.out, H3.out, HB3.out⟩

theorem next_any (base B g cap n : Nat) (ms : List Mk) (w : World) (h : HpAt base B g cap ms w) (hH : HeapN ms ms.length) (hn : ms.length = n + 1) (hcap : cap ≤ 1001) :
    Calls Tryz.prog 118 #[.pointer (some ⟨B, 0, none⟩)] w fun e w' => ∃ x ns, e = .returned (.agg #[.int .i64 x.1, .int .i64 x.2]) ∧ (x :: ns).Perm ms ∧ (∀ y ∈ ms, leM x y) ∧ HeapN ns ns.length ∧ HpAt base B g cap ns w' ∧ But [B, g] w w' := by
  have hb0 : Below w.heap.size w (w.alloc (.cells #[.int .i64 0, .int .i64 0] 178)) := (Below.refl _ _).alloc (Nat.le_refl _) _
  have hP := hpop_any base B g cap n ms _ (h.below hb0) hH hn hcap
  have HB0 : Hid (But [B, g] w (w.alloc (.cells #[.int .i64 0, .int .i64 0] 178))) := But.of hb0
  have HS : Hid (w.heap.size ∉ [B, g]) := by
    have h1 := lt_of_block h.var
    have h2 := h.own.lt
    unfold Hid
    simp
    omega
  clear h hH hn hb0
  go_enter Tryz.func118, Tryz.ntmps118
  go_wp2_with fail
  refine hP.mono ?_
  rintro e w1 ⟨x, ns, rfl, hp, hle, hh, h1, hb1⟩
  have hta := assert_mark x
  have hnew := hb1.one (heap_alloc_new w (.cells #[.int .i64 0, .int .i64 0] 178)) HS.out
  have n0 := cell_of_row _ w.heap.size 0 _ _ _ hnew
  have n1 := cell_of_row _ w.heap.size 1 _ _ _ hnew
  have nf := fun k => frozen_of_row _ w.heap.size k _ _ hnew
  have HP := hid hp
  have HL := hid hle
  have HH := hid hh
  have H1 := hid h1
  have HB1 := hid (HB0.out.trans hb1)
  simp only [List.getElem?_toArray, List.getElem?_cons_zero, List.getElem?_cons_succ] at n0 n1
  clear hp hle hh h1 hb1 hP HB0 hnew
  have HW : Hid (But [w.heap.size] w1 ((w1.setCell ⟨w.heap.size, 0, none⟩ (.int .i64 x.1)).setCell ⟨w.heap.size, 1, none⟩ (.int .i64 x.2))) :=
    ((But.refl [w.heap.size] w1).set (p := ⟨w.heap.size, 0, none⟩) (by simp) _).set (p := ⟨w.heap.size, 1, none⟩) (by simp) _
  have H2 := hid (H1.out.but HW.out (fun e => HS.out (by simp at e; simp [e])) (fun e => HS.out (by simp at e; simp [e])))
  have HB2 := hid (HB1.out.below (HW.out.to (B := w.heap.size) (fun s hs => by rw [List.mem_singleton.1 hs]; exact Nat.le_refl _) HB1.out.size))
  clear H1 HB1 HW HS
  go_wp2
  exact bodyPost_ret (v := .agg #[.int .i64 x.1, .int .i64 x.2]) (by simp [results, Tryz.results118, go_sem, n0, n1]) rfl ⟨x, ns, rfl, HP.out, HL.out, HH.out, H2.out, HB2.out⟩
end Go.Proofs.YtdomjdfancpbbaaGreat
namespace Go.Proofs.YtdomjdfancpbbaaGreat
open Go.RowKit
set_option linter.unusedVariables false
set_option maxRecDepth 1000000

/-- The marks of the first k places. -/
def marksK (zs : List Int) : Nat → List Mk
  | 0 => []
  | k + 1 => marksK zs k ++ [((k : Int), wi (zs[k]?.getD 0))]
theorem marksK_len (zs : List Int) (k : Nat) : (marksK zs k).length = k := by
  induction k with
  | zero => rfl
  | succ k ih => simp [marksK, ih]
theorem marksK_mem {zs : List Int} {k : Nat} {m : Mk} : m ∈ marksK zs k ↔ ∃ i : Nat, i < k ∧ m = ((i : Int), wi (zs[i]?.getD 0)) := by
  induction k with
  | zero => simp [marksK]
  | succ k ih =>
    simp only [marksK, List.mem_append, List.mem_singleton, ih]
    constructor
    · rintro (⟨i, hi, rfl⟩ | rfl)
      · exact ⟨i, by omega, rfl⟩
      · exact ⟨k, by omega, rfl⟩
    · rintro ⟨i, hi, rfl⟩
      rcases (by omega : i < k ∨ i = k) with h | rfl
      · exact .inl ⟨i, h, rfl⟩
      · exact .inr rfl

/-- Of the marks ms the K greatest ones. -/
def TopSet (K : Nat) (ms ks : List Mk) : Prop := ∃ rest, (ks ++ rest).Perm ms ∧ ks.length = min K ms.length ∧ ∀ r ∈ rest, ∀ x ∈ ks, leM r x
theorem TopSet.none (K : Nat) : TopSet K [] [] := ⟨[], List.Perm.refl _, by simp, by simp⟩
theorem TopSet.push {K : Nat} {ms ks ns : List Mk} {x : Mk} (h : TopSet K ms ks) (hp : ns.Perm (ks ++ [x])) (hn : ns.length ≤ K) : TopSet K (ms ++ [x]) ns := by
  obtain ⟨rest, h1, h2, h3⟩ := h
  have l1 := h1.length_eq
  have l2 := hp.length_eq
  simp at l1 l2
  have hr : rest = [] := List.eq_nil_of_length_eq_zero (by omega)
  subst hr
  refine ⟨[], ?_, ?_, by simp⟩
  · rw [List.append_nil] at h1 ⊢
    exact hp.trans (h1.append_right [x])
  · simp; omega
theorem TopSet.pop {K : Nat} {ms ks ns ns' : List Mk} {x y : Mk} (h : TopSet K ms ks) (hp : ns.Perm (ks ++ [x])) (hn : K < ns.length) (hy : (y :: ns').Perm ns) (hle : ∀ z ∈ ns, leM y z) : TopSet K (ms ++ [x]) ns' := by
  obtain ⟨rest, h1, h2, h3⟩ := h
  have l1 := h1.length_eq
  have l2 := hp.length_eq
  have l3 := hy.length_eq
  simp at l1 l2 l3
  have hyx : (y :: ns').Perm (ks ++ [x]) := hy.trans hp
  refine ⟨y :: rest, ?_, ?_, ?_⟩
  · have p1 : (ns' ++ y :: rest).Perm ((y :: ns') ++ rest) := List.perm_middle
    have p2 : ((y :: ns') ++ rest).Perm ((ks ++ [x]) ++ rest) := hyx.append_right rest
    have p3 : ((ks ++ [x]) ++ rest).Perm ((ks ++ rest) ++ [x]) := by
      rw [List.append_assoc, List.append_assoc]
      exact (List.perm_append_comm).append_left ks
    exact p1.trans (p2.trans (p3.trans (h1.append_right [x])))
  · simp; omega
  · intro r hr e he
    have hen : e ∈ ns := hy.subset (List.mem_cons_of_mem _ he)
    rcases List.mem_cons.1 hr with rfl | hr
    · exact hle e hen
    · have hyk : y ∈ ks ++ [x] := hyx.subset (List.mem_cons_self)
      rcases List.mem_append.1 hyk with hk | hk
      · exact leM_trans (h3 r hr y hk) (hle e hen)
      · obtain rfl := List.mem_singleton.1 hk
        have p : (y :: ns').Perm (y :: ks) := hyx.trans (List.perm_append_singleton _ _)
        have hek : e ∈ ks := (List.Perm.cons_inv p).subset he
        exact h3 r hr e hek

/-- Marks from the greatest down. -/
def Falls (qs : List Mk) : Prop := qs.Pairwise fun a b => leM b a
theorem top_one : ∀ (qs qs' rest rest' : List Mk), (qs ++ rest).Perm (qs' ++ rest') → qs.length = qs'.length → Falls qs → Falls qs' → (∀ r ∈ rest, ∀ q ∈ qs, leM r q) → (∀ r ∈ rest', ∀ q ∈ qs', leM r q) → qs = qs' := by
  intro qs
  induction qs with
  | nil => intro qs' rest rest' _ hl _ _ _ _; exact (List.eq_nil_of_length_eq_zero hl.symm).symm
  | cons q qs ih =>
    intro qs' rest rest' hp hl hf hf' hr hr'
    cases qs' with
    | nil => simp at hl
    | cons q' qs' =>
      have top : ∀ {q : Mk} {qs rest : List Mk}, Falls (q :: qs) → (∀ r ∈ rest, ∀ x ∈ q :: qs, leM r x) → ∀ z ∈ (q :: qs) ++ rest, leM z q := by
        intro q qs rest h1 h2 z hz
        rcases List.mem_append.1 hz with h | h
        · rcases List.mem_cons.1 h with rfl | h
          · exact leM_refl _
          · exact (List.pairwise_cons.1 h1).1 z h
        · exact h2 z h q (List.mem_cons_self)
      have e : q = q' := leM_anti (top hf' hr' q (hp.subset (by simp))) (top hf hr q' (hp.symm.subset (by simp)))
      subst e
      have hp' : (qs ++ rest).Perm (qs' ++ rest') := List.Perm.cons_inv hp
      rw [ih qs' rest rest' hp' (by simpa using hl) (List.pairwise_cons.1 hf).2 (List.pairwise_cons.1 hf').2 (fun r h x hx => hr r h x (List.mem_cons_of_mem _ hx)) (fun r h x hx => hr' r h x (List.mem_cons_of_mem _ hx))]
/-- These are the places of the K greatest of the first n. -/
def TopOf (zs : List Int) (n K : Nat) (ps : List Int) : Prop :=
  ∃ qs rest : List Mk, ps = qs.map Prod.fst ∧ qs.length = K ∧ Falls qs ∧ (qs ++ rest).Perm (marksK zs n) ∧ ∀ r ∈ rest, ∀ q ∈ qs, leM r q
theorem TopOf.one {zs : List Int} {n K : Nat} {ps ps' : List Int} (h : TopOf zs n K ps) (h' : TopOf zs n K ps') : ps = ps' := by
  obtain ⟨qs, rest, rfl, hl, hf, hp, hr⟩ := h
  obtain ⟨qs', rest', rfl, hl', hf', hp', hr'⟩ := h'
  rw [top_one qs qs' rest rest' (hp.trans hp'.symm) (hl.trans hl'.symm) hf hf' hr hr']
theorem TopOf.len {zs : List Int} {n K : Nat} {ps : List Int} (h : TopOf zs n K ps) : ps.length = K := by
  obtain ⟨qs, rest, rfl, hl, _⟩ := h
  simpa using hl

/-- What is taken out of the heap, the last one first, and what is left. -/
structure Outs (ks qs ns : List Mk) : Prop where
  perm : (qs ++ ns).Perm ks
  falls : Falls qs
  le : ∀ q ∈ qs, ∀ n ∈ ns, leM q n
theorem Outs.start (ks : List Mk) : Outs ks [] ks := ⟨List.Perm.refl _, List.Pairwise.nil, by simp⟩
theorem Outs.next {ks qs ns ns' : List Mk} {x : Mk} (h : Outs ks qs ns) (hp : (x :: ns').Perm ns) (hle : ∀ y ∈ ns, leM x y) : Outs ks (x :: qs) ns' := by
  have hx : x ∈ ns := hp.subset (List.mem_cons_self)
  have hs : ∀ n ∈ ns', n ∈ ns := fun n hn => hp.subset (List.mem_cons_of_mem _ hn)
  refine ⟨?_, List.pairwise_cons.2 ⟨fun b hb => h.le b hb x hx, h.falls⟩, ?_⟩
  · have p1 : ((x :: qs) ++ ns').Perm (qs ++ x :: ns') := List.perm_middle.symm
    exact p1.trans ((hp.append_left qs).trans h.perm)
  · intro q hq n hn
    rcases List.mem_cons.1 hq with rfl | hq
    · exact hle n (hs n hn)
    · exact h.le q hq n (hs n hn)
theorem Outs.done {zs : List Int} {n K : Nat} {ks qs : List Mk} (h : Outs ks qs []) (hk : TopSet K (marksK zs n) ks) (hK : K ≤ n) : TopOf zs n K (qs.map Prod.fst) := by
  obtain ⟨rest, h1, h2, h3⟩ := hk
  have hp := h.perm
  rw [List.append_nil] at hp
  rw [marksK_len, Nat.min_eq_left hK] at h2
  refine ⟨qs, rest, rfl, hp.length_eq.trans h2, h.falls, (hp.append_right rest).trans h1, fun r hr q hq => h3 r hr q (hp.subset hq)⟩
theorem places_set (c : Nat) (x : Int) (us : List Int) : (List.replicate (c + 1) 0 ++ us).set c x = List.replicate c 0 ++ x :: us := by
  rw [List.set_append_left _ _ (by simp), List.replicate_succ', List.set_append_right _ _ (by simp)]
  simp
end Go.Proofs.YtdomjdfancpbbaaGreat
namespace Go.Proofs.YtdomjdfancpbbaaGreat
open Go.RowKit
set_option linter.unusedVariables false
set_option maxRecDepth 1000000

/-- What stands in memory between the rounds of Top: how many are kept, and those. -/
structure TopAt (w : World) (K : Nat) (ms : List Mk) (W : World) : Prop where
  old : Below w.heap.size w W
  num : W.heap[w.heap.size]? = some (.cells #[.int .i64 K] 3 (0, 0))
  kept : ∃ ks, HpAt w.heap.size (w.heap.size + 2) (w.heap.size + 1) (K + 1) ks W ∧ HeapN ks ks.length ∧ TopSet K ms ks

theorem top1_any (w : World) (K k : Nat) (n : Int) (ms : List Mk) (wr : World) (hK : K ≤ 1000) (h : TopAt w K ms wr) :
    Calls Tryz.prog 117 #[.int .i64 k, .int .i64 n, .pointer (some ⟨w.heap.size + 2, 0, none⟩), .pointer (some ⟨w.heap.size, 0, none⟩)] wr fun e w' => e = .returned (.tuple #[]) ∧ TopAt w K (ms ++ [((k : Int), wi n)]) w' := by
  obtain ⟨ks, hp, hh, ht⟩ := h.kept
  have hkl : ks.length ≤ K := by obtain ⟨rest, _, h2, _⟩ := ht; omega
  have hP := hpush_any _ _ _ _ ks ((k : Int), wi n) wr hp hh (by omega) (by omega)
  have HT := hid ht
  have HN := hid h.num
  have HO := hid h.old
  have HS : Hid (∀ s ∈ [w.heap.size + 2, w.heap.size + 1], w.heap.size ≤ s) := by unfold Hid; simp
  clear h hp hh ht hkl
  go_enter Tryz.func117, Tryz.ntmps117
  go_wp2_with fail
  refine (within_any _ _).mono ?_
  rintro e w' ⟨rfl, rfl⟩
  go_wp2_with fail
  refine hP.mono ?_
  rintro e w1 ⟨rfl, ⟨ns, hnp, hh1, hp1⟩, hb1⟩
  have hN1 := hb1.one HN.out (by simp)
  have HO1 := hid (HO.out.trans (hb1.to HS.out HO.out.size))
  have c1 := cell_of_one hp1.var
  have c2 := cell_of_one hN1
  have hnl : ns.length ≤ K + 1 := hp1.own.room
  by_cases hgt : K < ns.length
  · have hnn : ns.length = (ns.length - 1) + 1 := by omega
    have hX := next_any _ _ _ _ (ns.length - 1) ns w1 hp1 hh1 hnn (by omega)
    have HNP := hid hnp
    have HN1 := hid hN1
    have HGT := hid hgt
    clear hnn hp1 hh1 hnp hb1 HO hP hN1
    go_wp2_with fail
    refine hX.mono ?_
    rintro e w2 ⟨y, ns', rfl, hyp, hle, hh2, hp2, hb2⟩
    have HE : Hid (TopAt w K (ms ++ [((k : Int), wi n)]) w2) := ⟨HO1.out.trans (hb2.to HS.out HO1.out.size), hb2.one HN1.out (by simp), ns', hp2, hh2, HT.out.pop HNP.out HGT.out hyp hle⟩
    clear hX hyp hle hh2 hp2 hb2 c1 c2
    go_wp2
    go_end0
    exact ⟨rfl, HE.out⟩
  · have HE : Hid (TopAt w K (ms ++ [((k : Int), wi n)]) w1) := ⟨HO1.out, hN1, ns, hp1, hh1, HT.out.push hnp (by omega)⟩
    clear hp1 hh1 hnp hb1 HO hP hN1
    go_wp2
    go_end0
    exact ⟨rfl, HE.out⟩

/-- 'make' of no marks, with room for m. -/
theorem make_marks (w : World) (m : Nat) (hm : m ≤ 1001) : (Instr.makeSlice 174 (.int .i64 0) (.int .i64 (m : Int))).run Tryz.prog w = .ok (.slice (some ⟨w.heap.size, 0, none⟩) 0 m) (w.alloc (.cells (madeCells #[.int .i64 0, .int .i64 0] (m * 2)) 178)) := by
  obtain ⟨i0, hi, hz0, hz1, hz2⟩ := info_parts Tryz.info178
  have := run_make (P := Tryz.prog) w 174 178 i0 (.agg #[.int .i64 0, .int .i64 0]) Tryz.underlying174 hi hz0 .i64 .i64 0 (m : Int) (by omega) (by omega) (by rw [hz2]; omega) (by omega)
  rw [this, hz1, Int.toNat_natCast]
  rfl
theorem own_marks (w : World) (m : Nat) (hm : m ≤ 1001) : OwnM w.heap.size w.heap.size 0 m [] (w.alloc (.cells (madeCells #[.int .i64 0, .int .i64 0] (m * 2)) 178)) :=
  World.ownsRow_made (base := w.heap.size) (e := 178) (size := 2) w _ m (Nat.le_refl _) (by unfold maxLen; omega) (by simp [madeCells])
theorem make_places (w : World) (m : Nat) (hm : m ≤ 1001) : (Instr.makeSlice 34 (.int .i64 (m : Int)) (.int .i64 (m : Int))).run Tryz.prog w = .ok (.slice (some ⟨w.heap.size, 0, none⟩) m m) (w.alloc (.cells (madeCells #[.int .i64 0] m) 3)) := by
  obtain ⟨i0, hi, hz0, hz1, hz2⟩ := info_parts Tryz.info3
  have := run_make (P := Tryz.prog) w 34 3 i0 (.int .i64 0) Tryz.underlying34 hi hz0 .i64 .i64 (m : Int) (m : Int) (by omega) (Int.le_refl _) (by rw [hz2]; omega) (by omega)
  rw [this, hz1, Int.toNat_natCast, Nat.mul_one]
  rfl
/-- How many places are asked for, of len. -/
def Kof (k : Int) (len K : Nat) : Prop := (k < 0 ∧ K = 0) ∨ (0 ≤ k ∧ k ≤ len ∧ k = K) ∨ ((len : Int) < k ∧ K = len)
theorem kof_any (k : Int) (len : Nat) : ∃ K, Kof k len K ∧ K ≤ len := by
  rcases (by omega : k < 0 ∨ (0 ≤ k ∧ k ≤ len) ∨ (len : Int) < k) with h | h | h
  · exact ⟨0, .inl ⟨h, rfl⟩, by omega⟩
  · exact ⟨k.toNat, .inr (.inl ⟨h.1, h.2, by omega⟩), by omega⟩
  · exact ⟨len, .inr (.inr ⟨h, rfl⟩), by omega⟩

theorem kof_val {k : Int} {len K : Nat} (h : Kof k len K) : (if (if (len : Int) < k then (len : Int) else k) < 0 then 0 else if (len : Int) < k then (len : Int) else k) = (K : Int) := by
  unfold Kof at h
  by_cases h1 : (len : Int) < k
  · rw [if_pos h1, if_neg (by omega)]; omega
  · rw [if_neg h1]
    by_cases h2 : k < 0
    · rw [if_pos h2]; omega
    · rw [if_neg h2]; omega
theorem topEach_any (a : Option Addr) (len cap K : Nat) (zs : List Int) (w W : World) (ha : Reads .i64 w a len cap zs) (hlen : len ≤ 1000) (hK : K ≤ len) (h0 : TopAt w K [] W) :
    Calls Tryz.prog 116 #[.slice a len cap, .func (.func 117) #[] #[.pointer (some ⟨w.heap.size + 2, 0, none⟩), .pointer (some ⟨w.heap.size, 0, none⟩)]] W
      fun e w' => e = .returned (.tuple #[]) ∧ TopAt w K (marksK zs len) w' := by
  refine each_any 117 _ a len cap zs W hlen (fun k W => TopAt w K (marksK zs k) W) (enters_of Tryz.func117 (by kernel_rfl) rfl) (fun k wr h => ha.below h.old) h0 ?_
  intro k wr hk hI
  exact top1_any w K k _ _ wr (by omega) hI

theorem TopAt.new (w : World) (K : Nat) (hK : K ≤ 1000) :
    TopAt w K [] ((((w.alloc (.cells #[.int .i64 K] 3)).alloc (.cells (madeCells #[.int .i64 0, .int .i64 0] ((K + 1) * 2)) 178)).alloc (.cells #[.slice (some ⟨w.heap.size + 1, 0, none⟩) 0 (K + 1)] 174)).drew) := by
  have h1 := own_marks (w.alloc (.cells #[.int .i64 K] 3)) (K + 1) (by omega)
  have e1 : (w.alloc (.cells #[.int .i64 K] 3)).heap.size = w.heap.size + 1 := by simp
  rw [e1] at h1
  refine ⟨?_, ?_, [], ⟨?_, ?_, by omega⟩, fun i a b => absurd b (by simp), TopSet.none K⟩
  · exact ((((Below.refl _ _).alloc (Nat.le_refl _) _).alloc (by simp) _).alloc (by simp; omega) _).drew
  · show (((w.alloc (.cells #[.int .i64 K] 3)).alloc (.cells (madeCells #[.int .i64 0, .int .i64 0] ((K + 1) * 2)) 178)).alloc (.cells #[.slice (some ⟨w.heap.size + 1, 0, none⟩) 0 (K + 1)] 174)).heap[w.heap.size]? = _
    rw [Below.heap_alloc _ _ _ (by simp; omega), Below.heap_alloc _ _ _ (by simp)]
    exact heap_alloc_new w _
  · have := heap_alloc_new ((w.alloc (.cells #[.int .i64 K] 3)).alloc (.cells (madeCells #[.int .i64 0, .int .i64 0] ((K + 1) * 2)) 178)) (.cells #[.slice (some ⟨w.heap.size + 1, 0, none⟩) 0 (K + 1)] 174)
    rw [World.size_alloc, World.size_alloc] at this
    exact this
  · refine OwnM.stays (w := (w.alloc (.cells #[.int .i64 K] 3)).alloc (.cells (madeCells #[.int .i64 0, .int .i64 0] ((K + 1) * 2)) 178)) ⟨h1.1, ?_⟩ ((Below.refl _ _).alloc (Nat.le_refl _) _).drew
    rcases h1.2 with h' | ⟨g', c, cur, hv, hB, rest⟩
    · exact .inl h'
    · exact .inr ⟨g', c, cur, hv, by omega, rest⟩

theorem field_at (x : Mk) (W : World) : (Instr.field 178 (.agg #[.int .i64 x.1, .int .i64 x.2]) 0).run Tryz.prog W = .ok (.int .i64 x.1) W := by kernel_rfl
/-- What stands in memory between the rounds in which the marks are taken out: G is the list of places. -/
structure OutAt (w : World) (K G : Nat) (ks : List Mk) (c : Nat) (W : World) : Prop where
  old : Below w.heap.size w W
  kept : ∃ qs ns, ns.length = c ∧ Outs ks qs ns ∧ HeapN ns ns.length ∧ HpAt w.heap.size (w.heap.size + 2) (w.heap.size + 1) (K + 1) ns W ∧ OwnK 3 w.heap.size G K K (List.replicate c 0 ++ qs.map Prod.fst) W
  far : w.heap.size + 2 < G

set_option maxHeartbeats 1000000 in
theorem top_any (a : Option Addr) (len cap K : Nat) (k : Int) (zs : List Int) (w : World) (ha : Reads .i64 w a len cap zs) (hlen : len ≤ 1000) (hk : Kof k len K) (hK : K ≤ len) :
    Calls Tryz.prog 91 #[.slice a len cap, .int .i64 k] w fun e w' => ∃ g ps, e = .returned (.slice (some ⟨g, 0, none⟩) K K) ∧ OwnK 3 w.heap.size g K K ps w' ∧ TopOf zs len K ps ∧ Below w.heap.size w w' := by
  have hkv := kof_val hk
  have hmk : ∀ W : World, (Instr.makeSlice 174 (.int .i64 0) (.int .i64 ((K : Int) + 1))).run Tryz.prog W = .ok (.slice (some ⟨W.heap.size, 0, none⟩) 0 (K + 1)) (W.alloc (.cells (madeCells #[.int .i64 0, .int .i64 0] ((K + 1) * 2)) 178)) := fun W => make_marks W (K + 1) (by omega)
  have HE := hid fun W => topEach_any a len cap K zs w W ha hlen hK
  clear ha hk
  go_enter Tryz.func91, Tryz.ntmps91
  go_wp2_with fail
  go_cut [12] (fun v wx => v = .int .i64 K ∧ wx = (w.alloc (.cells #[.int .i64 K] 3)).drew)
  case first =>
    go_region_with (first | (go_at_call 104; refine (count_any _ _ _ _ hlen).mono ?_; rintro e w' ⟨rfl, rfl⟩))
    all_goals
      go_wp2_with fail
    all_goals
      go_meet
      exact ⟨rfl, rfl⟩
  case rest =>
    obtain ⟨rfl, rfl⟩ := hcut
    clear hkv
    go_wp2_with fail
    refine (HE.out _ (TopAt.new w K (by omega))).mono ?_
    rintro e w1 ⟨rfl, h1⟩
    obtain ⟨ks, hp, hh, ht⟩ := h1.kept
    have hkl : ks.length = K := by obtain ⟨rest, _, h2, _⟩ := ht; rw [h2, marksK_len]; omega
    have cn := cell_of_one h1.num
    have hmk2 : ∀ W : World, (Instr.makeSlice 34 (.int .i64 (K : Int)) (.int .i64 (K : Int))).run Tryz.prog W = .ok (.slice (some ⟨W.heap.size, 0, none⟩) K K) (W.alloc (.cells (madeCells #[.int .i64 0] K) 3)) := fun W => make_places W K (by omega)
    have hb2 : Below w1.heap.size w1 (w1.alloc (.cells (madeCells #[.int .i64 0] K) 3)) := (Below.refl _ _).alloc (Nat.le_refl _) _
    have cn2 := cell_al cn (.cells (madeCells #[.int .i64 0] K) 3)
    have HS : Hid (OutAt w K w1.heap.size ks K (w1.alloc (.cells (madeCells #[.int .i64 0] K) 3))) :=
      ⟨h1.old.trans (hb2.mono h1.old.size), ⟨[], ks, hkl, Outs.start ks, hh, hp.below hb2, by simpa using (own_made 3 w1 K (by omega)).low h1.old.size⟩, lt_of_block hp.var⟩
    have HT := hid ht
    clear h1 hp hh ht hkl hb2 HE hmk
    go_wp2_with fail
    clear hmk2 cn cn2
    go_loopw [7] (fun i W => ∃ c : Nat, c ≤ K ∧ i = .int .i64 ((c : Int) - 1) ∧ Hid (OutAt w K w1.heap.size ks c W)) (fun i _ => (intOf i + 1).toNat)
    case atStart => exact ⟨K, Nat.le_refl _, rfl, HS⟩
    case round =>
      obtain ⟨c, hc, rfl, HO⟩ := hrel
      clear HS
      rename World => wr
      obtain ⟨qs, ns, hnl, ho, hh, hp, hw⟩ := HO.out.kept
      rcases c with _ | c
      · have hns : ns = [] := List.eq_nil_of_length_eq_zero hnl
        subst hns
        have HE1 : Hid (OwnK 3 w.heap.size w1.heap.size K K (qs.map Prod.fst) wr ∧ TopOf zs len K (qs.map Prod.fst) ∧ Below w.heap.size w wr) := ⟨by simpa using hw, ho.done HT.out hK, HO.out.old⟩
        clear hnl ho hh hp hw HO
        go_wp2
        go_ret
        exact ⟨_, _, rfl, HE1.out⟩
      · have hX := next_any _ _ _ _ c ns wr hp hh hnl (by omega)
        have HHo := hid ho
        have HNL := hid hnl
        have HW := hid hw
        have HF : Hid (w1.heap.size ∉ [w.heap.size + 2, w.heap.size + 1]) := by have := HO.out.far; unfold Hid; simp; omega
        have HLE : Hid (∀ s ∈ [w.heap.size + 2, w.heap.size + 1], w.heap.size ≤ s) := by unfold Hid; simp
        clear hnl ho hh hp hw
        go_wp2_with fail
        refine hX.mono ?_
        rintro e w2 ⟨x, ns', rfl, hyp, hle, hh2, hp2, hb2⟩
        have HW2 := hid (HW.out.but hb2 HF.out)
        have ck := HW2.out.cell (k := c) (by omega)
        have hfd := field_at x
        have fk := HW2.out.frozen c
        have HN : Hid (OutAt w K w1.heap.size ks c (w2.setCell ⟨w1.heap.size, c, none⟩ (.int .i64 x.1))) := by
          have hset := HW2.out.set c x.1
          rw [places_set] at hset
          have hbt : But [w1.heap.size] w2 (w2.setCell ⟨w1.heap.size, c, none⟩ (.int .i64 x.1)) := (But.refl _ _).set (p := ⟨w1.heap.size, c, none⟩) (by simp) _
          have hnl' : ns'.length = c := by
            have q3 := hyp.length_eq
            rw [HNL.out] at q3
            simpa using q3
          refine ⟨(HO.out.old.trans (hb2.to HLE.out HO.out.old.size)).trans (hbt.to (fun s hs => by rw [List.mem_singleton.1 hs]; have := HO.out.far; omega) (Nat.le_trans HO.out.old.size hb2.size)), ⟨x :: qs, ns', hnl', HHo.out.next hyp hle, hh2, ?_, ?_⟩, HO.out.far⟩
          · refine hp2.but hbt ?_ ?_
            · have := HO.out.far; simp; omega
            · have := HO.out.far; simp; omega
          · simpa using hset
        clear hX hyp hle hh2 hp2 hb2 HW2 HW HHo
        go_wp2_with fail
        go_round
        case rel => exact ⟨c, by omega, by go_num, HN⟩
        case measure => simp [intOf]
end Go.Proofs.YtdomjdfancpbbaaGreat
namespace Go.Proofs.YtdomjdfancpbbaaGreat
open Go.RowKit
set_option linter.unusedVariables false
set_option maxRecDepth 1000000

/-- The one number of which it is true. -/
noncomputable def the (P : Int → Prop) : Int := open Classical in if h : ∃ t, P t then h.choose else 0
theorem the_eq {P : Int → Prop} {t : Int} (h : P t) (one : ∀ a b, P a → P b → a = b) : the P = t := by
  unfold the
  rw [dif_pos ⟨t, h⟩]
  exact one _ _ (Exists.choose_spec ⟨t, h⟩) h

/-- The first place up to which the first n weights, added, are above d. -/
structure FirstAt (ws : List Int) (n : Nat) (d : Int) (k : Nat) : Prop where
  lt : k < n
  up : d < sumK ws (k + 1)
  low : ∀ j, j < k → sumK ws (j + 1) ≤ d
theorem FirstAt.one {ws : List Int} {n : Nat} {d : Int} {k k' : Nat} (h : FirstAt ws n d k) (h' : FirstAt ws n d k') : k = k' := by
  rcases Nat.lt_trichotomy k k' with hl | rfl | hl
  · have := h'.low k hl; have := h.up; omega
  · rfl
  · have := h.low k' hl; have := h'.up; omega
theorem first_no {ws : List Int} {n : Nat} {d : Int} (d0 : 0 ≤ d) (hd : d < sumK ws n) (h : ∀ j, j < n → sumK ws (j + 1) ≤ d) : False := by
  rcases n with _ | n
  · simp only [sumK] at hd; omega
  · have := h n (by omega); omega

/-- How much a mark counts. -/
def cntZ (zs : List Int) (heat p : Int) : Int := divZ (mulZ (zs[p.toNat]?.getD 0) (fromZ 4)) (fromZ heat)
def cntL (zs : List Int) (heat : Int) (ps : List Int) : List Int := ps.map (cntZ zs heat)
/-- The weights. -/
def wtL (zs : List Int) (heat : Int) (ps : List Int) : List Int := softL (cntL zs heat ps)
theorem cntL_len (zs : List Int) (heat : Int) (ps : List Int) : (cntL zs heat ps).length = ps.length := by simp [cntL]

/-- The likeliest. -/
def BestOf (zs : List Int) (t : Int) : Prop := (zs = [] ∧ t = -1) ∨ (0 < zs.length ∧ TopOf zs zs.length 1 [t])
theorem BestOf.one {zs : List Int} : ∀ a b, BestOf zs a → BestOf zs b → a = b := by
  intro a b h h'
  rcases h with ⟨h1, h2⟩ | ⟨h1, h2⟩ <;> rcases h' with ⟨k1, k2⟩ | ⟨k1, k2⟩
  · omega
  · rw [h1] at k1; simp at k1
  · rw [k1] at h1; simp at h1
  · have := h2.one k2; simpa using this
noncomputable def bestZ (zs : List Int) : Int := the (BestOf zs)
theorem BestOf.eq {zs : List Int} {t : Int} (h : BestOf zs t) : bestZ zs = t := the_eq h BestOf.one
/-- At least 1. -/
def mx1 (t : Int) : Int := max t 1
/-- The drawn one. -/
def DrawOf (zs : List Int) (top heat s p t : Int) : Prop :=
  ((zs = [] ∨ heat < 1) ∧ BestOf zs t) ∨
  (0 < zs.length ∧ 1 ≤ heat ∧ ∃ (K k : Nat) (ps : List Int), Kof (mx1 top) zs.length K ∧ TopOf zs zs.length K ps ∧ FirstAt (wtL zs heat ps) K (belowZ s p (sumK (wtL zs heat ps) K)) k ∧ t = ps[k]?.getD 0)
theorem Kof.one {k : Int} {len K K' : Nat} (h : Kof k len K) (h' : Kof k len K') : K = K' := by unfold Kof at *; omega
theorem DrawOf.one {zs : List Int} {top heat s p : Int} : ∀ a b, DrawOf zs top heat s p a → DrawOf zs top heat s p b → a = b := by
  intro a b h h'
  rcases h with ⟨h1, h2⟩ | ⟨h1, h2, K, k, ps, h3, h4, h5, h6⟩ <;> rcases h' with ⟨k1, k2⟩ | ⟨k1, k2, K', k', ps', k3, k4, k5, k6⟩
  · exact h2.one _ _ k2
  · rcases h1 with rfl | h1
    · simp at k1
    · omega
  · rcases k1 with rfl | k1
    · simp at h1
    · omega
  · obtain rfl := h3.one k3
    obtain rfl := h4.one k4
    obtain rfl := h5.one k5
    rw [h6, k6]
noncomputable def drawZ (zs : List Int) (top heat s p : Int) : Int := the (DrawOf zs top heat s p)
theorem DrawOf.eq {zs : List Int} {top heat s p t : Int} (h : DrawOf zs top heat s p t) : drawZ zs top heat s p = t := the_eq h DrawOf.one

/-- The places of the greatest are places. -/
theorem TopOf.at {zs : List Int} {n K : Nat} {ps : List Int} (h : TopOf zs n K ps) {i : Nat} (hi : i < K) : ∃ m : Nat, ps[i]?.getD 0 = m ∧ m < n := by
  obtain ⟨qs, rest, rfl, hl, hf, hp, hr⟩ := h
  have hq : i < qs.length := by omega
  have hm : qs[i] ∈ marksK zs n := hp.subset (List.mem_append_left _ (List.getElem_mem hq))
  obtain ⟨m, h1, h2⟩ := marksK_mem.1 hm
  refine ⟨m, ?_, h1⟩
  simp [hq, h2]
/-- Some place has the greatest number. -/
theorem great_at (zs : List Int) (k : Nat) : 0 < k → ∃ i, i < k ∧ wi (zs[i]?.getD 0) = greatK zs k := by
  induction k with
  | zero => intro h; omega
  | succ k ih =>
    intro _
    by_cases h : k = 0 ∨ greatK zs k < wi (zs[k]?.getD 0)
    · exact ⟨k, by omega, by rw [greatK, if_pos h]⟩
    · obtain ⟨i, h1, h2⟩ := ih (by omega)
      exact ⟨i, by omega, by rw [greatK, if_neg h, h2]⟩
theorem exp_m1 : 32768 ≤ expZ (-1) := by decide +kernel
/-- The sum of weights is above 0. -/
theorem soft_sum {zs : List Int} (h : 0 < zs.length) : 0 < sumK (softL zs) zs.length ∧ sumK (softL zs) zs.length ≤ 2147483647 := by
  have hP : Pos (softL zs) := fun i => ⟨(softL_bd zs i).1, by have := (softL_bd zs i).2; omega⟩
  refine ⟨?_, (sumK_bd hP _).2⟩
  obtain ⟨i, h1, h2⟩ := great_at zs zs.length h
  have hge := sumK_ge hP zs.length i h1
  have hp : 32768 ≤ (powL zs)[i]?.getD 0 := by
    rw [powL_at h1]
    refine Int.le_trans exp_m1 (expZ_le ?_)
    unfold addZ
    rw [h2]
    have hb := greatK_bd zs zs.length
    generalize greatK zs zs.length = g at *
    have : -1 ≤ g + wi (-g) := by unfold wi; split <;> (try split) <;> omega
    have := wi_le this
    rwa [show wi (-1) = -1 from rfl] at this
  have hs := sumK_ge (powL_pos zs) zs.length i h1
  have hb := sumK_bd (powL_pos zs) zs.length
  rw [softL_at h1] at hge
  have hv := div_val (powL_pos zs i).1 hs hb.2 (by omega)
  rw [hv.1] at hge
  have : 1 ≤ (powL zs)[i]?.getD 0 * 65536 / sumK (powL zs) zs.length := by
    refine (Int.le_ediv_iff_mul_le (by omega)).2 ?_
    omega
  omega
theorem wt_sum {zs : List Int} {heat : Int} {ps : List Int} {K : Nat} (h : ps.length = K) (hK : 0 < K) : 0 < sumK (wtL zs heat ps) K ∧ sumK (wtL zs heat ps) K ≤ 2147483647 := by
  have hl := cntL_len zs heat ps
  have := soft_sum (zs := cntL zs heat ps) (by omega)
  rw [hl, h] at this
  exact this
theorem below_sum {zs : List Int} {heat : Int} {ps : List Int} {K : Nat} (s p : Int) (h : ps.length = K) (hK : 0 < K) : 0 ≤ belowZ s p (sumK (wtL zs heat ps) K) ∧ belowZ s p (sumK (wtL zs heat ps) K) < sumK (wtL zs heat ps) K := below_bd s p (wt_sum h hK).1
theorem kof_pos {t : Int} {len K : Nat} (h : Kof (mx1 t) len K) (hl : 0 < len) : 0 < K := by unfold Kof mx1 at h; omega

/-- Drawn of one, it is the likeliest. -/
theorem DrawOf.best {zs : List Int} {top heat s p t : Int} (h : DrawOf zs top heat s p t) (hc : top ≤ 1 ∨ heat < 1) : BestOf zs t := by
  rcases h with ⟨_, h⟩ | ⟨h1, h2, K, k, ps, h3, h4, h5, h6⟩
  · exact h
  · have hK : K = 1 := by unfold Kof mx1 at h3; omega
    subst hK
    have hk := h5.lt
    obtain rfl : k = 0 := by omega
    have hl := h4.len
    match ps, hl with
    | [x], _ =>
      simp at h6
      subst h6
      exact .inr ⟨h1, h4⟩
theorem DrawOf.nil {top heat s p t : Int} (h : DrawOf [] top heat s p t) : t = -1 := by
  rcases h with ⟨_, h⟩ | ⟨h, _⟩
  · rcases h with ⟨_, h⟩ | ⟨h, _⟩
    · exact h
    · simp at h
  · simp at h
/-- What is drawn, with heat, is one of the greatest. -/
theorem DrawOf.mem {zs : List Int} {top heat s p t : Int} (h : DrawOf zs top heat s p t) (h0 : 0 < zs.length) (hc : 1 ≤ heat) {K : Nat} {ps : List Int} (hK : Kof (mx1 top) zs.length K) (hp : TopOf zs zs.length K ps) : ∃ k, k < K ∧ t = ps[k]?.getD 0 := by
  rcases h with ⟨h1 | h1, _⟩ | ⟨h1, h2, K', k, ps', h3, h4, h5, h6⟩
  · rw [h1] at h0; simp at h0
  · omega
  · obtain rfl := h3.one hK
    obtain rfl := h4.one hp
    exact ⟨k, h5.lt, h6⟩

/-- The likeliest of 3, 9, 9. -/
theorem best_399 : BestOf [3, 9, 9] 1 := by
  refine .inr ⟨by simp, [(1, 9)], [(0, 3), (2, 9)], rfl, rfl, ?_, ?_, ?_⟩
  · exact List.pairwise_singleton _ _
  · have : marksK [3, 9, 9] ([3, 9, 9] : List Int).length = [((0 : Int), (3 : Int)), (1, 9), (2, 9)] := by decide +kernel
    rw [this]
    exact List.Perm.swap _ _ _
  · intro r hr q hq
    simp at hr hq
    subst hq
    rcases hr with rfl | rfl <;> (unfold leM ltM; simp)
theorem best_nil : BestOf [] (-1) := .inl ⟨rfl, rfl⟩
end Go.Proofs.YtdomjdfancpbbaaGreat
