/-
  The texts Sames, AFars, Pushs of this proof.
-/
import Derived.Test.YtjgggialnegddaaGreatPq18
import Derived.Test.YtjgggialnegddaaGreatPq01
import Derived.Deep.Matrix
import Derived.ProofKit
import Derived.Test.YtjgggialnegddaaGreatPq15
set_option linter.unusedVariables false
set_option maxRecDepth 1000000
namespace Go.Proofs.YtjgggialnegddaaGreat
open Go.RowKit
theorem cell_later_of {w w' : World} {p : Addr} {v : Value} (h : w.cell? p = some v) (hb : Below w.heap.size w w') : w'.cell? p = some v := (hb.cell (World.block_lt_of_cell? _ _ h)).trans h
end Go.Proofs.YtjgggialnegddaaGreat
namespace Go.Proofs.YtjgggialnegddaaGreat
open Go.RowKit
theorem memL_even (c : Cf) (L : Nat) (xs : List (List Int)) (k : Nat) : Even (memL c L xs k) k := fun i hi => memL_at c L xs k (by rw [memL_len] at hi; exact hi)
theorem cf_lay {c : Cf} (h : mayB c = true) : ∃ L : Nat, c = ⟨c.seed, c.vocab, c.dim, (L : Int), c.top, c.heat⟩ ∧ c.layers = L ∧ c.layers.toNat = L ∧ 1 ≤ L ∧ L ≤ 4 := by
 have := may_parts h
 refine ⟨c.layers.toNat, ?_, (Int.toNat_of_nonneg (by omega)).symm, rfl, by omega, by omega⟩
 rw [Int.toNat_of_nonneg (by omega)]
theorem through_any (p : Option Addr) (c : Cf) (qm : Option Addr) (M : List KV) (q0 : Nat) (a : Option Addr) (n cap : Nat) (zs : List Int) (w : World) (hp : MdAt w p c) (hc : mayB c = true) (hm : MemAt w qm M) (hM : M.length ≤ 4) (hE : Even (fromM M c.layers.toNat) q0) (hq : q0 ≤ 900)
  (hx : Reads .i64 w a n cap zs) (hn : n ≤ 1000) :
  Calls Tryz.prog 153 #[.pointer p, .pointer qm, .slice a n cap] w fun e w' => ThrG w (thrX c (fromM M c.layers.toNat) zs c.layers.toNat) (thrM c (fromM M c.layers.toNat) zs c.layers.toNat) e w' := by
 obtain ⟨L, h1, h2, h3, h4, h5⟩ := cf_lay hc
 obtain ⟨s, v, d, l, tt, h⟩ := c
 simp only at h2 h3
 subst h2
 rw [h3] at hE ⊢
 exact through_nat p s v d tt h L qm M q0 a n cap zs w hp hc h5 hm hM hE hq hx hn h4
theorem through_mem (p : Option Addr) (c : Cf) (qm : Option Addr) (xs : List (List Int)) (k : Nat) (a : Option Addr) (n cap : Nat) (w : World) (hp : MdAt w p c) (hc : mayB c = true) (hm : MemAt w qm (memL c c.layers.toNat xs k)) (hk : k ≤ 900)
  (hx : Reads .i64 w a n cap (xs[k]?.getD [])) (hn : n ≤ 1000) :
  Calls Tryz.prog 153 #[.pointer p, .pointer qm, .slice a n cap] w fun e w' => ThrG w (madeL c c.layers.toNat xs k) (memL c c.layers.toNat xs (k + 1)) e w' := by
 have hp4 := may_parts hc
 have hF : fromM (memL c c.layers.toNat xs k) c.layers.toNat = memL c c.layers.toNat xs k := by unfold fromM; rw [if_pos (memL_len _ _ _ _)]
 have := through_any p c qm (memL c c.layers.toNat xs k) k a n cap (xs[k]?.getD []) w hp hc hm (by rw [memL_len]; omega) (by rw [hF]; exact memL_even _ _ _ _) hk hx hn
 rw [hF] at this
 exact this
end Go.Proofs.YtjgggialnegddaaGreat
namespace Go.Proofs.YtjgggialnegddaaGreat
open Go.RowKit
theorem Tryz.info273 : (Tryz.prog.info? 273).map (fun i => (i.zero, i.size, i.bytes)) = some (some (.agg #[.int .i64 0, .int .i64 0]), 2, 16) := by kernel_rfl
theorem one_cellM (x : Mk) : ∀ u ∈ [Value.int .i64 x.1, Value.int .i64 x.2], u.oneCell' = true := by intro u hu; simp at hu; rcases hu with rfl | rfl <;> rfl
theorem news_mark (x : Mk) (w : World) (t : TypeId) : ∀ j u, [Value.int .i64 x.1, Value.int .i64 x.2][j]? = some u → (w.alloc (.cells #[.int .i64 x.1, .int .i64 x.2] t)).cell? ((⟨w.heap.size, 0, none⟩ : Addr).add j) = some u :=
 World.news_of_block (heap_alloc_new w (.cells #[.int .i64 x.1, .int .i64 x.2] t))
abbrev mv (x : Mk) : Value := .iface 273 (.agg #[.int .i64 x.1, .int .i64 x.2])
theorem mpush_end {base B g cap : Nat} {ms : List Mk} {x : Mk} {w w3 : World} (hne : B ≠ g) (hO3 : w3.ownsRow base 273 2 (.slice (some ⟨g, 0, none⟩) (ms.length + 1) cap) (ms.length + 1) (cellsM ms ++ [.int .i64 x.1, .int .i64 x.2]))
  (hq : w3.heap[B]? = some (.cells #[.slice (some ⟨g, 0, none⟩) ms.length cap] 269 (0, 0))) (hG : But [g] w w3) :
  HpAt base B g cap (ms ++ [x]) (w3.setCell ⟨B, 0, none⟩ (.slice (some ⟨g, 0, none⟩) (ms.length + 1) cap)) ∧ But [B, g] w (w3.setCell ⟨B, 0, none⟩ (.slice (some ⟨g, 0, none⟩) (ms.length + 1) cap)) := by
 have hl : (ms ++ [x]).length = ms.length + 1 := by simp
 refine ⟨⟨?_, ?_, hne⟩, (hG.mono (by simp)).set (p := ⟨B, 0, none⟩) (by simp) _⟩
 ·rw [hl]; exact one_setCell hq
 ·rw [hl]
  unfold OwnM
  rw [cellsM_app]
  exact ownsRow_setCell_other hO3 (by simp [Value.ownBlock]; exact fun e => hne e.symm) _
theorem assert_mark (x : Mk) (W : World) : (Instr.typeAssert (mv x) 20 273 false).run Tryz.prog W = .ok (.agg #[.int .i64 x.1, .int .i64 x.2]) W := by kernel_rfl
set_option maxHeartbeats 2000000 in
theorem mpush_any (base B g cap : Nat) (ms : List Mk) (x : Mk) (w : World) (h : HpAt base B g cap ms w) (hr : ms.length < cap) (hcap : cap ≤ 1001) :
  Calls Tryz.prog 276 #[.pointer (some ⟨B, 0, none⟩), mv x] w fun e w' => e = .returned (.tuple #[]) ∧ HpAt base B g cap (ms ++ [x]) w' ∧ But [B, g] w w' := by
 obtain ⟨i0, hi, hz0, hz1, hz2⟩ := info_parts Tryz.info273
 have cv := cell_of_one h.var
 have H := hid h
 have hta := assert_mark x
 have cv2 := cell_al cv (.cells #[.int .i64 x.1, .int .i64 x.2] 273)
 clear h
 go_enter Tryz.func276, Tryz.ntmps276
 go_wp2_with fail
 go_region_law ((refine step_append_fits (by rfl) 11 (by rfl) (.tmp 7) (.tmp 10) 269 (by rfl) base 273 i0 2 Tryz.underlying269 hi hz1 g ms.length cap (cellsM ms) (by rfl) (H.out.own.alloc _) ⟨w.heap.size, 0, none⟩ 1 1 [.int .i64 x.1, .int .i64 x.2] (by rfl) rfl (news_mark _ _ _) (one_cellM _) (by omega) ?_; intro w3 hO3 hg; have HG := hid (but_grown (S := [g]) ((But.refl [g] w).drew.alloc _) hg (List.mem_singleton.2 rfl)); have hq := HG.out.one H.out.var (by simpa using H.out.ne); have cm := cell_of_one hq; have fm := free_of_one hq))
 all_goals
  have HE1 := hid (mpush_end H.out.ne hO3 hq HG.out)
  clear hO3 hg HG cm fm hq cv cv2 hi hz0 hz1 hz2 H hta
  go_wp2
  go_end0
  exact ⟨rfl, HE1.out.1, HE1.out.2⟩
theorem OwnM.pop {base g n cap : Nat} {ms : List Mk} {w : World} (h : OwnM base g (n + 1) cap ms w) : OwnM base g n cap (ms.take n) w := by
 have hl := h.len
 refine ⟨by rw [cellsM_len, List.length_take]; omega, ?_⟩
 rcases h.2 with ⟨h', _⟩ | ⟨g', c, cur, hv, hB, hg, hnc, hm, hs, ht⟩
 ·cases h'
 ·cases hv
  refine .inr ⟨g, cap, cur, rfl, hB, hg, by omega, hm, hs, ?_⟩
  have e1 : cellsM ms = cellsM (ms.take n) ++ cellsM (ms.drop n) := by rw [← cellsM_app, List.take_append_drop]
  have e2 : (cellsM (ms.take n)).length = n * 2 := by rw [cellsM_len, List.length_take]; omega
  have e3 : cur.toList.take (n * 2) = ((cur.toList).take ((n + 1) * 2)).take (n * 2) := by rw [List.take_take]; congr 1; omega
  rw [e3, ht, e1, List.take_left' e2]
theorem HpAt.pop {base B g cap n : Nat} {ms : List Mk} {W : World} (h : HpAt base B g cap ms W) (hn : ms.length = n + 1) (o : Obj) :
  HpAt base B g cap (ms.take n) ((W.setCell ⟨B, 0, none⟩ (.slice (some ⟨g, 0, none⟩) n cap)).alloc o) ∧ But [B, g] W ((W.setCell ⟨B, 0, none⟩ (.slice (some ⟨g, 0, none⟩) n cap)).alloc o) := by
 have hl : (ms.take n).length = n := by rw [List.length_take]; omega
 refine ⟨HpAt.below (W := W.setCell ⟨B, 0, none⟩ (.slice (some ⟨g, 0, none⟩) n cap)) ⟨?_, ?_, h.ne⟩ ((Below.refl _ _).alloc (Nat.le_refl _) _), ((But.refl _ _).set (p := ⟨B, 0, none⟩) (by simp) _).alloc _⟩
 ·rw [hl]; exact one_setCell h.var
 ·rw [hl]
  have h2 := h.own
  rw [hn] at h2
  exact ownsRow_setCell_other h2.pop (by simp [Value.ownBlock]; exact fun e => h.ne e.symm) _
theorem mpop_any (base B g cap n : Nat) (ms : List Mk) (w : World) (h : HpAt base B g cap ms w) (hn : ms.length = n + 1) (hcap : cap ≤ 1001) :
  Calls Tryz.prog 275 #[.pointer (some ⟨B, 0, none⟩)] w fun e w' => e = .returned (mv (gx ms n)) ∧ HpAt base B g cap (ms.take n) w' ∧ But [B, g] w w' := by
 have hvar := h.var
 have hro := h.own.room
 have H := hid fun o => h.pop hn o
 rw [hn] at hvar hro
 have cv := cell_of_one hvar
 have fv := free_of_one hvar
 have c0 := h.own.at0 (k := n) (by omega)
 have c1 := h.own.at1 (k := n) (by omega)
 have HB : Hid (B < w.heap.size) := lt_of_block hvar
 have hlt := lt_of_block hvar
 clear h hn
 generalize gx ms n = x at *
 have ca := cell_al cv (.cells #[.int .i64 x.1, .int .i64 x.2] 273)
 have hvar2 : (w.alloc (.cells #[.int .i64 x.1, .int .i64 x.2] 273)).heap[B]? = _ := (Below.heap_alloc _ _ _ hlt).trans hvar
 have fa := free_of_one hvar2
 have hnew := heap_alloc_new w (.cells #[.int .i64 x.1, .int .i64 x.2] 273)
 have hnew2 : ((w.alloc (.cells #[.int .i64 x.1, .int .i64 x.2] 273)).setCell ⟨B, 0, none⟩ (.slice (some ⟨g, 0, none⟩) n cap)).heap[w.heap.size]? = _ := (Below.heap_setCell _ _ _ _ (show w.heap.size ≠ B by omega)).trans hnew
 have m0 := cell_of_row _ w.heap.size 0 _ _ _ hnew2
 have m1 := cell_of_row _ w.heap.size 1 _ _ _ hnew2
 simp only [List.getElem?_toArray, List.getElem?_cons_zero, List.getElem?_cons_succ] at m0 m1
 clear hvar hvar2 hnew hnew2
 go_enter Tryz.func275, Tryz.ntmps275
 go_wp2
 go_ret
 exact ⟨rfl, H.out _⟩
theorem hpush_any (base B g cap : Nat) (ms : List Mk) (x : Mk) (w : World) (h : HpAt base B g cap ms w) (hH : HeapN ms ms.length) (hr : ms.length < cap) (hcap : cap ≤ 1001) :
  Calls Tryz.prog 90 #[hv B, mv x] w fun e w' => e = .returned (.tuple #[]) ∧ (∃ ns, ns.Perm (ms ++ [x]) ∧ HeapN ns ns.length ∧ HpAt base B g cap ns w') ∧ But [B, g] w w' := by
 have hP := mpush_any base B g cap ms x w h hr hcap
 have hmp := meth_push ⟨B, 0, none⟩
 have HU : Hid (UpAt (ms ++ [x]) (ms ++ [x]).length ms.length) := by
  have := hH.push x
  unfold Hid
  rw [List.length_append, List.length_singleton]
  exact this
 clear h hH
 go_enter Tryz.func90, Tryz.ntmps90
 go_wp2_with fail
 refine hP.mono ?_
 rintro e w1 ⟨rfl, h1, hb1⟩
 have hvar := h1.var
 rw [List.length_append, List.length_singleton] at hvar
 have hml := meth_len B w1 _ (cell_of_one hvar)
 have hU := up_any base B g cap (ms ++ [x]) ms.length w1 h1 (by simp) (by simp; omega) HU.out
 have HB1 := hid hb1
 clear h1 hb1 hP hvar
 go_wp2_with fail
 refine (mlen_any _ _ _ _).mono ?_
 rintro e w' ⟨rfl, rfl⟩
 go_wp2_with fail
 refine hU.mono ?_
 rintro e w2 ⟨rfl, hE, hb2⟩
 have HE := hid hE
 have HB2 := hid (HB1.out.trans hb2)
 clear hE hb2 hU hml HB1
 go_wp2
 go_end0
 exact ⟨rfl, HE.out, HB2.out⟩
theorem pop_perm {ns ms : List Mk} {n : Nat} (hl : ns.length = n + 1) (hp : ns.Perm ms) : (gx ns n :: ns.take n).Perm ms := by
 refine List.Perm.trans ?_ hp
 have e : ns = ns.take n ++ [gx ns n] := by
  rw [gx_of (by omega)]
  have := List.take_succ_eq_append_getElem (l := ns) (i := n) (by omega)
  rw [← this, List.take_of_length_le (by omega)]
 have p1 : (gx ns n :: ns.take n).Perm (ns.take n ++ [gx ns n]) := (List.perm_append_singleton _ _).symm
 rw [← e] at p1
 exact p1
theorem HpAt.but {base B g cap : Nat} {ms : List Mk} {W W' : World} {S : List Nat} (h : HpAt base B g cap ms W) (hb : But S W W') (h1 : B ∉ S) (h2 : g ∉ S) : HpAt base B g cap ms W' :=
 ⟨hb.one h.var h1, h.own.same (hb.block g h.own.lt h2), h.ne⟩
theorem hpop_any (base B g cap n : Nat) (ms : List Mk) (w : World) (h : HpAt base B g cap ms w) (hH : HeapN ms ms.length) (hn : ms.length = n + 1) (hcap : cap ≤ 1001) :
  Calls Tryz.prog 186 #[hv B] w fun e w' => ∃ x ns, e = .returned (mv x) ∧ (x :: ns).Perm ms ∧ (∀ y ∈ ms, leM x y) ∧ HeapN ns ns.length ∧ HpAt base B g cap ns w' ∧ But [B, g] w w' := by
 have hro := h.own.room
 have hvar := h.var
 have hS := h.swap 0 n (by omega) (by omega) (by omega)
 rw [hn] at hvar hro hS
 have hml := meth_len B w _ (cell_of_one hvar)
 have hms := meth_swap B w _ (cell_of_one hvar)
 have HD : Hid (DownAt (swp ms 0 n) n 0) := by rw [hn] at hH; exact HeapN.cut (fun i a b => hH i a (by omega)) (by omega) hH
 have HG : Hid (gx (swp ms 0 n) n = gx ms 0) := by unfold Hid; rw [gx_swp (by omega) (by omega), if_pos rfl]
 have HPm : Hid ((swp ms 0 n).Perm ms) := swp_perm (by omega) (by omega)
 have HL : Hid (∀ y ∈ ms, leM (gx ms 0) y) := by
  intro y hy
  obtain ⟨i, hi, rfl⟩ := List.getElem_of_mem hy
  rw [← gx_of hi]
  exact hH.least i hi
 have HN : Hid ((swp ms 0 n).length = n + 1) := by unfold Hid; rw [swp_len, hn]
 clear h hH hvar hn
 go_enter Tryz.func186, Tryz.ntmps186
 go_wp2_with fail
 refine (mlen_any _ _ _ _).mono ?_
 rintro e w' ⟨rfl, rfl⟩
 go_wp2_with fail
 refine hS.mono ?_
 rintro e w1 ⟨rfl, h1, hb1⟩
 have hD := down_any base B g cap n (swp ms 0 n) w1 h1 HN.out (by rw [HN.out]; omega) HD.out
 have HB1 := hid hb1
 clear h1 hb1 hS hms hml
 go_wp2_with fail
 refine hD.mono ?_
 rintro e w2 ⟨⟨b, rfl⟩, ⟨ns, hp, hg, hh, h2⟩, hb2⟩
 have hnl : ns.length = n + 1 := by rw [hp.length_eq, HN.out]
 have hO := mpop_any base B g cap n ns w2 h2 hnl hcap
 have hmp := meth_pop ⟨B, 0, none⟩
 have HX : Hid (gx ns n = gx ms 0) := hg.trans HG.out
 have HP2 : Hid ((gx ns n :: ns.take n).Perm ms) := pop_perm hnl (hp.trans HPm.out)
 have HH : Hid (HeapN (ns.take n) (ns.take n).length) := by
  unfold Hid
  rw [List.length_take, Nat.min_eq_left (by omega)]
  exact hh.take
 have HB2 := hid (HB1.out.trans hb2)
 clear h2 hb2 hD hp hg hh hnl HB1
 go_wp2_with fail
 refine hO.mono ?_
 rintro e w3 ⟨rfl, h3, hb3⟩
 have H3 := hid h3
 have HB3 := hid (HB2.out.trans hb3)
 clear h3 hb3 hO
 go_wp2
 go_ret
 exact ⟨_, _, rfl, HP2.out, by rw [HX.out]; exact HL.out, HH.out, H3.out, HB3.out⟩
theorem next_any (base B g cap n : Nat) (ms : List Mk) (w : World) (h : HpAt base B g cap ms w) (hH : HeapN ms ms.length) (hn : ms.length = n + 1) (hcap : cap ≤ 1001) :
  Calls Tryz.prog 217 #[.pointer (some ⟨B, 0, none⟩)] w fun e w' => ∃ x ns, e = .returned (.agg #[.int .i64 x.1, .int .i64 x.2]) ∧ (x :: ns).Perm ms ∧ (∀ y ∈ ms, leM x y) ∧ HeapN ns ns.length ∧ HpAt base B g cap ns w' ∧ But [B, g] w w' := by
 have hb0 : Below w.heap.size w (w.alloc (.cells #[.int .i64 0, .int .i64 0] 273)) := (Below.refl _ _).alloc (Nat.le_refl _) _
 have hP := hpop_any base B g cap n ms _ (h.below hb0) hH hn hcap
 have HB0 : Hid (But [B, g] w (w.alloc (.cells #[.int .i64 0, .int .i64 0] 273))) := But.of hb0
 have HS : Hid (w.heap.size ∉ [B, g]) := by
  have h1 := lt_of_block h.var
  have h2 := h.own.lt
  unfold Hid
  simp
  omega
 clear h hH hn hb0
 go_enter Tryz.func217, Tryz.ntmps217
 go_wp2_with fail
 refine hP.mono ?_
 rintro e w1 ⟨x, ns, rfl, hp, hle, hh, h1, hb1⟩
 have hta := assert_mark x
 have hnew := hb1.one (heap_alloc_new w (.cells #[.int .i64 0, .int .i64 0] 273)) HS.out
 have n0 := cell_of_row _ w.heap.size 0 _ _ _ hnew
 have n1 := cell_of_row _ w.heap.size 1 _ _ _ hnew
 have nf := fun k => frozen_of_row _ w.heap.size k _ _ hnew
 have HP := hid hp
 have HL := hid hle
 have HH := hid hh
 have H1 := hid h1
 have HB1 := hid (HB0.out.trans hb1)
 simp only [List.getElem?_toArray, List.getElem?_cons_zero, List.getElem?_cons_succ] at n0 n1
 clear hp hle hh h1 hb1 hP HB0 hnew
 have HW : Hid (But [w.heap.size] w1 ((w1.setCell ⟨w.heap.size, 0, none⟩ (.int .i64 x.1)).setCell ⟨w.heap.size, 1, none⟩ (.int .i64 x.2))) :=
  ((But.refl [w.heap.size] w1).set (p := ⟨w.heap.size, 0, none⟩) (by simp) _).set (p := ⟨w.heap.size, 1, none⟩) (by simp) _
 have H2 := hid (H1.out.but HW.out (fun e => HS.out (by simp at e; simp [e])) (fun e => HS.out (by simp at e; simp [e])))
 have HB2 := hid (HB1.out.below (HW.out.to (B := w.heap.size) (fun s hs => by rw [List.mem_singleton.1 hs]; exact Nat.le_refl _) HB1.out.size))
 clear H1 HB1 HW HS
 go_wp2
 exact bodyPost_ret (v := .agg #[.int .i64 x.1, .int .i64 x.2]) (by simp [results, Tryz.results217, go_sem, n0, n1]) rfl ⟨x, ns, rfl, HP.out, HL.out, HH.out, H2.out, HB2.out⟩
end Go.Proofs.YtjgggialnegddaaGreat
