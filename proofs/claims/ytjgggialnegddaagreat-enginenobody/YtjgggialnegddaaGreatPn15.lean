/-
  The texts HiPushs of this proof.
-/
import Derived.Test.YtjgggialnegddaaGreatPn08
import Derived.Deep.RegionLaw
set_option linter.unusedVariables false
set_option maxRecDepth 1000000
namespace Go.Proofs.YtjgggialnegddaaGreat
open Go.RowKit
abbrev iv (x : Int) : Value := .iface 3 (.int .i64 x)
abbrev csH (cs : Array Value) (o g n cap : Nat) : Array Value := cs.setIfInBounds o (.slice (some ⟨g, 0, none⟩) n cap)
theorem csH_at {cs : Array Value} {o g n cap : Nat} {v : Value} (h : cs[o]? = some v) : (csH cs o g n cap)[o]? = some (.slice (some ⟨g, 0, none⟩) n cap) := by
 have : o < cs.size := (Array.getElem?_eq_some_iff.1 h).1
 simp [csH, this]
theorem assert_int (x : Int) (W : World) : (Instr.typeAssert (iv x) 20 3 false).run Tryz.prog W = .ok (.int .i64 x) W := by kernel_rfl
theorem qpush_end {B o g cap : Nat} {cs : Array Value} {Tb : TypeId} {ms : List Int} {x : Int} {w w3 : World} (h : HqAt B o g cap cs Tb ms w) (hO3 : w3.ownsRow 0 3 1 (.slice (some ⟨g, 0, none⟩) (ms.length + 1) cap) (ms.length + 1) (ms.map (Value.int .i64) ++ [.int .i64 x]))
  (hq : w3.heap[B]? = some (.cells cs Tb (0, 0))) (hG : Fb (at2 B g) w w3) :
  HqAt B o g cap (csH cs o g (ms.length + 1) cap) Tb (ms ++ [x]) (w3.setCell ⟨B, o, none⟩ (.slice (some ⟨g, 0, none⟩) (ms.length + 1) cap)) ∧ Fb (at2 B g) w (w3.setCell ⟨B, o, none⟩ (.slice (some ⟨g, 0, none⟩) (ms.length + 1) cap)) := by
 have hl : (ms ++ [x]).length = ms.length + 1 := by simp
 refine ⟨⟨row_set hq, by rw [hl]; exact csH_at h.hdr, ?_, h.ne⟩, hG.tr (fb_set3 _ _ _ _ _)⟩
 rw [hl]
 refine OwnK.same (w := w3) ?_ (Below.heap_setCell _ _ _ _ (by exact fun e => h.ne e.symm))
 unfold OwnK
 rw [List.map_append]
 exact hO3
set_option maxHeartbeats 2000000 in
theorem qpush_any (B o g cap : Nat) (cs : Array Value) (Tb : TypeId) (ms : List Int) (x : Int) (w : World) (h : HqAt B o g cap cs Tb ms w) (hr : ms.length < cap) (hcap : cap ≤ 1001) :
  Calls Tryz.prog 270 #[.pointer (some ⟨B, o, none⟩), iv x] w fun e w' => e = .returned (.tuple #[]) ∧ HqAt B o g cap (csH cs o g (ms.length + 1) cap) Tb (ms ++ [x]) w' ∧ Fb (at2 B g) w w' := by
 obtain ⟨i0, hi, hz0, hz1, hz2⟩ := info_parts Tryz.info3
 have cv := h.cell
 have H := hid h
 have hta := assert_int x
 have hb1 : Below w.heap.size w (w.alloc (.cells #[.int .i64 x] 3)) := (Below.refl _ _).alloc (Nat.le_refl _) _
 have cv2 := (h.below hb1).cell
 clear h hb1
 go_enter Tryz.func270, Tryz.ntmps270
 go_wp2_with fail
 go_region_law ((refine step_append_fits (by rfl) 11 (by rfl) (.tmp 7) (.tmp 10) 154 (by rfl) 0 3 i0 1 Tryz.underlying154 hi hz1 g ms.length cap (ms.map (Value.int .i64)) (by rfl) (H.out.own.alloc _) ⟨w.heap.size, 0, none⟩ 1 1 [.int .i64 x] (by rfl) rfl (news_one _ _ _ _) (one_cell _ _) (by omega) ?_; intro w3 hO3 hg; have HG : Hid (Fb (at2 B g) w w3) := ((Fb.of ((Below.refl _ _).alloc (Nat.le_refl _) _) : Fb (at2 B g) w _).tr (⟨hg.os, hg.tape, hg.output, hg.size, fun k hk hn => hg.block k hk (fun e => hn (.inr (by cases e; rfl)))⟩)); have hq : w3.heap[B]? = some (.cells cs Tb (0, 0)) := (hg.block B (by have := lt_of_block H.out.var; simp; omega) (fun e => H.out.ne (by cases e; rfl))).trans ((Below.heap_alloc _ _ _ (lt_of_block H.out.var)).trans H.out.var); have cm : w3.cell? ⟨B, o, none⟩ = some (.slice (some ⟨g, 0, none⟩) ms.length cap) := (cell_of_row _ _ _ _ _ _ hq).trans H.out.hdr; have fm := frozen_of_row _ _ o _ _ hq))
 all_goals
  have HE1 := hid (qpush_end H.out hO3 hq HG.out)
  clear hO3 hg HG cm fm hq cv cv2 hi hz0 hz1 hz2 H hta
  go_wp2
  go_end0
  exact ⟨rfl, HE1.out.1, HE1.out.2⟩
theorem OwnK.popI {t : TypeId} {base g n cap : Nat} {ms : List Int} {w : World} (h : OwnK t base g (n + 1) cap ms w) : OwnK t base g n cap (ms.take n) w := by
 have hl := h.len
 refine ⟨by rw [List.length_map, List.length_take]; omega, ?_⟩
 rcases id h.2 with ⟨h', _⟩ | ⟨g', c, cur, hv, hB, hg, hnc, hm, hs, ht⟩
 ·cases h'
 ·cases hv
  refine .inr ⟨g, cap, cur, rfl, hB, hg, by omega, hm, hs, ?_⟩
  have e3 : cur.toList.take (n * 1) = ((cur.toList).take ((n + 1) * 1)).take n := by rw [List.take_take]; congr 1; omega
  rw [e3, ht, List.map_take]
theorem HqAt.popI {B o g cap n : Nat} {cs : Array Value} {Tb : TypeId} {ms : List Int} {W : World} (h : HqAt B o g cap cs Tb ms W) (hn : ms.length = n + 1) :
  HqAt B o g cap (csH cs o g n cap) Tb (ms.take n) (W.setCell ⟨B, o, none⟩ (.slice (some ⟨g, 0, none⟩) n cap)) ∧ Fb (at2 B g) W (W.setCell ⟨B, o, none⟩ (.slice (some ⟨g, 0, none⟩) n cap)) := by
 have hl : (ms.take n).length = n := by rw [List.length_take]; omega
 refine ⟨⟨row_set h.var, by rw [hl]; exact csH_at h.hdr, ?_, h.ne⟩, fb_set3 _ _ _ _ _⟩
 rw [hl]
 have h2 := h.own
 rw [hn] at h2
 exact h2.popI.same (Below.heap_setCell _ _ _ _ (by exact fun e => h.ne e.symm))
theorem qpop_any (B o g cap n : Nat) (cs : Array Value) (Tb : TypeId) (ms : List Int) (w : World) (h : HqAt B o g cap cs Tb ms w) (hn : ms.length = n + 1) (hcap : cap ≤ 1001) :
  Calls Tryz.prog 269 #[.pointer (some ⟨B, o, none⟩)] w fun e w' => e = .returned (iv (gi ms n)) ∧ HqAt B o g cap (csH cs o g n cap) Tb (ms.take n) w' ∧ Fb (at2 B g) w w' := by
 have cv := h.cell
 have fv := frozen_of_row _ _ o _ _ h.var
 have hro := h.own.room
 have H := hid (h.popI hn)
 have c0 : w.cell? ⟨g, n, none⟩ = some (.int .i64 (gi ms n)) := h.own.cell (by omega)
 rw [hn] at cv hro
 clear h hn
 generalize gi ms n = x at *
 go_enter Tryz.func269, Tryz.ntmps269
 go_wp2
 go_ret
 exact ⟨rfl, H.out.1, H.out.2⟩
theorem qhpush_any (B o g cap : Nat) (cs : Array Value) (Tb : TypeId) (ms : List Int) (x : Int) (w : World) (h : HqAt B o g cap cs Tb ms w) (hH : HeapI ms ms.length) (hr : ms.length < cap) (hcap : cap ≤ 1001) :
  Calls Tryz.prog 90 #[hq B o, iv x] w fun e w' => e = .returned (.tuple #[]) ∧ (∃ ns, ns.Perm (ms ++ [x]) ∧ HeapI ns ns.length ∧ HqAt B o g cap (csH cs o g (ms.length + 1) cap) Tb ns w') ∧ Fb (at2 B g) w w' := by
 have hP := qpush_any B o g cap cs Tb ms x w h hr hcap
 have hmp := methI_push ⟨B, o, none⟩
 have HU : Hid (UpI (ms ++ [x]) (ms ++ [x]).length ms.length) := by
  have := hH.push x
  unfold Hid
  rw [List.length_append, List.length_singleton]
  exact this
 clear h hH
 generalize csH cs o g (ms.length + 1) cap = cs2 at *
 go_enter Tryz.func90, Tryz.ntmps90
 go_wp2_with fail
 refine hP.mono ?_
 rintro e w1 ⟨rfl, h1, hb1⟩
 have hcl := h1.cell
 rw [List.length_append, List.length_singleton] at hcl
 have hml := methI_len B o w1 _ hcl
 have hU := qup_any B o g cap cs2 Tb (ms ++ [x]) ms.length w1 h1 (by simp) (by simp; omega) HU.out
 have HB1 := hid hb1
 clear h1 hb1 hP hcl
 go_wp2_with fail
 refine (qlen_any _ _ _ _).mono ?_
 rintro e w' ⟨rfl, rfl⟩
 go_wp2_with fail
 refine hU.mono ?_
 rintro e w2 ⟨rfl, hE, hb2⟩
 have HE := hid hE
 have HB2 := hid (HB1.out.tr hb2)
 clear hE hb2 hU hml HB1
 go_wp2
 go_end0
 exact ⟨rfl, HE.out, HB2.out⟩
theorem popI_perm {ns ms : List Int} {n : Nat} (hl : ns.length = n + 1) (hp : ns.Perm ms) : (gi ns n :: ns.take n).Perm ms := by
 refine List.Perm.trans ?_ hp
 have e : ns = ns.take n ++ [gi ns n] := by
  rw [gi_of (by omega)]
  have := List.take_succ_eq_append_getElem (l := ns) (i := n) (by omega)
  rw [← this, List.take_of_length_le (by omega)]
 have p1 : (gi ns n :: ns.take n).Perm (ns.take n ++ [gi ns n]) := (List.perm_append_singleton _ _).symm
 rw [← e] at p1
 exact p1
theorem qhpop_any (B o g cap n : Nat) (cs : Array Value) (Tb : TypeId) (ms : List Int) (w : World) (h : HqAt B o g cap cs Tb ms w) (hH : HeapI ms ms.length) (hn : ms.length = n + 1) (hcap : cap ≤ 1001) :
  Calls Tryz.prog 186 #[hq B o] w fun e w' => ∃ x ns, e = .returned (iv x) ∧ (x :: ns).Perm ms ∧ (∀ y ∈ ms, x ≤ y) ∧ HeapI ns ns.length ∧ HqAt B o g cap (csH cs o g n cap) Tb ns w' ∧ Fb (at2 B g) w w' := by
 have hro := h.own.room
 have hcl := h.cell
 have hS := h.swap 0 n (by omega) (by omega) (by omega)
 rw [hn] at hcl hro hS
 have hml := methI_len B o w _ hcl
 have hms := methI_swap B o w _ hcl
 have HD : Hid (DownI (swi ms 0 n) n 0) := by rw [hn] at hH; exact HeapI.cut (fun i a b => hH i a (by omega)) (by omega) hH
 have HG : Hid (gi (swi ms 0 n) n = gi ms 0) := by unfold Hid; rw [gi_swi (by omega) (by omega), if_pos rfl]
 have HPm : Hid ((swi ms 0 n).Perm ms) := swi_perm (by omega) (by omega)
 have HL : Hid (∀ y ∈ ms, gi ms 0 ≤ y) := by
  intro y hy
  obtain ⟨i, hi, rfl⟩ := List.getElem_of_mem hy
  rw [← gi_of hi]
  have := hH.least i hi
  unfold leI ltI at this
  omega
 have HN : Hid ((swi ms 0 n).length = n + 1) := by unfold Hid; rw [swi_len, hn]
 clear h hH hcl hn
 go_enter Tryz.func186, Tryz.ntmps186
 go_wp2_with fail
 refine (qlen_any _ _ _ _).mono ?_
 rintro e w' ⟨rfl, rfl⟩
 go_wp2_with fail
 refine hS.mono ?_
 rintro e w1 ⟨rfl, h1, hb1⟩
 have hD := qdown_any B o g cap n cs Tb (swi ms 0 n) w1 h1 HN.out (by rw [HN.out]; omega) HD.out
 have HB1 := hid hb1
 clear h1 hb1 hS hms hml
 go_wp2_with fail
 refine hD.mono ?_
 rintro e w2 ⟨⟨b, rfl⟩, ⟨ns, hp, hg, hh, h2⟩, hb2⟩
 have hnl : ns.length = n + 1 := by rw [hp.length_eq, HN.out]
 have hO := qpop_any B o g cap n cs Tb ns w2 h2 hnl hcap
 have hmp := methI_pop ⟨B, o, none⟩
 have HX : Hid (gi ns n = gi ms 0) := hg.trans HG.out
 have HP2 : Hid ((gi ns n :: ns.take n).Perm ms) := popI_perm hnl (hp.trans HPm.out)
 have HH : Hid (HeapI (ns.take n) (ns.take n).length) := by
  unfold Hid
  rw [List.length_take, Nat.min_eq_left (by omega)]
  exact hh.take
 have HB2 := hid (HB1.out.tr hb2)
 clear h2 hb2 hD hp hg hh hnl HB1
 go_wp2_with fail
 refine hO.mono ?_
 rintro e w3 ⟨rfl, h3, hb3⟩
 have H3 := hid h3
 have HB3 := hid (HB2.out.tr hb3)
 clear h3 hb3 hO
 go_wp2
 go_ret
 exact ⟨_, _, rfl, HP2.out, by rw [HX.out]; exact HL.out, HH.out, H3.out, HB3.out⟩
end Go.Proofs.YtjgggialnegddaaGreat
