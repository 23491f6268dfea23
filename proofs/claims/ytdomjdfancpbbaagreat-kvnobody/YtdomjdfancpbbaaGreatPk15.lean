/-
  HiPushs: Contracts: Push and Pop of a heap of ints, heap.Push and heap.Pop of it.
  PgSt: Package page: a pool in memory (PgAt), and contracts of what does not turn it: made, Held, look, Free, Used; of a pool that nobody made.
  PgTurn: Package page: contracts of what turns a pool: next, Take, Hold, Drop.
  PgCons: Package page: contracts of first and New.
  KvTree: A cache of package kv in memory: the entries and their maps laid flat (TrAt), the cache over them (KvB), the blocks that it lies in (ftB), and what each of its own turns leaves.
-/
import Derived.Test.YtdomjdfancpbbaaGreatPk14
import Derived.Deep.RegionLaw
import Derived.Test.YtdomjdfancpbbaaGreatPk12
import Derived.Test.YtdomjdfancpbbaaGreatPk13
import Derived.Deep.RegionWith
import Derived.Test.YtdomjdfancpbbaaGreatPk02
import Derived.Test.YtdomjdfancpbbaaGreatPk03
namespace Go.Proofs.YtdomjdfancpbbaaGreat
open Go.RowKit
set_option linter.unusedVariables false
set_option maxRecDepth 1000000

/-- An int as a value of an interface. -/
abbrev iv (x : Int) : Value := .iface 3 (.int .i64 x)
/-- The struct's cells with another slice. -/
abbrev csH (cs : Array Value) (o g n cap : Nat) : Array Value := cs.setIfInBounds o (.slice (some ⟨g, 0, none⟩) n cap)
theorem csH_at {cs : Array Value} {o g n cap : Nat} {v : Value} (h : cs[o]? = some v) : (csH cs o g n cap)[o]? = some (.slice (some ⟨g, 0, none⟩) n cap) := by
  have : o < cs.size := (Array.getElem?_eq_some_iff.1 h).1
  simp [csH, this]
theorem assert_int (x : Int) (W : World) : (Instr.typeAssert (iv x) 20 3 false).run Tryz.prog W = .ok (.int .i64 x) W := by kernel_rfl
theorem qpush_end {B o g cap : Nat} {cs : Array Value} {Tb : TypeId} {ms : List Int} {x : Int} {w w3 : World} (h : HqAt B o g cap cs Tb ms w) (hO3 : w3.ownsRow 0 3 1 (.slice (some ⟨g, 0, none⟩) (ms.length + 1) cap) (ms.length + 1) (ms.map (Value.int .i64) ++ [.int .i64 x]))
    (hq : w3.heap[B]? = some (.cells cs Tb (0, 0))) (hG : Fb (at2 B g) w w3) :
    HqAt B o g cap (csH cs o g (ms.length + 1) cap) Tb (ms ++ [x]) (w3.setCell ⟨B, o, none⟩ (.slice (some ⟨g, 0, none⟩) (ms.length + 1) cap)) ∧ Fb (at2 B g) w (w3.setCell ⟨B, o, none⟩ (.slice (some ⟨g, 0, none⟩) (ms.length + 1) cap)) := by
  have hl : (ms ++ [x]).length = ms.length + 1 := by simp
  refine ⟨⟨row_set hq, by rw [hl]; exact csH_at h.hdr, ?_, h.ne⟩, hG.tr (fb_set3 _ _ _ _ _)⟩
  rw [hl]
  refine OwnK.same (w := w3) ?_ (Below.heap_setCell _ _ _ _ (by exact fun e => h.ne e.symm))
  unfold OwnK
  rw [List.map_append]
  exact hO3
set_option maxHeartbeats 2000000 in
theorem qpush_any (B o g cap : Nat) (cs : Array Value) (Tb : TypeId) (ms : List Int) (x : Int) (w : World) (h : HqAt B o g cap cs Tb ms w) (hr : ms.length < cap) (hcap : cap ≤ 1001) :
    Calls Tryz.prog 172 #[.pointer (some ⟨B, o, none⟩), iv x] w fun e w' => e = .returned (.tuple #[]) ∧ HqAt B o g cap (csH cs o g (ms.length + 1) cap) Tb (ms ++ [x]) w' ∧ Fb (at2 B g) w w' := by
  obtain ⟨i0, hi, hz0, hz1, hz2⟩ := info_parts Tryz.info3
  have cv := h.cell
  have H := hid h
  have hta := assert_int x
  have hb1 : Below w.heap.size w (w.alloc (.cells #[.int .i64 x] 3)) := (Below.refl _ _).alloc (Nat.le_refl _) _
  have cv2 := (h.below hb1).cell
  clear h hb1
  go_enter Tryz.func172, Tryz.ntmps172
  go_wp2_with fail
  go_region_law ((refine step_append_fits (by rfl) 11 (by rfl) (.tmp 7) (.tmp 10) 103 (by rfl) 0 3 i0 1 Tryz.underlying103 hi hz1 g ms.length cap (ms.map (Value.int .i64)) (by rfl) (H.out.own.alloc _) ⟨w.heap.size, 0, none⟩ 1 1 [.int .i64 x] (by rfl) rfl (news_one _ _ _ _) (one_cell _ _) (by omega) ?_; intro w3 hO3 hg; have HG : Hid (Fb (at2 B g) w w3) := ((Fb.of ((Below.refl _ _).alloc (Nat.le_refl _) _) : Fb (at2 B g) w _).tr (⟨hg.os, hg.tape, hg.output, hg.size, fun k hk hn => hg.block k hk (fun e => hn (.inr (by cases e; rfl)))⟩)); have hq : w3.heap[B]? = some (.cells cs Tb (0, 0)) := (hg.block B (by have := lt_of_block H.out.var; simp; omega) (fun e => H.out.ne (by cases e; rfl))).trans ((Below.heap_alloc _ _ _ (lt_of_block H.out.var)).trans H.out.var); have cm : w3.cell? ⟨B, o, none⟩ = some (.slice (some ⟨g, 0, none⟩) ms.length cap) := (cell_of_row _ _ _ _ _ _ hq).trans H.out.hdr; have fm := frozen_of_row _ _ o _ _ hq))
  all_goals
    have HE1 := hid (qpush_end H.out hO3 hq HG.out)
    clear hO3 hg HG cm fm hq cv cv2 hi hz0 hz1 hz2 H hta
    go_wp2
    go_end0
    exact ⟨rfl, HE1.out.1, HE1.out.2⟩
theorem OwnK.popI {t : TypeId} {base g n cap : Nat} {ms : List Int} {w : World} (h : OwnK t base g (n + 1) cap ms w) : OwnK t base g n cap (ms.take n) w := by
  have hl := h.len
  refine ⟨by rw [List.length_map, List.length_take]; omega, ?_⟩
  rcases id h.2 with ⟨h', _⟩ | ⟨g', c, cur, hv, hB, hg, hnc, hm, hs, ht⟩
  · cases h'
  · cases hv
    refine .inr ⟨g, cap, cur, rfl, hB, hg, by omega, hm, hs, ?_⟩
    have e3 : cur.toList.take (n * 1) = ((cur.toList).take ((n + 1) * 1)).take n := by rw [List.take_take]; congr 1; omega
    rw [e3, ht, List.map_take]
theorem HqAt.popI {B o g cap n : Nat} {cs : Array Value} {Tb : TypeId} {ms : List Int} {W : World} (h : HqAt B o g cap cs Tb ms W) (hn : ms.length = n + 1) :
    HqAt B o g cap (csH cs o g n cap) Tb (ms.take n) (W.setCell ⟨B, o, none⟩ (.slice (some ⟨g, 0, none⟩) n cap)) ∧ Fb (at2 B g) W (W.setCell ⟨B, o, none⟩ (.slice (some ⟨g, 0, none⟩) n cap)) := by
  have hl : (ms.take n).length = n := by rw [List.length_take]; omega
  refine ⟨⟨row_set h.var, by rw [hl]; exact csH_at h.hdr, ?_, h.ne⟩, fb_set3 _ _ _ _ _⟩
  rw [hl]
  have h2 := h.own
  rw [hn] at h2
  exact h2.popI.same (Below.heap_setCell _ _ _ _ (by exact fun e => h.ne e.symm))
theorem qpop_any (B o g cap n : Nat) (cs : Array Value) (Tb : TypeId) (ms : List Int) (w : World) (h : HqAt B o g cap cs Tb ms w) (hn : ms.length = n + 1) (hcap : cap ≤ 1001) :
    Calls Tryz.prog 171 #[.pointer (some ⟨B, o, none⟩)] w fun e w' => e = .returned (iv (gi ms n)) ∧ HqAt B o g cap (csH cs o g n cap) Tb (ms.take n) w' ∧ Fb (at2 B g) w w' := by
  have cv := h.cell
  have fv := frozen_of_row _ _ o _ _ h.var
  have hro := h.own.room
  have H := hid (h.popI hn)
  have c0 : w.cell? ⟨g, n, none⟩ = some (.int .i64 (gi ms n)) := h.own.cell (by omega)
  rw [hn] at cv hro
  clear h hn
  generalize gi ms n = x at *
  go_enter Tryz.func171, Tryz.ntmps171
  go_wp2
  go_ret
  exact ⟨rfl, H.out.1, H.out.2⟩
theorem qhpush_any (B o g cap : Nat) (cs : Array Value) (Tb : TypeId) (ms : List Int) (x : Int) (w : World) (h : HqAt B o g cap cs Tb ms w) (hH : HeapI ms ms.length) (hr : ms.length < cap) (hcap : cap ≤ 1001) :
    Calls Tryz.prog 54 #[hq B o, iv x] w fun e w' => e = .returned (.tuple #[]) ∧ (∃ ns, ns.Perm (ms ++ [x]) ∧ HeapI ns ns.length ∧ HqAt B o g cap (csH cs o g (ms.length + 1) cap) Tb ns w') ∧ Fb (at2 B g) w w' := by
  have hP := qpush_any B o g cap cs Tb ms x w h hr hcap
  have hmp := methI_push ⟨B, o, none⟩
  have HU : Hid (UpI (ms ++ [x]) (ms ++ [x]).length ms.length) := by
    have := hH.push x
    unfold Hid
    rw [List.length_append, List.length_singleton]
    exact this
  clear h hH
  generalize csH cs o g (ms.length + 1) cap = cs2 at *
  go_enter Tryz.func54, Tryz.ntmps54
  go_wp2_with fail
  refine hP.mono ?_
  rintro e w1 ⟨rfl, h1, hb1⟩
  have hcl := h1.cell
  rw [List.length_append, List.length_singleton] at hcl
  have hml := methI_len B o w1 _ hcl
  have hU := qup_any B o g cap cs2 Tb (ms ++ [x]) ms.length w1 h1 (by simp) (by simp; omega) HU.out
  have HB1 := hid hb1
  clear h1 hb1 hP hcl
  go_wp2_with fail
  refine (qlen_any _ _ _ _).mono ?_
  rintro e w' ⟨rfl, rfl⟩
  go_wp2_with fail
  refine hU.mono ?_
  rintro e w2 ⟨rfl, hE, hb2⟩
  have HE := hid hE
  have HB2 := hid (HB1.out.tr hb2)
  clear hE hb2 hU hml HB1
  go_wp2
  go_end0
  exact ⟨rfl, HE.out, HB2.out⟩
theorem popI_perm {ns ms : List Int} {n : Nat} (hl : ns.length = n + 1) (hp : ns.Perm ms) : (gi ns n :: ns.take n).Perm ms := by
  refine List.Perm.trans ?_ hp
  have e : ns = ns.take n ++ [gi ns n] := by
    rw [gi_of (by omega)]
    have := List.take_succ_eq_append_getElem (l := ns) (i := n) (by omega)
    rw [← this, List.take_of_length_le (by omega)]
  have p1 : (gi ns n :: ns.take n).Perm (ns.take n ++ [gi ns n]) := (List.perm_append_singleton _ _).symm
  rw [← e] at p1
  exact p1
theorem qhpop_any (B o g cap n : Nat) (cs : Array Value) (Tb : TypeId) (ms : List Int) (w : World) (h : HqAt B o g cap cs Tb ms w) (hH : HeapI ms ms.length) (hn : ms.length = n + 1) (hcap : cap ≤ 1001) :
    Calls Tryz.prog 102 #[hq B o] w fun e w' => ∃ x ns, e = .returned (iv x) ∧ (x :: ns).Perm ms ∧ (∀ y ∈ ms, x ≤ y) ∧ HeapI ns ns.length ∧ HqAt B o g cap (csH cs o g n cap) Tb ns w' ∧ Fb (at2 B g) w w' := by
  have hro := h.own.room
  have hcl := h.cell
  have hS := h.swap 0 n (by omega) (by omega) (by omega)
  rw [hn] at hcl hro hS
  have hml := methI_len B o w _ hcl
  have hms := methI_swap B o w _ hcl
  have HD : Hid (DownI (swi ms 0 n) n 0) := by rw [hn] at hH; exact HeapI.cut (fun i a b => hH i a (by omega)) (by omega) hH
  have HG : Hid (gi (swi ms 0 n) n = gi ms 0) := by unfold Hid; rw [gi_swi (by omega) (by omega), if_pos rfl]
  have HPm : Hid ((swi ms 0 n).Perm ms) := swi_perm (by omega) (by omega)
  have HL : Hid (∀ y ∈ ms, gi ms 0 ≤ y) := by
    intro y hy
    obtain ⟨i, hi, rfl⟩ := List.getElem_of_mem hy
    rw [← gi_of hi]
    have := hH.least i hi
    unfold leI ltI at this
    omega
  have HN : Hid ((swi ms 0 n).length = n + 1) := by unfold Hid; rw [swi_len, hn]
  clear h hH hcl hn
  go_enter Tryz.func102, Tryz.ntmps102
  go_wp2_with fail
  refine (qlen_any _ _ _ _).mono ?_
  rintro e w' ⟨rfl, rfl⟩
  go_wp2_with fail
  refine hS.mono ?_
  rintro e w1 ⟨rfl, h1, hb1⟩
  have hD := qdown_any B o g cap n cs Tb (swi ms 0 n) w1 h1 HN.out (by rw [HN.out]; omega) HD.out
  have HB1 := hid hb1
  clear h1 hb1 hS hms hml
  go_wp2_with fail
  refine hD.mono ?_
  rintro e w2 ⟨⟨b, rfl⟩, ⟨ns, hp, hg, hh, h2⟩, hb2⟩
  have hnl : ns.length = n + 1 := by rw [hp.length_eq, HN.out]
  have hO := qpop_any B o g cap n cs Tb ns w2 h2 hnl hcap
  have hmp := methI_pop ⟨B, o, none⟩
  have HX : Hid (gi ns n = gi ms 0) := hg.trans HG.out
  have HP2 : Hid ((gi ns n :: ns.take n).Perm ms) := popI_perm hnl (hp.trans HPm.out)
  have HH : Hid (HeapI (ns.take n) (ns.take n).length) := by
    unfold Hid
    rw [List.length_take, Nat.min_eq_left (by omega)]
    exact hh.take
  have HB2 := hid (HB1.out.tr hb2)
  clear h2 hb2 hD hp hg hh hnl HB1
  go_wp2_with fail
  refine hO.mono ?_
  rintro e w3 ⟨rfl, h3, hb3⟩
  have H3 := hid h3
  have HB3 := hid (HB2.out.tr hb3)
  clear h3 hb3 hO
  go_wp2
  go_ret
  exact ⟨_, _, rfl, HP2.out, by rw [HX.out]; exact HL.out, HH.out, H3.out, HB3.out⟩
end Go.Proofs.YtdomjdfancpbbaaGreat
namespace Go.Proofs.YtdomjdfancpbbaaGreat
open Go.RowKit
set_option linter.unusedVariables false
set_option maxRecDepth 1000000

/-- The blocks of a pool. -/
def at3 (B b g k : Nat) : Prop := k = B ∨ k = b ∨ k = g
/-- A pool in block B: how often each page is held lies in block b, the free ones in block g. -/
structure PgB (W : World) (B b g n : Nat) (hs fs : List Int) : Prop where
  var : W.heap[B]? = some (.cells #[.slice (some ⟨b, 0, none⟩) n n, .slice (some ⟨g, 0, none⟩) fs.length n] 106 (0, 0))
  own : OwnK 3 0 b n n hs W
  row : OwnK 3 0 g fs.length n fs W
  ne1 : B ≠ b
  ne2 : B ≠ g
  ne3 : b ≠ g
  heap : HeapI fs fs.length
  free : FreeOf hs fs
theorem PgB.same {W W' : World} {B b g n : Nat} {hs fs : List Int} (h : PgB W B b g n hs fs) (hF : ∀ k, at3 B b g k → W'.heap[k]? = W.heap[k]?) : PgB W' B b g n hs fs :=
  ⟨(hF B (.inl rfl)).trans h.var, h.own.same (hF b (.inr (.inl rfl))), h.row.same (hF g (.inr (.inr rfl))), h.ne1, h.ne2, h.ne3, h.heap, h.free⟩
theorem PgB.len {W : World} {B b g n : Nat} {hs fs : List Int} (h : PgB W B b g n hs fs) : hs.length = n := h.own.len
theorem PgB.cells {W : World} {B b g n : Nat} {hs fs : List Int} (h : PgB W B b g n hs fs) : W.cell? ⟨B, 0, none⟩ = some (.slice (some ⟨b, 0, none⟩) n n) ∧ W.cell? ⟨B, 1, none⟩ = some (.slice (some ⟨g, 0, none⟩) fs.length n) := cells_two h.var
theorem PgB.old {W : World} {B b g n : Nat} {hs fs : List Int} (h : PgB W B b g n hs fs) : ∀ k, at3 B b g k → k < W.heap.size := by
  rintro k (rfl | rfl | rfl)
  · exact lt_of_block h.var
  · exact h.own.lt
  · exact h.row.lt
def PgX (W : World) (p : Option Addr) (hs : List Int) (F : Nat → Prop) : Prop := ∃ B b g n fs, p = some ⟨B, 0, none⟩ ∧ PgB W B b g n hs fs ∧ F = at3 B b g
/-- The pool at a pointer: how often each page is held; it lies in the blocks F alone. -/
structure PgAt (W : World) (p : Option Addr) (hs : List Int) (F : Nat → Prop) : Prop where
  ptr : ∃ g, p = some ⟨g, 0, none⟩
  ok : OkP hs
  old : ∀ k, F k → k < W.heap.size
  rest : PgX W p hs F
theorem PgB.at {W : World} {B b g n : Nat} {hs fs : List Int} (h : PgB W B b g n hs fs) (ho : OkP hs) : PgAt W (some ⟨B, 0, none⟩) hs (at3 B b g) := ⟨⟨B, rfl⟩, ho, h.old, B, b, g, n, fs, rfl, h, rfl⟩
theorem PgAt.same {W W' : World} {p : Option Addr} {hs : List Int} {F : Nat → Prop} (h : PgAt W p hs F) (hs' : W.heap.size ≤ W'.heap.size) (hF : ∀ k, F k → W'.heap[k]? = W.heap[k]?) : PgAt W' p hs F := by
  obtain ⟨B, b, g, n, fs, rfl, hB, rfl⟩ := h.rest
  exact (hB.same hF).at h.ok
theorem PgAt.below {W W' : World} {p : Option Addr} {hs : List Int} {F : Nat → Prop} (h : PgAt W p hs F) (hb : Below W.heap.size W W') : PgAt W' p hs F := h.same hb.size fun k hk => hb.block k (h.old k hk)
/-- What turns elsewhere leaves it. -/
theorem PgAt.fb {G : Nat → Prop} {W W' : World} {p : Option Addr} {hs : List Int} {F : Nat → Prop} (h : PgAt W p hs F) (hb : Fb G W W') (hG : ∀ k, F k → ¬ G k) : PgAt W' p hs F := h.same hb.size fun k hk => hb.block k (h.old k hk) (hG k hk)
/-- What a call that turns the pool leaves. -/
def PgG (w : World) (F : Nat → Prop) (p : Option Addr) (hs : List Int) (w' : World) : Prop := ∃ F', PgAt w' p hs F' ∧ (∀ k, F' k → F k ∨ w.heap.size ≤ k) ∧ Fb F w w'
theorem PgB.g {w w' : World} {B b g n : Nat} {hs fs : List Int} (h : PgB w' B b g n hs fs) (ho : OkP hs) (hb : Fb (at3 B b g) w w') : PgG w (at3 B b g) (some ⟨B, 0, none⟩) hs w' := ⟨_, h.at ho, fun k hk => .inl hk, hb⟩

theorem pmade_yes {W : World} {B b g n : Nat} {hs fs : List Int} (h : PgB W B b g n hs fs) (ho : OkP hs) : Calls Tryz.prog 52 #[.pointer (some ⟨B, 0, none⟩)] W fun e w' => e = .returned (.bool true) ∧ W = w' := by
  have c0 := h.cells.1
  have hl := h.len
  have h1 := ho.1
  have q1 : 0 < n := by omega
  clear h ho hl h1
  go_enter Tryz.func52, Tryz.ntmps52
  go_wp2
  go_ret
  exact ⟨rfl, rfl⟩
theorem pheld_in {W : World} {B b g n : Nat} {hs fs : List Int} (h : PgB W B b g n hs fs) (ho : OkP hs) (m : Int) : Calls Tryz.prog 71 #[.pointer (some ⟨B, 0, none⟩), .int .i64 m] W fun e w' => e = .returned (.int .i64 (heldZ hs m)) ∧ W = w' := by
  have hl := h.len
  have hn := ho.2.1
  have cB := h.cells.1
  have hM := pmade_yes h ho
  rw [hl] at hn
  by_cases h1 : m < 0
  · rw [heldZ_out (by omega)]
    clear h hl ho
    go_enter Tryz.func71, Tryz.ntmps71
    go_wp2_with fail
    refine hM.mono ?_
    rintro e w' ⟨rfl, rfl⟩
    go_wp2
    go_ret
    exact ⟨rfl, rfl⟩
  by_cases h2 : (n : Int) ≤ m
  · rw [heldZ_out (by omega)]
    clear h hl ho
    go_enter Tryz.func71, Tryz.ntmps71
    go_wp2_with fail
    refine hM.mono ?_
    rintro e w' ⟨rfl, rfl⟩
    go_wp2
    go_ret
    exact ⟨rfl, rfl⟩
  obtain ⟨k, rfl⟩ : ∃ k : Nat, m = k := ⟨m.toNat, by omega⟩
  rw [heldZ_at (by omega) (by omega), Int.toNat_natCast]
  have ck := h.own.cell (k := k) (by omega)
  have q1 : k < n := by omega
  clear h hl ho
  generalize hs[k]?.getD 0 = x at *
  go_enter Tryz.func71, Tryz.ntmps71
  go_wp2_with fail
  refine hM.mono ?_
  rintro e w' ⟨rfl, rfl⟩
  go_wp2
  go_ret
  exact ⟨rfl, rfl⟩
theorem plook_in {W : World} {B b g n : Nat} {hs fs : List Int} (h : PgB W B b g n hs fs) (ho : OkP hs) (m : Int) : Calls Tryz.prog 53 #[.pointer (some ⟨B, 0, none⟩), .int .i64 m] W fun e w' => e = .returned (.int .i64 (dropE hs m)) ∧ W = w' := by
  have hM := pmade_yes h ho
  have hH := pheld_in h ho m
  clear h ho
  unfold dropE
  generalize heldZ hs m = x at *
  by_cases h0 : x = 0
  · subst h0
    rw [if_pos rfl]
    go_enter Tryz.func53, Tryz.ntmps53
    go_wp2_with fail
    refine hM.mono ?_
    rintro e w' ⟨rfl, rfl⟩
    go_wp2_with fail
    refine hH.mono ?_
    rintro e w' ⟨rfl, rfl⟩
    go_wp2
    go_ret
    exact ⟨rfl, rfl⟩
  · rw [if_neg h0]
    have h0' : (x == 0) = false := by simp [h0]
    go_enter Tryz.func53, Tryz.ntmps53
    go_wp2_with fail
    refine hM.mono ?_
    rintro e w' ⟨rfl, rfl⟩
    go_wp2_with fail
    refine hH.mono ?_
    rintro e w' ⟨rfl, rfl⟩
    go_wp2
    go_ret
    exact ⟨rfl, rfl⟩
theorem pheld_any {F : Nat → Prop} (p : Option Addr) (hs : List Int) (n : Int) (w : World) (h : PgAt w p hs F) : Calls Tryz.prog 71 #[.pointer p, .int .i64 n] w fun e w' => e = .returned (.int .i64 (heldZ hs n)) ∧ Below w.heap.size w w' := by
  obtain ⟨B, b, g, m, fs, rfl, hB, rfl⟩ := h.rest
  exact (pheld_in hB h.ok n).mono fun e w' ⟨h1, h2⟩ => ⟨h1, by rw [← h2]; exact Below.refl _ _⟩
theorem pfree_any {F : Nat → Prop} (p : Option Addr) (hs : List Int) (w : World) (h : PgAt w p hs F) : Calls Tryz.prog 73 #[.pointer p] w fun e w' => e = .returned (.int .i64 ((hs.length : Int) - ((usedL hs).length : Int))) ∧ Below w.heap.size w w' := by
  obtain ⟨B, b, g, m, fs, rfl, hB, rfl⟩ := h.rest
  have hM := pmade_yes hB h.ok
  have c1 := hB.cells.2
  have hE : (hs.length : Int) - ((usedL hs).length : Int) = (fs.length : Int) := by have := hB.free.cnt; omega
  rw [hE]
  clear h hB hE
  generalize fs.length = q at *
  go_enter Tryz.func73, Tryz.ntmps73
  go_wp2_with fail
  refine hM.mono ?_
  rintro e w' ⟨rfl, rfl⟩
  go_wp2_with fail
  refine (qlen_any _ _ _ _).mono ?_
  rintro e w' ⟨rfl, rfl⟩
  go_wp2
  go_ret
  exact ⟨rfl, Below.refl _ _⟩
set_option maxHeartbeats 1000000 in
theorem pused_any {F : Nat → Prop} (p : Option Addr) (hs : List Int) (w : World) (h : PgAt w p hs F) : Calls Tryz.prog 36 #[.pointer p] w fun e w' => Gives w (usedL hs).length (usedL hs) e w' := by
  obtain ⟨B, b, g, n, fs, rfl, hB, rfl⟩ := h.rest
  have hM := pmade_yes hB h.ok
  obtain ⟨i0, hi, hz0, hz1, hz2⟩ := info_parts Tryz.info3
  have hl := hB.len
  have hn := h.ok.2.1
  have cB := hB.cells.1
  have HH := hid fun (W : World) (hb : Below w.heap.size w W) => hB.own.stays hb
  have HL := hid fun (k : Nat) => usedK_len hs k
  have HU : Hid (∀ k, usedK hs (k + 1) = if 0 < hs[k]?.getD 0 then usedK hs k ++ [(k : Int)] else usedK hs k) := fun k => rfl
  have HE : Hid (usedK hs n = usedL hs) := by unfold Hid usedL; rw [hl]
  rw [hl] at hn
  clear h hl hB
  obtain ⟨U, hU⟩ : ∃ U : Nat → List Int, U = usedK hs := ⟨_, rfl⟩
  have HU0 : Hid (U 0 = []) := by unfold Hid; rw [hU]; rfl
  rw [← hU] at HL HU HE
  clear hU
  go_enter Tryz.func36, Tryz.ntmps36
  go_wp2_with fail
  refine hM.mono ?_
  rintro e w' ⟨rfl, rfl⟩
  clear hM
  go_wp2_with fail
  go_loopw [3, 14] (fun v i W => ∃ k m : Nat, k ≤ n ∧ i = .int .i64 k ∧ m ≤ k ∧ Hid ((U k).length = m) ∧ Hid (W.ownsRow w.heap.size 3 1 v m ((U k).map (Value.int .i64))) ∧ Hid (Below w.heap.size w W)) (fun _ i _ => n - (intOf i).toNat)
  case atStart => exact ⟨0, 0, Nat.zero_le _, rfl, Nat.le_refl _, by unfold Hid; rw [HU0.out]; rfl, by unfold Hid; rw [HU0.out]; exact World.ownsRow_nil _ _ _ _, Below.refl _ _⟩
  case round =>
  obtain ⟨k, m, hk, rfl, hm, HM, HO, HW⟩ := hrel
  rename World => wr
  have hR := HH.out _ HW.out
  by_cases hlt : k < n
  · have q1 : (k : Int) < (n : Int) := by omega
    have ck := hR.cell hlt
    have HUk := hid (HU.out k)
    have HLk := hid (HL.out (k + 1))
    clear hR HL HU HU0 HE
    by_cases h0 : 0 < hs[k]?.getD 0
    · have HE2 : Hid (U (k + 1) = U k ++ [(k : Int)]) := by unfold Hid; rw [HUk.out, if_pos h0]
      have HAl : Hid (Below wr.heap.size wr (wr.alloc (.cells #[.int .i64 (k : Int)] 3))) := (Below.refl _ _).alloc (Nat.le_refl _) _
      have HSz : Hid (w.heap.size ≤ (wr.alloc (.cells #[.int .i64 (k : Int)] 3)).heap.size) := Nat.le_trans HW.out.size HAl.out.size
      clear HUk
      generalize hs[k]?.getD 0 = x at *
      go_wp2_with (at_builtin; refine append_any _ rfl (.tmp 21) (.tmp 23) 34 rfl w.heap.size 3 i0 (.int .i64 0) 8 Tryz.underlying34 hi hz0 hz1 hz2 rfl .i64 _ m (U k) rfl (own_below HO.out HAl.out) _ 1 1 [(k : Int)] rfl (Reads.one _ _ _) (by omega) (by omega) HSz.out ?_; intro v3 w3 hO3 hb3)
      have HO3 : Hid (w3.ownsRow w.heap.size 3 1 v3 (m + 1) ((U (k + 1)).map (Value.int .i64))) := by unfold Hid; rw [HE2.out]; exact hO3
      have HW3 : Hid (Below w.heap.size w w3) := (HW.out.trans (HAl.out.mono HW.out.size)).trans hb3
      have HM3 : Hid ((U (k + 1)).length = m + 1) := by unfold Hid; rw [HE2.out, List.length_append, HM.out]; rfl
      clear hO3 hb3 HO HW HAl HSz HM HE2 ck
      go_wp2_with fail
      go_round
      case rel => exact ⟨k + 1, m + 1, by omega, by go_num, by omega, HM3, HO3, HW3⟩
      case measure => simp [intOf]; omega
    · have HE2 : Hid (U (k + 1) = U k) := by unfold Hid; rw [HUk.out, if_neg h0]
      have HO3 : Hid (wr.ownsRow w.heap.size 3 1 u3 m ((U (k + 1)).map (Value.int .i64))) := by unfold Hid; rw [HE2.out]; exact HO.out
      have HM3 : Hid ((U (k + 1)).length = m) := by unfold Hid; rw [HE2.out]; exact HM.out
      clear HUk HE2 HO HM
      generalize hs[k]?.getD 0 = x at *
      go_wp2_with fail
      go_round
      case rel => exact ⟨k + 1, m, by omega, by go_num, by omega, HM3, HO3, HW⟩
      case measure => simp [intOf]; omega
  · obtain rfl : k = n := by omega
    obtain ⟨a5, c5, rfl, hr5⟩ := Reads.own (k := .i64) HO.out
    have HR5 : Hid (Reads .i64 wr a5 (usedL hs).length c5 (usedL hs)) := by unfold Hid; rw [← HE.out, HM.out]; exact hr5
    have HEq : Hid (Ending.returned (.slice a5 m c5) = .returned (.slice a5 (usedL hs).length c5)) := by unfold Hid; rw [← HE.out, HM.out]
    clear hr5 HO HE HM HL HU HU0 hR
    go_wp2
    go_ret
    exact ⟨_, _, HEq.out, HR5.out, HW.out⟩
/-- The cells of a pool that nobody made. -/
def zeroP : Array Value := #[.slice none 0 0, .slice none 0 0]
/-- No pool, or one that nobody made. -/
def PgNo (W : World) (p : Option Addr) : Prop := p = none ∨ ∃ g, p = some ⟨g, 0, none⟩ ∧ W.heap[g]? = some (.cells zeroP 106 (0, 0))
theorem PgNo.below {W W' : World} {p : Option Addr} (h : PgNo W p) (hb : Below W.heap.size W W') : PgNo W' p := by
  rcases h with h | ⟨g, hp, hg⟩
  · exact .inl h
  · exact .inr ⟨g, hp, (hb.block g (lt_of_block hg)).trans hg⟩
theorem pmade_no {W : World} {p : Option Addr} (h : PgNo W p) : Calls Tryz.prog 52 #[.pointer p] W fun e w' => e = .returned (.bool false) ∧ W = w' := by
  rcases h with rfl | ⟨g, rfl, hg⟩
  · go_enter Tryz.func52, Tryz.ntmps52
    go_wp2
    go_ret
    exact ⟨rfl, rfl⟩
  · have c0 := (cells_two hg).1
    clear hg
    go_enter Tryz.func52, Tryz.ntmps52
    go_wp2
    go_ret
    exact ⟨rfl, rfl⟩
theorem pno_look (p : Option Addr) (n : Int) (w : World) (h : PgNo w p) : Calls Tryz.prog 53 #[.pointer p, .int .i64 n] w fun e w' => e = .returned (.int .i64 2) ∧ w = w' := by
  have hM := pmade_no h
  clear h
  go_enter Tryz.func53, Tryz.ntmps53
  go_wp2_with fail
  refine hM.mono ?_
  rintro e w' ⟨rfl, rfl⟩
  go_wp2
  go_ret
  exact ⟨rfl, rfl⟩
theorem pno_take (p : Option Addr) (w : World) (h : PgNo w p) : Calls Tryz.prog 56 #[.pointer p] w fun e w' => e = .returned (.tuple #[.int .i64 0, .int .i64 2]) ∧ Below w.heap.size w w' := by
  have hM := pmade_no h
  clear h
  go_enter Tryz.func56, Tryz.ntmps56
  go_wp2_with fail
  refine hM.mono ?_
  rintro e w' ⟨rfl, rfl⟩
  go_wp2
  go_ret2
  exact ⟨rfl, Below.refl _ _⟩
theorem pno_drop (p : Option Addr) (n : Int) (w : World) (h : PgNo w p) : Calls Tryz.prog 37 #[.pointer p, .int .i64 n] w fun e w' => e = .returned (.tuple #[.bool false, .int .i64 2]) ∧ Below w.heap.size w w' := by
  have hM := pno_look p n w h
  clear h
  go_enter Tryz.func37, Tryz.ntmps37
  go_wp2_with fail
  refine hM.mono ?_
  rintro e w' ⟨rfl, rfl⟩
  go_wp2
  go_ret2
  exact ⟨rfl, Below.refl _ _⟩
theorem pno_held (p : Option Addr) (n : Int) (w : World) (h : PgNo w p) : Calls Tryz.prog 71 #[.pointer p, .int .i64 n] w fun e w' => e = .returned (.int .i64 0) ∧ Below w.heap.size w w' := by
  have hM := pmade_no h
  clear h
  go_enter Tryz.func71, Tryz.ntmps71
  go_wp2_with fail
  refine hM.mono ?_
  rintro e w' ⟨rfl, rfl⟩
  go_wp2
  go_ret
  exact ⟨rfl, Below.refl _ _⟩
theorem pno_free (p : Option Addr) (w : World) (h : PgNo w p) : Calls Tryz.prog 73 #[.pointer p] w fun e w' => e = .returned (.int .i64 0) ∧ Below w.heap.size w w' := by
  have hM := pmade_no h
  clear h
  go_enter Tryz.func73, Tryz.ntmps73
  go_wp2_with fail
  refine hM.mono ?_
  rintro e w' ⟨rfl, rfl⟩
  go_wp2
  go_ret
  exact ⟨rfl, Below.refl _ _⟩
theorem pno_used (p : Option Addr) (w : World) (h : PgNo w p) : Calls Tryz.prog 36 #[.pointer p] w fun e w' => ∃ a cap, e = .returned (.slice a 0 cap) ∧ cap ≤ 9223372036854775807 ∧ Below w.heap.size w w' := by
  have hM := pmade_no h
  clear h
  go_enter Tryz.func36, Tryz.ntmps36
  go_wp2_with fail
  refine hM.mono ?_
  rintro e w' ⟨rfl, rfl⟩
  go_wp2
  go_ret
  exact ⟨none, 0, rfl, by omega, Below.refl _ _⟩
end Go.Proofs.YtdomjdfancpbbaaGreat
namespace Go.Proofs.YtdomjdfancpbbaaGreat
open Go.RowKit
set_option linter.unusedVariables false
set_option maxRecDepth 1000000

theorem fb_at3b {B b g : Nat} (w : World) (k : Nat) (u : Value) : Fb (at3 B b g) w (w.setCell ⟨b, k, none⟩ u) := Fb.set (F := at3 B b g) (p := ⟨b, k, none⟩) (.inr (.inl rfl)) u
theorem Fb.at23 {B b g : Nat} {w w' : World} (h : Fb (at2 B g) w w') : Fb (at3 B b g) w w' := h.mono fun x hx => hx.elim .inl fun e => .inr (.inr e)
/-- The free pages as a heap. -/
theorem PgB.hq {W : World} {B b g n : Nat} {hs fs : List Int} (h : PgB W B b g n hs fs) : HqAt B 1 g n #[.slice (some ⟨b, 0, none⟩) n n, .slice (some ⟨g, 0, none⟩) fs.length n] 106 fs W := ⟨h.var, rfl, h.row, h.ne2⟩
/-- How often one is held is set. -/
theorem PgB.set {W : World} {B b g n : Nat} {hs fs : List Int} (h : PgB W B b g n hs fs) (k : Nat) (v : Int) (hf : FreeOf (hs.set k v) fs) : PgB (W.setCell ⟨b, k, none⟩ (.int .i64 v)) B b g n (hs.set k v) fs :=
  ⟨by rw [Below.heap_setCell _ _ _ _ (by exact h.ne1)]; exact h.var, h.own.set k v, h.row.same (Below.heap_setCell _ _ _ _ (by exact fun e => h.ne3 e.symm)), h.ne1, h.ne2, h.ne3, h.heap, hf⟩
theorem pnext_any (B g cap n : Nat) (cs : Array Value) (Tb : TypeId) (ms : List Int) (w : World) (h : HqAt B 1 g cap cs Tb ms w) (hH : HeapI ms ms.length) (hn : ms.length = n + 1) (hcap : cap ≤ 1001) :
    Calls Tryz.prog 78 #[.pointer (some ⟨B, 1, none⟩)] w fun e w' => ∃ x ns, e = .returned (.int .i64 x) ∧ (x :: ns).Perm ms ∧ (∀ y ∈ ms, x ≤ y) ∧ HeapI ns ns.length ∧ HqAt B 1 g cap (csH cs 1 g n cap) Tb ns w' ∧ Fb (at2 B g) w w' := by
  have hC := qhpop_any B 1 g cap n cs Tb ms w h hH hn hcap
  have hta := fun (x : Int) => assert_int x
  clear h hH hn
  generalize csH cs 1 g n cap = cs2 at *
  go_enter Tryz.func78, Tryz.ntmps78
  go_wp2_with fail
  refine hC.mono ?_
  rintro e w1 ⟨x, ns, rfl, h1, h2, h3, h4, h5⟩
  have H1 := hid h1
  have H2 := hid h2
  have H3 := hid h3
  have H4 := hid h4
  have H5 := hid h5
  replace hta := hta x
  clear h1 h2 h3 h4 h5 hC
  go_wp2
  go_ret
  exact ⟨x, ns, rfl, H1.out, H2.out, H3.out, H4.out, H5.out⟩
theorem ptake_any {F : Nat → Prop} (p : Option Addr) (hs : List Int) (w : World) (h : PgAt w p hs F) : Calls Tryz.prog 56 #[.pointer p] w fun e w' => e = .returned (.tuple #[.int .i64 (takeN hs), .int .i64 (takeE hs)]) ∧ PgG w F p (takeH hs) w' := by
  obtain ⟨B, b, g, n, fs, rfl, hB, rfl⟩ := h.rest
  have ho := h.ok
  have hM := pmade_yes hB ho
  have c1 := hB.cells.2
  have hl := hB.len
  have hn := ho.2.1
  rw [hl] at hn
  cases hfs : fs.length with
  | zero =>
    obtain rfl := List.eq_nil_of_length_eq_zero hfs
    have hT := hB.free.none
    have e1 : takeN hs = 0 := by unfold takeN; rw [if_neg hT]
    have e2 : takeE hs = 9 := by unfold takeE; rw [if_neg hT]
    have e3 : takeH hs = hs := by unfold takeH; rw [if_neg hT]
    have HG := hid (hB.g ho (Fb.refl _ w))
    rw [e1, e2, e3]
    rw [hfs] at c1
    clear e1 e2 e3 hT hfs ho h hl hB
    go_enter Tryz.func56, Tryz.ntmps56
    go_wp2_with fail
    refine hM.mono ?_
    rintro e w' ⟨rfl, rfl⟩
    go_wp2_with fail
    refine (qlen_any _ _ _ _).mono ?_
    rintro e w' ⟨rfl, rfl⟩
    go_wp2
    go_ret2
    exact ⟨rfl, HG.out⟩
  | succ m =>
    have hN := pnext_any B g n m _ _ fs w hB.hq hB.heap hfs (by omega)
    rw [hfs] at c1
    have HE : Hid (∀ (x : Int) (ns : List Int) (w1 : World), (x :: ns).Perm fs → (∀ y ∈ fs, x ≤ y) → HeapI ns ns.length → HqAt B 1 g n (csH #[.slice (some ⟨b, 0, none⟩) n n, .slice (some ⟨g, 0, none⟩) fs.length n] 1 g m n) 106 ns w1 → Fb (at2 B g) w w1 →
        ∃ k : Nat, x = k ∧ k < n ∧ takeN hs = k ∧ takeE hs = 0 ∧ w1.cell? ⟨B, 0, none⟩ = some (.slice (some ⟨b, 0, none⟩) n n) ∧ (∃ v, w1.cell? ⟨b, k, none⟩ = some v) ∧ w1.frozen? ⟨b, k, none⟩ = false ∧ PgG w (at3 B b g) (some ⟨B, 0, none⟩) (takeH hs) (w1.setCell ⟨b, k, none⟩ (.int .i64 1))) := by
      intro x ns w1 h1 h2 h3 h4 h5
      obtain ⟨t1, t2, t3⟩ := hB.free.pop h1 h2
      have e3 : takeH hs = hs.set (takeI hs) 1 := by unfold takeH; rw [if_pos t1]
      have hlen : ns.length = m := by have := h1.length_eq; simp at this; omega
      have hv : w1.heap[B]? = some (.cells #[.slice (some ⟨b, 0, none⟩) n n, .slice (some ⟨g, 0, none⟩) ns.length n] 106 (0, 0)) := by rw [h4.var, hlen]; rfl
      have hbk : w1.heap[b]? = w.heap[b]? := h5.block b hB.own.lt (fun hx => hx.elim (fun e => hB.ne1 e.symm) hB.ne3)
      have hb2 : Fb (at3 B b g) w (w1.setCell ⟨b, takeI hs, none⟩ (.int .i64 1)) := h5.at23.tr (fb_at3b _ _ _)
      have hO1 := hB.own.same hbk
      have hPB : PgB (w1.setCell ⟨b, takeI hs, none⟩ (.int .i64 1)) B b g n (takeH hs) ns := by
        rw [e3]
        refine ⟨by rw [Below.heap_setCell _ _ _ _ (by exact hB.ne1)]; exact hv, hO1.set _ _, h4.own.same (Below.heap_setCell _ _ _ _ (by exact fun e => hB.ne3 e.symm)), hB.ne1, hB.ne2, hB.ne3, h3, ?_⟩
        rw [← e3]
        exact t3
      exact ⟨takeI hs, t2, by omega, by unfold takeN; rw [if_pos t1], by unfold takeE; rw [if_pos t1], (cells_two hv).1, ⟨_, hO1.cell (by omega)⟩, hO1.frozen _, hPB.g ho.take hb2⟩
    clear hfs ho h hl hB
    generalize csH #[.slice (some ⟨b, 0, none⟩) n n, .slice (some ⟨g, 0, none⟩) fs.length n] 1 g m n = cs2 at *
    go_enter Tryz.func56, Tryz.ntmps56
    go_wp2_with fail
    refine hM.mono ?_
    rintro e w' ⟨rfl, rfl⟩
    go_wp2_with fail
    refine (qlen_any _ _ _ _).mono ?_
    rintro e w' ⟨rfl, rfl⟩
    go_wp2_with fail
    refine hN.mono ?_
    rintro e w1 ⟨x, ns, rfl, h1, h2, h3, h4, h5⟩
    obtain ⟨k, rfl, hk, e1, e2, c0, ⟨v, ck⟩, fk, hG⟩ := HE.out x ns w1 h1 h2 h3 h4 h5
    have HG := hid hG
    have HEq : Hid (Ending.returned (.tuple #[.int .i64 (k : Int), .int .i64 0]) = .returned (.tuple #[.int .i64 (takeN hs), .int .i64 (takeE hs)])) := by unfold Hid; rw [e1, e2]
    clear h1 h2 h3 h4 h5 hG HE hN hM e1 e2 c1
    go_wp2
    go_ret2
    exact ⟨HEq.out, HG.out⟩
theorem pdrop_any {F : Nat → Prop} (p : Option Addr) (hs : List Int) (n : Int) (w : World) (h : PgAt w p hs F) : Calls Tryz.prog 37 #[.pointer p, .int .i64 n] w fun e w' => e = .returned (.tuple #[.bool (dropB hs n), .int .i64 (dropE hs n)]) ∧ PgG w F p (dropH hs n) w' := by
  obtain ⟨B, b, g, m, fs, rfl, hB, rfl⟩ := h.rest
  have ho := h.ok
  have hC := plook_in hB ho n
  have c0 := hB.cells.1
  have hl := hB.len
  have hn := ho.2.1
  have hd := ho.held n
  have hoo := ho.drop n
  rw [hl] at hn
  by_cases h0 : heldZ hs n = 0
  · have e1 : dropE hs n = 1 := by unfold dropE; rw [if_pos h0]
    have e2 : dropH hs n = hs := by unfold dropH; rw [if_pos h0]
    have e3 : dropB hs n = false := by unfold dropB; rw [h0]; rfl
    have HG := hid (hB.g ho (Fb.refl _ w))
    rw [e1, e2, e3]
    rw [e1] at hC
    clear h hl hd h0 e1 e2 e3 hoo ho hB
    go_enter Tryz.func37, Tryz.ntmps37
    go_wp2_with fail
    refine hC.mono ?_
    rintro e w' ⟨rfl, rfl⟩
    go_wp2
    go_ret2
    exact ⟨rfl, HG.out⟩
  have e1 : dropE hs n = 0 := by unfold dropE; rw [if_neg h0]
  rw [e1] at hC
  obtain ⟨b0, b1⟩ := heldZ_in h0
  obtain ⟨k, rfl⟩ : ∃ k : Nat, n = k := ⟨n.toNat, by omega⟩
  have hkn : k < m := by omega
  have hat : heldZ hs (k : Int) = hs[k]?.getD 0 := by rw [heldZ_at (by omega) (by omega), Int.toNat_natCast]
  have ck := hB.own.cell hkn
  have fk := hB.own.frozen k
  rw [← hat] at ck
  have e2 : dropH hs (k : Int) = hs.set k (heldZ hs (k : Int) - 1) := by unfold dropH; rw [if_neg h0, Int.toNat_natCast]
  rw [e2] at hoo
  have hne := hB.ne1
  by_cases h1 : heldZ hs (k : Int) = 1
  · have e3 : dropB hs (k : Int) = true := by unfold dropB; rw [h1]; rfl
    rw [h1] at ck e2 hoo
    have e4 : hs.set k (1 - 1) = hs.set k 0 := rfl
    rw [e4] at e2 hoo
    have hcnt := hB.free.cnt
    have hu := used_set0 (hs := hs) (i := k) (by omega) (by rw [← hat]; omega)
    have hw : (w.setCell ⟨b, k, none⟩ (.int .i64 0)).heap[g]? = w.heap[g]? := Below.heap_setCell _ _ _ _ (by exact fun e => hB.ne3 e.symm)
    have hq1 : HqAt B 1 g m #[.slice (some ⟨b, 0, none⟩) m m, .slice (some ⟨g, 0, none⟩) fs.length m] 106 fs (w.setCell ⟨b, k, none⟩ (.int .i64 0)) := hB.hq.same (Below.heap_setCell _ _ _ _ (by exact hB.ne1)) hw
    have hP := qhpush_any B 1 g m _ _ fs (k : Int) _ hq1 hB.heap (by omega) (by omega)
    have HE : Hid (∀ (ns : List Int) (w1 : World), ns.Perm (fs ++ [(k : Int)]) → HeapI ns ns.length → HqAt B 1 g m (csH #[.slice (some ⟨b, 0, none⟩) m m, .slice (some ⟨g, 0, none⟩) fs.length m] 1 g (fs.length + 1) m) 106 ns w1 → Fb (at2 B g) (w.setCell ⟨b, k, none⟩ (.int .i64 0)) w1 →
        PgG w (at3 B b g) (some ⟨B, 0, none⟩) (hs.set k 0) w1) := by
      intro ns w1 p1 p2 p3 p4
      have hlen : ns.length = fs.length + 1 := by have := p1.length_eq; simpa using this
      have hO1 : OwnK 3 0 b m m (hs.set k 0) w1 := (hB.own.set k 0).same (p4.block b (by rw [World.size_setCell]; exact hB.own.lt) (fun hx => hx.elim (fun e => hB.ne1 e.symm) hB.ne3))
      have hPB : PgB w1 B b g m (hs.set k 0) ns := ⟨by rw [p3.var, hlen]; rfl, hO1, p3.own, hB.ne1, hB.ne2, hB.ne3, p2, hB.free.push (by omega) (by rw [← hat]; omega) p1⟩
      exact hPB.g hoo ((fb_at3b w _ _).tr p4.at23)
    rw [e1, e2, e3]
    have h01 := hB.own.set k 0
    have c2 : (w.setCell ⟨b, k, none⟩ (.int .i64 0)).cell? ⟨b, k, none⟩ = some (.int .i64 ((hs.set k 0)[k]?.getD 0)) := h01.cell hkn
    have e5 : (hs.set k 0)[k]?.getD 0 = 0 := by rw [set_at _ _ (by omega), if_pos rfl]
    rw [e5] at c2
    have c3 : (w.setCell ⟨b, k, none⟩ (.int .i64 0)).cell? ⟨B, 0, none⟩ = some (.slice (some ⟨b, 0, none⟩) m m) := by
      rw [World.cell?_of_block (w := w) (Below.heap_setCell _ _ _ _ (by exact hB.ne1))]; exact c0
    clear h hl e1 e2 e3 e4 e5 hat b0 b1 hoo ho hcnt hu hw hq1 h01 h1 h0 hd hB
    generalize csH #[.slice (some ⟨b, 0, none⟩) m m, .slice (some ⟨g, 0, none⟩) fs.length m] 1 g (fs.length + 1) m = cs2 at *
    generalize hs.set k 0 = hs2 at *
    go_enter Tryz.func37, Tryz.ntmps37
    go_wp2_with fail
    refine hC.mono ?_
    rintro e w' ⟨rfl, rfl⟩
    go_wp2_with fail
    refine hP.mono ?_
    rintro e w1 ⟨rfl, ⟨ns, p1, p2, p3⟩, p4⟩
    have HG := hid (HE.out ns w1 p1 p2 p3 p4)
    clear p1 p2 p3 p4 HE hP c0 c2 c3 ck fk hC
    go_wp2
    go_ret2
    exact ⟨rfl, HG.out⟩
  · have e3 : dropB hs (k : Int) = false := by unfold dropB; rw [decide_eq_false h1]
    have HG := hid ((hB.set k (heldZ hs (k : Int) - 1) (hB.free.stay (by omega) (by rw [← hat]; omega) (by omega))).g hoo (fb_at3b w _ _))
    rw [e1, e2, e3]
    clear h hl e1 e2 e3 hat b0 b1 hoo ho hB
    generalize heldZ hs (k : Int) = x at *
    have q1 : 0 < x - 1 := by omega
    go_enter Tryz.func37, Tryz.ntmps37
    go_wp2_with fail
    refine hC.mono ?_
    rintro e w' ⟨rfl, rfl⟩
    go_wp2
    go_ret2
    exact ⟨rfl, HG.out⟩
end Go.Proofs.YtdomjdfancpbbaaGreat
namespace Go.Proofs.YtdomjdfancpbbaaGreat
open Go.RowKit
set_option linter.unusedVariables false
set_option maxRecDepth 1000000

theorem make_intsF (w : World) (m : Nat) (hm : m ≤ 1001) : (Instr.makeSlice 103 (.int .i64 (m : Int)) (.int .i64 (m : Int))).run Tryz.prog w = .ok (.slice (some ⟨w.heap.size, 0, none⟩) m m) (w.alloc (.cells (madeCells #[.int .i64 0] m) 3)) := by
  obtain ⟨i0, hi, hz0, hz1, hz2⟩ := info_parts Tryz.info3
  have := run_make (P := Tryz.prog) w 103 3 i0 (.int .i64 0) Tryz.underlying103 hi hz0 .i64 .i64 (m : Int) (m : Int) (by omega) (Int.le_refl _) (by rw [hz2]; omega) (by omega)
  rw [this, hz1, Int.toNat_natCast, Nat.mul_one]
  rfl
theorem heap_upto (n : Nat) : HeapI (upto n) (upto n).length := by
  intro i h0 hi
  rw [upto_len] at hi
  unfold leI ltI gi
  rw [upto_at hi, upto_at (by omega)]
  omega
theorem rowK_upto (n : Nat) : rowK (fun i : Nat => (i : Int)) n = upto n := rfl
theorem pfirst_any (n : Nat) (w : World) (hn : n ≤ 256) : Calls Tryz.prog 48 #[.int .i64 n] w fun e w' => ∃ g, e = .returned (.slice (some ⟨g, 0, none⟩) n n) ∧ w.heap.size ≤ g ∧ OwnK 3 0 g n n (upto n) w' ∧ Below w.heap.size w w' := by
  have hmk := make_intsF w n (by omega)
  obtain ⟨w1, hw1⟩ : ∃ w1, w1 = w.alloc (.cells (madeCells #[.int .i64 0] n) 3) := ⟨_, rfl⟩
  rw [← hw1] at hmk
  obtain ⟨f, hf⟩ : ∃ f : Nat → Int, f = fun i : Nat => (i : Int) := ⟨_, rfl⟩
  have HO0 : Hid (OwnK 3 0 w.heap.size n n (rowK f 0 ++ List.replicate (n - 0) 0) w1) := by
    have := own_made 3 w n (by omega)
    unfold Hid
    rw [hw1]
    exact this.low (Nat.zero_le _)
  have HB0 : Hid (Below w.heap.size w w1) := by unfold Hid; rw [hw1]; exact (Below.refl _ _).alloc (Nat.le_refl _) _
  have HS : Hid (∀ k, k < n → (rowK f k ++ List.replicate (n - k) 0).set k (k : Int) = rowK f (k + 1) ++ List.replicate (n - (k + 1)) 0) := fun k hk => by
    have := rowK_set f hk
    rw [hf] at this ⊢
    exact this
  have HE : Hid (rowK f n ++ List.replicate (n - n) 0 = upto n) := by unfold Hid; rw [hf, rowK_upto]; simp
  clear hw1 hf
  go_enter Tryz.func48, Tryz.ntmps48
  go_wp2_with fail
  go_loopw [9] (fun i W => ∃ k : Nat, k ≤ n ∧ i = .int .i64 k ∧ Hid (OwnK 3 0 w.heap.size n n (rowK f k ++ List.replicate (n - k) 0) W) ∧ Hid (Below w.heap.size w W)) (fun i _ => n - (intOf i).toNat)
  case atStart => exact ⟨0, Nat.zero_le _, rfl, HO0, HB0⟩
  case round =>
  obtain ⟨k, hk, rfl, HO, HB⟩ := hrel
  rename World => wr
  by_cases hlt : k < n
  · have q1 : (k : Int) < (n : Int) := by omega
    have ck := HO.out.cell hlt
    have fk := HO.out.frozen k
    have HO2 : Hid (OwnK 3 0 w.heap.size n n (rowK f (k + 1) ++ List.replicate (n - (k + 1)) 0) (wr.setCell ⟨w.heap.size, k, none⟩ (.int .i64 (k : Int)))) := by unfold Hid; rw [← HS.out k hlt]; exact HO.out.set k k
    have HB2 : Hid (Below w.heap.size w (wr.setCell ⟨w.heap.size, k, none⟩ (.int .i64 (k : Int)))) := HB.out.setCell (Nat.le_refl _) _
    clear HO HB HS HE HO0 HB0 hmk
    go_wp2_with fail
    go_round
    case rel => exact ⟨k + 1, by omega, by go_num, HO2, HB2⟩
    case measure => simp [intOf]; omega
  · obtain rfl : k = n := by omega
    have HO2 : Hid (OwnK 3 0 w.heap.size k k (upto k) wr) := by unfold Hid; rw [← HE.out]; exact HO.out
    clear HO HS HE HO0 HB0 hmk
    go_wp2
    go_ret
    exact ⟨_, rfl, Nat.le_refl _, HO2.out, HB.out⟩
theorem pnew_no (n : Int) (w : World) (hn : n < 1 ∨ 256 < n) : Calls Tryz.prog 30 #[.int .i64 n] w fun e w' => e = .returned (.tuple #[.pointer none, .int .i64 1]) ∧ Below w.heap.size w w' := by
  by_cases h1 : n < 1
  · clear hn
    go_enter Tryz.func30, Tryz.ntmps30
    go_wp2
    go_ret2
    exact ⟨rfl, Below.refl _ _⟩
  · have h2 : 256 < n := by omega
    clear hn
    go_enter Tryz.func30, Tryz.ntmps30
    go_wp2
    go_ret2
    exact ⟨rfl, Below.refl _ _⟩
/-- Two rows, and the pool over them. -/
theorem pg_new {w W : World} {b g n : Nat} (h0 : 1 ≤ n) (h1 : n ≤ 256) (hb : OwnK 3 0 b n n (List.replicate n 0) W) (hg : OwnK 3 0 g n n (upto n) W) (hn : b ≠ g) (lb : w.heap.size ≤ b) (lg : w.heap.size ≤ g) (hW : Below w.heap.size w W) :
    PgAt (W.alloc (.cells #[.slice (some ⟨b, 0, none⟩) n n, .slice (some ⟨g, 0, none⟩) n n] 106)) (some ⟨W.heap.size, 0, none⟩) (List.replicate n 0) (at3 W.heap.size b g) ∧ (∀ k, at3 W.heap.size b g k → w.heap.size ≤ k) ∧ Below w.heap.size w (W.alloc (.cells #[.slice (some ⟨b, 0, none⟩) n n, .slice (some ⟨g, 0, none⟩) n n] 106)) := by
  have hB : Below W.heap.size W (W.alloc (.cells #[.slice (some ⟨b, 0, none⟩) n n, .slice (some ⟨g, 0, none⟩) n n] 106)) := (Below.refl _ _).alloc (Nat.le_refl _) _
  have b1 := hb.lt
  have g1 := hg.lt
  have s1 := hW.size
  have hP : PgB (W.alloc (.cells #[.slice (some ⟨b, 0, none⟩) n n, .slice (some ⟨g, 0, none⟩) n n] 106)) W.heap.size b g n (List.replicate n 0) (upto n) := by
    refine ⟨?_, hb.stays hB, ?_, by omega, by omega, hn, heap_upto n, free_new n⟩
    · rw [upto_len]; exact heap_alloc_new W _
    · rw [upto_len]; exact hg.stays hB
  refine ⟨hP.at (okp_new h0 h1), ?_, hW.trans (hB.mono s1)⟩
  rintro k (rfl | rfl | rfl) <;> omega
/-- What New leaves. -/
def NewG (w : World) (n B : Nat) (W : World) : Prop := ∃ F, PgAt W (some ⟨B, 0, none⟩) (List.replicate n 0) F ∧ (∀ k, F k → w.heap.size ≤ k) ∧ Below w.heap.size w W
theorem pg_newA {w w2 : World} {g n : Nat} (h0 : 1 ≤ n) (h1 : n ≤ 256) (lg : (w.alloc (.cells (madeCells #[.int .i64 0] n) 3)).drew.heap.size ≤ g) (hO : OwnK 3 0 g n n (upto n) w2)
    (hb : Below (w.alloc (.cells (madeCells #[.int .i64 0] n) 3)).drew.heap.size (w.alloc (.cells (madeCells #[.int .i64 0] n) 3)).drew w2) :
    NewG w n w2.heap.size (w2.alloc (.cells #[.slice (some ⟨w.heap.size, 0, none⟩) n n, .slice (some ⟨g, 0, none⟩) n n] 106)) := by
  have hM : OwnK 3 0 w.heap.size n n (List.replicate n 0) (w.alloc (.cells (madeCells #[.int .i64 0] n) 3)).drew := (own_made 3 w n (by omega)).low (Nat.zero_le _)
  have hS : (w.alloc (.cells (madeCells #[.int .i64 0] n) 3)).drew.heap.size = w.heap.size + 1 := World.size_alloc _ _
  have hB : Below w.heap.size w (w.alloc (.cells (madeCells #[.int .i64 0] n) 3)).drew := ((Below.refl _ _).alloc (Nat.le_refl _) _).drew
  obtain ⟨a1, a2, a3⟩ := pg_new h0 h1 (hM.stays hb) hO (by omega) (Nat.le_refl _) (by omega) (hB.trans (hb.mono hB.size))
  exact ⟨_, a1, a2, a3⟩
theorem pg_newB {w w2 : World} {g n : Nat} (h0 : 1 ≤ n) (h1 : n ≤ 256) (lg : w.drew.heap.size ≤ g) (hO : OwnK 3 0 g n n (upto n) w2) (hb : Below w.drew.heap.size w.drew w2) :
    NewG w n (w2.heap.size + 1) ((w2.alloc (.cells (madeCells #[.int .i64 0] n) 3)).alloc (.cells #[.slice (some ⟨w2.heap.size, 0, none⟩) n n, .slice (some ⟨g, 0, none⟩) n n] 106)) := by
  have hM : OwnK 3 0 w2.heap.size n n (List.replicate n 0) (w2.alloc (.cells (madeCells #[.int .i64 0] n) 3)) := (own_made 3 w2 n (by omega)).low (Nat.zero_le _)
  have hS : (w2.alloc (.cells (madeCells #[.int .i64 0] n) 3)).heap.size = w2.heap.size + 1 := World.size_alloc _ _
  have hB0 : Below w.heap.size w w2 := (Below.refl _ _).drew.trans hb
  have hB : Below w2.heap.size w2 (w2.alloc (.cells (madeCells #[.int .i64 0] n) 3)) := (Below.refl _ _).alloc (Nat.le_refl _) _
  have lt := hO.lt
  obtain ⟨a1, a2, a3⟩ := pg_new h0 h1 hM (hO.stays hB) (by omega) hB0.size lg (hB0.trans (hB.mono hB0.size))
  rw [hS] at a1 a2
  exact ⟨_, a1, a2, a3⟩
theorem pnew_yes (n : Nat) (w : World) (h0 : 1 ≤ n) (h1 : n ≤ 256) : Calls Tryz.prog 30 #[.int .i64 n] w fun e w' => ∃ g F, e = .returned (.tuple #[.pointer (some ⟨g, 0, none⟩), .int .i64 0]) ∧ PgAt w' (some ⟨g, 0, none⟩) (List.replicate n 0) F ∧ (∀ k, F k → w.heap.size ≤ k) ∧ Below w.heap.size w w' := by
  have q1 : ¬ (n : Int) < 1 := by omega
  have q2 : ¬ (256 : Int) < (n : Int) := by omega
  have hmk := fun (W : World) => make_intsI W n (by omega)
  have HF := hid fun (W : World) => pfirst_any n W h1
  go_enter Tryz.func30, Tryz.ntmps30
  go_wp2_with fail
  go_region_with (go_at_call 48; refine (HF.out _).mono ?_; rintro e w2 ⟨g, rfl, lg, hO, hb⟩; have HO := hid hO; have HB := hid hb; have LG := hid lg; clear hO hb lg)
  · go_wp2_with fail
    obtain ⟨F, a1, a2, a3⟩ := pg_newA h0 h1 LG.out HO.out HB.out
    clear hmk HF HO HB LG
    go_ret2
    exact ⟨_, F, rfl, a1, a2, a3⟩
  · go_wp2_with fail
    obtain ⟨F, a1, a2, a3⟩ := pg_newB h0 h1 LG.out HO.out HB.out
    clear hmk HF HO HB LG
    go_ret2
    exact ⟨_, F, rfl, a1, a2, a3⟩
end Go.Proofs.YtdomjdfancpbbaaGreat
namespace Go.Proofs.YtdomjdfancpbbaaGreat
open Go.RowKit Go.Maps
set_option linter.unusedVariables false
set_option maxRecDepth 1000000

/-- Each is a number of 64 bits. -/
def Tk (ts : List Int) : Prop := ∀ x ∈ ts, -9223372036854775808 ≤ x ∧ x ≤ 9223372036854775807
theorem Tk.take {ts : List Int} (h : Tk ts) (n : Nat) : Tk (ts.take n) := fun x hx => h x (List.mem_of_mem_take hx)
theorem Tk.drop {ts : List Int} (h : Tk ts) (n : Nat) : Tk (ts.drop n) := fun x hx => h x (List.mem_of_mem_drop hx)
theorem Tk.key {ts : List Int} (h : Tk ts) (hl : ts.length ≤ 16) : ∃ l, kOf (keyV ts) = some l := keyV_key hl h
/-- The cells of an entry: the one ahead, its tokens, its map, its state, its page, its last use. -/
def ndC (ah : Option Addr) (ch : List Int) (mb : Nat) (st : Option Addr) (pg us : Int) : Array Value :=
  (Value.pointer ah :: ((padL ch).map (Value.int .i64) ++ [.map (some mb), .pointer st, .int .i64 pg, .int .u64 us])).toArray
def NdAt (W : World) (b : Nat) (ah : Option Addr) (ch : List Int) (mb : Nat) (st : Option Addr) (pg us : Int) : Prop := W.heap[b]? = some (.cells (ndC ah ch mb st pg us) 78 (0, 0))
theorem NdAt.cells {W : World} {b : Nat} {ah : Option Addr} {ch : List Int} {mb : Nat} {st : Option Addr} {pg us : Int} (h : NdAt W b ah ch mb st pg us) (hc : ch.length ≤ 16) :
    W.cell? ⟨b, 0, none⟩ = some (.pointer ah) ∧ W.cell? ⟨b, 17, none⟩ = some (.map (some mb)) ∧ W.cell? ⟨b, 18, none⟩ = some (.pointer st) ∧ W.cell? ⟨b, 19, none⟩ = some (.int .i64 pg) ∧ W.cell? ⟨b, 20, none⟩ = some (.int .u64 us) := by
  obtain ⟨p0, p1, p2, p3, p4, p5, p6, p7, p8, p9, p10, p11, p12, p13, p14, p15, hps⟩ := list16 (padL_len hc)
  unfold NdAt ndC at h
  rw [hps] at h
  refine ⟨?_, ?_, ?_, ?_, ?_⟩ <;> (rw [cell_of_row _ _ _ _ _ _ h]; rfl)
theorem NdAt.by {W : World} {b : Nat} {ah : Option Addr} {ch : List Int} {mb : Nat} {st : Option Addr} {pg us : Int} (h : NdAt W b ah ch mb st pg us) {p0 p1 p2 p3 p4 p5 p6 p7 p8 p9 p10 p11 p12 p13 p14 p15 : Int} (hps : padL ch = [p0, p1, p2, p3, p4, p5, p6, p7, p8, p9, p10, p11, p12, p13, p14, p15]) :
    W.cell? ⟨b, 1, none⟩ = some (.int .i64 p0) ∧ W.cell? ⟨b, 2, none⟩ = some (.int .i64 p1) ∧ W.cell? ⟨b, 3, none⟩ = some (.int .i64 p2) ∧ W.cell? ⟨b, 4, none⟩ = some (.int .i64 p3) ∧ W.cell? ⟨b, 5, none⟩ = some (.int .i64 p4) ∧ W.cell? ⟨b, 6, none⟩ = some (.int .i64 p5) ∧ W.cell? ⟨b, 7, none⟩ = some (.int .i64 p6) ∧ W.cell? ⟨b, 8, none⟩ = some (.int .i64 p7) ∧ W.cell? ⟨b, 9, none⟩ = some (.int .i64 p8) ∧ W.cell? ⟨b, 10, none⟩ = some (.int .i64 p9) ∧ W.cell? ⟨b, 11, none⟩ = some (.int .i64 p10) ∧ W.cell? ⟨b, 12, none⟩ = some (.int .i64 p11) ∧ W.cell? ⟨b, 13, none⟩ = some (.int .i64 p12) ∧ W.cell? ⟨b, 14, none⟩ = some (.int .i64 p13) ∧ W.cell? ⟨b, 15, none⟩ = some (.int .i64 p14) ∧ W.cell? ⟨b, 16, none⟩ = some (.int .i64 p15) := by
  unfold NdAt ndC at h
  rw [hps] at h
  refine ⟨?_, ?_, ?_, ?_, ?_, ?_, ?_, ?_, ?_, ?_, ?_, ?_, ?_, ?_, ?_, ?_⟩ <;> (rw [cell_of_row _ _ _ _ _ _ h]; rfl)
theorem NdAt.set {W : World} {b : Nat} {ah : Option Addr} {ch : List Int} {mb : Nat} {st : Option Addr} {pg us : Int} (h : NdAt W b ah ch mb st pg us) (hc : ch.length ≤ 16) (u : Int) : NdAt (W.setCell ⟨b, 20, none⟩ (.int .u64 u)) b ah ch mb st pg u := by
  obtain ⟨p0, p1, p2, p3, p4, p5, p6, p7, p8, p9, p10, p11, p12, p13, p14, p15, hps⟩ := list16 (padL_len hc)
  unfold NdAt ndC at h ⊢
  rw [hps] at h ⊢
  have := row_set (k := 20) (u := .int .u64 u) h
  simpa using this
theorem NdAt.frozen {W : World} {b : Nat} {ah : Option Addr} {ch : List Int} {mb : Nat} {st : Option Addr} {pg us : Int} (h : NdAt W b ah ch mb st pg us) (k : Nat) : W.frozen? ⟨b, k, none⟩ = false := frozen_of_row _ _ k _ _ h
/-- The root, or an entry. -/
def InT (T : List (List Int)) (x : List Int) : Prop := x = [] ∨ x ∈ T
/-- The child of x at a key. -/
noncomputable def chF (T : List (List Int)) (nd : List Int → Nat) (sz : Nat) (x : List Int) (v : Value) : Option Nat :=
  open Classical in if h : ∃ ch : List Int, ch.length = sz ∧ v = keyV ch ∧ x ++ ch ∈ T then some (nd (x ++ h.choose)) else none
theorem chF_iff {T : List (List Int)} {nd : List Int → Nat} {sz : Nat} {x : List Int} {v : Value} {b : Nat} : chF T nd sz x v = some b ↔ ∃ ch : List Int, ch.length = sz ∧ v = keyV ch ∧ x ++ ch ∈ T ∧ nd (x ++ ch) = b := by
  unfold chF
  constructor
  · intro h
    split at h
    · rename_i hex
      cases h
      exact ⟨_, hex.choose_spec.1, hex.choose_spec.2.1, hex.choose_spec.2.2, rfl⟩
    · cases h
  · rintro ⟨ch, h1, h2, h3, h4⟩
    have hex : ∃ ch : List Int, ch.length = sz ∧ v = keyV ch ∧ x ++ ch ∈ T := ⟨ch, h1, h2, h3⟩
    rw [dif_pos hex]
    have hs := hex.choose_spec
    rw [keyV_inj (by rw [h1, hs.1]) (hs.2.1.symm.trans h2), h4]
theorem chF_yes {T : List (List Int)} {nd : List Int → Nat} {sz : Nat} {x ch : List Int} (hc : ch.length = sz) (h : x ++ ch ∈ T) : chF T nd sz x (keyV ch) = some (nd (x ++ ch)) := chF_iff.2 ⟨ch, hc, rfl, h, rfl⟩
theorem chF_no {T : List (List Int)} {nd : List Int → Nat} {sz : Nat} {x ch : List Int} (hc : ch.length = sz) (h : x ++ ch ∉ T) : chF T nd sz x (keyV ch) = none := by
  cases hf : chF T nd sz x (keyV ch) with
  | none => rfl
  | some b =>
    obtain ⟨ch', h1, h2, h3, _⟩ := chF_iff.1 hf
    rw [keyV_inj (by rw [hc, h1]) h2] at h
    exact absurd h3 h
theorem chF_ext {T T' : List (List Int)} {nd nd' : List Int → Nat} {sz : Nat} {x : List Int} {v : Value} (h : ∀ ch : List Int, ch.length = sz → v = keyV ch → (x ++ ch ∈ T ↔ x ++ ch ∈ T') ∧ (x ++ ch ∈ T → nd (x ++ ch) = nd' (x ++ ch))) : chF T nd sz x v = chF T' nd' sz x v := by
  apply Option.ext
  intro b
  show chF T nd sz x v = some b ↔ chF T' nd' sz x v = some b
  rw [chF_iff, chF_iff]
  constructor
  · rintro ⟨ch, h1, h2, h3, h4⟩
    obtain ⟨k1, k2⟩ := h ch h1 h2
    exact ⟨ch, h1, h2, k1.1 h3, (k2 h3).symm.trans h4⟩
  · rintro ⟨ch, h1, h2, h3, h4⟩
    obtain ⟨k1, k2⟩ := h ch h1 h2
    exact ⟨ch, h1, h2, k1.2 h3, (k2 (k1.2 h3)).trans h4⟩
theorem chF_none {T : List (List Int)} {nd : List Int → Nat} {sz : Nat} {x : List Int} (h : ∀ ch : List Int, ch.length = sz → x ++ ch ∉ T) (v : Value) : chF T nd sz x v = none := by
  cases hf : chF T nd sz x v with
  | none => rfl
  | some b =>
    obtain ⟨ch, h1, _, h3, _⟩ := chF_iff.1 hf
    exact absurd h3 (h ch h1)
/-- The one ahead of an entry, and its own tokens. -/
def ahP (nd : List Int → Nat) (sz : Nat) (x : List Int) : Option Addr := if x = [] then none else some ⟨nd (x.take (x.length - sz)), 0, none⟩
def byL (sz : Nat) (x : List Int) : List Int := x.drop (x.length - sz)
theorem byL_len (sz : Nat) (x : List Int) : (byL sz x).length ≤ sz := by unfold byL; rw [List.length_drop]; omega
theorem byL_app {sz : Nat} {x ch : List Int} (h : ch.length = sz) : byL sz (x ++ ch) = ch := by
  unfold byL
  rw [List.length_append, h, Nat.add_sub_cancel, List.drop_left]
theorem ahP_app {nd : List Int → Nat} {sz : Nat} {x ch : List Int} (h : ch.length = sz) (hz : 1 ≤ sz) : ahP nd sz (x ++ ch) = some ⟨nd x, 0, none⟩ := by
  unfold ahP
  rw [if_neg (fun e => by have := congrArg List.length e; rw [List.length_append, h, List.length_nil] at this; omega), List.length_append, h, Nat.add_sub_cancel, List.take_left]
/-- The tree. -/
structure TrAt (W : World) (sz mx : Nat) (T : List (List Int)) (nd mp : List Int → Nat) (st : List Int → Option Addr) (pgs us : List Int → Int) : Prop where
  node : ∀ x, InT T x → NdAt W (nd x) (ahP nd sz x) (byL sz x) (mp x) (st x) (pgs x) (us x)
  map : ∀ x, InT T x → MvAt W (mp x) mx (chF T nd sz x)
  ndi : ∀ x y, InT T x → InT T y → nd x = nd y → x = y
  mpi : ∀ x y, InT T x → InT T y → mp x = mp y → x = y
theorem TrAt.same {W W' : World} {sz mx : Nat} {T : List (List Int)} {nd mp : List Int → Nat} {st : List Int → Option Addr} {pgs us : List Int → Int} (h : TrAt W sz mx T nd mp st pgs us) (hk : ∀ x, InT T x → W'.heap[nd x]? = W.heap[nd x]? ∧ W'.heap[mp x]? = W.heap[mp x]?) : TrAt W' sz mx T nd mp st pgs us :=
  ⟨fun x hx => (hk x hx).1.trans (h.node x hx), fun x hx => (h.map x hx).same (hk x hx).2, h.ndi, h.mpi⟩
/-- How a cache lies. -/
structure Lay where
  Fp : Nat → Prop
  hs : List Int
  vs : List Value
  mx : Nat
  nd : List Int → Nat
  mp : List Int → Nat
  st : List Int → Option Addr
  ta : List Int → Option Addr
  pgs : List Int → Int
  us : List Int → Int
/-- The cache in block B: its entries are T. -/
structure KvB (W : World) (B bb r : Nat) (pp : Option Addr) (L : Lay) (c : Cf) (pg sz : Nat) (tm : Int) (T : List (List Int)) : Prop where
  var : W.heap[B]? = some (.cells #[.int .i64 sz, .pointer pp, .pointer (some ⟨r, 0, none⟩), .slice (some ⟨bb, 0, none⟩) pg pg, .int .u64 tm] 63 (0, 0))
  root : L.nd [] = r
  pool : PgAt W pp L.hs L.Fp
  hsl : L.hs.length = pg
  held : ∀ k : Nat, k < pg → (L.hs[k]?.getD 0 = 0 ∧ ∀ x ∈ T, L.pgs x ≠ k) ∨ (L.hs[k]?.getD 0 = 1 ∧ ∃ x ∈ T, L.pgs x = k)
  pgb : ∀ x ∈ T, 0 ≤ L.pgs x ∧ L.pgs x < pg
  pgi : ∀ x ∈ T, ∀ y ∈ T, L.pgs x = L.pgs y → x = y
  row : W.ownsRow 0 60 1 (.slice (some ⟨bb, 0, none⟩) pg pg) pg L.vs
  at' : ∀ x ∈ T, L.vs[(L.pgs x).toNat]? = some (.pointer (some ⟨L.nd x, 0, none⟩))
  tree : TrAt W sz L.mx T L.nd L.mp L.st L.pgs L.us
  sts : ∀ x ∈ T, StT W (L.st x) c x (L.ta x) ∧ ∀ k, mF (L.ta x) k → ¬ L.Fp k
  tok : ∀ x ∈ T, Tk x
/-- The blocks of a cache. -/
def ftB (B bb : Nat) (L : Lay) (T : List (List Int)) (k : Nat) : Prop := k = B ∨ k = bb ∨ L.Fp k ∨ ∃ x, InT T x ∧ (k = L.nd x ∨ k = L.mp x)
theorem PgAt.kind {W : World} {p : Option Addr} {hs : List Int} {F : Nat → Prop} (h : PgAt W p hs F) {k : Nat} (hk : F k) : ∃ cur t fz, W.heap[k]? = some (.cells cur t fz) ∧ (t = 106 ∨ t = 3) := by
  obtain ⟨B, b, g, n, fs, rfl, hB, rfl⟩ := h.rest
  rcases hk with rfl | rfl | rfl
  · exact ⟨_, _, _, hB.var, .inl rfl⟩
  · obtain ⟨cur, hc⟩ := own_type hB.own (o := k) rfl
    exact ⟨_, _, _, hc, .inr rfl⟩
  · obtain ⟨cur, hc⟩ := own_type hB.row (o := k) rfl
    exact ⟨_, _, _, hc, .inr rfl⟩
theorem MvAt.blk {W : World} {B n : Nat} {f : Value → Option Nat} (h : MvAt W B n f) : ∃ es clock, W.heap[B]? = some (.map es clock) := by
  obtain ⟨D, ⟨es, clock, h1, h2⟩, h3⟩ := h
  exact ⟨es, clock, h1⟩
section
variable {W W' : World} {B bb r : Nat} {pp : Option Addr} {L : Lay} {c : Cf} {pg sz : Nat} {tm : Int} {T : List (List Int)}
theorem KvB.rowb (h : KvB W B bb r pp L c pg sz tm T) : ∃ cur, W.heap[bb]? = some (.cells cur 60 (0, 0)) := own_type h.row (o := bb) rfl
/-- What lies in such a block. -/
theorem KvB.kind (h : KvB W B bb r pp L c pg sz tm T) {k : Nat} (hk : ftB B bb L T k) :
    (∃ cur t fz, W.heap[k]? = some (.cells cur t fz) ∧ (t = 63 ∨ t = 60 ∨ t = 106 ∨ t = 3 ∨ t = 78)) ∨ ∃ es clock, W.heap[k]? = some (.map es clock) := by
  rcases hk with rfl | rfl | hk | ⟨x, hx, rfl | rfl⟩
  · exact .inl ⟨_, _, _, h.var, .inl rfl⟩
  · obtain ⟨cur, hc⟩ := h.rowb
    exact .inl ⟨_, _, _, hc, .inr (.inl rfl)⟩
  · obtain ⟨cur, t, fz, h1, h2⟩ := h.pool.kind hk
    rcases h2 with h2 | h2
    · exact .inl ⟨_, _, _, h1, .inr (.inr (.inl h2))⟩
    · exact .inl ⟨_, _, _, h1, .inr (.inr (.inr (.inl h2)))⟩
  · exact .inl ⟨_, _, _, h.tree.node x hx, .inr (.inr (.inr (.inr rfl)))⟩
  · exact .inr (h.tree.map x hx).blk
theorem KvB.old (h : KvB W B bb r pp L c pg sz tm T) (k : Nat) (hk : ftB B bb L T k) : k < W.heap.size := by
  rcases h.kind hk with ⟨cur, t, fz, h1, _⟩ | ⟨es, cl, h1⟩ <;> exact lt_of_block h1
/-- A block of ints is a pool's, if it is one of the cache's. -/
theorem KvB.ints (h : KvB W B bb r pp L c pg sz tm T) {k : Nat} {cur : Array Value} {fz : Nat × Nat} (hk : ftB B bb L T k) (hc : W.heap[k]? = some (.cells cur 3 fz)) : L.Fp k := by
  rcases hk with rfl | rfl | hk | ⟨x, hx, rfl | rfl⟩
  · rw [h.var] at hc; simp at hc
  · obtain ⟨cur', hc'⟩ := h.rowb
    rw [hc'] at hc; simp at hc
  · exact hk
  · rw [show W.heap[L.nd x]? = _ from h.tree.node x hx] at hc; simp at hc
  · obtain ⟨es, cl, hm⟩ := (h.tree.map x hx).blk
    rw [hm] at hc; simp at hc
theorem KvB.ndFp (h : KvB W B bb r pp L c pg sz tm T) {x : List Int} (hx : InT T x) : ¬ L.Fp (L.nd x) := fun hk => by
  obtain ⟨cur, t, fz, h1, h2⟩ := h.pool.kind hk
  rw [show W.heap[L.nd x]? = _ from h.tree.node x hx] at h1
  simp at h1
  rcases h2 with h2 | h2 <;> (rw [h2] at h1; simp at h1)
theorem KvB.mpFp (h : KvB W B bb r pp L c pg sz tm T) {x : List Int} (hx : InT T x) : ¬ L.Fp (L.mp x) := fun hk => by
  obtain ⟨cur, t, fz, h1, h2⟩ := h.pool.kind hk
  obtain ⟨es, cl, hm⟩ := (h.tree.map x hx).blk
  rw [hm] at h1
  simp at h1
theorem KvB.ndmp (h : KvB W B bb r pp L c pg sz tm T) {x y : List Int} (hx : InT T x) (hy : InT T y) : L.nd x ≠ L.mp y := fun e => by
  obtain ⟨es, cl, hm⟩ := (h.tree.map y hy).blk
  rw [← e, show W.heap[L.nd x]? = _ from h.tree.node x hx] at hm
  simp at hm
theorem KvB.Bnd (h : KvB W B bb r pp L c pg sz tm T) {x : List Int} (hx : InT T x) : L.nd x ≠ B := fun e => by
  have := h.tree.node x hx
  unfold NdAt at this
  rw [e, h.var] at this
  simp at this
theorem KvB.Bmp (h : KvB W B bb r pp L c pg sz tm T) {x : List Int} (hx : InT T x) : L.mp x ≠ B := fun e => by
  obtain ⟨es, cl, hm⟩ := (h.tree.map x hx).blk
  rw [e, h.var] at hm
  simp at hm
theorem KvB.BFp (h : KvB W B bb r pp L c pg sz tm T) : ¬ L.Fp B := fun hk => by
  obtain ⟨cur, t, fz, h1, h2⟩ := h.pool.kind hk
  rw [h.var] at h1
  simp at h1
  rcases h2 with h2 | h2 <;> (rw [h2] at h1; simp at h1)
theorem KvB.bbB (h : KvB W B bb r pp L c pg sz tm T) : bb ≠ B := fun e => by
  obtain ⟨cur, hc⟩ := h.rowb
  rw [e, h.var] at hc
  simp at hc
theorem KvB.bbFp (h : KvB W B bb r pp L c pg sz tm T) : ¬ L.Fp bb := fun hk => by
  obtain ⟨cur, t, fz, h1, h2⟩ := h.pool.kind hk
  obtain ⟨cur', hc⟩ := h.rowb
  rw [hc] at h1
  simp at h1
  rcases h2 with h2 | h2 <;> (rw [h2] at h1; simp at h1)
theorem KvB.bbnd (h : KvB W B bb r pp L c pg sz tm T) {x : List Int} (hx : InT T x) : L.nd x ≠ bb := fun e => by
  obtain ⟨cur, hc⟩ := h.rowb
  rw [← e, show W.heap[L.nd x]? = _ from h.tree.node x hx] at hc
  simp at hc
theorem KvB.bbmp (h : KvB W B bb r pp L c pg sz tm T) {x : List Int} (hx : InT T x) : L.mp x ≠ bb := fun e => by
  obtain ⟨cur, hc⟩ := h.rowb
  obtain ⟨es, cl, hm⟩ := (h.tree.map x hx).blk
  rw [← e, hm] at hc
  simp at hc
/-- What turns the cache's blocks alone leaves the states. -/
theorem KvB.kpl (h : KvB W B bb r pp L c pg sz tm T) {G : Nat → Prop} (hb : Fb G W W') (hG : ∀ k, G k → ftB B bb L T k ∨ W.heap.size ≤ k) : KpL W W' := by
  refine KpL.fb hb fun k cur t fz hk hc ht => ?_
  rcases hG k hk with hk | hk
  · rcases h.kind hk with ⟨cur', t', fz', h1, h2⟩ | ⟨es, cl, h1⟩
    · rw [hc] at h1
      simp at h1
      obtain ⟨_, rfl, _⟩ := h1
      rcases h2 with h2 | h2 | h2 | h2 | h2 <;> (rw [h2] at ht; simp at ht)
    · rw [hc] at h1
      simp at h1
  · have := lt_of_block hc
    omega
/-- The block of a state's tokens is none of the cache's. -/
theorem KvB.taft (h : KvB W B bb r pp L c pg sz tm T) {q : Option Addr} {ts : List Int} {ta : Option Addr} (hs : StT W q c ts ta) (hF : ∀ k, mF ta k → ¬ L.Fp k) {k : Nat} (hk : mF ta k) : ¬ ftB B bb L T k := fun hf => by
  obtain ⟨g, pm, tc, ha, hc, pq, h1, h2, h3, h4⟩ := hs
  obtain ⟨a, rfl, rfl⟩ := hk
  obtain ⟨cur, fz, hcur⟩ := h3 a rfl
  exact hF _ ⟨a, rfl, rfl⟩ (h.ints hf hcur)
theorem StT.fbF (h : KvB W B bb r pp L c pg sz tm T) {G : Nat → Prop} (hb : Fb G W W') (hG : ∀ k, G k → ftB B bb L T k ∨ W.heap.size ≤ k) {q : Option Addr} {ts : List Int} {ta : Option Addr} (hs : StT W q c ts ta) (hF : ∀ k, mF ta k → ¬ L.Fp k) : StT W' q c ts ta := by
  refine hs.keep (h.kpl hb hG) fun k hk => ?_
  have hlt : k < W.heap.size := by
    obtain ⟨g, pm, tc, ha, hc, pq, h1, h2, h3, h4⟩ := id hs
    obtain ⟨a, rfl, rfl⟩ := hk
    obtain ⟨cur, fz, hcur⟩ := h3 a rfl
    exact lt_of_block hcur
  exact hb.block k hlt fun hg => by
    rcases hG k hg with h' | h'
    · exact h.taft hs hF hk h'
    · omega
/-- What turns none of the cache's blocks, and no state's. -/
theorem KvB.fb {G : Nat → Prop} (h : KvB W B bb r pp L c pg sz tm T) (hb : Fb G W W') (hG : ∀ k, ftB B bb L T k → ¬ G k) (hk : KpL W W') (hi : ∀ k cur fz, G k → ¬ W.heap[k]? = some (.cells cur 3 fz)) : KvB W' B bb r pp L c pg sz tm T := by
  have hone : ∀ k, ftB B bb L T k → W'.heap[k]? = W.heap[k]? := fun k hk => hb.block k (h.old k hk) (hG k hk)
  refine ⟨(hone B (.inl rfl)).trans h.var, h.root, h.pool.fb hb fun k hk => hG k (.inr (.inr (.inl hk))), h.hsl, h.held, h.pgb, h.pgi, own_blk h.row fun b hb' => ?_, h.at', h.tree.same fun x hx => ⟨hone _ (.inr (.inr (.inr ⟨x, hx, .inl rfl⟩))), hone _ (.inr (.inr (.inr ⟨x, hx, .inr rfl⟩)))⟩, fun x hx => ⟨?_, (h.sts x hx).2⟩, h.tok⟩
  · cases hb'
    exact hone bb (.inr (.inl rfl))
  · have hs := (h.sts x hx).1
    refine hs.keep hk fun k hk => ?_
    obtain ⟨g, pm, tc, ha, hc, pq, h1, h2, h3, h4⟩ := id hs
    obtain ⟨a, e, rfl⟩ := hk
    obtain ⟨cur, fz, hcur⟩ := h3 a e
    exact hb.block _ (lt_of_block hcur) fun hg => hi _ _ _ hg hcur
theorem KvB.below (h : KvB W B bb r pp L c pg sz tm T) (hb : Below W.heap.size W W') : KvB W' B bb r pp L c pg sz tm T :=
  h.fb (G := fun _ => False) (Fb.of hb) (fun _ _ hk => hk) (KpL.of hb) (fun _ _ _ hk => hk.elim)
theorem KvB.cells (h : KvB W B bb r pp L c pg sz tm T) : W.cell? ⟨B, 0, none⟩ = some (.int .i64 sz) ∧ W.cell? ⟨B, 1, none⟩ = some (.pointer pp) ∧ W.cell? ⟨B, 2, none⟩ = some (.pointer (some ⟨r, 0, none⟩)) ∧ W.cell? ⟨B, 3, none⟩ = some (.slice (some ⟨bb, 0, none⟩) pg pg) ∧ W.cell? ⟨B, 4, none⟩ = some (.int .u64 tm) := by
  refine ⟨?_, ?_, ?_, ?_, ?_⟩ <;> (rw [cell_of_row _ _ _ _ _ _ h.var]; rfl)
theorem KvB.ncells (h : KvB W B bb r pp L c pg sz tm T) (hz : sz ≤ 16) {x : List Int} (hx : InT T x) :
    W.cell? ⟨L.nd x, 0, none⟩ = some (.pointer (ahP L.nd sz x)) ∧ W.cell? ⟨L.nd x, 17, none⟩ = some (.map (some (L.mp x))) ∧ W.cell? ⟨L.nd x, 18, none⟩ = some (.pointer (L.st x)) ∧ W.cell? ⟨L.nd x, 19, none⟩ = some (.int .i64 (L.pgs x)) ∧ W.cell? ⟨L.nd x, 20, none⟩ = some (.int .u64 (L.us x)) :=
  (h.tree.node x hx).cells (Nat.le_trans (byL_len _ _) hz)
/-- The time goes on. -/
theorem KvB.tick (h : KvB W B bb r pp L c pg sz tm T) (u : Int) : KvB (W.setCell ⟨B, 4, none⟩ (.int .u64 u)) B bb r pp L c pg sz u T := by
  have hb : Fb (at1 B) W (W.setCell ⟨B, 4, none⟩ (.int .u64 u)) := Fb.set (by exact rfl) _
  have hG : ∀ k, at1 B k → ftB B bb L T k ∨ W.heap.size ≤ k := fun k hk => .inl (.inl hk)
  refine ⟨?_, h.root, h.pool.fb hb fun k hk e => ?_, h.hsl, h.held, h.pgb, h.pgi, own_blk h.row fun b hb' => ?_, h.at', h.tree.same fun x hx => ⟨?_, ?_⟩, fun x hx => ⟨StT.fbF h hb hG (h.sts x hx).1 (h.sts x hx).2, (h.sts x hx).2⟩, h.tok⟩
  · have := row_set (k := 4) (u := .int .u64 u) h.var
    simpa using this
  · have e' : k = B := e
    rw [e'] at hk
    exact h.BFp hk
  · cases hb'
    obtain ⟨cur, hc⟩ := h.rowb
    exact hb.block _ (lt_of_block hc) fun e => h.bbB e
  · exact hb.block _ (lt_of_block (h.tree.node x hx)) fun e => h.Bnd hx e
  · exact hb.block _ (h.tree.map x hx).lt fun e => h.Bmp hx e
/-- An entry is used. -/
theorem KvB.use (h : KvB W B bb r pp L c pg sz tm T) (hz : sz ≤ 16) {x : List Int} (hx : InT T x) (u : Int) : KvB (W.setCell ⟨L.nd x, 20, none⟩ (.int .u64 u)) B bb r pp { L with us := fun y => if y = x then u else L.us y } c pg sz tm T := by
  have hb : Fb (at1 (L.nd x)) W (W.setCell ⟨L.nd x, 20, none⟩ (.int .u64 u)) := Fb.set (by exact rfl) _
  have hG : ∀ k, at1 (L.nd x) k → ftB B bb L T k ∨ W.heap.size ≤ k := fun k hk => .inl (.inr (.inr (.inr ⟨x, hx, .inl hk⟩)))
  refine ⟨hb.one h.var fun e => h.Bnd hx (Eq.symm e), h.root, h.pool.fb hb fun k hk e => ?_, h.hsl, h.held, h.pgb, h.pgi, own_blk h.row fun b hb' => ?_, h.at', ⟨fun y hy => ?_, fun y hy => ?_, h.tree.ndi, h.tree.mpi⟩, fun y hy => ⟨StT.fbF h hb hG (h.sts y hy).1 (h.sts y hy).2, (h.sts y hy).2⟩, h.tok⟩
  · have e' : k = L.nd x := e
    rw [e'] at hk
    exact h.ndFp hx hk
  · cases hb'
    obtain ⟨cur, hc⟩ := h.rowb
    exact hb.block _ (lt_of_block hc) fun e => h.bbnd hx (Eq.symm e)
  · by_cases e : y = x
    · subst e
      simp only [if_true]
      exact (h.tree.node y hy).set (Nat.le_trans (byL_len _ _) hz) u
    · simp only [if_neg e]
      exact hb.one (h.tree.node y hy) fun e2 => e (h.tree.ndi y x hy hx e2)
  · exact (h.tree.map y hy).same (hb.block _ (h.tree.map y hy).lt fun e => h.ndmp hx hy (Eq.symm e))
end
end Go.Proofs.YtdomjdfancpbbaaGreat
