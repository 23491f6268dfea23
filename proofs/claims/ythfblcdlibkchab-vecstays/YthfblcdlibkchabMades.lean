/-
  A row of numbers that the call owns (OwnK); contracts: madeOf (with whatever function it is handed), Scale, Relu.
-/
import Derived.Test.YthfblcdlibkchabBoths
namespace Go.Proofs.Ythfblcdlibkchab
open Go.RowKit
set_option linter.unusedVariables false
set_option maxRecDepth 1000000

/-- The row in block g, not below base, its elements of type t, holds these numbers. -/
def OwnK (t : TypeId) (base g m cap : Nat) (xs : List Int) (w : World) : Prop := w.ownsRow base t 1 (.slice (some ⟨g, 0, none⟩) m cap) m (xs.map (Value.int .i64))
theorem OwnK.len {t : TypeId} {base g m cap : Nat} {xs : List Int} {w : World} (h : OwnK t base g m cap xs w) : xs.length = m := by have := h.1; simpa using this
theorem OwnK.cell {t : TypeId} {base g m cap : Nat} {xs : List Int} {w : World} (h : OwnK t base g m cap xs w) {k : Nat} (hk : k < m) : w.cell? ⟨g, k, none⟩ = some (.int .i64 (xs[k]?.getD 0)) := by
  have hl := h.len
  have := World.ownsRow.cellAt h k (by omega)
  rw [this]
  simp [(by omega : k < xs.length)]
theorem OwnK.frozen {t : TypeId} {base g m cap : Nat} {xs : List Int} {w : World} (h : OwnK t base g m cap xs w) (k : Nat) : w.frozen? ⟨g, k, none⟩ = false := World.ownsRow.frozenAt h k
theorem OwnK.set {t : TypeId} {base g m cap : Nat} {xs : List Int} {w : World} (h : OwnK t base g m cap xs w) (k : Nat) (v : Int) : OwnK t base g m cap (xs.set k v) (w.setCell ⟨g, k, none⟩ (.int .i64 v)) := by
  have := (World.ownsRow.stored h k (.int .i64 v)).1
  unfold OwnK
  rw [List.map_set]
  exact this
theorem OwnK.base {t : TypeId} {base g m cap : Nat} {xs : List Int} {w : World} (h : OwnK t base g m cap xs w) : base ≤ g := (World.ownsRow.lt h g rfl).1
theorem OwnK.lt {t : TypeId} {base g m cap : Nat} {xs : List Int} {w : World} (h : OwnK t base g m cap xs w) : g < w.heap.size := (World.ownsRow.lt h g rfl).2
theorem OwnK.same {t : TypeId} {base g m cap : Nat} {xs : List Int} {w w' : World} (h : OwnK t base g m cap xs w) (hb : w'.heap[g]? = w.heap[g]?) : OwnK t base g m cap xs w' := by
  refine ⟨h.1, ?_⟩
  rcases h.2 with h' | ⟨g', c, cur, hv, hB, hg, rest⟩
  · exact .inl h'
  · cases hv
    exact .inr ⟨g, cap, cur, rfl, hB, hb.trans hg, rest⟩
theorem OwnK.stays {t : TypeId} {base g m cap : Nat} {xs : List Int} {w w' : World} (h : OwnK t base g m cap xs w) (hb : Below w.heap.size w w') : OwnK t base g m cap xs w' := h.same (hb.block g h.lt)
theorem OwnK.but {t : TypeId} {base g m cap : Nat} {xs : List Int} {w w' : World} {S : List Nat} (h : OwnK t base g m cap xs w) (hb : But S w w') (hg : g ∉ S) : OwnK t base g m cap xs w' := h.same (hb.block g h.lt hg)
theorem OwnK.reads {t : TypeId} {base g m cap : Nat} {xs : List Int} {w : World} (h : OwnK t base g m cap xs w) : Reads .i64 w (some ⟨g, 0, none⟩) m cap xs := by
  obtain ⟨a, c, e, hr⟩ := Reads.own (k := .i64) h
  cases e
  exact hr
theorem OwnK.low {t : TypeId} {base base' g m cap : Nat} {xs : List Int} {w : World} (h : OwnK t base g m cap xs w) (hb : base' ≤ base) : OwnK t base' g m cap xs w := by
  refine ⟨h.1, ?_⟩
  rcases h.2 with h' | ⟨g', c, cur, hv, hB, rest⟩
  · exact .inl h'
  · exact .inr ⟨g', c, cur, hv, Nat.le_trans hb hB, rest⟩

theorem Try.info2 : (Try.prog.info? 2).map (fun i => (i.zero, i.size, i.bytes)) = some (some (.int .i64 0), 1, 8) := by kernel_rfl
theorem Try.info3 : (Try.prog.info? 3).map (fun i => (i.zero, i.size, i.bytes)) = some (some (.int .i64 0), 1, 8) := by kernel_rfl
theorem info_parts {t : TypeId} {z : Value} {a b : Nat} (h : (Try.prog.info? t).map (fun i => (i.zero, i.size, i.bytes)) = some (some z, a, b)) :
    ∃ i, Try.prog.info? t = some i ∧ i.zero = some z ∧ i.size = a ∧ i.bytes = b := by
  cases hi : Try.prog.info? t with
  | none => rw [hi] at h; simp at h
  | some i => rw [hi] at h; simp at h; exact ⟨i, rfl, h.1, h.2.1, h.2.2⟩
/-- 'make' of m numbers. -/
theorem make_ints (w : World) (m : Nat) (hm : m ≤ 1001) : (Instr.makeSlice 22 (.int .i64 (m : Int)) (.int .i64 (m : Int))).run Try.prog w = .ok (.slice (some ⟨w.heap.size, 0, none⟩) m m) (w.alloc (.cells (madeCells #[.int .i64 0] m) 2)) := by
  obtain ⟨i0, hi, hz0, hz1, hz2⟩ := info_parts Try.info2
  have := run_make (P := Try.prog) w 22 2 i0 (.int .i64 0) Try.underlying22 hi hz0 .i64 .i64 (m : Int) (m : Int) (by omega) (Int.le_refl _) (by rw [hz2]; omega) (by omega)
  rw [this, hz1, Int.toNat_natCast, Nat.mul_one]
  rfl
theorem own_made (t : TypeId) (w : World) (m : Nat) (hm : m ≤ 1001) : OwnK t w.heap.size w.heap.size m m (List.replicate m 0) (w.alloc (.cells (madeCells #[.int .i64 0] m) t)) := by
  have := World.ownsRow_lit (base := w.heap.size) (e := t) (size := 1) w (madeCells #[.int .i64 0] m) m (Nat.le_refl _) (by unfold maxLen; omega) (by simp [madeCells])
  unfold OwnK
  rw [List.map_replicate, ← toList_madeCells_one]
  exact this

theorem made1_any (fn : Nat) (caps : Array Value) (hE : ∀ args w, (callFunc fn args).run Try.prog w = .ok (.enter fn args) w) (k : Nat) (x y : Int) (Bo Bm base g m : Nat) (us : List Int) (wr : World) (hm : m ≤ 1000)
    (ho : wr.heap[Bo]? = some (.cells #[.func (.func fn) #[] caps] 28 (0, 0))) (hq : wr.heap[Bm]? = some (.cells #[.slice (some ⟨g, 0, none⟩) m m] 22 (0, 0)))
    (hO : OwnK 2 base g m m us wr) (hk : k < m) (hgo : Bo ≠ g) (hgm : Bm ≠ g)
    (hC : Calls Try.prog fn (#[.int .i64 x] ++ caps) wr.drew fun e w' => e = .returned (.int .i64 y) ∧ Below wr.heap.size wr w') :
    Calls Try.prog 49 #[.int .i64 k, .int .i64 x, .pointer (some ⟨Bo, 0, none⟩), .pointer (some ⟨Bm, 0, none⟩)] wr fun e w' => e = .returned (.tuple #[]) ∧ OwnK 2 base g m m (us.set k y) w' ∧ But [g] wr w' := by
  have cd := cell_of_one ho
  have cq := cell_of_one hq
  have HO := hid hO
  have HK : Hid (∀ W, But [g] wr W → W.cell? ⟨Bo, 0, none⟩ = some (.func (.func fn) #[] caps) ∧ W.cell? ⟨Bm, 0, none⟩ = some (.slice (some ⟨g, 0, none⟩) m m)) :=
    fun W h => ⟨h.cell cd (by simpa using hgo), h.cell cq (by simpa using hgm)⟩
  clear ho hq hO hgo hgm
  go_enter Try.func49, Try.ntmps49
  go_wp2_with fail
  go_region_held3 (fun W : World => W.cell? ⟨Bo, 0, none⟩ = some (.func (.func fn) #[] caps) ∧ W.cell? ⟨Bm, 0, none⟩ = some (.slice (some ⟨g, 0, none⟩) m m)) (first | exact ⟨cd, cq⟩ | assumption | exact HK.out _ (But.of hB) | exact HK.out _ ((But.of hB).set (p := ⟨g, k, none⟩) (List.mem_singleton.2 rfl) _)) (first | (refine hC.mono ?_; rintro e w2 ⟨rfl, hB⟩; have HO2 := hid (HO.out.stays hB); have ck := HO2.out.cell hk; have fk := HO2.out.frozen k))
  have HS : Hid (OwnK 2 base g m m (us.set k y) (w2.setCell ⟨g, k, none⟩ (.int .i64 y))) := HO2.out.set k y
  have HB : Hid (But [g] wr (w2.setCell ⟨g, k, none⟩ (.int .i64 y))) := (But.of hB).set (p := ⟨g, k, none⟩) (List.mem_singleton.2 rfl) _
  clear HK cd cq HO HO2 ck fk hB hC
  go_wp2
  go_end0
  exact ⟨rfl, HS.out, HB.out⟩

theorem take_snoc {zs : List Int} {k : Nat} (h : k < zs.length) : zs.take (k + 1) = zs.take k ++ [zs[k]?.getD 0] := by
  rw [List.take_succ_eq_append_getElem h]; simp [h]
/-- What is made behind k rounds. -/
def madeK (f : Int → Int) (zs : List Int) (len k : Nat) : List Int := (zs.take k).map f ++ List.replicate (len - k) 0
theorem madeK_set {f : Int → Int} {zs : List Int} {k : Nat} (h : k < zs.length) : (madeK f zs zs.length k).set k (f (zs[k]?.getD 0)) = madeK f zs zs.length (k + 1) := by
  unfold madeK
  have hl : ((zs.take k).map f).length = k := by simp; omega
  rw [List.set_append_right _ _ (by omega), hl, Nat.sub_self, take_snoc h, List.map_append, List.append_assoc]
  congr 1
  rw [show zs.length - k = zs.length - (k + 1) + 1 by omega, List.replicate_succ]
  rfl
theorem madeK_all (f : Int → Int) (zs : List Int) : madeK f zs zs.length zs.length = zs.map f := by unfold madeK; simp

/-- What stands in memory between the rounds of madeOf: the function, the row, and the variable that holds it. -/
structure MadeAt (w : World) (fn : Nat) (caps : Array Value) (T : TypeId) (B len : Nat) (us : List Int) (W : World) : Prop where
  old : Below w.heap.size w W
  fun_ : W.heap[B]? = some (.cells #[.func (.func fn) #[] caps] T (0, 0))
  var : W.heap[B + 2]? = some (.cells #[.slice (some ⟨B + 1, 0, none⟩) len len] 22 (0, 0))
  own : OwnK 2 w.heap.size (B + 1) len len us W

theorem MadeAt.new (w : World) (fn : Nat) (caps : Array Value) (T : TypeId) (len : Nat) (hlen : len ≤ 1000) :
    MadeAt w fn caps T w.heap.size len (List.replicate len 0) (((w.alloc (.cells #[.func (.func fn) #[] caps] T)).alloc (.cells (madeCells #[.int .i64 0] len) 2)).alloc (.cells #[.slice (some ⟨w.heap.size + 1, 0, none⟩) len len] 22)) := by
  have h1 := own_made 2 (w.alloc (.cells #[.func (.func fn) #[] caps] T)) len (by omega)
  have e1 : (w.alloc (.cells #[.func (.func fn) #[] caps] T)).heap.size = w.heap.size + 1 := by simp
  rw [e1] at h1
  refine ⟨?_, ?_, ?_, ?_⟩
  · exact (((Below.refl _ _).alloc (Nat.le_refl _) _).alloc (by simp) _).alloc (by simp; omega) _
  · rw [Below.heap_alloc _ _ _ (by simp; omega), Below.heap_alloc _ _ _ (by simp)]
    exact heap_alloc_new w _
  · have := heap_alloc_new ((w.alloc (.cells #[.func (.func fn) #[] caps] T)).alloc (.cells (madeCells #[.int .i64 0] len) 2)) (.cells #[.slice (some ⟨w.heap.size + 1, 0, none⟩) len len] 22)
    simpa using this
  · exact (h1.low (by omega)).stays ((Below.refl _ _).alloc (Nat.le_refl _) _)

theorem madeEach_any (fn : Nat) (caps : Array Value) (hE : ∀ args w, (callFunc fn args).run Try.prog w = .ok (.enter fn args) w) (a : Option Addr) (len cap : Nat) (zs : List Int) (w W : World) (ha : Reads .i64 w a len cap zs) (hlen : len ≤ 1000) (f : Int → Int)
    (hC : ∀ x wr, Below w.heap.size w wr → Calls Try.prog fn (#[.int .i64 x] ++ caps) wr fun e w' => e = .returned (.int .i64 (f x)) ∧ Below wr.heap.size wr w')
    (h0 : MadeAt w fn caps 28 w.heap.size len (List.replicate len 0) W) :
    Calls Try.prog 19 #[.slice a len cap, .func (.func 49) #[] #[.pointer (some ⟨w.heap.size, 0, none⟩), .pointer (some ⟨w.heap.size + 2, 0, none⟩)]] W
      fun e w' => e = .returned (.tuple #[]) ∧ MadeAt w fn caps 28 w.heap.size len (zs.map f) w' := by
  have hz := ha.size
  subst hz
  refine (each_any 49 _ a zs.length cap zs W hlen (fun k W => MadeAt w fn caps 28 w.heap.size zs.length (madeK f zs zs.length k) W) (enters_of Try.func49 (by kernel_rfl) rfl) ?_ ?_ ?_).mono ?_
  · intro k wr hk
    exact ha.below hk.old
  · unfold madeK
    simpa using h0
  · intro k wr hk hI
    have hdr : Below wr.heap.size wr wr.drew := (Below.refl _ _).drew
    refine (made1_any fn caps hE k _ (f (zs[k]?.getD 0)) w.heap.size (w.heap.size + 2) w.heap.size (w.heap.size + 1) zs.length _ wr hlen hI.fun_ hI.var hI.own hk (by omega) (by omega) ?_).mono ?_
    · exact (hC _ _ (hI.old.trans (hdr.mono hI.old.size))).mono fun e w' ⟨h1, h2⟩ => ⟨h1, hdr.trans (h2.mono (Nat.le_refl _))⟩
    · rintro e w' ⟨h1, h2, h3⟩
      refine ⟨h1, ?_, h3.one hI.fun_ (by simp), h3.one hI.var (by simp), ?_⟩
      · exact hI.old.trans (h3.to (fun s hs => by rw [List.mem_singleton.1 hs]; omega) hI.old.size)
      · rw [← madeK_set hk]; exact h2
  · rintro e w' ⟨h1, h2⟩
    rw [madeK_all] at h2
    exact ⟨h1, h2⟩

theorem madeof_any (fn : Nat) (caps : Array Value) (hE : ∀ args w, (callFunc fn args).run Try.prog w = .ok (.enter fn args) w) (a : Option Addr) (len cap : Nat) (zs : List Int) (w : World) (ha : Reads .i64 w a len cap zs) (hlen : len ≤ 1000) (f : Int → Int)
    (hC : ∀ x wr, Below w.heap.size w wr → Calls Try.prog fn (#[.int .i64 x] ++ caps) wr fun e w' => e = .returned (.int .i64 (f x)) ∧ Below wr.heap.size wr w') :
    Calls Try.prog 26 #[.slice a len cap, .func (.func fn) #[] caps] w fun e w' => ∃ g, e = .returned (.slice (some ⟨g, 0, none⟩) len len) ∧ OwnK 2 w.heap.size g len len (zs.map f) w' ∧ Below w.heap.size w w' := by
  have HM := hid fun W => madeEach_any fn caps hE a len cap zs w W ha hlen f hC
  have hmk := make_ints (w.alloc (.cells #[.func (.func fn) #[] caps] 28)) len (by omega)
  clear ha hC
  go_enter Try.func26, Try.ntmps26
  go_wp2_with fail
  refine (count_any _ _ _ _ hlen).mono ?_
  rintro e w' ⟨rfl, rfl⟩
  go_wp2_with fail
  refine (HM.out _ (MadeAt.new _ _ _ _ _ hlen)).mono ?_
  rintro e w' ⟨rfl, h⟩
  have cv := cell_of_one h.var
  have HO := hid h.own
  have HB := hid h.old
  clear h HM hmk
  go_wp2
  go_ret
  exact ⟨_, rfl, HO.out, HB.out⟩
end Go.Proofs.Ythfblcdlibkchab
