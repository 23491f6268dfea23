/-
  The texts Tops, EnW2 of this proof.
-/
import Derived.Test.YtjgggialnegddaaGreatPq20
import Derived.Deep.RegionWith
import Derived.Deep.DeepCutAuto
import Derived.Test.YtjgggialnegddaaGreatPq01
set_option linter.unusedVariables false
set_option maxRecDepth 1000000
namespace Go.Proofs.YtjgggialnegddaaGreat
open Go.RowKit
structure TopAt (w : World) (K : Nat) (ms : List Mk) (W : World) : Prop where
 old : Below w.heap.size w W
 num : W.heap[w.heap.size]? = some (.cells #[.int .i64 K] 3 (0, 0))
 kept : ∃ ks, HpAt w.heap.size (w.heap.size + 2) (w.heap.size + 1) (K + 1) ks W ∧ HeapN ks ks.length ∧ TopSet K ms ks
theorem top1_any (w : World) (K k : Nat) (n : Int) (ms : List Mk) (wr : World) (hK : K ≤ 1000) (h : TopAt w K ms wr) :
  Calls Tryz.prog 216 #[.int .i64 k, .int .i64 n, .pointer (some ⟨w.heap.size + 2, 0, none⟩), .pointer (some ⟨w.heap.size, 0, none⟩)] wr fun e w' => e = .returned (.tuple #[]) ∧ TopAt w K (ms ++ [((k : Int), wi n)]) w' := by
 obtain ⟨ks, hp, hh, ht⟩ := h.kept
 have hkl : ks.length ≤ K := by obtain ⟨rest, _, h2, _⟩ := ht; omega
 have hP := hpush_any _ _ _ _ ks ((k : Int), wi n) wr hp hh (by omega) (by omega)
 have HT := hid ht
 have HN := hid h.num
 have HO := hid h.old
 have HS : Hid (∀ s ∈ [w.heap.size + 2, w.heap.size + 1], w.heap.size ≤ s) := by unfold Hid; simp
 clear h hp hh ht hkl
 go_enter Tryz.func216, Tryz.ntmps216
 go_wp2_with fail
 refine (within_any _ _).mono ?_
 rintro e w' ⟨rfl, rfl⟩
 go_wp2_with fail
 refine hP.mono ?_
 rintro e w1 ⟨rfl, ⟨ns, hnp, hh1, hp1⟩, hb1⟩
 have hN1 := hb1.one HN.out (by simp)
 have HO1 := hid (HO.out.trans (hb1.to HS.out HO.out.size))
 have c1 := cell_of_one hp1.var
 have c2 := cell_of_one hN1
 have hnl : ns.length ≤ K + 1 := hp1.own.room
 by_cases hgt : K < ns.length
 ·have hnn : ns.length = (ns.length - 1) + 1 := by omega
  have hX := next_any _ _ _ _ (ns.length - 1) ns w1 hp1 hh1 hnn (by omega)
  have HNP := hid hnp
  have HN1 := hid hN1
  have HGT := hid hgt
  clear hnn hp1 hh1 hnp hb1 HO hP hN1
  go_wp2_with fail
  refine hX.mono ?_
  rintro e w2 ⟨y, ns', rfl, hyp, hle, hh2, hp2, hb2⟩
  have HE : Hid (TopAt w K (ms ++ [((k : Int), wi n)]) w2) := ⟨HO1.out.trans (hb2.to HS.out HO1.out.size), hb2.one HN1.out (by simp), ns', hp2, hh2, HT.out.pop HNP.out HGT.out hyp hle⟩
  clear hX hyp hle hh2 hp2 hb2 c1 c2
  go_wp2
  go_end0
  exact ⟨rfl, HE.out⟩
 ·have HE : Hid (TopAt w K (ms ++ [((k : Int), wi n)]) w1) := ⟨HO1.out, hN1, ns, hp1, hh1, HT.out.push hnp (by omega)⟩
  clear hp1 hh1 hnp hb1 HO hP hN1
  go_wp2
  go_end0
  exact ⟨rfl, HE.out⟩
theorem make_marks (w : World) (m : Nat) (hm : m ≤ 1001) : (Instr.makeSlice 269 (.int .i64 0) (.int .i64 (m : Int))).run Tryz.prog w = .ok (.slice (some ⟨w.heap.size, 0, none⟩) 0 m) (w.alloc (.cells (madeCells #[.int .i64 0, .int .i64 0] (m * 2)) 273)) := by
 obtain ⟨i0, hi, hz0, hz1, hz2⟩ := info_parts Tryz.info273
 have := run_make (P := Tryz.prog) w 269 273 i0 (.agg #[.int .i64 0, .int .i64 0]) Tryz.underlying269 hi hz0 .i64 .i64 0 (m : Int) (by omega) (by omega) (by rw [hz2]; omega) (by omega)
 rw [this, hz1, Int.toNat_natCast]
 rfl
theorem own_marks (w : World) (m : Nat) (hm : m ≤ 1001) : OwnM w.heap.size w.heap.size 0 m [] (w.alloc (.cells (madeCells #[.int .i64 0, .int .i64 0] (m * 2)) 273)) :=
 World.ownsRow_made (base := w.heap.size) (e := 273) (size := 2) w _ m (Nat.le_refl _) (by unfold maxLen; omega) (by simp [madeCells])
theorem make_places (w : World) (m : Nat) (hm : m ≤ 1001) : (Instr.makeSlice 41 (.int .i64 (m : Int)) (.int .i64 (m : Int))).run Tryz.prog w = .ok (.slice (some ⟨w.heap.size, 0, none⟩) m m) (w.alloc (.cells (madeCells #[.int .i64 0] m) 3)) := by
 obtain ⟨i0, hi, hz0, hz1, hz2⟩ := info_parts Tryz.info3
 have := run_make (P := Tryz.prog) w 41 3 i0 (.int .i64 0) Tryz.underlying41 hi hz0 .i64 .i64 (m : Int) (m : Int) (by omega) (Int.le_refl _) (by rw [hz2]; omega) (by omega)
 rw [this, hz1, Int.toNat_natCast, Nat.mul_one]
 rfl
def Kof (k : Int) (len K : Nat) : Prop := (k < 0 ∧ K = 0) ∨ (0 ≤ k ∧ k ≤ len ∧ k = K) ∨ ((len : Int) < k ∧ K = len)
theorem kof_any (k : Int) (len : Nat) : ∃ K, Kof k len K ∧ K ≤ len := by
 rcases (by omega : k < 0 ∨ (0 ≤ k ∧ k ≤ len) ∨ (len : Int) < k) with h | h | h
 ·exact ⟨0, .inl ⟨h, rfl⟩, by omega⟩
 ·exact ⟨k.toNat, .inr (.inl ⟨h.1, h.2, by omega⟩), by omega⟩
 ·exact ⟨len, .inr (.inr ⟨h, rfl⟩), by omega⟩
theorem kof_val {k : Int} {len K : Nat} (h : Kof k len K) : (if (if (len : Int) < k then (len : Int) else k) < 0 then 0 else if (len : Int) < k then (len : Int) else k) = (K : Int) := by
 unfold Kof at h
 by_cases h1 : (len : Int) < k
 ·rw [if_pos h1, if_neg (by omega)]; omega
 ·rw [if_neg h1]
  by_cases h2 : k < 0
  ·rw [if_pos h2]; omega
  ·rw [if_neg h2]; omega
theorem topEach_any (a : Option Addr) (len cap K : Nat) (zs : List Int) (w W : World) (ha : Reads .i64 w a len cap zs) (hlen : len ≤ 1000) (hK : K ≤ len) (h0 : TopAt w K [] W) :
  Calls Tryz.prog 215 #[.slice a len cap, .func (.func 216) #[] #[.pointer (some ⟨w.heap.size + 2, 0, none⟩), .pointer (some ⟨w.heap.size, 0, none⟩)]] W
   fun e w' => e = .returned (.tuple #[]) ∧ TopAt w K (marksK zs len) w' := by
 refine each_any 216 _ a len cap zs W hlen (fun k W => TopAt w K (marksK zs k) W) (enters_of Tryz.func216 (by kernel_rfl) rfl) (fun k wr h => ha.below h.old) h0 ?_
 intro k wr hk hI
 exact top1_any w K k _ _ wr (by omega) hI
theorem TopAt.new (w : World) (K : Nat) (hK : K ≤ 1000) :
  TopAt w K [] ((((w.alloc (.cells #[.int .i64 K] 3)).alloc (.cells (madeCells #[.int .i64 0, .int .i64 0] ((K + 1) * 2)) 273)).alloc (.cells #[.slice (some ⟨w.heap.size + 1, 0, none⟩) 0 (K + 1)] 269)).drew) := by
 have h1 := own_marks (w.alloc (.cells #[.int .i64 K] 3)) (K + 1) (by omega)
 have e1 : (w.alloc (.cells #[.int .i64 K] 3)).heap.size = w.heap.size + 1 := by simp
 rw [e1] at h1
 refine ⟨?_, ?_, [], ⟨?_, ?_, by omega⟩, fun i a b => absurd b (by simp), TopSet.none K⟩
 ·exact ((((Below.refl _ _).alloc (Nat.le_refl _) _).alloc (by simp) _).alloc (by simp; omega) _).drew
 ·show (((w.alloc (.cells #[.int .i64 K] 3)).alloc (.cells (madeCells #[.int .i64 0, .int .i64 0] ((K + 1) * 2)) 273)).alloc (.cells #[.slice (some ⟨w.heap.size + 1, 0, none⟩) 0 (K + 1)] 269)).heap[w.heap.size]? = _
  rw [Below.heap_alloc _ _ _ (by simp; omega), Below.heap_alloc _ _ _ (by simp)]
  exact heap_alloc_new w _
 ·have := heap_alloc_new ((w.alloc (.cells #[.int .i64 K] 3)).alloc (.cells (madeCells #[.int .i64 0, .int .i64 0] ((K + 1) * 2)) 273)) (.cells #[.slice (some ⟨w.heap.size + 1, 0, none⟩) 0 (K + 1)] 269)
  rw [World.size_alloc, World.size_alloc] at this
  exact this
 ·refine OwnM.stays (w := (w.alloc (.cells #[.int .i64 K] 3)).alloc (.cells (madeCells #[.int .i64 0, .int .i64 0] ((K + 1) * 2)) 273)) ⟨h1.1, ?_⟩ ((Below.refl _ _).alloc (Nat.le_refl _) _).drew
  rcases h1.2 with h' | ⟨g', c, cur, hv, hB, rest⟩
  ·exact .inl h'
  ·exact .inr ⟨g', c, cur, hv, by omega, rest⟩
theorem field_at (x : Mk) (W : World) : (Instr.field 273 (.agg #[.int .i64 x.1, .int .i64 x.2]) 0).run Tryz.prog W = .ok (.int .i64 x.1) W := by kernel_rfl
structure OutAt (w : World) (K G : Nat) (ks : List Mk) (c : Nat) (W : World) : Prop where
 old : Below w.heap.size w W
 kept : ∃ qs ns, ns.length = c ∧ Outs ks qs ns ∧ HeapN ns ns.length ∧ HpAt w.heap.size (w.heap.size + 2) (w.heap.size + 1) (K + 1) ns W ∧ OwnK 3 w.heap.size G K K (List.replicate c 0 ++ qs.map Prod.fst) W
 far : w.heap.size + 2 < G
set_option maxHeartbeats 1000000 in
theorem top_any (a : Option Addr) (len cap K : Nat) (k : Int) (zs : List Int) (w : World) (ha : Reads .i64 w a len cap zs) (hlen : len ≤ 1000) (hk : Kof k len K) (hK : K ≤ len) :
  Calls Tryz.prog 191 #[.slice a len cap, .int .i64 k] w fun e w' => ∃ g ps, e = .returned (.slice (some ⟨g, 0, none⟩) K K) ∧ OwnK 3 w.heap.size g K K ps w' ∧ TopOf zs len K ps ∧ Below w.heap.size w w' := by
 have hkv := kof_val hk
 have hmk : ∀ W : World, (Instr.makeSlice 269 (.int .i64 0) (.int .i64 ((K : Int) + 1))).run Tryz.prog W = .ok (.slice (some ⟨W.heap.size, 0, none⟩) 0 (K + 1)) (W.alloc (.cells (madeCells #[.int .i64 0, .int .i64 0] ((K + 1) * 2)) 273)) := fun W => make_marks W (K + 1) (by omega)
 have HE := hid fun W => topEach_any a len cap K zs w W ha hlen hK
 clear ha hk
 go_enter Tryz.func191, Tryz.ntmps191
 go_wp2_with fail
 go_cut [12] (fun v wx => v = .int .i64 K ∧ wx = (w.alloc (.cells #[.int .i64 K] 3)).drew)
 case first =>
  go_region_with (first | (go_at_call 202; refine (count_any _ _ _ _ hlen).mono ?_; rintro e w' ⟨rfl, rfl⟩))
  all_goals
   go_wp2_with fail
  all_goals
   go_meet
   exact ⟨rfl, rfl⟩
 case rest =>
  obtain ⟨rfl, rfl⟩ := hcut
  clear hkv
  go_wp2_with fail
  refine (HE.out _ (TopAt.new w K (by omega))).mono ?_
  rintro e w1 ⟨rfl, h1⟩
  obtain ⟨ks, hp, hh, ht⟩ := h1.kept
  have hkl : ks.length = K := by obtain ⟨rest, _, h2, _⟩ := ht; rw [h2, marksK_len]; omega
  have cn := cell_of_one h1.num
  have hmk2 : ∀ W : World, (Instr.makeSlice 41 (.int .i64 (K : Int)) (.int .i64 (K : Int))).run Tryz.prog W = .ok (.slice (some ⟨W.heap.size, 0, none⟩) K K) (W.alloc (.cells (madeCells #[.int .i64 0] K) 3)) := fun W => make_places W K (by omega)
  have hb2 : Below w1.heap.size w1 (w1.alloc (.cells (madeCells #[.int .i64 0] K) 3)) := (Below.refl _ _).alloc (Nat.le_refl _) _
  have cn2 := cell_al cn (.cells (madeCells #[.int .i64 0] K) 3)
  have HS : Hid (OutAt w K w1.heap.size ks K (w1.alloc (.cells (madeCells #[.int .i64 0] K) 3))) :=
   ⟨h1.old.trans (hb2.mono h1.old.size), ⟨[], ks, hkl, Outs.start ks, hh, hp.below hb2, by simpa using (own_made 3 w1 K (by omega)).low h1.old.size⟩, lt_of_block hp.var⟩
  have HT := hid ht
  clear h1 hp hh ht hkl hb2 HE hmk
  go_wp2_with fail
  clear hmk2 cn cn2
  go_loopw [7] (fun i W => ∃ c : Nat, c ≤ K ∧ i = .int .i64 ((c : Int) - 1) ∧ Hid (OutAt w K w1.heap.size ks c W)) (fun i _ => (intOf i + 1).toNat)
  case atStart => exact ⟨K, Nat.le_refl _, rfl, HS⟩
  case round =>
   obtain ⟨c, hc, rfl, HO⟩ := hrel
   clear HS
   rename World => wr
   obtain ⟨qs, ns, hnl, ho, hh, hp, hw⟩ := HO.out.kept
   rcases c with _ | c
   ·have hns : ns = [] := List.eq_nil_of_length_eq_zero hnl
    subst hns
    have HE1 : Hid (OwnK 3 w.heap.size w1.heap.size K K (qs.map Prod.fst) wr ∧ TopOf zs len K (qs.map Prod.fst) ∧ Below w.heap.size w wr) := ⟨by simpa using hw, ho.done HT.out hK, HO.out.old⟩
    clear hnl ho hh hp hw HO
    go_wp2
    go_ret
    exact ⟨_, _, rfl, HE1.out⟩
   ·have hX := next_any _ _ _ _ c ns wr hp hh hnl (by omega)
    have HHo := hid ho
    have HNL := hid hnl
    have HW := hid hw
    have HF : Hid (w1.heap.size ∉ [w.heap.size + 2, w.heap.size + 1]) := by have := HO.out.far; unfold Hid; simp; omega
    have HLE : Hid (∀ s ∈ [w.heap.size + 2, w.heap.size + 1], w.heap.size ≤ s) := by unfold Hid; simp
    clear hnl ho hh hp hw
    go_wp2_with fail
    refine hX.mono ?_
    rintro e w2 ⟨x, ns', rfl, hyp, hle, hh2, hp2, hb2⟩
    have HW2 := hid (HW.out.but hb2 HF.out)
    have ck := HW2.out.cell (k := c) (by omega)
    have hfd := field_at x
    have fk := HW2.out.frozen c
    have HN : Hid (OutAt w K w1.heap.size ks c (w2.setCell ⟨w1.heap.size, c, none⟩ (.int .i64 x.1))) := by
     have hset := HW2.out.set c x.1
     rw [places_set] at hset
     have hbt : But [w1.heap.size] w2 (w2.setCell ⟨w1.heap.size, c, none⟩ (.int .i64 x.1)) := (But.refl _ _).set (p := ⟨w1.heap.size, c, none⟩) (by simp) _
     have hnl' : ns'.length = c := by
      have q3 := hyp.length_eq
      rw [HNL.out] at q3
      simpa using q3
     refine ⟨(HO.out.old.trans (hb2.to HLE.out HO.out.old.size)).trans (hbt.to (fun s hs => by rw [List.mem_singleton.1 hs]; have := HO.out.far; omega) (Nat.le_trans HO.out.old.size hb2.size)), ⟨x :: qs, ns', hnl', HHo.out.next hyp hle, hh2, ?_, ?_⟩, HO.out.far⟩
     ·refine hp2.but hbt ?_ ?_
      ·have := HO.out.far; simp; omega
      ·have := HO.out.far; simp; omega
     ·simpa using hset
    clear hX hyp hle hh2 hp2 hb2 HW2 HW HHo
    go_wp2_with fail
    go_round
    case rel => exact ⟨c, by omega, by go_num, HN⟩
    case measure => simp [intOf]
end Go.Proofs.YtjgggialnegddaaGreat
namespace Go.Proofs.YtjgggialnegddaaGreat
open Go.RowKit Go.Maps
theorem step_app_eq {P : Program} {w : World} {ops : Array Oper} {o : Oper} {a : Act} {K : Act → World → Prop} {Q : Exit → Act → World → Prop} {E : Prop} (hgd : o.guard = none) (d : Tmp) (hd : o.dst = some d) (s x : Operand) (t : TypeId)
  (ho : o.op = .call { callee := .builtin .append, args := #[s, x], argTypes := #[t, t] }) (v1 v2 v' : Value) (w' : World) (hs : a.eval s = v1) (hx : a.eval x = v2) (hr : (Builtin.append_ #[t, t] o.type #[v1, v2]).run P w = .ok v' w') (h : K (a.put (some d) v') w') :
  if Region.wanted o (yielded ops a.tmps) = true then Oper.wp P o a w K Q else E := by
 have hw : Region.wanted o (yielded ops a.tmps) = true := by simp [Region.wanted, hgd]
 rw [if_pos hw]
 unfold Oper.wp execOp
 simp only [ho, resolve, invoke, builtin, Sem.run_bind, Sem.run_pure, Result.andThen_ok, List.map_toArray, List.map_cons, List.map_nil, hs, hx, hr]
 show K (a.put o.dst _) w'
 rw [hd]
 exact h
theorem Tryz.infoU64 : (Tryz.prog.info? 22).map (fun i => (i.zero, i.size, i.bytes)) = some (some (.int .u64 0), 1, 8) := by kernel_rfl
theorem UQ.reads {W : World} {v : Value} {ids : List Int} (h : UQ W v ids) : ∃ a cap, v = .slice a ids.length cap ∧ Reads .u64 W a ids.length cap ids := Reads.own (k := .u64) h
theorem run_uapp (w : World) (v : Value) (xs : List Int) (hown : UQ w v xs) (ao : Option Addr) (m c : Nat) (news : List Int) (hr : Reads .u64 w ao m c news) (hb : xs.length + m ≤ 100000) (ty : TypeId) :
  ∃ v' w', (Builtin.append_ #[59, 59] ty #[v, .slice ao m c]).run Tryz.prog w = .ok v' w' ∧ UQ w' v' (xs ++ news) ∧ w.grownBy w' v.ownBlock ∧ Moved w v v' := by
 obtain ⟨i0, hi, hz0, hz1, hz2⟩ := info_parts Tryz.infoU64
 have hnl : (news.map (Value.int .u64)).length = m * 1 := by simpa using hr.size
 have hbytes : (xs.length + m) * 8 ≤ 140737488355328 := by omega
 have hln : (xs ++ news).length = xs.length + m := by rw [List.length_append, hr.size]
 unfold UQ at *
 rw [hln]
 cases ao with
 | none =>
  obtain ⟨rfl, rfl⟩ := hr.bare rfl
  have hn : news = [] := List.eq_nil_of_length_eq_zero hr.size
  subst hn
  exact ⟨v, w, run_append_owned_none (P := Tryz.prog) w 0 59 ty 22 i0 1 Tryz.underlying59 hi v _ _ hown, by simpa using hown, World.grownBy.refl _ _, .inl rfl⟩
 | some ad =>
 rcases id hown.2 with ⟨rfl, h0⟩ | ⟨g, cap, cur, rfl, hbg, hg, hnc, hcm, hcs, htake⟩
 ·obtain rfl : xs = [] := List.eq_nil_of_length_eq_zero h0
  obtain ⟨v', w', h1, h2, h3, h4⟩ := run_append_own (P := Tryz.prog) w w.heap.size 59 ty 22 i0 (.int .u64 0) 1 8 Tryz.underlying59 hi hz0 hz1 hz2 rfl (by decide) (.slice none 0 0) 0 [] (World.ownsRow_nil _ _ _ _) ad m c (news.map (Value.int .u64)) hnl hr.news (ints_oneCell .u64 news) (by unfold maxLen; omega) (by simpa using hbytes) (Nat.le_refl _)
  refine ⟨v', w', h1, own_base (by simpa using h2) (Nat.zero_le _), h3, ?_⟩
  by_cases hm : m = 0
  ·left; rw [h4.2 ⟨rfl, hm⟩]
  ·exact moved_pos h2 (by omega)
 ·by_cases hroom : xs.length + m ≤ cap
  ·obtain ⟨w', h1, h2, h3⟩ := run_append_fits (P := Tryz.prog) w 0 59 ty 22 i0 1 Tryz.underlying59 hi hz1 g xs.length cap _ hown ad m c (news.map (Value.int .u64)) hnl hr.news (ints_oneCell .u64 news) hroom
   exact ⟨_, w', h1, by rw [List.map_append]; exact h2, h3, .inl rfl⟩
  ·obtain ⟨v', w', h1, h2, h3⟩ := run_append_arg_grows (P := Tryz.prog) w 59 ty 22 i0 (.int .u64 0) 1 8 Tryz.underlying59 hi hz0 hz1 hz2 rfl (by decide) ⟨g, 0, none⟩ xs.length cap (xs.map (Value.int .u64)) (by simp) (hown.cells (g := g) rfl) ad m c (news.map (Value.int .u64)) hnl hr.news (by omega) (by unfold maxLen; omega) hbytes
   refine ⟨v', w', h1, own_base (by rw [List.map_append]; exact h2) (Nat.zero_le _), ⟨h3.os, h3.tape, h3.output, h3.size, fun k hk _ => h3.block k hk (by simp)⟩, moved_pos h2 (by omega)⟩
theorem own_more {w : World} {base e m b cap : Nat} {xs : List Value} (h : w.ownsRow base e 1 (.slice (some ⟨b, 0, none⟩) m cap) m xs) {n : Nat} (h1 : m ≤ n) (h2 : n ≤ cap) : ∃ vs, w.ownsRow base e 1 (.slice (some ⟨b, 0, none⟩) n cap) n vs ∧ vs.take m = xs := by
 rcases h.2 with ⟨e, _⟩ | ⟨g, c, cur, e, h3, h4, h5, h6, h7, h8⟩
 ·cases e
 ·cases e
  refine ⟨cur.toList.take n, ⟨by rw [List.length_take, Array.length_toList]; omega, .inr ⟨b, cap, cur, rfl, h3, h4, h2, h6, h7, by rw [Nat.mul_one]⟩⟩, ?_⟩
  rw [← h8, List.take_take, Nat.min_eq_left h1, Nat.mul_one]
theorem ucut_from (b n cap k : Nat) (c2 : ¬ k = 0) (hk : k ≤ n) (hc : n ≤ cap) (hm : cap ≤ 9223372036854775807) : ∃ A : Addr, (∀ W : World,
  (Instr.sliceAt 59 (.slice (some ⟨b, 0, none⟩) n cap) (some (.int .i64 (k : Int))) none none).run Tryz.prog W = .ok (.slice (some A) (n - k) (cap - k)) W) ∧ (k < n → A = ⟨b, k, none⟩) := by
 obtain ⟨j0, ji, jz0, jz1, jz2⟩ := info_parts Tryz.infoU64
 have h1 : ∀ W : World, (Instr.sliceBound (.int .i64 (k : Int)) n .sliceB).run Tryz.prog W = .ok k W := fun W => by
  rw [run_sliceBound W .i64 (k : Int) n _ (by omega) (by omega)]; congr 1
 refine ⟨if cap = k then ⟨b, 0, none⟩ else ⟨b, k, none⟩, fun W => ?_, fun h => by rw [if_neg (by omega)]⟩
 by_cases c1 : cap = k
 ·subst c1
  simp [Instr.sliceAt, Instr.slice, run_underlying Tryz.underlying59, Instr.sliceBounds, h1, sizeOf, typeInfo, ji, jz1, Addr.add]
 ·simp [Instr.sliceAt, Instr.slice, run_underlying Tryz.underlying59, Instr.sliceBounds, h1, sizeOf, typeInfo, ji, jz1, Addr.add, c1, c2]
theorem ucut_mid (b m n cap : Nat) (hk : m < n) (hc : n ≤ cap) (hm : cap ≤ 9223372036854775807) (W : World) :
  (Instr.sliceAt 59 (.slice (some ⟨b, 0, none⟩) m cap) (some (.int .i64 (m : Int))) (some (.int .i64 (n : Int))) none).run Tryz.prog W = .ok (.slice (some ⟨b, m, none⟩) (n - m) (cap - m)) W := by
 obtain ⟨j0, ji, jz0, jz1, jz2⟩ := info_parts Tryz.infoU64
 have h1 : ∀ W : World, (Instr.sliceBound (.int .i64 (m : Int)) n .sliceB).run Tryz.prog W = .ok m W := fun W => by
  rw [run_sliceBound W .i64 (m : Int) n _ (by omega) (by omega)]; congr 1
 have h2 : ∀ W : World, (Instr.sliceBound (.int .i64 (n : Int)) cap .sliceAcap).run Tryz.prog W = .ok n W := fun W => by
  rw [run_sliceBound W .i64 (n : Int) cap _ (by omega) (by omega)]; congr 1
 have h3 : ¬ cap = m := by omega
 simp [Instr.sliceAt, Instr.slice, run_underlying Tryz.underlying59, Instr.sliceBounds, h1, h2, sizeOf, typeInfo, ji, jz1, Addr.add, h3]
 intro h4
 exact h4.symm
theorem ucut_to (a : Option Addr) (n cap m : Nat) (hm : m ≤ cap) (hc : cap ≤ 9223372036854775807) (W : World) :
  (Instr.sliceAt 59 (.slice a n cap) none (some (.int .i64 (m : Int))) none).run Tryz.prog W = .ok (.slice a m cap) W := by
 obtain ⟨j0, ji, jz0, jz1, jz2⟩ := info_parts Tryz.infoU64
 have h2 : ∀ W : World, (Instr.sliceBound (.int .i64 (m : Int)) cap .sliceAcap).run Tryz.prog W = .ok m W := fun W => by
  rw [run_sliceBound W .i64 (m : Int) cap _ (by omega) (by omega)]; congr 1
 cases a with
 | none => simp [Instr.sliceAt, Instr.slice, run_underlying Tryz.underlying59, Instr.sliceBounds, h2, sizeOf, typeInfo, ji, Addr.add]
 | some a => simp [Instr.sliceAt, Instr.slice, run_underlying Tryz.underlying59, Instr.sliceBounds, h2, sizeOf, typeInfo, ji, Addr.add]
theorem udrop_any (v : Value) (ids : List Int) (k : Nat) (w : World) (h : UQ w v ids) (hk : k ≤ ids.length) (hn : ids.length ≤ 1000) :
  Calls Tryz.prog 54 #[v, .int .i64 0, .int .i64 k] w fun e w' => ∃ v', e = .returned v' ∧ UQ w' v' (ids.drop k) ∧ v'.ownBlock = v.ownBlock ∧ Fb (fun x => v.ownBlock = some x) w w' := by
 obtain ⟨a, cap, rfl, hr⟩ := h.reads
 have r1 := hr.room
 have m1 := hr.most
 obtain ⟨n, hnn⟩ : ∃ n, ids.length = n := ⟨_, rfl⟩
 by_cases h0 : k = 0
 ·subst h0
  have HR : Hid (UQ w (.slice a ids.length cap) (ids.drop 0)) := h
  rw [hnn] at r1 hk HR ⊢
  clear h hr hnn
  go_enter Tryz.func54, Tryz.ntmps54
  go_wp2
  go_ret
  exact ⟨_, rfl, HR.out, rfl, Fb.refl _ _⟩
 ·obtain ⟨b, rfl⟩ : ∃ b, a = some ⟨b, 0, none⟩ := by
   rcases id h.2 with ⟨e, h0⟩ | ⟨b, c, cur, e, _⟩
   ·omega
   ·cases e; exact ⟨b, rfl⟩
  obtain ⟨i0, hi, hz0, hz1, hz2⟩ := info_parts Tryz.infoU64
  have hO0 : w.drew.ownsRow 0 22 1 (.slice (some ⟨b, 0, none⟩) 0 cap) 0 [] := own_take h (Nat.zero_le _)
  unfold UQ at h
  rw [hnn] at h hr r1 hk hn
  obtain ⟨A, hs2, hA⟩ := ucut_from b n cap k h0 hk r1 m1
  have hnews : ∀ j u, ((ids.drop k).map (Value.int .u64))[j]? = some u → w.drew.cell? (A.add j) = some u := fun j u hu => by
   have hj : j < n - k := by
    have := (List.getElem?_eq_some_iff.1 hu).1
    rw [List.length_map, List.length_drop, hnn] at this
    exact this
   rw [hA (by omega)]
   rw [List.getElem?_map, List.getElem?_drop] at hu
   obtain ⟨b', off', e1, e2⟩ := hr.cell (k + j) (by omega)
   cases e1
   rw [Addr.add_lit]
   rw [Nat.zero_add] at e2
   show w.cell? ⟨b, k + j, none⟩ = some u
   rw [e2]
   cases hx : ids[k + j]? with
   | none => rw [hx] at hu; cases hu
   | some y => rw [hx] at hu; simpa using hu
  have hlen : ((ids.drop k).map (Value.int .u64)).length = (n - k) * 1 := by rw [List.length_map, List.length_drop, hnn, Nat.mul_one]
  obtain ⟨w1, e1, hO1, hg1⟩ := run_append_fits (P := Tryz.prog) w.drew 0 59 59 22 i0 1 Tryz.underlying59 hi hz1 b 0 cap [] hO0 A (n - k) (cap - k) _ hlen hnews (ints_oneCell .u64 _) (by omega)
  rw [Nat.zero_add] at e1 hO1
  rw [List.nil_append] at hO1
  obtain ⟨vs, hO2, hv2⟩ := own_more hO1 (n := n) (by omega) (by omega)
  obtain ⟨w2, e2, hO3, hf2⟩ := row_clear hO2 (i := n - k) (by omega) (cap - (n - k)) 0
  rw [hv2] at hO3
  have hs3 := ucut_mid b (n - k) n cap (by omega) r1 m1
  have HR : Hid (UQ w2 (.slice (some ⟨b, 0, none⟩) (n - k) cap) (ids.drop k)) := by
   unfold Hid UQ
   rw [List.length_drop, hnn]
   exact hO3
  have HF : Hid (Fb (fun x => some b = some x) w w2) := by
   refine Fb.trans (G := at1 b) ?_ hf2 fun x hx => .inl (by rw [show x = b from hx])
   exact ⟨hg1.os, hg1.tape, hg1.output, hg1.size, fun x hx hn => hg1.block x hx fun e => hn e.symm⟩
  have q1 : ¬ (0 : Int) = (k : Int) := by omega
  have q2 : (k : Int) ≤ (n : Int) := by omega
  rw [hnn]
  have HE1 := hid e1
  clear h hr hO0 hnews hlen hO1 hg1 hO2 hv2 hO3 hf2 hA e1 hnn
  generalize n - k = d at *
  generalize cap - k = c2 at *
  generalize cap - d = c3 at *
  generalize n - d = c4 at *
  go_enter Tryz.func54, Tryz.ntmps54
  go_wp2_with fail
  go_region_law (refine step_app_eq (by rfl) 26 (by rfl) (.tmp 22) (.tmp 25) 59 (by rfl) _ _ _ _ (by simp [Act.eval, Act.put]) (by simp [Act.eval, Act.put]) HE1.out ?_)
  go_wp2
  go_ret
  exact ⟨_, rfl, HR.out, rfl, HF.out⟩
theorem uclone_any (v : Value) (ids : List Int) (w : World) (h : UQ w v ids) (hn : ids.length ≤ 1000) :
  Calls Tryz.prog 38 #[v] w fun e w' => ∃ a cap, e = .returned (.slice a ids.length cap) ∧ Reads .u64 w' a ids.length cap ids ∧ (∀ p, a = some p → w.heap.size ≤ p.block ∧ ∃ cur, w'.heap[p.block]? = some (.cells cur 22 (0, 0))) ∧ Below w.heap.size w w' := by
 obtain ⟨i0, hi, hz0, hz1, hz2⟩ := info_parts Tryz.infoU64
 obtain ⟨a, cap, rfl, ha⟩ := h.reads
 generalize hnn : ids.length = n at *
 cases a with
 | none =>
  obtain ⟨rfl, rfl⟩ := ha.bare rfl
  obtain rfl : ids = [] := List.eq_nil_of_length_eq_zero ha.size
  have heq : ∀ W : World, (binOp .eql 59 (.slice none 0 0) (.slice none 0 0)).run Tryz.prog W = .ok (.bool true) W := fun W => Lib.run_eql_slice_nil W _ _ none 0 0 0 0 Tryz.underlying59
  clear ha h hnn
  go_enter Tryz.func38, Tryz.ntmps38
  go_wp2
  go_ret
  exact ⟨_, _, rfl, Reads.nil _ _, (fun p hp => by cases hp), Below.refl _ _⟩
 | some ad =>
  have heq : ∀ W : World, (binOp .eql 59 (.slice (some ad) n cap) (.slice none 0 0)).run Tryz.prog W = .ok (.bool false) W := fun W => Lib.run_eql_slice_nil W _ _ (some ad) n cap 0 0 Tryz.underlying59
  have HA := hid ha
  have HB : Hid (Below w.heap.size w (w.alloc (.cells #[] 22))) := (Below.refl _ _).alloc (Nat.le_refl _) _
  have HO : Hid ((w.alloc (.cells #[] 22)).ownsRow w.heap.size 22 1 (.slice (some ⟨w.heap.size, 0, none⟩) 0 0) 0 (([] : List Int).map (Value.int .u64))) :=
   World.ownsRow_lit (base := w.heap.size) (e := 22) (size := 1) w #[] 0 (Nat.le_refl _) (by unfold maxLen; omega) (by simp)
  clear ha h hnn
  go_enter Tryz.func38, Tryz.ntmps38
  go_wp2_with (at_builtin; refine append_any _ rfl (.tmp 5) (.tmp 6) 59 rfl w.heap.size 22 i0 (.int .u64 0) 8 Tryz.underlying59 hi hz0 hz1 hz2 rfl .u64 _ 0 [] rfl HO.out (some ad) n cap ids rfl (HA.out.below HB.out) (by omega) (by omega) HB.out.size ?_; intro v' w3 hO3 hb3)
  rw [Nat.zero_add, List.nil_append] at hO3
  obtain ⟨a3, c3, rfl, hr3⟩ := Reads.own (k := .u64) hO3
  have HL : Hid (∀ p, a3 = some p → w.heap.size ≤ p.block ∧ ∃ cur, w3.heap[p.block]? = some (.cells cur 22 (0, 0))) := fun p hp => ⟨(World.ownsRow.lt hO3 p.block (by rw [hp]; rfl)).1, own_type hO3 (by rw [hp]; rfl)⟩
  have HR3 := hid hr3
  have HB3 := hid (HB.out.trans hb3)
  clear hO3 hb3 HA HB HO hr3
  go_wp2
  go_ret
  exact ⟨_, _, rfl, HR3.out, HL.out, HB3.out⟩
end Go.Proofs.YtjgggialnegddaaGreat
