/-
  The texts Tops, RTMath of this proof.
-/
import Derived.Test.YtjgggialnegddaaGreatPr24
import Derived.Deep.RegionWith
import Derived.Deep.DeepCutAuto
import Derived.Test.YtjgggialnegddaaGreatPr01
set_option linter.unusedVariables false
set_option maxRecDepth 1000000
namespace Go.Proofs.YtjgggialnegddaaGreat
open Go.RowKit
structure TopAt (w : World) (K : Nat) (ms : List Mk) (W : World) : Prop where
 old : Below w.heap.size w W
 num : W.heap[w.heap.size]? = some (.cells #[.int .i64 K] 3 (0, 0))
 kept : ∃ ks, HpAt w.heap.size (w.heap.size + 2) (w.heap.size + 1) (K + 1) ks W ∧ HeapN ks ks.length ∧ TopSet K ms ks
theorem top1_any (w : World) (K k : Nat) (n : Int) (ms : List Mk) (wr : World) (hK : K ≤ 1000) (h : TopAt w K ms wr) :
  Calls Tryz.prog 216 #[.int .i64 k, .int .i64 n, .pointer (some ⟨w.heap.size + 2, 0, none⟩), .pointer (some ⟨w.heap.size, 0, none⟩)] wr fun e w' => e = .returned (.tuple #[]) ∧ TopAt w K (ms ++ [((k : Int), wi n)]) w' := by
 obtain ⟨ks, hp, hh, ht⟩ := h.kept
 have hkl : ks.length ≤ K := by obtain ⟨rest, _, h2, _⟩ := ht; omega
 have hP := hpush_any _ _ _ _ ks ((k : Int), wi n) wr hp hh (by omega) (by omega)
 have HT := hid ht
 have HN := hid h.num
 have HO := hid h.old
 have HS : Hid (∀ s ∈ [w.heap.size + 2, w.heap.size + 1], w.heap.size ≤ s) := by unfold Hid; simp
 clear h hp hh ht hkl
 go_enter Tryz.func216, Tryz.ntmps216
 go_wp2_with fail
 refine (within_any _ _).mono ?_
 rintro e w' ⟨rfl, rfl⟩
 go_wp2_with fail
 refine hP.mono ?_
 rintro e w1 ⟨rfl, ⟨ns, hnp, hh1, hp1⟩, hb1⟩
 have hN1 := hb1.one HN.out (by simp)
 have HO1 := hid (HO.out.trans (hb1.to HS.out HO.out.size))
 have c1 := cell_of_one hp1.var
 have c2 := cell_of_one hN1
 have hnl : ns.length ≤ K + 1 := hp1.own.room
 by_cases hgt : K < ns.length
 ·have hnn : ns.length = (ns.length - 1) + 1 := by omega
  have hX := next_any _ _ _ _ (ns.length - 1) ns w1 hp1 hh1 hnn (by omega)
  have HNP := hid hnp
  have HN1 := hid hN1
  have HGT := hid hgt
  clear hnn hp1 hh1 hnp hb1 HO hP hN1
  go_wp2_with fail
  refine hX.mono ?_
  rintro e w2 ⟨y, ns', rfl, hyp, hle, hh2, hp2, hb2⟩
  have HE : Hid (TopAt w K (ms ++ [((k : Int), wi n)]) w2) := ⟨HO1.out.trans (hb2.to HS.out HO1.out.size), hb2.one HN1.out (by simp), ns', hp2, hh2, HT.out.pop HNP.out HGT.out hyp hle⟩
  clear hX hyp hle hh2 hp2 hb2 c1 c2
  go_wp2
  go_end0
  exact ⟨rfl, HE.out⟩
 ·have HE : Hid (TopAt w K (ms ++ [((k : Int), wi n)]) w1) := ⟨HO1.out, hN1, ns, hp1, hh1, HT.out.push hnp (by omega)⟩
  clear hp1 hh1 hnp hb1 HO hP hN1
  go_wp2
  go_end0
  exact ⟨rfl, HE.out⟩
theorem make_marks (w : World) (m : Nat) (hm : m ≤ 1001) : (Instr.makeSlice 269 (.int .i64 0) (.int .i64 (m : Int))).run Tryz.prog w = .ok (.slice (some ⟨w.heap.size, 0, none⟩) 0 m) (w.alloc (.cells (madeCells #[.int .i64 0, .int .i64 0] (m * 2)) 273)) := by
 obtain ⟨i0, hi, hz0, hz1, hz2⟩ := info_parts Tryz.info273
 have := run_make (P := Tryz.prog) w 269 273 i0 (.agg #[.int .i64 0, .int .i64 0]) Tryz.underlying269 hi hz0 .i64 .i64 0 (m : Int) (by omega) (by omega) (by rw [hz2]; omega) (by omega)
 rw [this, hz1, Int.toNat_natCast]
 rfl
theorem own_marks (w : World) (m : Nat) (hm : m ≤ 1001) : OwnM w.heap.size w.heap.size 0 m [] (w.alloc (.cells (madeCells #[.int .i64 0, .int .i64 0] (m * 2)) 273)) :=
 World.ownsRow_made (base := w.heap.size) (e := 273) (size := 2) w _ m (Nat.le_refl _) (by unfold maxLen; omega) (by simp [madeCells])
theorem make_places (w : World) (m : Nat) (hm : m ≤ 1001) : (Instr.makeSlice 41 (.int .i64 (m : Int)) (.int .i64 (m : Int))).run Tryz.prog w = .ok (.slice (some ⟨w.heap.size, 0, none⟩) m m) (w.alloc (.cells (madeCells #[.int .i64 0] m) 3)) := by
 obtain ⟨i0, hi, hz0, hz1, hz2⟩ := info_parts Tryz.info3
 have := run_make (P := Tryz.prog) w 41 3 i0 (.int .i64 0) Tryz.underlying41 hi hz0 .i64 .i64 (m : Int) (m : Int) (by omega) (Int.le_refl _) (by rw [hz2]; omega) (by omega)
 rw [this, hz1, Int.toNat_natCast, Nat.mul_one]
 rfl
def Kof (k : Int) (len K : Nat) : Prop := (k < 0 ∧ K = 0) ∨ (0 ≤ k ∧ k ≤ len ∧ k = K) ∨ ((len : Int) < k ∧ K = len)
theorem kof_any (k : Int) (len : Nat) : ∃ K, Kof k len K ∧ K ≤ len := by
 rcases (by omega : k < 0 ∨ (0 ≤ k ∧ k ≤ len) ∨ (len : Int) < k) with h | h | h
 ·exact ⟨0, .inl ⟨h, rfl⟩, by omega⟩
 ·exact ⟨k.toNat, .inr (.inl ⟨h.1, h.2, by omega⟩), by omega⟩
 ·exact ⟨len, .inr (.inr ⟨h, rfl⟩), by omega⟩
theorem kof_val {k : Int} {len K : Nat} (h : Kof k len K) : (if (if (len : Int) < k then (len : Int) else k) < 0 then 0 else if (len : Int) < k then (len : Int) else k) = (K : Int) := by
 unfold Kof at h
 by_cases h1 : (len : Int) < k
 ·rw [if_pos h1, if_neg (by omega)]; omega
 ·rw [if_neg h1]
  by_cases h2 : k < 0
  ·rw [if_pos h2]; omega
  ·rw [if_neg h2]; omega
theorem topEach_any (a : Option Addr) (len cap K : Nat) (zs : List Int) (w W : World) (ha : Reads .i64 w a len cap zs) (hlen : len ≤ 1000) (hK : K ≤ len) (h0 : TopAt w K [] W) :
  Calls Tryz.prog 215 #[.slice a len cap, .func (.func 216) #[] #[.pointer (some ⟨w.heap.size + 2, 0, none⟩), .pointer (some ⟨w.heap.size, 0, none⟩)]] W
   fun e w' => e = .returned (.tuple #[]) ∧ TopAt w K (marksK zs len) w' := by
 refine each_any 216 _ a len cap zs W hlen (fun k W => TopAt w K (marksK zs k) W) (enters_of Tryz.func216 (by kernel_rfl) rfl) (fun k wr h => ha.below h.old) h0 ?_
 intro k wr hk hI
 exact top1_any w K k _ _ wr (by omega) hI
theorem TopAt.new (w : World) (K : Nat) (hK : K ≤ 1000) :
  TopAt w K [] ((((w.alloc (.cells #[.int .i64 K] 3)).alloc (.cells (madeCells #[.int .i64 0, .int .i64 0] ((K + 1) * 2)) 273)).alloc (.cells #[.slice (some ⟨w.heap.size + 1, 0, none⟩) 0 (K + 1)] 269)).drew) := by
 have h1 := own_marks (w.alloc (.cells #[.int .i64 K] 3)) (K + 1) (by omega)
 have e1 : (w.alloc (.cells #[.int .i64 K] 3)).heap.size = w.heap.size + 1 := by simp
 rw [e1] at h1
 refine ⟨?_, ?_, [], ⟨?_, ?_, by omega⟩, fun i a b => absurd b (by simp), TopSet.none K⟩
 ·exact ((((Below.refl _ _).alloc (Nat.le_refl _) _).alloc (by simp) _).alloc (by simp; omega) _).drew
 ·show (((w.alloc (.cells #[.int .i64 K] 3)).alloc (.cells (madeCells #[.int .i64 0, .int .i64 0] ((K + 1) * 2)) 273)).alloc (.cells #[.slice (some ⟨w.heap.size + 1, 0, none⟩) 0 (K + 1)] 269)).heap[w.heap.size]? = _
  rw [Below.heap_alloc _ _ _ (by simp; omega), Below.heap_alloc _ _ _ (by simp)]
  exact heap_alloc_new w _
 ·have := heap_alloc_new ((w.alloc (.cells #[.int .i64 K] 3)).alloc (.cells (madeCells #[.int .i64 0, .int .i64 0] ((K + 1) * 2)) 273)) (.cells #[.slice (some ⟨w.heap.size + 1, 0, none⟩) 0 (K + 1)] 269)
  rw [World.size_alloc, World.size_alloc] at this
  exact this
 ·refine OwnM.stays (w := (w.alloc (.cells #[.int .i64 K] 3)).alloc (.cells (madeCells #[.int .i64 0, .int .i64 0] ((K + 1) * 2)) 273)) ⟨h1.1, ?_⟩ ((Below.refl _ _).alloc (Nat.le_refl _) _).drew
  rcases h1.2 with h' | ⟨g', c, cur, hv, hB, rest⟩
  ·exact .inl h'
  ·exact .inr ⟨g', c, cur, hv, by omega, rest⟩
theorem field_at (x : Mk) (W : World) : (Instr.field 273 (.agg #[.int .i64 x.1, .int .i64 x.2]) 0).run Tryz.prog W = .ok (.int .i64 x.1) W := by kernel_rfl
structure OutAt (w : World) (K G : Nat) (ks : List Mk) (c : Nat) (W : World) : Prop where
 old : Below w.heap.size w W
 kept : ∃ qs ns, ns.length = c ∧ Outs ks qs ns ∧ HeapN ns ns.length ∧ HpAt w.heap.size (w.heap.size + 2) (w.heap.size + 1) (K + 1) ns W ∧ OwnK 3 w.heap.size G K K (List.replicate c 0 ++ qs.map Prod.fst) W
 far : w.heap.size + 2 < G
set_option maxHeartbeats 1000000 in
theorem top_any (a : Option Addr) (len cap K : Nat) (k : Int) (zs : List Int) (w : World) (ha : Reads .i64 w a len cap zs) (hlen : len ≤ 1000) (hk : Kof k len K) (hK : K ≤ len) :
  Calls Tryz.prog 191 #[.slice a len cap, .int .i64 k] w fun e w' => ∃ g ps, e = .returned (.slice (some ⟨g, 0, none⟩) K K) ∧ OwnK 3 w.heap.size g K K ps w' ∧ TopOf zs len K ps ∧ Below w.heap.size w w' := by
 have hkv := kof_val hk
 have hmk : ∀ W : World, (Instr.makeSlice 269 (.int .i64 0) (.int .i64 ((K : Int) + 1))).run Tryz.prog W = .ok (.slice (some ⟨W.heap.size, 0, none⟩) 0 (K + 1)) (W.alloc (.cells (madeCells #[.int .i64 0, .int .i64 0] ((K + 1) * 2)) 273)) := fun W => make_marks W (K + 1) (by omega)
 have HE := hid fun W => topEach_any a len cap K zs w W ha hlen hK
 clear ha hk
 go_enter Tryz.func191, Tryz.ntmps191
 go_wp2_with fail
 go_cut [12] (fun v wx => v = .int .i64 K ∧ wx = (w.alloc (.cells #[.int .i64 K] 3)).drew)
 case first =>
  go_region_with (first | (go_at_call 202; refine (count_any _ _ _ _ hlen).mono ?_; rintro e w' ⟨rfl, rfl⟩))
  all_goals
   go_wp2_with fail
  all_goals
   go_meet
   exact ⟨rfl, rfl⟩
 case rest =>
  obtain ⟨rfl, rfl⟩ := hcut
  clear hkv
  go_wp2_with fail
  refine (HE.out _ (TopAt.new w K (by omega))).mono ?_
  rintro e w1 ⟨rfl, h1⟩
  obtain ⟨ks, hp, hh, ht⟩ := h1.kept
  have hkl : ks.length = K := by obtain ⟨rest, _, h2, _⟩ := ht; rw [h2, marksK_len]; omega
  have cn := cell_of_one h1.num
  have hmk2 : ∀ W : World, (Instr.makeSlice 41 (.int .i64 (K : Int)) (.int .i64 (K : Int))).run Tryz.prog W = .ok (.slice (some ⟨W.heap.size, 0, none⟩) K K) (W.alloc (.cells (madeCells #[.int .i64 0] K) 3)) := fun W => make_places W K (by omega)
  have hb2 : Below w1.heap.size w1 (w1.alloc (.cells (madeCells #[.int .i64 0] K) 3)) := (Below.refl _ _).alloc (Nat.le_refl _) _
  have cn2 := cell_al cn (.cells (madeCells #[.int .i64 0] K) 3)
  have HS : Hid (OutAt w K w1.heap.size ks K (w1.alloc (.cells (madeCells #[.int .i64 0] K) 3))) :=
   ⟨h1.old.trans (hb2.mono h1.old.size), ⟨[], ks, hkl, Outs.start ks, hh, hp.below hb2, by simpa using (own_made 3 w1 K (by omega)).low h1.old.size⟩, lt_of_block hp.var⟩
  have HT := hid ht
  clear h1 hp hh ht hkl hb2 HE hmk
  go_wp2_with fail
  clear hmk2 cn cn2
  go_loopw [7] (fun i W => ∃ c : Nat, c ≤ K ∧ i = .int .i64 ((c : Int) - 1) ∧ Hid (OutAt w K w1.heap.size ks c W)) (fun i _ => (intOf i + 1).toNat)
  case atStart => exact ⟨K, Nat.le_refl _, rfl, HS⟩
  case round =>
   obtain ⟨c, hc, rfl, HO⟩ := hrel
   clear HS
   rename World => wr
   obtain ⟨qs, ns, hnl, ho, hh, hp, hw⟩ := HO.out.kept
   rcases c with _ | c
   ·have hns : ns = [] := List.eq_nil_of_length_eq_zero hnl
    subst hns
    have HE1 : Hid (OwnK 3 w.heap.size w1.heap.size K K (qs.map Prod.fst) wr ∧ TopOf zs len K (qs.map Prod.fst) ∧ Below w.heap.size w wr) := ⟨by simpa using hw, ho.done HT.out hK, HO.out.old⟩
    clear hnl ho hh hp hw HO
    go_wp2
    go_ret
    exact ⟨_, _, rfl, HE1.out⟩
   ·have hX := next_any _ _ _ _ c ns wr hp hh hnl (by omega)
    have HHo := hid ho
    have HNL := hid hnl
    have HW := hid hw
    have HF : Hid (w1.heap.size ∉ [w.heap.size + 2, w.heap.size + 1]) := by have := HO.out.far; unfold Hid; simp; omega
    have HLE : Hid (∀ s ∈ [w.heap.size + 2, w.heap.size + 1], w.heap.size ≤ s) := by unfold Hid; simp
    clear hnl ho hh hp hw
    go_wp2_with fail
    refine hX.mono ?_
    rintro e w2 ⟨x, ns', rfl, hyp, hle, hh2, hp2, hb2⟩
    have HW2 := hid (HW.out.but hb2 HF.out)
    have ck := HW2.out.cell (k := c) (by omega)
    have hfd := field_at x
    have fk := HW2.out.frozen c
    have HN : Hid (OutAt w K w1.heap.size ks c (w2.setCell ⟨w1.heap.size, c, none⟩ (.int .i64 x.1))) := by
     have hset := HW2.out.set c x.1
     rw [places_set] at hset
     have hbt : But [w1.heap.size] w2 (w2.setCell ⟨w1.heap.size, c, none⟩ (.int .i64 x.1)) := (But.refl _ _).set (p := ⟨w1.heap.size, c, none⟩) (by simp) _
     have hnl' : ns'.length = c := by
      have q3 := hyp.length_eq
      rw [HNL.out] at q3
      simpa using q3
     refine ⟨(HO.out.old.trans (hb2.to HLE.out HO.out.old.size)).trans (hbt.to (fun s hs => by rw [List.mem_singleton.1 hs]; have := HO.out.far; omega) (Nat.le_trans HO.out.old.size hb2.size)), ⟨x :: qs, ns', hnl', HHo.out.next hyp hle, hh2, ?_, ?_⟩, HO.out.far⟩
     ·refine hp2.but hbt ?_ ?_
      ·have := HO.out.far; simp; omega
      ·have := HO.out.far; simp; omega
     ·simpa using hset
    clear hX hyp hle hh2 hp2 hb2 HW2 HW HHo
    go_wp2_with fail
    go_round
    case rel => exact ⟨c, by omega, by go_num, HN⟩
    case measure => simp [intOf]
end Go.Proofs.YtjgggialnegddaaGreat
namespace Go.Proofs.YtjgggialnegddaaGreat
open Go.RowKit
def mkP (zs : List Int) (i : Nat) : Mk := ((i : Int), wi (zs[i]?.getD 0))
def restK (zs : List Int) (bs : List Bool) : Nat → List Mk
 | 0 => []
 | k + 1 => restK zs bs k ++ (if mt bs k then [] else [mkP zs k])
theorem restK_mem {zs : List Int} {bs : List Bool} {k : Nat} {m : Mk} : m ∈ restK zs bs k ↔ ∃ i, i < k ∧ mt bs i = false ∧ m = mkP zs i := by
 induction k with
 | zero => simp [restK]
 | succ k ih =>
  simp only [restK, List.mem_append, ih]
  constructor
  ·rintro (⟨i, hi, h⟩ | h)
   ·exact ⟨i, by omega, h⟩
   ·cases hb : mt bs k with
    | true => rw [hb] at h; simp at h
    | false => rw [hb] at h; simp at h; exact ⟨k, by omega, hb, h⟩
  ·rintro ⟨i, hi, h1, h2⟩
   rcases (by omega : i < k ∨ i = k) with h | rfl
   ·exact .inl ⟨i, h, h1, h2⟩
   ·rw [h1]; simp; exact .inr h2
theorem restK_none (zs : List Int) (n k : Nat) : restK zs (List.replicate n false) k = marksK zs k := by
 induction k with
 | zero => rfl
 | succ k ih =>
  have h : mt (List.replicate n false) k = false := by
   unfold mt
   rw [List.getElem?_replicate]
   split <;> rfl
  simp only [restK, marksK, ih, h]
  rfl
theorem restK_below {zs : List Int} {bs : List Bool} {B : Nat} (h : B < bs.length) : ∀ k, k ≤ B → restK zs (bs.set B true) k = restK zs bs k := by
 intro k
 induction k with
 | zero => intro _; rfl
 | succ k ih =>
  intro hk
  simp only [restK]
  rw [ih (by omega), mt_other (by omega)]
theorem restK_set {zs : List Int} {bs : List Bool} {B : Nat} (h : B < bs.length) (hB : mt bs B = false) : ∀ k, B < k → (mkP zs B :: restK zs (bs.set B true) k).Perm (restK zs bs k) := by
 intro k
 induction k with
 | zero => intro hk; omega
 | succ k ih =>
  intro hk
  rcases (by omega : B < k ∨ B = k) with h1 | rfl
  ·simp only [restK]
   rw [mt_other (by omega)]
   exact (ih h1).append_right _
  ·simp only [restK]
   rw [mt_same h, restK_below h B (Nat.le_refl _), hB]
   simp
   exact (List.perm_append_singleton _ _).symm
theorem restK_len {zs : List Int} {bs : List Bool} {k : Nat} (h : ∀ i, i < k → mt bs i = true) : restK zs bs k = [] := by
 induction k with
 | zero => rfl
 | succ k ih => simp only [restK]; rw [ih (fun i hi => h i (by omega)), h k (by omega)]; rfl
structure Sel (zs : List Int) (n : Nat) (bs : List Bool) (qs : List Mk) : Prop where
 len : bs.length = n
 perm : (qs ++ restK zs bs n).Perm (marksK zs n)
 falls : Falls qs
 le : ∀ r ∈ restK zs bs n, ∀ q ∈ qs, leM r q
theorem Sel.start (zs : List Int) (n : Nat) : Sel zs n (List.replicate n false) [] :=
 ⟨by simp, by rw [restK_none]; exact List.Perm.refl _, List.Pairwise.nil, by simp⟩
theorem Sel.step {zs : List Int} {n : Nat} {bs : List Bool} {qs : List Mk} (h : Sel zs n bs qs) {B : Nat} (hB : B < n) (hb : mt bs B = false) (hg : ∀ i, i < n → mt bs i = false → leM (mkP zs i) (mkP zs B)) : Sel zs n (bs.set B true) (qs ++ [mkP zs B]) := by
 have hl : B < bs.length := by rw [h.len]; exact hB
 have hm : mkP zs B ∈ restK zs bs n := restK_mem.2 ⟨B, hB, hb, rfl⟩
 have hs : ∀ r ∈ restK zs (bs.set B true) n, r ∈ restK zs bs n := fun r hr => (restK_set hl hb n hB).subset (List.mem_cons_of_mem _ hr)
 refine ⟨by simpa using h.len, ?_, ?_, ?_⟩
 ·rw [List.append_assoc]
  exact ((restK_set hl hb n hB).append_left qs).trans h.perm
 ·refine List.pairwise_append.2 ⟨h.falls, by simp, ?_⟩
  intro a ha b hb'
  rw [List.mem_singleton.1 hb']
  exact h.le _ hm a ha
 ·intro r hr q hq
  rcases List.mem_append.1 hq with hq | hq
  ·exact h.le r (hs r hr) q hq
  ·rw [List.mem_singleton.1 hq]
   obtain ⟨i, hi, hbi, rfl⟩ := restK_mem.1 (hs r hr)
   exact hg i hi hbi
theorem Sel.done {zs : List Int} {n : Nat} {bs : List Bool} {qs : List Mk} (h : Sel zs n bs qs) : TopOf zs n qs.length (qs.map Prod.fst) :=
 ⟨qs, _, rfl, rfl, h.falls, h.perm, h.le⟩
def BestAt (zs : List Int) (bs : List Bool) (i : Nat) (b : Int) : Prop :=
 (b = -1 ∧ ∀ n, n < i → mt bs n = true) ∨ ∃ B : Nat, b = B ∧ B < i ∧ mt bs B = false ∧ ∀ n, n < i → mt bs n = false → leM (mkP zs n) (mkP zs B)
theorem BestAt.start (zs : List Int) (bs : List Bool) : BestAt zs bs 0 (-1) := .inl ⟨rfl, fun n hn => absurd hn (by omega)⟩
theorem BestAt.met {zs : List Int} {bs : List Bool} {i : Nat} {b : Int} (h : BestAt zs bs i b) (hm : mt bs i = true) : BestAt zs bs (i + 1) b := by
 rcases h with ⟨h1, h2⟩ | ⟨B, h1, h2, h3, h4⟩
 ·refine .inl ⟨h1, fun n hn => ?_⟩
  rcases (by omega : n < i ∨ n = i) with h | rfl
  ·exact h2 n h
  ·exact hm
 ·refine .inr ⟨B, h1, by omega, h3, fun n hn hb => ?_⟩
  rcases (by omega : n < i ∨ n = i) with h | rfl
  ·exact h4 n h hb
  ·rw [hm] at hb; cases hb
theorem BestAt.first {zs : List Int} {bs : List Bool} {i : Nat} (h : BestAt zs bs i (-1)) (hm : mt bs i = false) : BestAt zs bs (i + 1) i := by
 rcases h with ⟨h1, h2⟩ | ⟨B, h1, _⟩
 ·refine .inr ⟨i, rfl, by omega, hm, fun n hn hb => ?_⟩
  rcases (by omega : n < i ∨ n = i) with h | rfl
  ·rw [h2 n h] at hb; cases hb
  ·exact leM_refl _
 ·omega
theorem BestAt.more {zs : List Int} {bs : List Bool} {i B : Nat} (h : BestAt zs bs i B) (hm : mt bs i = false) (hg : (mkP zs B).2 < (mkP zs i).2) : BestAt zs bs (i + 1) i := by
 rcases h with ⟨h1, _⟩ | ⟨B', h1, h2, h3, h4⟩
 ·omega
 ·obtain rfl : B = B' := by omega
  refine .inr ⟨i, rfl, by omega, hm, fun n hn hb => ?_⟩
  rcases (by omega : n < i ∨ n = i) with h | rfl
  ·refine leM_trans (h4 n h hb) ?_
   unfold leM ltM
   omega
  ·exact leM_refl _
theorem BestAt.less {zs : List Int} {bs : List Bool} {i B : Nat} (h : BestAt zs bs i B) (hg : ¬ (mkP zs B).2 < (mkP zs i).2) : BestAt zs bs (i + 1) B := by
 rcases h with ⟨h1, _⟩ | ⟨B', h1, h2, h3, h4⟩
 ·omega
 ·obtain rfl : B = B' := by omega
  refine .inr ⟨B, rfl, by omega, h3, fun n hn hb => ?_⟩
  rcases (by omega : n < i ∨ n = i) with h | rfl
  ·exact h4 n h hb
  ·unfold leM ltM
   have : (mkP zs B).1 = (B : Int) := rfl
   have : (mkP zs n).1 = (n : Int) := rfl
   omega
theorem Sel.best {zs : List Int} {n : Nat} {bs : List Bool} {qs : List Mk} (h : Sel zs n bs qs) (hq : qs.length < n) {b : Int} (hb : BestAt zs bs n b) : ∃ B : Nat, b = B ∧ B < n ∧ mt bs B = false ∧ ∀ i, i < n → mt bs i = false → leM (mkP zs i) (mkP zs B) := by
 rcases hb with ⟨h1, h2⟩ | h
 ·have := h.perm.length_eq
  rw [restK_len h2, List.append_nil, marksK_len] at this
  omega
 ·exact h
end Go.Proofs.YtjgggialnegddaaGreat
