/-
  Contracts: madeOfBoth (with whatever function it is handed), Add.
-/
import Derived.Test.YtehmdlipacbpfaaGreatScales
import Derived.Deep.AppendLies
import Derived.Deep.RegionLaw
namespace Go.Proofs.YtehmdlipacbpfaaGreat
open Go.RowKit
set_option linter.unusedVariables false
set_option maxRecDepth 1000000

theorem pair1_end {Bm g base n cap : Nat} {us : List Int} {z : Int} {wr w3 : World} (hgm : Bm ≠ g) (hO3 : w3.ownsRow base 2 1 (.slice (some ⟨g, 0, none⟩) (n + 1) cap) (n + 1) (us.map (Value.int .i64) ++ [.int .i64 z]))
    (hq : w3.heap[Bm]? = some (.cells #[.slice (some ⟨g, 0, none⟩) n cap] 25 (0, 0))) (hG : But [g] wr w3) :
    OwnK 2 base g (n + 1) cap (us ++ [z]) (w3.setCell ⟨Bm, 0, none⟩ (.slice (some ⟨g, 0, none⟩) (n + 1) cap)) ∧
    (w3.setCell ⟨Bm, 0, none⟩ (.slice (some ⟨g, 0, none⟩) (n + 1) cap)).heap[Bm]? = some (.cells #[.slice (some ⟨g, 0, none⟩) (n + 1) cap] 25 (0, 0)) ∧
    But [Bm, g] wr (w3.setCell ⟨Bm, 0, none⟩ (.slice (some ⟨g, 0, none⟩) (n + 1) cap)) := by
  refine ⟨?_, one_setCell hq, (hG.mono (by simp)).set (p := ⟨Bm, 0, none⟩) (by simp) _⟩
  unfold OwnK
  rw [List.map_append]
  exact ownsRow_setCell_other hO3 (by simp [Value.ownBlock]; exact fun e => hgm e.symm) _

set_option maxHeartbeats 1000000 in
theorem pair1_any (fn : Nat) (caps : Array Value) (hE : ∀ args w, (callFunc fn args).run Tryz.prog w = .ok (.enter fn args) w) (x y z : Int) (Bm Bo base g n cap : Nat) (us : List Int) (wr : World) (hcap : cap ≤ 1000) (hn : n < cap)
    (ho : wr.heap[Bo]? = some (.cells #[.func (.func fn) #[] caps] 70 (0, 0))) (hq : wr.heap[Bm]? = some (.cells #[.slice (some ⟨g, 0, none⟩) n cap] 25 (0, 0)))
    (hO : OwnK 2 base g n cap us wr) (hgo : Bo ≠ g) (hgm : Bm ≠ g) (hom : Bo ≠ Bm)
    (hC : Calls Tryz.prog fn (#[.int .i64 x, .int .i64 y] ++ caps) wr.drew fun e w' => e = .returned (.int .i64 z) ∧ Below wr.heap.size wr w') :
    Calls Tryz.prog 97 #[.int .i64 x, .int .i64 y, .pointer (some ⟨Bm, 0, none⟩), .pointer (some ⟨Bo, 0, none⟩)] wr fun e w' => e = .returned (.tuple #[]) ∧ OwnK 2 base g (n + 1) cap (us ++ [z]) w' ∧
      w'.heap[Bm]? = some (.cells #[.slice (some ⟨g, 0, none⟩) (n + 1) cap] 25 (0, 0)) ∧ But [Bm, g] wr w' := by
  obtain ⟨i0, hi, hz0, hz1, hz2⟩ := info_parts Tryz.info2
  have cd := cell_of_one ho
  have cq := cell_of_one hq
  have HO := hid hO
  have HK : Hid (∀ W, But [g] wr W → W.cell? ⟨Bo, 0, none⟩ = some (.func (.func fn) #[] caps) ∧ W.cell? ⟨Bm, 0, none⟩ = some (.slice (some ⟨g, 0, none⟩) n cap)) :=
    fun W h => ⟨h.cell cd (by simpa using hgo), h.cell cq (by simpa using hgm)⟩
  have HF : Hid (∀ W, But [g] wr W → W.heap[Bm]? = some (.cells #[.slice (some ⟨g, 0, none⟩) n cap] 25 (0, 0))) := fun W h => h.one hq (by simpa using hgm)
  have HGM : Hid (Bm ≠ g) := hgm
  clear ho hq hO hgo hgm
  go_enter Tryz.func97, Tryz.ntmps97
  go_wp2_with fail
  go_region_law ((first | (refine step_call2 (by rfl) 10 (by rfl) (.tmp 7) (.tmp 8) (.tmp 9) 2 2 (by rfl) fn caps (by rfl) hE (.int .i64 x) (.int .i64 y) (by rfl) (by rfl) (.int .i64 z) (fun w' => Below wr.heap.size wr w') hC ?_; intro w2 hB; have cm2 := (HK.out _ (But.of hB)).2; have cm3 := (HK.out _ ((But.of hB).alloc (.cells #[.int .i64 z] 2))).2) | (refine step_append_fits (by rfl) 12 (by rfl) (.tmp 6) (.tmp 11) 25 (by rfl) base 2 i0 1 Tryz.underlying25 hi hz1 g n cap (us.map (Value.int .i64)) (by rfl) ((HO.out.stays hB).alloc _) ⟨w2.heap.size, 0, none⟩ 1 1 [.int .i64 z] (by rfl) rfl (news_one _ _ _ _) (one_cell _ _) (by omega) ?_; intro w3 hO3 hg; have HG := hid (but_grown ((But.of hB).alloc (.cells #[.int .i64 z] 2)) hg (List.mem_singleton.2 rfl)); have cm := (HK.out _ HG.out).2; have fm := free_of_one (HF.out _ HG.out))))
  all_goals
    have HE1 := hid (pair1_end HGM.out hO3 (HF.out _ HG.out) HG.out)
    clear hO3 hg HG cm fm cm2 cm3 hB HF HK cd cq HO hC hi hz0 hz1 hz2
    go_wp2
    go_end0
    exact ⟨rfl, HE1.out⟩

/-- What stands in memory between the rounds of madeOfBoth: the function, the row, and the variable that holds it. -/
structure PairAt (w : World) (fn : Nat) (caps : Array Value) (B cap n : Nat) (us : List Int) (W : World) : Prop where
  old : Below w.heap.size w W
  fun_ : W.heap[B]? = some (.cells #[.func (.func fn) #[] caps] 70 (0, 0))
  var : W.heap[B + 2]? = some (.cells #[.slice (some ⟨B + 1, 0, none⟩) n cap] 25 (0, 0))
  own : OwnK 2 w.heap.size (B + 1) n cap us W
theorem PairAt.below {w : World} {fn : Nat} {caps : Array Value} {B cap n : Nat} {us : List Int} {W W' : World} (h : PairAt w fn caps B cap n us W) (hb : Below W.heap.size W W') : PairAt w fn caps B cap n us W' :=
  ⟨h.old.trans (hb.mono h.old.size), (hb.block _ (lt_of_block h.fun_)).trans h.fun_, (hb.block _ (lt_of_block h.var)).trans h.var, h.own.stays hb⟩
theorem PairAt.new (w : World) (fn : Nat) (caps : Array Value) (m : Nat) (hm : m ≤ 1000) :
    PairAt w fn caps w.heap.size m 0 [] (((w.alloc (.cells #[.func (.func fn) #[] caps] 70)).alloc (.cells (madeCells #[.int .i64 0] m) 2)).alloc (.cells #[.slice (some ⟨w.heap.size + 1, 0, none⟩) 0 m] 25)) := by
  have h1 := own_room 2 (w.alloc (.cells #[.func (.func fn) #[] caps] 70)) m (by omega)
  have e1 : (w.alloc (.cells #[.func (.func fn) #[] caps] 70)).heap.size = w.heap.size + 1 := by simp
  rw [e1] at h1
  refine ⟨?_, ?_, ?_, ?_⟩
  · exact (((Below.refl _ _).alloc (Nat.le_refl _) _).alloc (by simp) _).alloc (by simp; omega) _
  · rw [Below.heap_alloc _ _ _ (by simp; omega), Below.heap_alloc _ _ _ (by simp)]
    exact heap_alloc_new w _
  · have := heap_alloc_new ((w.alloc (.cells #[.func (.func fn) #[] caps] 70)).alloc (.cells (madeCells #[.int .i64 0] m) 2)) (.cells #[.slice (some ⟨w.heap.size + 1, 0, none⟩) 0 m] 25)
    simpa using this
  · exact (h1.low (by omega)).stays ((Below.refl _ _).alloc (Nat.le_refl _) _)
/-- What is made of the first k places of both. -/
def pairK (f : Int → Int → Int) (xs ys : List Int) : Nat → List Int
  | 0 => []
  | k + 1 => pairK f xs ys k ++ [f (xs[k]?.getD 0) (ys[k]?.getD 0)]
theorem pairK_len (f : Int → Int → Int) (xs ys : List Int) (k : Nat) : (pairK f xs ys k).length = k := by
  induction k with
  | zero => rfl
  | succ k ih => simp [pairK, ih]

theorem pairEach_any (fn : Nat) (caps : Array Value) (hE : ∀ args w, (callFunc fn args).run Tryz.prog w = .ok (.enter fn args) w) (a b : Option Addr) (la ca lb cb : Nat) (xs ys : List Int) (w W : World) (ha : Reads .i64 w a la ca xs) (hb : Reads .i64 w b lb cb ys) (hla : la ≤ 1000) (hlb : lb ≤ 1000) (f : Int → Int → Int)
    (hC : ∀ x y wr, Below w.heap.size w wr → Calls Tryz.prog fn (#[.int .i64 x, .int .i64 y] ++ caps) wr fun e w' => e = .returned (.int .i64 (f x y)) ∧ Below wr.heap.size wr w')
    (h0 : PairAt w fn caps w.heap.size (min la lb) 0 [] W) :
    Calls Tryz.prog 89 #[.slice a la ca, .slice b lb cb, .func (.func 97) #[] #[.pointer (some ⟨w.heap.size + 2, 0, none⟩), .pointer (some ⟨w.heap.size, 0, none⟩)]] W
      fun e w' => e = .returned (.tuple #[]) ∧ PairAt w fn caps w.heap.size (min la lb) (min la lb) (pairK f xs ys (min la lb)) w' := by
  have hS : ∀ s ∈ [w.heap.size + 2, w.heap.size + 1], w.heap.size ≤ s := by simp
  refine (both_any 97 _ (enters_of Tryz.func97 (by kernel_rfl) rfl) [w.heap.size + 2, w.heap.size + 1] a b la ca lb cb xs ys W (ha.below h0.old) (hb.below h0.old) hla hlb ?_ (ha.past hS) (hb.past hS)
    (fun k W => PairAt w fn caps w.heap.size (min la lb) k (pairK f xs ys k) W) h0 (fun k W W' h hb => h.below hb) ?_).mono fun e w' h => ⟨h.1, h.2.1⟩
  · have h1 := lt_of_block h0.var
    intro s hs
    simp at hs
    omega
  · intro k wr hk hk' hI
    have hdr : Below wr.heap.size wr wr.drew := (Below.refl _ _).drew
    refine (pair1_any fn caps hE _ _ (f (xs[k]?.getD 0) (ys[k]?.getD 0)) (w.heap.size + 2) w.heap.size w.heap.size (w.heap.size + 1) k (min la lb) _ wr (by omega) (by omega) hI.fun_ hI.var hI.own (by omega) (by omega) (by omega) ?_).mono ?_
    · exact (hC _ _ _ (hI.old.trans (hdr.mono hI.old.size))).mono fun e w' ⟨h1, h2⟩ => ⟨h1, hdr.trans (h2.mono (Nat.le_refl _))⟩
    · rintro e w' ⟨h1, h2, h3, h4⟩
      exact ⟨h1, ⟨hI.old.trans (h4.to hS hI.old.size), h4.one hI.fun_ (by simp), h3, h2⟩, h4⟩

theorem madeofboth_any (fn : Nat) (caps : Array Value) (hE : ∀ args w, (callFunc fn args).run Tryz.prog w = .ok (.enter fn args) w) (a b : Option Addr) (la ca lb cb : Nat) (xs ys : List Int) (w : World) (ha : Reads .i64 w a la ca xs) (hb : Reads .i64 w b lb cb ys) (hla : la ≤ 1000) (hlb : lb ≤ 1000) (f : Int → Int → Int)
    (hC : ∀ x y wr, Below w.heap.size w wr → Calls Tryz.prog fn (#[.int .i64 x, .int .i64 y] ++ caps) wr fun e w' => e = .returned (.int .i64 (f x y)) ∧ Below wr.heap.size wr w') :
    Calls Tryz.prog 70 #[.slice a la ca, .slice b lb cb, .func (.func fn) #[] caps] w fun e w' => Made w (min la lb) (pairK f xs ys (min la lb)) e w' := by
  obtain ⟨m, hm⟩ : ∃ m, min la lb = m := ⟨_, rfl⟩
  have hm1 : m ≤ 1000 := by omega
  have HM := hid fun W => pairEach_any fn caps hE a b la ca lb cb xs ys w W ha hb hla hlb f hC
  rw [hm] at HM ⊢
  have hmk := make_room (w.alloc (.cells #[.func (.func fn) #[] caps] 70)) m (by omega)
  clear ha hb hC
  rcases Nat.lt_or_ge lb la with hl | hl
  · obtain rfl : lb = m := by omega
    clear hm
    go_enter Tryz.func70, Tryz.ntmps70
    go_wp2_with fail
    refine (count_any _ _ _ _ hla).mono ?_
    rintro e w' ⟨rfl, rfl⟩
    go_wp2_with fail
    refine (count_any _ _ _ _ hlb).mono ?_
    rintro e w' ⟨rfl, rfl⟩
    go_wp2_with fail
    refine (HM.out _ (PairAt.new _ _ _ _ hm1)).mono ?_
    rintro e w' ⟨rfl, h⟩
    have cv := cell_of_one h.var
    have HO := hid h.own
    have HB := hid h.old
    clear h HM hmk
    go_wp2
    go_ret
    exact ⟨_, _, rfl, HO.out, HB.out⟩
  · obtain rfl : la = m := by omega
    clear hm
    go_enter Tryz.func70, Tryz.ntmps70
    go_wp2_with fail
    refine (count_any _ _ _ _ hla).mono ?_
    rintro e w' ⟨rfl, rfl⟩
    go_wp2_with fail
    refine (count_any _ _ _ _ hlb).mono ?_
    rintro e w' ⟨rfl, rfl⟩
    go_wp2_with fail
    refine (HM.out _ (PairAt.new _ _ _ _ hm1)).mono ?_
    rintro e w' ⟨rfl, h⟩
    have cv := cell_of_one h.var
    have HO := hid h.own
    have HB := hid h.old
    clear h HM hmk
    go_wp2
    go_ret
    exact ⟨_, _, rfl, HO.out, HB.out⟩
theorem vadd_any (a b : Option Addr) (la ca lb cb : Nat) (xs ys : List Int) (w : World) (ha : Reads .i64 w a la ca xs) (hb : Reads .i64 w b lb cb ys) (hla : la ≤ 1000) (hlb : lb ≤ 1000) :
    Calls Tryz.prog 30 #[.slice a la ca, .slice b lb cb] w fun e w' => Made w (min la lb) (pairK addZ xs ys (min la lb)) e w' := by
  have HE := hid (madeofboth_any 57 #[] (enters_of Tryz.func57 (by kernel_rfl) rfl) a b la ca lb cb xs ys w ha hb hla hlb addZ fun x y wr hb => (add_any x y wr).mono fun e w' ⟨h1, h2⟩ => ⟨h1, by rw [h2]; exact Below.refl _ _⟩)
  clear ha hb
  go_enter Tryz.func30, Tryz.ntmps30
  go_wp2_with fail
  refine HE.out.mono ?_
  rintro e w' ⟨g, cap, rfl, hO, hb⟩
  have HO := hid hO
  have HB := hid hb
  clear hO hb HE
  go_wp2
  go_ret
  exact ⟨_, _, rfl, HO.out, HB.out⟩
end Go.Proofs.YtehmdlipacbpfaaGreat
