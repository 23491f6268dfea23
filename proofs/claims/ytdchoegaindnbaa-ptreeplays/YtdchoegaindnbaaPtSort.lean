/-
  slices.SortFunc over marks: the row holds them in their order.
-/
import Derived.Test.YtdchoegaindnbaaPtOrd
import Derived.Test.YtdchoegaindnbaaPtLay
import Derived.Test.YtdchoegaindnbaaPtSeq
namespace Go.Proofs.Ytdchoegaindnbaa
open Go.RowKit Go.Maps Go.Shelf Go.Sort
set_option linter.unusedVariables false
set_option maxRecDepth 1000000

/-- Marks of a list. -/
abbrev MkIn (ss : List Mk) := { m : Mk // m ∈ ss }
def encI (ss : List Mk) (x : MkIn ss) : Value := ptV x.1
def cfI (ss : List Mk) (x y : MkIn ss) : Int := cmpM x.1 y.1
theorem swoI (ss : List Mk) : SWO (ltOf (cfI ss)) where
  irrefl x := by unfold ltOf cfI; have := (cmpM_zero (a := x.1) (b := x.1)).2 ⟨rfl, rfl, rfl⟩; simp [this]
  trans x y z h1 h2 := by unfold ltOf cfI at *; simp only [decide_eq_true_eq] at *; exact cmpM_trans h1 h2
  ntrans x y z h1 h2 := by unfold ltOf cfI at *; simp only [decide_eq_false_iff_not] at *; exact cmpM_ntrans h1 h2
theorem ltI_no {ss : List Mk} (x y : MkIn ss) : ltOf (cfI ss) x y = false ↔ ¬ cmpM x.1 y.1 < 0 := by unfold ltOf cfI; simp only [decide_eq_false_iff_not]
theorem totI {ss : List Mk} (hn : (ss.map Mk.nm).Nodup) (x y : MkIn ss) (h1 : ltOf (cfI ss) x y = false) (h2 : ltOf (cfI ss) y x = false) : x = y := by
  unfold ltOf cfI at *
  simp only [decide_eq_false_iff_not] at *
  have h3 := cmpM_anti x.1 y.1
  have h4 : cmpM x.1 y.1 = 0 := by omega
  obtain ⟨_, e2, e3⟩ := cmpM_zero.1 h4
  exact Subtype.ext (nm_one hn x.2 y.2 (by unfold Mk.nm; rw [e2, e3]))
theorem heap1 {α : Type} [Inhabited α] {enc : α → Value} {W : World} {g m : Nat} {os : Array Obj} {cur : Array Value} {e : TypeId} {fr : Nat × Nat} (d : Array α) (hb : W.heap[g]? = some (.cells cur e fr)) :
    (sortWorld enc W g 0 m d os).heap[g]? = some (.cells (putCells enc 0 d cur) e fr) := by
  have hg : g < W.heap.size := lt_of_block hb
  show ((putRow enc (Sort.ahead W m) g 0 d).heap ++ os)[g]? = _
  rw [Array.getElem?_append_left (by simpa [putRow, mapBlock, Sort.ahead] using hg)]
  simp [putRow, mapBlock, Sort.ahead, Array.getElem?_modify, hb, onCells]
theorem fb1 {α : Type} [Inhabited α] {enc : α → Value} {W : World} {g m : Nat} {os : Array Obj} (d : Array α) : Fb (at1 g) W (sortWorld enc W g 0 m d os) := by
  refine ⟨rfl, rfl, rfl, by simp [sortWorld, grow, putRow, mapBlock, Sort.ahead], fun k hk hne => ?_⟩
  show ((putRow enc (Sort.ahead W m) g 0 d).heap ++ os)[k]? = _
  rw [Array.getElem?_append_left (by simpa [putRow, mapBlock, Sort.ahead] using hk)]
  have : g ≠ k := fun e => hne e.symm
  simp [putRow, mapBlock, Sort.ahead, Array.getElem?_modify, this]
theorem sort_mk {base : Nat} {W : World} {g cap : Nat} {ss : List Mk} (hrow : W.ownsRow base 57 1 (.slice (some ⟨g, 0, none⟩) ss.length cap) ss.length (ss.map ptV)) (hne : ss ≠ []) (hn : (ss.map Mk.nm).Nodup) (hok : ∀ m ∈ ss, m.ok) (hmk : ∀ m ∈ ss, MkB W m) (hl : ss.length ≤ 100000) :
    Calls Try.prog 47 #[.slice (some ⟨g, 0, none⟩) ss.length cap, .func (.func 43) #[] #[]] W fun e w' => e = .returned (.tuple #[]) ∧ Hid (∃ R : List Mk, R.Perm ss ∧ R.Pairwise (fun x y => cmpM x y < 0) ∧ w'.ownsRow base 57 1 (.slice (some ⟨g, 0, none⟩) ss.length cap) ss.length (R.map ptV) ∧ Fb (at1 g) W w') := by
  obtain ⟨m0, hm0⟩ := List.exists_mem_of_ne_nil ss hne
  haveI : Inhabited (MkIn ss) := ⟨⟨m0, hm0⟩⟩
  rcases id hrow.2 with ⟨hv, h0⟩ | ⟨g', cap', cur, hv, hB, hg, h1, h2, h3, h4⟩
  · cases hv
  cases hv
  have hgl : g < W.heap.size := lt_of_block hg
  have hmg : ∀ m ∈ ss, m.blk ≠ g := fun m hm e => by
    have := hmk m hm
    unfold MkB at this
    rw [e, hg] at this
    simp at this
  have hH : Holds (encI ss) W g 0 ss.attach.toArray := fun j hj => by
    have hj' : j < ss.length := by simpa using hj
    rw [Nat.zero_add]
    refine ⟨?_, frozen_of_row _ _ j _ _ hg⟩
    have hcell := World.ownsRow.cellAt hrow j (by omega)
    rw [hcell, List.getElem?_map, List.getElem?_eq_getElem hj']
    unfold encI
    rw [getElem!_pos _ j (by simpa using hj)]
    simp
  have hcon := Any.slices_SortFunc_total Try.sortMk (encI ss) (fun x => rfl) (cfI ss) (swoI ss) 43 #[] g 0 cap ss.attach.toArray W (enters_of Try.func43 (by kernel_rfl) rfl)
    (fun m os dk hs x y => by
      have hsame : ∀ z : MkIn ss, MkB (sortWorld (encI ss) W g 0 m dk os) z.1 := fun z => (hmk z.1 z.2).same ((fb1 (enc := encI ss) (m := m) (os := os) dk).block _ (hmk z.1 z.2).lt (hmg z.1 z.2))
      refine (mcompare (hsame x) (hsame y) (hok x.1 x.2) (hok y.1 y.2)).mono ?_
      rintro e w' ⟨rfl, H⟩
      exact ⟨rfl, H.out.grow⟩) hH hgl (by simp; omega) (totI hn)
  change Calls Try.prog 47 _ _ _ at hcon
  rw [show ss.attach.toArray.size = ss.length by simp] at hcon
  refine hcon.mono ?_
  rintro e w' ⟨rfl, m, os, rfl⟩
  refine ⟨rfl, ?_⟩
  have hp : (ss.attach.mergeSort fun x y => !(ltOf (cfI ss)) y x).Perm ss.attach := List.mergeSort_perm _ _
  have hpm : ((ss.attach.mergeSort fun x y => !(ltOf (cfI ss)) y x).map Subtype.val).Perm ss := by
    have := hp.map Subtype.val
    rwa [List.attach_map_subtype_val] at this
  have hlen : (ss.attach.mergeSort fun x y => !(ltOf (cfI ss)) y x).length = ss.length := by rw [hp.length_eq]; simp
  refine ⟨_, hpm, ?_, ?_, fb1 _⟩
  · have tr : ∀ a b c : MkIn ss, (!(ltOf (cfI ss)) b a) = true → (!(ltOf (cfI ss)) c b) = true → (!(ltOf (cfI ss)) c a) = true := fun a b c h1 h2 => by
      simp only [Bool.not_eq_true'] at *
      exact (swoI ss).ntrans c b a h2 h1
    have tot : ∀ a b : MkIn ss, ((!(ltOf (cfI ss)) b a) || (!(ltOf (cfI ss)) a b)) = true := fun a b => by
      simp only [Bool.or_eq_true, Bool.not_eq_true', ltI_no]
      have := cmpM_anti a.1 b.1
      omega
    have hs := List.pairwise_mergeSort tr tot ss.attach
    have hnd : (ss.attach.mergeSort fun x y => !(ltOf (cfI ss)) y x).Nodup := hp.nodup_iff.2 (by
      have h8 : (ss.attach.map Subtype.val).Nodup := by rw [List.attach_map_subtype_val]; exact hn.of_map _ fun a b hab e => hab (by rw [e])
      exact h8.of_map _ fun a b hab e => hab (by rw [e]))
    rw [List.pairwise_map]
    refine (hs.and hnd).imp fun {a b} h => ?_
    have h5 := h.1
    simp only [Bool.not_eq_true', ltI_no] at h5
    have h6 := cmpM_anti a.1 b.1
    rcases Int.lt_trichotomy (cmpM a.1 b.1) 0 with h7 | h7 | h7
    · exact h7
    · obtain ⟨_, e2, e3⟩ := cmpM_zero.1 h7
      exact absurd (Subtype.ext (nm_one hn a.2 b.2 (by unfold Mk.nm; rw [e2, e3]))) h.2
    · omega
  · refine ⟨by simp [hlen], .inr ⟨g, cap, _, rfl, hB, heap1 _ hg, h1, h2, by simpa [putCells] using h3, ?_⟩⟩
    apply List.ext_getElem?
    intro j
    by_cases hj : j < ss.length * 1
    · have hj' : j < ss.length := by omega
      rw [List.getElem?_take_of_lt hj, Array.getElem?_toList]
      have hjc : j < cur.size := by omega
      have hjm : j < (ss.attach.mergeSort fun x y => !(ltOf (cfI ss)) y x).length := by omega
      simp only [putCells, Array.getElem?_mapIdx, Array.getElem?_eq_getElem hjc, Option.map_some, Nat.zero_le, Nat.zero_add, true_and, Nat.sub_zero]
      rw [if_pos (by simpa using hjm), List.getElem?_map, List.getElem?_map, List.getElem?_eq_getElem hjm, getElem!_pos _ j (by simpa using hjm)]
      simp [encI]
    · rw [List.getElem?_take_eq_none (by omega), List.getElem?_eq_none (by simp [hlen]; omega)]
end Go.Proofs.Ytdchoegaindnbaa
