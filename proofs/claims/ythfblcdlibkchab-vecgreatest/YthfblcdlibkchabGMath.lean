/-
  What it means that places are those of the greatest ones: each is there, each comes once, they fall, and no other one is greater than the last one.
-/
import Derived.Test.YthfblcdlibkchabHelps
import Derived.Deep.QuietTactic
import Derived.BigQuiet
namespace Go.Proofs.Ythfblcdlibkchab
open Go.RowKit
set_option linter.unusedVariables false
set_option maxRecDepth 1000000

/-- The place that stands at i. -/
def pl (ps : List Int) (i : Nat) : Nat := (ps[i]?.getD 0).toNat
theorem marksK_once (zs : List Int) (k : Nat) : (marksK zs k).Pairwise fun a b => a.1 ≠ b.1 := by
  induction k with
  | zero => exact List.Pairwise.nil
  | succ k ih =>
    simp only [marksK]
    refine List.pairwise_append.2 ⟨ih, by simp, ?_⟩
    intro a ha b hb
    obtain ⟨i, hi, rfl⟩ := marksK_mem.1 ha
    rw [List.mem_singleton.1 hb]
    simp
    omega
/-- What is told of the places of the greatest ones. -/
structure TopSpec (zs : List Int) (n K : Nat) (ps : List Int) : Prop where
  at_ : ∀ i, i < K → pl ps i < n ∧ ps[i]?.getD 0 = (pl ps i : Int)
  once : ∀ i j, i < j → j < K → pl ps i ≠ pl ps j
  falls : ∀ i, i + 1 < K → wi (zs[pl ps (i + 1)]?.getD 0) ≤ wi (zs[pl ps i]?.getD 0)
  rest : ∀ m, m < n → (∀ i, i < K → pl ps i ≠ m) → 0 < K → wi (zs[m]?.getD 0) ≤ wi (zs[pl ps (K - 1)]?.getD 0)
theorem TopOf.spec {zs : List Int} {n K : Nat} {ps : List Int} (h : TopOf zs n K ps) : TopSpec zs n K ps := by
  obtain ⟨qs, rest, rfl, hl, hf, hp, hr⟩ := h
  have hm : ∀ i (hi : i < K), ∃ m : Nat, m < n ∧ qs[i]'(by omega) = ((m : Int), wi (zs[m]?.getD 0)) := by
    intro i hi
    have : qs[i]'(by omega) ∈ qs ++ rest := List.mem_append_left _ (List.getElem_mem _)
    exact marksK_mem.1 (hp.subset this)
  have hpl : ∀ i (hi : i < K), pl (qs.map Prod.fst) i < n ∧ (qs.map Prod.fst)[i]?.getD 0 = (pl (qs.map Prod.fst) i : Int) ∧ qs[i]'(by omega) = ((pl (qs.map Prod.fst) i : Int), wi (zs[pl (qs.map Prod.fst) i]?.getD 0)) := by
    intro i hi
    obtain ⟨m, h1, h2⟩ := hm i hi
    have e : (qs.map Prod.fst)[i]?.getD 0 = (m : Int) := by
      rw [List.getElem?_map, List.getElem?_eq_getElem (by omega : i < qs.length), h2]
      rfl
    have e2 : pl (qs.map Prod.fst) i = m := by unfold pl; rw [e]; omega
    rw [e2]
    exact ⟨h1, e, h2⟩
  have hon : (qs ++ rest).Pairwise fun a b => a.1 ≠ b.1 := (hp.pairwise_iff (fun h e => h e.symm)).2 (marksK_once zs n)
  have hq := (List.pairwise_append.1 hon).1
  refine ⟨fun i hi => ⟨(hpl i hi).1, (hpl i hi).2.1⟩, ?_, ?_, ?_⟩
  · intro i j hij hj e
    have h1 := (hpl i (by omega)).2.2
    have h2 := (hpl j hj).2.2
    have := List.pairwise_iff_getElem.1 hq i j (by omega) (by omega) hij
    rw [h1, h2, e] at this
    exact this rfl
  · intro i hi
    have h1 := (hpl i (by omega)).2.2
    have h2 := (hpl (i + 1) hi).2.2
    have := List.pairwise_iff_getElem.1 hf i (i + 1) (by omega) (by omega) (by omega)
    rw [h1, h2] at this
    unfold leM ltM at this
    simp only at this
    omega
  · intro m hmn hno hK
    have hmem : ((m : Int), wi (zs[m]?.getD 0)) ∈ qs ++ rest := hp.symm.subset (marksK_mem.2 ⟨m, hmn, rfl⟩)
    rcases List.mem_append.1 hmem with hq' | hr'
    · obtain ⟨i, hi, he⟩ := List.getElem_of_mem hq'
      have h1 := (hpl i (by omega)).2.2
      rw [he] at h1
      have := congrArg Prod.fst h1
      simp at this
      exact absurd this.symm (by have := hno i (by omega); omega)
    · have := hr _ hr' (qs[K - 1]'(by omega)) (List.getElem_mem _)
      rw [(hpl (K - 1) (by omega)).2.2] at this
      unfold leM ltM at this
      simp only at this
      omega

/-- Whether a place was met. -/
def mt (bs : List Bool) (i : Nat) : Bool := bs[i]?.getD false
/-- The row in block g holds these truths. -/
def OwnB (g m : Nat) (bs : List Bool) (w : World) : Prop := w.ownsRow g 4 1 (.slice (some ⟨g, 0, none⟩) m m) m (bs.map Value.bool)
theorem OwnB.len {g m : Nat} {bs : List Bool} {w : World} (h : OwnB g m bs w) : bs.length = m := by have := h.1; simpa using this
theorem OwnB.cell {g m : Nat} {bs : List Bool} {w : World} (h : OwnB g m bs w) {k : Nat} (hk : k < m) : w.cell? ⟨g, k, none⟩ = some (.bool (mt bs k)) := by
  have hl := h.len
  rw [World.ownsRow.cellAt h k (by omega)]
  unfold mt
  simp [(by omega : k < bs.length)]
theorem OwnB.frozen {g m : Nat} {bs : List Bool} {w : World} (h : OwnB g m bs w) (k : Nat) : w.frozen? ⟨g, k, none⟩ = false := World.ownsRow.frozenAt h k
theorem OwnB.set {g m : Nat} {bs : List Bool} {w : World} (h : OwnB g m bs w) (k : Nat) (v : Bool) : OwnB g m (bs.set k v) (w.setCell ⟨g, k, none⟩ (.bool v)) := by
  have := (World.ownsRow.stored h k (.bool v)).1
  unfold OwnB
  rw [List.map_set]
  exact this
theorem Try.info4 : (Try.prog.info? 4).map (fun i => (i.zero, i.size, i.bytes)) = some (some (.bool false), 1, 1) := by kernel_rfl
theorem make_bools (w : World) (m : Nat) (hm : m ≤ 1001) : (Instr.makeSlice 27 (.int .i64 (m : Int)) (.int .i64 (m : Int))).run Try.prog w = .ok (.slice (some ⟨w.heap.size, 0, none⟩) m m) (w.alloc (.cells (madeCells #[.bool false] m) 4)) := by
  obtain ⟨i0, hi, hz0, hz1, hz2⟩ := info_parts Try.info4
  have := run_make (P := Try.prog) w 27 4 i0 (.bool false) Try.underlying27 hi hz0 .i64 .i64 (m : Int) (m : Int) (by omega) (Int.le_refl _) (by rw [hz2]; omega) (by omega)
  rw [this, hz1, Int.toNat_natCast, Nat.mul_one]
  rfl
theorem own_bools (w : World) (m : Nat) (hm : m ≤ 1001) : OwnB w.heap.size m (List.replicate m false) (w.alloc (.cells (madeCells #[.bool false] m) 4)) := by
  have := World.ownsRow_lit (base := w.heap.size) (e := 4) (size := 1) w (madeCells #[.bool false] m) m (Nat.le_refl _) (by unfold maxLen; omega) (by simp [madeCells])
  unfold OwnB
  rw [List.map_replicate, ← toList_madeCells_one]
  exact this
theorem mt_none (n i : Nat) : mt (List.replicate n false) i = false := by
  unfold mt
  rw [List.getElem?_replicate]
  split <;> rfl
theorem mt_same {bs : List Bool} {B : Nat} (h : B < bs.length) : mt (bs.set B true) B = true := by unfold mt; simp [h]
theorem mt_other {bs : List Bool} {B i : Nat} (h : i ≠ B) : mt (bs.set B true) i = mt bs i := by
  unfold mt
  rw [List.getElem?_set, if_neg (fun e => h e.symm)]
/-- The places that were met are the first k of ps. -/
def MetK (ps : List Int) (bs : List Bool) (k : Nat) : Prop := ∀ n, mt bs n = true ↔ ∃ j, j < k ∧ pl ps j = n
theorem MetK.start (ps : List Int) (n : Nat) : MetK ps (List.replicate n false) 0 := by
  intro m
  rw [mt_none]
  constructor
  · intro h; cases h
  · rintro ⟨j, hj, _⟩; omega
theorem MetK.next {ps : List Int} {bs : List Bool} {k : Nat} (h : MetK ps bs k) (hl : pl ps k < bs.length) : MetK ps (bs.set (pl ps k) true) (k + 1) := by
  intro n
  by_cases e : n = pl ps k
  · subst e
    rw [mt_same hl]
    exact ⟨fun _ => ⟨k, by omega, rfl⟩, fun _ => rfl⟩
  · rw [mt_other e, h n]
    constructor
    · rintro ⟨j, hj, hn⟩; exact ⟨j, by omega, hn⟩
    · rintro ⟨j, hj, hn⟩
      rcases (by omega : j < k ∨ j = k) with h1 | rfl
      · exact ⟨j, h1, hn⟩
      · exact absurd hn.symm e
theorem MetK.new {zs : List Int} {n K : Nat} {ps : List Int} {bs : List Bool} {k : Nat} (h : MetK ps bs k) (hs : TopSpec zs n K ps) (hk : k < K) : mt bs (pl ps k) = false := by
  cases hb : mt bs (pl ps k) with
  | false => rfl
  | true =>
    obtain ⟨j, hj, he⟩ := (h _).1 hb
    exact absurd he (hs.once j k hj hk)
theorem kof_val2 {k : Int} {len K : Nat} (h : Kof k len K) : (if (len : Int) < (if k < 0 then 0 else k) then (len : Int) else if k < 0 then 0 else k) = (K : Int) := by
  unfold Kof at h
  by_cases h1 : k < 0
  · rw [if_pos h1, if_neg (by omega)]; omega
  · rw [if_neg h1]
    by_cases h2 : (len : Int) < k
    · rw [if_pos h2]; omega
    · rw [if_neg h2]; omega
theorem Reads.at {k : IntKind} {w : World} {b o len cap : Nat} {zs : List Int} (h : Reads k w (some ⟨b, o, none⟩) len cap zs) {i : Nat} (hi : i < len) : w.cell? ⟨b, o + i, none⟩ = some (.int k (zs[i]?.getD 0)) := by
  obtain ⟨b', o', e, c⟩ := h.cell i hi
  cases e
  exact c
end Go.Proofs.Ythfblcdlibkchab
