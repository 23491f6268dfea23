/-
  KvMath3: Mathematics of layer 14: what is true of the entries of a cache (OkE: their lengths, their beginnings, no doubles; OkU: their last uses), and that Find and Put keep it; how long the longest one is that is found; how many become entries.
  KvMath4: Mathematics of layer 14: all that is true of a cache (OkK), kept by Find, Put and Clear.
  KvMath5: Mathematics of layer 14: an entry's children in a tree; a leaf is an entry without children; who goes is named by being the least used.
  DMath: Mathematics of the draws: a number mixed (mixZ) and the way back, the draw of a seed (atZ), the draw below a number (belowZ), the upper half of a product, a seed made of labels (deriveZ).
  Draws: Contracts: rand.Mix and the document's Mix hand back mixZ, the two At atZ, bits.Mul64 and the document's upper the upper half of the product, the two Below belowZ; alive is true.
  Derives: Contracts: rand.Derive and the document's Derive hand back deriveZ.
  Nums: Contracts: the bounds, sums, products, quotients, whole numbers and whole parts, of the program and of the document.
  Confs: Configurations (Cf); contracts: between and the document's in, the two May, New, Config.
  Weights: Contracts: tableOf, the weights of the program's and of the document's tables.
  Mrows: A row of slices that the call owns (OwnS), a table that it made (TblMade); contracts: makeRow and makeRows, with whatever method they are handed.
  Models: Contracts: Token, Place and Rows of a model.
  MTables: Contract: Rows of a model, a layer's table that is there.
  RowsI: A row of the call's own whose cells are slices of numbers (RowsI), and an append of one to it; a row that is written over cell by cell.
  RModels: Contracts of the document's model: row, Token, Place, Rows.
  RMTables: Contract of the document's Rows; the statements' own 'alive'.
-/
import Derived.Test.YtdomjdfancpbbaaGreatPk02
import Derived.Test.YtdomjdfancpbbaaGreatPk01
import Derived.Laws.Bits64
import Derived.Laws.Bits128
import Derived.Laws.BitsAllLaws
import Derived.Deep.DeepCutAuto
namespace Go.Proofs.YtdomjdfancpbbaaGreat
open Go.RowKit
set_option linter.unusedVariables false

/-- The texts of the entries. -/
def txs (es : List En) : List (List Int) := es.map (·.1)
theorem mem_txs {es : List En} {x : List Int} : x ∈ txs es ↔ ∃ i, i < es.length ∧ (en es i).1 = x := by
  unfold txs
  rw [List.mem_map]
  constructor
  · rintro ⟨e, he, rfl⟩
    obtain ⟨i, hi, rfl⟩ := List.getElem_of_mem he
    exact ⟨i, hi, by unfold en; rw [List.getElem?_eq_getElem hi]; rfl⟩
  · rintro ⟨i, hi, rfl⟩
    refine ⟨es[i], List.getElem_mem hi, ?_⟩
    unfold en
    rw [List.getElem?_eq_getElem hi]
    rfl
theorem en_mem {es : List En} {i : Nat} (hi : i < es.length) : en es i ∈ es := by
  unfold en
  rw [List.getElem?_eq_getElem hi]
  exact List.getElem_mem hi
theorem mem_en {es : List En} {e : En} (h : e ∈ es) : ∃ i, i < es.length ∧ en es i = e := by
  obtain ⟨i, hi, rfl⟩ := List.getElem_of_mem h
  exact ⟨i, hi, by unfold en; rw [List.getElem?_eq_getElem hi]; rfl⟩
theorem txs_len (es : List En) : (txs es).length = es.length := by unfold txs; simp
theorem txs_set {es : List En} {p : Nat} {t : Int} : txs (es.set p ((en es p).1, t)) = txs es := by
  unfold txs
  rw [List.map_set]
  apply List.ext_getElem (by simp)
  intro i h1 h2
  rw [List.getElem_set]
  split
  · rename_i e
    subst e
    simp only [List.length_map] at h2
    simp only [List.getElem_map]
    unfold en
    rw [List.getElem?_eq_getElem h2]
    rfl
  · rfl
theorem txs_use {tm : Int} {ts : List Int} {es : List En} {k : Nat} : txs (useK tm ts es k) = txs es := by
  unfold txs useK
  rw [List.map_append, List.map_map]
  have e : ((fun x : En => x.1) ∘ fun e : En => if begB e.1 ts = true then (e.1, tm) else e) = fun x : En => x.1 := by
    funext e
    simp only [Function.comp]
    split <;> rfl
  rw [e, ← List.map_append, List.take_append_drop]
theorem plcI_lt {es : List En} {x : List Int} : plcI es x < es.length ↔ x ∈ txs es := by
  unfold plcI txs
  rw [List.findIdx_lt_length, List.mem_map]
  constructor
  · rintro ⟨e, he, h⟩
    exact ⟨e, he, eq_of_beq h⟩
  · rintro ⟨e, he, rfl⟩
    exact ⟨e, he, by simp⟩
theorem plcZ_mem {es : List En} {x : List Int} : 0 ≤ plcZ es x ↔ x ∈ txs es := by
  rw [← plcI_lt]
  unfold plcZ
  split
  · constructor
    · intro _; assumption
    · intro _; omega
  · constructor
    · intro h; omega
    · intro h; omega
theorem begB_trans {a b c : List Int} (h : begB a b = true) (k : begB b c = true) : begB a c = true := by
  unfold begB at *
  rw [List.isPrefixOf_iff_prefix] at *
  exact h.trans k
theorem begB_take {a : List Int} (n : Nat) : begB (a.take n) a = true := by
  unfold begB
  rw [List.isPrefixOf_iff_prefix]
  exact List.take_prefix n a
theorem begB_eq {a b : List Int} (h : begB a b = true) : a = b.take a.length := by
  unfold begB at h
  rw [List.isPrefixOf_iff_prefix] at h
  exact List.prefix_iff_eq_take.1 h
theorem begB_two {a b c : List Int} (h : begB a c = true) (k : begB b c = true) : begB a b = true ∨ begB b a = true := by
  unfold begB at *
  simp only [List.isPrefixOf_iff_prefix] at *
  exact List.prefix_or_prefix_of_prefix h k
/-- The entries: each is as long as some pages, with each stand its beginnings, none stands twice. -/
structure OkE (sz : Nat) (es : List En) : Prop where
  mult : ∀ x ∈ txs es, ∃ j, 1 ≤ j ∧ x.length = j * sz
  shut : ∀ x ∈ txs es, ∀ j, 1 ≤ j → j * sz ≤ x.length → x.take (j * sz) ∈ txs es
  one : (txs es).Nodup
theorem oke_nil (sz : Nat) : OkE sz [] := ⟨fun x h => by simp [txs] at h, fun x h => by simp [txs] at h, by simp [txs]⟩
theorem OkE.same {sz : Nat} {es fs : List En} (h : OkE sz es) (e : txs fs = txs es) : OkE sz fs := ⟨by rw [e]; exact h.mult, by rw [e]; exact h.shut, by rw [e]; exact h.one⟩
/-- The last uses: none is behind now, and of like ones one is a beginning of the other. -/
structure OkU (tm : Int) (es : List En) : Prop where
  bd : ∀ e ∈ es, 0 ≤ e.2 ∧ e.2 ≤ tm
  like : ∀ e ∈ es, ∀ f ∈ es, e.2 = f.2 → begB e.1 f.1 = true ∨ begB f.1 e.1 = true
theorem oku_nil (tm : Int) : OkU tm [] := ⟨fun e h => by simp at h, fun e h => by simp at h⟩
/-- In the midst of a call: what is used now is a beginning of its text. -/
structure OkV (tm : Int) (ts : List Int) (es : List En) : Prop where
  bd : ∀ e ∈ es, 0 ≤ e.2 ∧ e.2 ≤ tm
  now : ∀ e ∈ es, e.2 = tm → begB e.1 ts = true
  like : ∀ e ∈ es, ∀ f ∈ es, e.2 = f.2 → begB e.1 f.1 = true ∨ begB f.1 e.1 = true
theorem OkU.next {tm : Int} {es : List En} (h : OkU tm es) (h0 : 0 ≤ tm) (ts : List Int) : OkV (tm + 1) ts es :=
  ⟨fun e he => ⟨(h.bd e he).1, by have := (h.bd e he).2; omega⟩, fun e he k => by have := (h.bd e he).2; omega, h.like⟩
theorem OkV.u {tm : Int} {ts : List Int} {es : List En} (h : OkV tm ts es) : OkU tm es := ⟨h.bd, h.like⟩
/-- One that is a beginning is used, or becomes an entry. -/
theorem OkV.put {tm : Int} {ts : List Int} {es fs : List En} (h : OkV tm ts es) (h0 : 0 ≤ tm) (hf : ∀ e ∈ fs, e ∈ es ∨ (e.2 = tm ∧ begB e.1 ts = true)) : OkV tm ts fs := by
  refine ⟨fun e he => ?_, fun e he k => ?_, fun e he f hf' k => ?_⟩
  · rcases hf e he with h1 | ⟨h1, _⟩
    · exact h.bd e h1
    · omega
  · rcases hf e he with h1 | ⟨_, h1⟩
    · exact h.now e h1 k
    · exact h1
  · rcases hf e he with h1 | ⟨h1, h2⟩
    · rcases hf f hf' with h3 | ⟨h3, h4⟩
      · exact h.like e h1 f h3 k
      · exact begB_two (h.now e h1 (by omega)) h4
    · have h5 : begB f.1 ts = true := by
        rcases hf f hf' with h3 | ⟨h3, h4⟩
        · exact h.now f h3 (by omega)
        · exact h4
      exact begB_two h2 h5
theorem OkU.find {tm : Int} {es : List En} (h : OkU tm es) (h0 : 0 ≤ tm) (ts : List Int) (k : Nat) : OkU (tm + 1) (useK (tm + 1) ts es k) := by
  refine ((h.next h0 ts).put (by omega) fun e he => ?_).u
  obtain ⟨i, hi, rfl⟩ := mem_en he
  rw [useK_len] at hi
  rw [useK_at _ _ hi]
  split
  · rename_i q; exact .inr ⟨rfl, q.2⟩
  · exact .inl (en_mem hi)
theorem leaf_iff {es : List En} {k : Nat} (h : leafB es k = true) {i : Nat} (hi : i < es.length) (hk : i ≠ k) : begB (en es k).1 (en es i).1 = false := by
  rw [Bool.eq_false_iff]
  intro e
  rw [leaf_no hi hk e] at h
  cases h
theorem goB_iff {es : List En} {ts : List Int} {i : Nat} : goB es ts i = true ↔ leafB es i = true ∧ begB (en es i).1 ts = false := by
  unfold goB
  rw [Bool.and_eq_true, Bool.not_eq_true']
/-- The one that goes: it may, and was used the longest ago. -/
theorem oldK_go (es : List En) (ts : List Int) : ∀ k, (oldK es ts k < 0 ∧ (∀ i, i < k → goB es ts i = false)) ∨ (∃ o : Nat, oldK es ts k = o ∧ o < k ∧ goB es ts o = true ∧ ∀ i, i < k → goB es ts i = true → (en es o).2 ≤ (en es i).2) := by
  intro k
  induction k with
  | zero => left; exact ⟨by simp [oldK], fun i hi => by omega⟩
  | succ k ih =>
    by_cases hg : goB es ts k = true
    · rcases ih with ⟨h1, h2⟩ | ⟨o, h1, h2, h3, h4⟩
      · right
        refine ⟨k, ?_, by omega, hg, fun i hi hgi => ?_⟩
        · simp only [oldK]; rw [if_pos (by simp [hg, h1])]
        · rcases (by omega : i < k ∨ i = k) with h5 | rfl
          · rw [h2 i h5] at hgi; cases hgi
          · exact Int.le_refl _
      · by_cases hl : (en es k).2 < (en es o).2
        · right
          refine ⟨k, ?_, by omega, hg, fun i hi hgi => ?_⟩
          · simp only [oldK]; rw [h1, Int.toNat_natCast, if_pos (by simp [hg, hl])]
          · rcases (by omega : i < k ∨ i = k) with h5 | rfl
            · have := h4 i h5 hgi; omega
            · exact Int.le_refl _
        · right
          refine ⟨o, ?_, by omega, h3, fun i hi hgi => ?_⟩
          · simp only [oldK]
            rw [h1, Int.toNat_natCast, if_neg (by simp [hg, hl])]
          · rcases (by omega : i < k ∨ i = k) with h5 | rfl
            · exact h4 i h5 hgi
            · omega
    · have hg' : goB es ts k = false := by simpa using hg
      have e : oldK es ts (k + 1) = oldK es ts k := by simp only [oldK]; rw [if_neg (by simp [hg'])]
      rcases ih with ⟨h1, h2⟩ | ⟨o, h1, h2, h3, h4⟩
      · left
        refine ⟨by rw [e]; exact h1, fun i hi => ?_⟩
        rcases (by omega : i < k ∨ i = k) with h5 | rfl
        · exact h2 i h5
        · exact hg'
      · right
        refine ⟨o, by rw [e]; exact h1, by omega, h3, fun i hi hgi => ?_⟩
        rcases (by omega : i < k ∨ i = k) with h5 | rfl
        · exact h4 i h5 hgi
        · rw [hg'] at hgi; cases hgi
/-- Whoever may go and was used no later is the one that goes. -/
theorem oldK_one {tm : Int} {es : List En} {ts : List Int} (hU : OkU tm es) {i : Nat} (hi : i < es.length) (hg : goB es ts i = true) (hm : ∀ j, j < es.length → goB es ts j = true → (en es i).2 ≤ (en es j).2) : oldK es ts es.length = i := by
  rcases oldK_go es ts es.length with ⟨_, h2⟩ | ⟨o, h1, h2, h3, h4⟩
  · rw [h2 i hi] at hg; cases hg
  · have e1 := h4 i hi hg
    have e2 := hm o h2 h3
    by_cases e : o = i
    · rw [h1, e]
    · exfalso
      rcases hU.like _ (en_mem h2) _ (en_mem hi) (by omega) with h5 | h5
      · have := leaf_iff (goB_iff.1 h3).1 hi (fun h => e h.symm)
        rw [this] at h5; cases h5
      · have := leaf_iff (goB_iff.1 hg).1 h2 e
        rw [this] at h5; cases h5
theorem mem_erase {es : List En} {o : Nat} {e : En} : e ∈ es.eraseIdx o ↔ ∃ i, i < es.length ∧ i ≠ o ∧ en es i = e := by
  rw [List.mem_eraseIdx_iff_getElem]
  constructor
  · rintro ⟨i, h1, h2, rfl⟩
    exact ⟨i, h1, h2, by unfold en; rw [List.getElem?_eq_getElem h1]; rfl⟩
  · rintro ⟨i, h1, h2, rfl⟩
    exact ⟨i, h1, h2, by unfold en; rw [List.getElem?_eq_getElem h1]; rfl⟩
theorem txs_erase {es : List En} {o : Nat} {x : List Int} : x ∈ txs (es.eraseIdx o) ↔ ∃ i, i < es.length ∧ i ≠ o ∧ (en es i).1 = x := by
  unfold txs
  rw [List.mem_map]
  constructor
  · rintro ⟨e, he, rfl⟩
    obtain ⟨i, h1, h2, rfl⟩ := mem_erase.1 he
    exact ⟨i, h1, h2, rfl⟩
  · rintro ⟨i, h1, h2, rfl⟩
    exact ⟨_, mem_erase.2 ⟨i, h1, h2, rfl⟩, rfl⟩
theorem OkE.inj {sz : Nat} {es : List En} (h : OkE sz es) {i j : Nat} (hi : i < es.length) (hj : j < es.length) (e : (en es i).1 = (en es j).1) : i = j := by
  have h1 := h.one
  have e1 : (txs es)[i]'(by rw [txs_len]; exact hi) = (txs es)[j]'(by rw [txs_len]; exact hj) := by
    unfold txs
    rw [List.getElem_map, List.getElem_map]
    unfold en at e
    rw [List.getElem?_eq_getElem hi, List.getElem?_eq_getElem hj] at e
    exact e
  exact (List.getElem_inj h1).1 e1
theorem OkE.erase {sz : Nat} {es : List En} (h : OkE sz es) {o : Nat} (ho : o < es.length) (hl : leafB es o = true) : OkE sz (es.eraseIdx o) ∧ ∀ x, x ∈ txs (es.eraseIdx o) ↔ x ∈ txs es ∧ x ≠ (en es o).1 := by
  have key : ∀ x, x ∈ txs (es.eraseIdx o) ↔ x ∈ txs es ∧ x ≠ (en es o).1 := by
    intro x
    rw [txs_erase, mem_txs]
    constructor
    · rintro ⟨i, h1, h2, rfl⟩
      exact ⟨⟨i, h1, rfl⟩, fun e => h2 (h.inj h1 ho e)⟩
    · rintro ⟨⟨i, h1, rfl⟩, h2⟩
      exact ⟨i, h1, fun e => h2 (by rw [e]), rfl⟩
  refine ⟨⟨fun x hx => h.mult x ((key x).1 hx).1, fun x hx j h1 h2 => ?_, ?_⟩, key⟩
  · obtain ⟨hx1, hx2⟩ := (key x).1 hx
    refine (key _).2 ⟨h.shut x hx1 j h1 h2, fun e => ?_⟩
    obtain ⟨i, hi, rfl⟩ := mem_txs.1 hx1
    have hio : i ≠ o := fun e' => hx2 (by rw [e'])
    have := leaf_iff hl hi hio
    rw [← e, begB_take] at this
    cases this
  · have : txs (es.eraseIdx o) = (txs es).eraseIdx o := by
      unfold txs
      rw [List.eraseIdx_eq_take_drop_succ, List.eraseIdx_eq_take_drop_succ, List.map_append, List.map_take, List.map_drop]
    rw [this]
    exact h.one.sublist (List.eraseIdx_sublist _ _)
/-- A text whose beginnings are there becomes an entry. -/
theorem OkE.add {sz : Nat} {es : List En} (h : OkE sz es) {x : List Int} {t : Int} {j : Nat} (hx : x.length = (j + 1) * sz) (hb : ∀ i, 1 ≤ i → i ≤ j → x.take (i * sz) ∈ txs es) (hz : 1 ≤ sz) (hn : x ∉ txs es) : OkE sz (es ++ [(x, t)]) ∧ ∀ y, y ∈ txs (es ++ [(x, t)]) ↔ y ∈ txs es ∨ y = x := by
  have key : ∀ y, y ∈ txs (es ++ [(x, t)]) ↔ y ∈ txs es ∨ y = x := by intro y; unfold txs; simp
  refine ⟨⟨fun y hy => ?_, fun y hy i h1 h2 => ?_, ?_⟩, key⟩
  · rcases (key y).1 hy with h1 | rfl
    · exact h.mult y h1
    · exact ⟨j + 1, by omega, hx⟩
  · rcases (key y).1 hy with h3 | rfl
    · exact (key _).2 (.inl (h.shut y h3 i h1 h2))
    · have hi : i ≤ j + 1 := by
        rw [hx] at h2
        exact Nat.le_of_mul_le_mul_right h2 (by omega)
      rcases (by omega : i ≤ j ∨ i = j + 1) with h4 | rfl
      · exact (key _).2 (.inl (hb i h1 h4))
      · rw [← hx, List.take_length]
        exact (key _).2 (.inr rfl)
  · unfold txs at hn ⊢
    rw [List.map_append, List.nodup_append]
    refine ⟨h.one, by simp, fun a ha b hb' => ?_⟩
    simp at hb'
    subst hb'
    rintro rfl
    exact hn ha
/-- The longest beginning among the entries. -/
theorem best_is {ts : List Int} {es : List En} {N : Nat} (h1 : ∀ x ∈ txs es, begB x ts = true → x.length ≤ N) (h2 : N = 0 ∨ ts.take N ∈ txs es ∧ N ≤ ts.length) : bestK ts es es.length = N := by
  have a1 : ∀ k, k ≤ es.length → 0 ≤ bestK ts es k ∧ bestK ts es k ≤ N := by
    intro k
    induction k with
    | zero => intro _; simp [bestK]
    | succ k ih =>
      intro hk
      have := ih (by omega)
      simp only [bestK]
      split
      · rename_i hb
        have := h1 _ (mem_txs.2 ⟨k, by omega, rfl⟩) hb
        omega
      · exact this
  have a2 : ∀ i, i < es.length → begB (en es i).1 ts = true → ∀ k, i < k → k ≤ es.length → ((en es i).1.length : Int) ≤ bestK ts es k := by
    intro i hi hb k
    induction k with
    | zero => intro h; omega
    | succ k ih =>
      intro hk hk2
      simp only [bestK]
      rcases (by omega : i < k ∨ i = k) with h | rfl
      · have := ih h (by omega)
        split
        · omega
        · exact this
      · rw [if_pos hb]; omega
  have b1 := a1 es.length (Nat.le_refl _)
  rcases h2 with rfl | ⟨h2, h3⟩
  · omega
  · obtain ⟨i, hi, e⟩ := mem_txs.1 h2
    have := a2 i hi (by rw [e]; exact begB_take N) es.length hi (Nat.le_refl _)
    rw [e, List.length_take, Nat.min_eq_left h3] at this
    omega
/-- Some are there, the next one is not: it is the longest one. -/
theorem OkE.best {sz : Nat} {es : List En} (h : OkE sz es) (hz : 1 ≤ sz) {ts : List Int} {J : Nat} (hJ : ∀ i, 1 ≤ i → i ≤ J → ts.take (i * sz) ∈ txs es) (hl : J * sz ≤ ts.length) (hn : (J + 1) * sz ≤ ts.length → ts.take ((J + 1) * sz) ∉ txs es) : bestK ts es es.length = ((J * sz : Nat) : Int) := by
  refine best_is (fun x hx hb => ?_) ?_
  · obtain ⟨j, hj1, hj2⟩ := h.mult x hx
    rw [hj2]
    have e := begB_eq hb
    have hle := (begB_iff.1 hb).1
    apply Nat.mul_le_mul_right
    apply Nat.le_of_not_lt
    intro hlt
    have hle2 : (J + 1) * sz ≤ j * sz := Nat.mul_le_mul_right _ hlt
    have h5 := h.shut x hx (J + 1) (by omega) (by omega)
    rw [e, List.take_take, Nat.min_eq_left (by omega)] at h5
    exact hn (by omega) h5
  · by_cases h0 : J = 0
    · left; rw [h0]; omega
    · right; exact ⟨hJ J (by omega) (Nat.le_refl _), hl⟩
theorem best_in (ts : List Int) (es : List En) : 0 ≤ bestK ts es es.length ∧ bestK ts es es.length ≤ ts.length ∧ (0 < bestK ts es es.length → ts.take (bestK ts es es.length).toNat ∈ txs es) := by
  have key : ∀ k, k ≤ es.length → 0 ≤ bestK ts es k ∧ bestK ts es k ≤ ts.length ∧ (0 < bestK ts es k → ts.take (bestK ts es k).toNat ∈ txs es) := by
    intro k
    induction k with
    | zero => intro _; exact ⟨by simp [bestK], by simp [bestK], fun h => by simp [bestK] at h⟩
    | succ k ih =>
      intro hk
      obtain ⟨i1, i2, i3⟩ := ih (by omega)
      simp only [bestK]
      split
      · rename_i hb
        have hle := (begB_iff.1 hb).1
        refine ⟨by omega, by omega, fun h => ?_⟩
        by_cases q : bestK ts es k ≤ ((en es k).1.length : Int)
        · rw [show max (bestK ts es k) ((en es k).1.length : Int) = ((en es k).1.length : Int) by omega, Int.toNat_natCast, ← begB_eq hb]
          exact mem_txs.2 ⟨k, by omega, rfl⟩
        · rw [show max (bestK ts es k) ((en es k).1.length : Int) = bestK ts es k by omega]
          exact i3 (by omega)
      · exact ⟨i1, i2, i3⟩
  exact key es.length (Nat.le_refl _)
/-- One round of Put keeps all that. -/
theorem putE_ok {pg tm : Int} {sz j : Nat} {ts : List Int} {E : List En} (hE : OkE sz E) (hz : 1 ≤ sz) (hj : (j + 1) * sz ≤ ts.length) (hp : ∀ i, 1 ≤ i → i ≤ j → ts.take (i * sz) ∈ txs E) :
    (putE pg tm ts (ts.take ((j + 1) * sz)) E = none ∧ ts.take ((j + 1) * sz) ∉ txs E ∧ pg ≤ E.length ∧ oldK E ts E.length < 0) ∨
    ∃ E' d, putE pg tm ts (ts.take ((j + 1) * sz)) E = some (E', d) ∧ OkE sz E' ∧ (∀ y, begB y ts = true → (y ∈ txs E' ↔ y ∈ txs E ∨ y = ts.take ((j + 1) * sz))) ∧ ((d = 0 ∧ ts.take ((j + 1) * sz) ∈ txs E) ∨ (d = 1 ∧ ts.take ((j + 1) * sz) ∉ txs E)) ∧ (∀ e ∈ E', e ∈ E ∨ (e.2 = tm ∧ begB e.1 ts = true)) := by
  obtain ⟨x, hx⟩ : ∃ x, ts.take ((j + 1) * sz) = x := ⟨_, rfl⟩
  have hxl : x.length = (j + 1) * sz := by rw [← hx, List.length_take]; omega
  have hxb : begB x ts = true := by rw [← hx]; exact begB_take _
  have hxt : ∀ i, 1 ≤ i → i ≤ j → x.take (i * sz) ∈ txs E := fun i h1 h2 => by
    have : i * sz ≤ (j + 1) * sz := Nat.mul_le_mul_right _ (by omega)
    rw [← hx, List.take_take, Nat.min_eq_left this]
    exact hp i h1 h2
  rw [hx]
  unfold putE
  by_cases h1 : plcI E x < E.length
  · rw [if_pos h1]
    have hm := plcI_lt.1 h1
    right
    refine ⟨_, _, rfl, hE.same txs_set, fun y hy => ?_, .inl ⟨rfl, hm⟩, fun e he => ?_⟩
    · rw [txs_set]
      constructor
      · exact .inl
      · rintro (h | rfl)
        · exact h
        · exact hm
    · rcases List.mem_or_eq_of_mem_set he with h | rfl
      · exact .inl h
      · right
        refine ⟨rfl, ?_⟩
        have : (en E (plcI E x)).1 = x := by
          unfold en
          rw [List.getElem?_eq_getElem h1]
          exact eq_of_beq (List.findIdx_getElem (p := fun e : En => e.1 == x) (xs := E) (w := h1))
        show begB (en E (plcI E x)).1 ts = true
        rw [this]
        exact hxb
  · rw [if_neg h1]
    have hn : x ∉ txs E := fun h => h1 (plcI_lt.2 h)
    by_cases h2 : pg ≤ (E.length : Int)
    · rw [if_pos h2]
      rcases oldK_go E ts E.length with ⟨h3, _⟩ | ⟨o, h3, h4, h5, _⟩
      · rw [if_pos h3]
        exact .inl ⟨rfl, hn, h2, h3⟩
      · rw [if_neg (by omega), h3, Int.toNat_natCast]
        right
        obtain ⟨g1, g2⟩ := goB_iff.1 h5
        obtain ⟨q1, q2⟩ := hE.erase h4 g1
        have hno : ∀ y, begB y ts = true → y ≠ (en E o).1 := fun y hy e => by rw [e, g2] at hy; cases hy
        obtain ⟨r1, r2⟩ := q1.add (t := tm) hxl (fun i a1 a2 => (q2 _).2 ⟨hxt i a1 a2, hno _ (begB_trans (begB_take _) hxb)⟩) hz (fun h => hn ((q2 _).1 h).1)
        refine ⟨_, _, rfl, r1, fun y hy => ?_, .inr ⟨rfl, hn⟩, fun e he => ?_⟩
        · rw [r2, q2]
          constructor
          · rintro (⟨h, _⟩ | h)
            · exact .inl h
            · exact .inr h
          · rintro (h | h)
            · exact .inl ⟨h, hno y hy⟩
            · exact .inr h
        · rcases List.mem_append.1 he with h | h
          · exact .inl (List.mem_of_mem_eraseIdx h)
          · simp at h; subst h; exact .inr ⟨rfl, hxb⟩
    · rw [if_neg h2]
      right
      obtain ⟨r1, r2⟩ := hE.add (t := tm) hxl hxt hz hn
      refine ⟨_, _, rfl, r1, fun y hy => r2 y, .inr ⟨rfl, hn⟩, fun e he => ?_⟩
      rcases List.mem_append.1 he with h | h
      · exact .inl h
      · simp at h; subst h; exact .inr ⟨rfl, hxb⟩
/-- What the rounds of Put have left, of a text of which just the first j0 beginnings were there. -/
theorem putK_ok {pg tm : Int} {sz j0 : Nat} {ts : List Int} {es : List En} (hE : OkE sz es) (hz : 1 ≤ sz) (hV : OkV tm ts es) (h0 : 0 ≤ tm) (hj0 : ∀ i, 1 ≤ i → i * sz ≤ ts.length → (ts.take (i * sz) ∈ txs es ↔ i ≤ j0)) :
    ∀ j, j * sz ≤ ts.length → ∃ m, m ≤ j ∧ ((putK pg tm sz ts es j).2.2 = false → m = j) ∧ ((putK pg tm sz ts es j).2.2 = true → j0 ≤ m ∧ pg ≤ (putK pg tm sz ts es j).1.length) ∧ OkE sz (putK pg tm sz ts es j).1 ∧ OkV tm ts (putK pg tm sz ts es j).1 ∧
      (∀ i, 1 ≤ i → i * sz ≤ ts.length → (ts.take (i * sz) ∈ txs (putK pg tm sz ts es j).1 ↔ i ≤ j0 ∨ i ≤ m)) ∧ (putK pg tm sz ts es j).2.1 = ((m - j0 : Nat) : Int) := by
  intro j
  induction j with
  | zero => intro _; exact ⟨0, by omega, fun _ => rfl, fun h => by simp [putK] at h, hE, hV, fun i h1 h2 => by rw [show (putK pg tm sz ts es 0).1 = es from rfl, hj0 i h1 h2]; omega, by simp [putK]⟩
  | succ j ih =>
    intro hj
    have hjl : j * sz ≤ ts.length := Nat.le_trans (Nat.mul_le_mul_right _ (by omega)) hj
    obtain ⟨m, m1, m2, m3, m4, m5, m6, m7⟩ := ih hjl
    by_cases hs : (putK pg tm sz ts es j).2.2 = true
    · have e : putK pg tm sz ts es (j + 1) = putK pg tm sz ts es j := putK_stay hs 1
      rw [e]
      exact ⟨m, by omega, (fun h => by rw [hs] at h; cases h), m3, m4, m5, m6, m7⟩
    · have hs' : (putK pg tm sz ts es j).2.2 = false := by simpa using hs
      obtain rfl := m2 hs'
      have hp : ∀ i, 1 ≤ i → i ≤ m → ts.take (i * sz) ∈ txs (putK pg tm sz ts es m).1 := fun i h1 h2 => (m6 i h1 (Nat.le_trans (Nat.mul_le_mul_right _ h2) hjl)).2 (.inr h2)
      have hx := m6 (m + 1) (by omega) hj
      rcases putE_ok (pg := pg) (tm := tm) m4 hz hj hp with ⟨p1, p2, p3, p4⟩ | ⟨E', d, p1, p2, p3, p4, p5⟩
      · have e : putK pg tm sz ts es (m + 1) = ((putK pg tm sz ts es m).1, (putK pg tm sz ts es m).2.1, true) := by
          rw [putK]; simp only [hs', Bool.false_eq_true, if_false, p1]
        rw [e]
        rw [hx] at p2
        exact ⟨m, by omega, fun h => by simp at h, fun _ => ⟨by omega, p3⟩, m4, m5, m6, m7⟩
      · have e : putK pg tm sz ts es (m + 1) = (E', (putK pg tm sz ts es m).2.1 + d, false) := by
          rw [putK]; simp only [hs', Bool.false_eq_true, if_false, p1]
        rw [e]
        refine ⟨m + 1, by omega, fun _ => rfl, fun h => by simp at h, p2, m5.put h0 p5, fun i h1 h2 => ?_, ?_⟩
        · rw [p3 _ (begB_take _), m6 i h1 h2]
          constructor
          · rintro (h | h)
            · omega
            · right
              have hl := congrArg List.length h
              rw [List.length_take, List.length_take, Nat.min_eq_left h2, Nat.min_eq_left hj] at hl
              have := Nat.eq_of_mul_eq_mul_right (by omega) hl
              omega
          · intro h
            rcases (by omega : (i ≤ j0 ∨ i ≤ m) ∨ i = m + 1) with h' | rfl
            · exact .inl h'
            · exact .inr rfl
        · show (putK pg tm sz ts es m).2.1 + d = _
          rw [m7]
          rcases p4 with ⟨rfl, p4⟩ | ⟨rfl, p4⟩
          · rw [hx] at p4; omega
          · rw [hx] at p4; omega
/-- How many beginnings are there. -/
def wasN (sz : Nat) (ts : List Int) (es : List En) : Nat → Nat
  | 0 => 0
  | k + 1 => if wasN sz ts es k = k ∧ ts.take ((k + 1) * sz) ∈ txs es then k + 1 else wasN sz ts es k
theorem OkE.was {sz : Nat} {es : List En} (h : OkE sz es) (hz : 1 ≤ sz) (ts : List Int) : ∃ j0, j0 * sz ≤ ts.length ∧ ∀ i, 1 ≤ i → i * sz ≤ ts.length → (ts.take (i * sz) ∈ txs es ↔ i ≤ j0) := by
  have key : ∀ n, n * sz ≤ ts.length → ∃ j0, j0 ≤ n ∧ ∀ i, 1 ≤ i → i ≤ n → (ts.take (i * sz) ∈ txs es ↔ i ≤ j0) := by
    intro n
    induction n with
    | zero => intro _; exact ⟨0, by omega, fun i h1 h2 => by omega⟩
    | succ n ih =>
      intro hn
      obtain ⟨j0, j1, j2⟩ := ih (Nat.le_trans (Nat.mul_le_mul_right _ (by omega)) hn)
      by_cases hm : ts.take ((n + 1) * sz) ∈ txs es
      · refine ⟨n + 1, by omega, fun i h1 h2 => ⟨fun _ => h2, fun _ => ?_⟩⟩
        have hle : i * sz ≤ (n + 1) * sz := Nat.mul_le_mul_right _ h2
        have := h.shut _ hm i h1 (by rw [List.length_take]; omega)
        rw [List.take_take, Nat.min_eq_left hle] at this
        exact this
      · refine ⟨j0, by omega, fun i h1 h2 => ?_⟩
        rcases (by omega : i ≤ n ∨ i = n + 1) with h3 | rfl
        · exact j2 i h1 h3
        · exact ⟨fun h => absurd h hm, fun h => by omega⟩
  obtain ⟨j0, j1, j2⟩ := key (ts.length / sz) (Nat.div_mul_le_self _ _)
  refine ⟨j0, Nat.le_trans (Nat.mul_le_mul_right _ j1) (Nat.div_mul_le_self _ _), fun i h1 h2 => j2 i h1 ?_⟩
  exact (Nat.le_div_iff_mul_le (by omega)).2 h2
/-- What Put has left, and what is found then. -/
theorem put_all {pg tm : Int} {sz j0 : Nat} {ts : List Int} {es : List En} (hE : OkE sz es) (hz : 1 ≤ sz) (hU : OkU tm es) (h0 : 0 ≤ tm) (hl : j0 * sz ≤ ts.length) (hj0 : ∀ i, 1 ≤ i → i * sz ≤ ts.length → (ts.take (i * sz) ∈ txs es ↔ i ≤ j0)) :
    OkE sz (putK pg (tm + 1) sz ts es (ts.length / sz)).1 ∧ OkU (tm + 1) (putK pg (tm + 1) sz ts es (ts.length / sz)).1 ∧
    ∃ got : Nat, (putK pg (tm + 1) sz ts es (ts.length / sz)).2.1 = got ∧ (j0 + got) * sz ≤ ts.length ∧ bestK ts (putK pg (tm + 1) sz ts es (ts.length / sz)).1 (putK pg (tm + 1) sz ts es (ts.length / sz)).1.length = (((j0 + got) * sz : Nat) : Int) ∧ (got = 0 → (j0 + 1) * sz ≤ ts.length → pg ≤ (putK pg (tm + 1) sz ts es (ts.length / sz)).1.length) := by
  have hd := Nat.div_mul_le_self ts.length sz
  obtain ⟨m, m1, m2, m3, m4, m5, m6, m7⟩ := putK_ok (pg := pg) (tm := tm + 1) hE hz (hU.next h0 ts) (by omega) hj0 (ts.length / sz) hd
  have hj0d : j0 ≤ ts.length / sz := (Nat.le_div_iff_mul_le (by omega)).2 hl
  have hM : (j0 + (m - j0)) * sz ≤ ts.length := by
    refine Nat.le_trans (Nat.mul_le_mul_right _ (?_ : _ ≤ ts.length / sz)) hd
    omega
  refine ⟨m4, m5.u, m - j0, m7, hM, ?_, fun hg hl2 => ?_⟩
  · refine m4.best hz (fun i h1 h2 => ?_) hM fun h h' => ?_
    · exact (m6 i h1 (Nat.le_trans (Nat.mul_le_mul_right _ h2) hM)).2 (by omega)
    · have := (m6 _ (by omega) h).1 h'
      omega
  · by_cases hs : (putK pg (tm + 1) sz ts es (ts.length / sz)).2.2 = true
    · exact (m3 hs).2
    · have := m2 (by simpa using hs)
      have h3 : j0 + 1 ≤ ts.length / sz := (Nat.le_div_iff_mul_le (by omega)).2 hl2
      omega
end Go.Proofs.YtdomjdfancpbbaaGreat
namespace Go.Proofs.YtdomjdfancpbbaaGreat
open Go.RowKit
set_option linter.unusedVariables false

/-- All that is true of a cache's entries. -/
structure OkK (pg sz : Nat) (tm : Int) (es : List En) : Prop where
  e : OkE sz es
  u : OkU tm es
  few : es.length ≤ pg
  short : ∀ x ∈ txs es, x.length ≤ 256
  z : 1 ≤ sz ∧ sz ≤ 16
  p : 1 ≤ pg ∧ pg ≤ 256
  t : 0 ≤ tm
theorem okk_new {pg sz : Nat} (hz : 1 ≤ sz ∧ sz ≤ 16) (hp : 1 ≤ pg ∧ pg ≤ 256) : OkK pg sz 0 [] := ⟨oke_nil sz, oku_nil 0, by simp, fun x h => by simp [txs] at h, hz, hp, by omega⟩
theorem OkK.clear {pg sz : Nat} {tm : Int} {es : List En} (h : OkK pg sz tm es) : OkK pg sz tm [] := ⟨oke_nil sz, oku_nil tm, by simp, fun x h => by simp [txs] at h, h.z, h.p, h.t⟩
theorem OkK.find {pg sz : Nat} {tm : Int} {es : List En} (h : OkK pg sz tm es) (ts : List Int) (k : Nat) : OkK pg sz (tm + 1) (useK (tm + 1) ts es k) :=
  ⟨h.e.same txs_use, h.u.find h.t ts k, by rw [useK_len]; exact h.few, by rw [txs_use]; exact h.short, h.z, h.p, by have := h.t; omega⟩
theorem putK_sub (pg tm : Int) (sz : Nat) (ts : List Int) (es : List En) (j : Nat) : ∀ x ∈ txs (putK pg tm sz ts es j).1, x ∈ txs es ∨ begB x ts = true := by
  induction j with
  | zero => intro x hx; exact .inl hx
  | succ j ih =>
    have hb : ∀ p, putE pg tm ts (ts.take ((j + 1) * sz)) (putK pg tm sz ts es j).1 = some p → ∀ x ∈ txs p.1, x ∈ txs es ∨ begB x ts = true := by
      intro p hp
      generalize (putK pg tm sz ts es j).1 = E at *
      have hx : begB (ts.take ((j + 1) * sz)) ts = true := begB_take _
      generalize ts.take ((j + 1) * sz) = y at *
      have hadd : ∀ E' : List En, (∀ x ∈ txs E', x ∈ txs es ∨ begB x ts = true) → ∀ x ∈ txs (E' ++ [(y, tm)]), x ∈ txs es ∨ begB x ts = true := by
        intro E' h' x hx'
        unfold txs at hx'
        rw [List.map_append, List.mem_append] at hx'
        rcases hx' with h | h
        · exact h' x h
        · simp at h; subst h; exact .inr hx
      unfold putE at hp
      split at hp
      · cases hp; rw [txs_set]; exact ih
      · split at hp
        · split at hp
          · cases hp
          · cases hp
            refine hadd _ fun x hx' => ih x ?_
            obtain ⟨i, h1, _, h3⟩ := txs_erase.1 hx'
            exact mem_txs.2 ⟨i, h1, h3⟩
        · cases hp; exact hadd _ ih
    rw [putK]
    split
    · exact ih
    · split
      · exact ih
      · rename_i p hp
        exact hb p hp
theorem OkK.put {pg sz : Nat} {tm : Int} {es : List En} (h : OkK pg sz tm es) (ts : List Int) (hl : ts.length ≤ 256) : OkK pg sz (tm + 1) (putK pg (tm + 1) sz ts es (ts.length / sz)).1 := by
  obtain ⟨j0, j1, j2⟩ := h.e.was h.z.1 ts
  obtain ⟨a1, a2, _⟩ := put_all (pg := pg) h.e h.z.1 h.u h.t j1 j2
  have hf := h.few
  refine ⟨a1, a2, ?_, fun x hx => ?_, h.z, h.p, by have := h.t; omega⟩
  · have := putK_len (pg := (pg : Int)) (tm := tm + 1) (sz := sz) (ts := ts) (es := es) (by omega) (ts.length / sz)
    omega
  · rcases putK_sub _ _ _ _ _ _ x hx with h1 | h1
    · exact h.short x h1
    · have := (begB_iff.1 h1).1; omega
end Go.Proofs.YtdomjdfancpbbaaGreat
namespace Go.Proofs.YtdomjdfancpbbaaGreat
open Go.RowKit
set_option linter.unusedVariables false

/-- The part of a text that follows j parts. -/
def chunk (sz j : Nat) (ts : List Int) : List Int := (ts.drop (j * sz)).take sz
theorem chunk_len {sz j : Nat} {ts : List Int} (h : (j + 1) * sz ≤ ts.length) : (chunk sz j ts).length = sz := by
  unfold chunk
  rw [List.length_take, List.length_drop]
  rw [Nat.add_mul] at h
  omega
theorem take_chunk {sz j : Nat} (ts : List Int) : ts.take (j * sz) ++ chunk sz j ts = ts.take ((j + 1) * sz) := by
  unfold chunk
  rw [Nat.add_mul, Nat.one_mul, List.take_add]
/-- A leaf is an entry without children. -/
theorem OkE.leaf {sz : Nat} {es : List En} (h : OkE sz es) (hz : 1 ≤ sz) {i : Nat} (hi : i < es.length) : leafB es i = true ↔ ∀ ch : List Int, ch.length = sz → (en es i).1 ++ ch ∉ txs es := by
  constructor
  · intro hl ch hc hm
    obtain ⟨k, hk, e⟩ := mem_txs.1 hm
    have hne : k ≠ i := fun e' => by
      rw [e'] at e
      have := congrArg List.length e
      rw [List.length_append] at this
      omega
    have := leaf_iff hl hk hne
    rw [e] at this
    have hb : begB (en es i).1 ((en es i).1 ++ ch) = true := by
      unfold begB
      rw [List.isPrefixOf_iff_prefix]
      exact ⟨ch, rfl⟩
    rw [hb] at this
    cases this
  · intro hn
    apply leaf_yes
    intro k hk hki
    rw [Bool.eq_false_iff]
    intro hb
    obtain ⟨a, a1, a2⟩ := h.mult _ (mem_txs.2 ⟨i, hi, rfl⟩)
    obtain ⟨b, b1, b2⟩ := h.mult _ (mem_txs.2 ⟨k, hk, rfl⟩)
    have hle := (begB_iff.1 hb).1
    have hx := begB_eq hb
    have hne : a ≠ b := fun e => hki (h.inj hk hi (by rw [hx, a2, e, ← b2, List.take_length]))
    have hab : a + 1 ≤ b := by
      rw [a2, b2] at hle
      have := Nat.le_of_mul_le_mul_right hle (by omega)
      omega
    have hl2 : (a + 1) * sz ≤ (en es k).1.length := by rw [b2]; exact Nat.mul_le_mul_right _ hab
    have hm := h.shut _ (mem_txs.2 ⟨k, hk, rfl⟩) (a + 1) (by omega) hl2
    refine hn (chunk sz a (en es k).1) (chunk_len hl2) ?_
    rw [hx, a2, take_chunk]
    exact hm
/-- An entry's parts: it is what stands ahead of its last part, and that. -/
theorem OkE.last {sz : Nat} {es : List En} (h : OkE sz es) {x : List Int} (hx : x ∈ txs es) : ∃ j, x.length = (j + 1) * sz ∧ x = x.take (j * sz) ++ chunk sz j x ∧ (chunk sz j x).length = sz ∧ (j = 0 ∨ x.take (j * sz) ∈ txs es) := by
  obtain ⟨a, a1, a2⟩ := h.mult x hx
  refine ⟨a - 1, by rw [a2]; congr 1; omega, ?_, chunk_len (by rw [a2]; exact Nat.mul_le_mul_right _ (by omega)), ?_⟩
  · rw [take_chunk, show a - 1 + 1 = a by omega, ← a2, List.take_length]
  · by_cases h0 : a = 1
    · left; omega
    · right
      exact h.shut x hx (a - 1) (by omega) (by rw [a2]; exact Nat.mul_le_mul_right _ (by omega))
end Go.Proofs.YtdomjdfancpbbaaGreat
namespace Go.Proofs.YtdomjdfancpbbaaGreat
open Go.RowKit
set_option linter.unusedVariables false
set_option maxRecDepth 1000000

/-- A number turned by itself gone to the right. -/
def sx (n k : Int) : Int := bits .xor .u64 n (n / k)
/-- A number modulo 2 ^ 64. -/
def wr (n : Int) : Int := IntKind.u64.wrap n
/-- A number mixed. -/
def mixZ (n : Int) : Int := sx (wr (sx (wr (sx n 1073741824 * 13787848793156543929)) 134217728 * 10723151780598845931)) 2147483648
/-- The draw n of a seed. -/
def atZ (s n : Int) : Int := mixZ (wr (s + wr (wr (n + 1) * 11400714819323198485)))
/-- The upper half of a product. -/
def upZ (a b : Int) : Int := a * b / 18446744073709551616
/-- The draw n of a seed, below a number. -/
def belowZ (s n m : Int) : Int := upZ (atZ s n) m
/-- A seed made of another one and labels. -/
def deriveZ (s : Int) (l : List Int) : Int := l.foldl atZ s

theorem wr_eq (n : Int) : wr n = n % 18446744073709551616 := IntKind.wrap_u64 n
theorem wr_0 (n : Int) : 0 ≤ wr n := by rw [wr_eq]; omega
theorem wr_1 (n : Int) : wr n ≤ 18446744073709551615 := by rw [wr_eq]; omega
theorem wr_in {n : Int} (h0 : 0 ≤ n) (h1 : n ≤ 18446744073709551615) : wr n = n := by rw [wr_eq]; omega

theorem div_0 {n k : Int} (h0 : 0 ≤ n) (k0 : 0 < k) : 0 ≤ n / k := Int.ediv_nonneg h0 (by omega)
theorem div_1 {n k : Int} (h0 : 0 ≤ n) (k0 : 0 < k) : n / k ≤ n := Int.ediv_le_self _ h0
theorem sx_nat {n k : Int} (h0 : 0 ≤ n) (h1 : n ≤ 18446744073709551615) (k0 : 0 < k) : sx n k = (n.toNat ^^^ (n / k).toNat : Nat) := by
  have := div_0 h0 k0
  have := div_1 h0 k0
  exact u64_xor _ _ h0 (by omega) (by omega) (by omega)
theorem xor_lt {a b : Nat} (ha : a < 18446744073709551616) (hb : b < 18446744073709551616) : a ^^^ b < 18446744073709551616 :=
  Nat.xor_lt_two_pow (n := 64) ha hb
theorem sx_bd {n k : Int} (h0 : 0 ≤ n) (h1 : n ≤ 18446744073709551615) (k0 : 0 < k) : 0 ≤ sx n k ∧ sx n k ≤ 18446744073709551615 := by
  have := div_0 h0 k0
  have := div_1 h0 k0
  rw [sx_nat h0 h1 k0]
  have := xor_lt (a := n.toNat) (b := (n / k).toNat) (by omega) (by omega)
  omega
theorem mix_bd (n : Int) : 0 ≤ mixZ n ∧ mixZ n ≤ 18446744073709551615 := sx_bd (wr_0 _) (wr_1 _) (by omega)
theorem at_bd (s n : Int) : 0 ≤ atZ s n ∧ atZ s n ≤ 18446744073709551615 := mix_bd _
theorem derive_bd {s : Int} (l : List Int) (h : 0 ≤ s ∧ s ≤ 18446744073709551615) : 0 ≤ deriveZ s l ∧ deriveZ s l ≤ 18446744073709551615 := by
  induction l generalizing s with
  | nil => exact h
  | cons x l ih => exact ih (at_bd s x)
theorem derive_snoc (s : Int) (l : List Int) (x : Int) : deriveZ s (l ++ [x]) = atZ (deriveZ s l) x := by unfold deriveZ; rw [List.foldl_append]; rfl

/-! ### The product's upper half -/
theorem and_low {a : Int} (h0 : 0 ≤ a) (h1 : a ≤ 18446744073709551615) : bits .and .u64 a 4294967295 = a % 4294967296 := by
  rw [u64_and _ _ h0 (by omega) (by omega) (by omega)]
  rw [show (4294967295 : Int).toNat = 2 ^ 32 - 1 from rfl, Nat.and_two_pow_sub_one_eq_mod]
  omega
theorem up_parts {p q r s : Int} (p0 : 0 ≤ p) (p1 : p ≤ 18446744065119617025) (q0 : 0 ≤ q) (q1 : q ≤ 18446744065119617025) (r0 : 0 ≤ r) (r1 : r ≤ 18446744065119617025) (s0 : 0 ≤ s) (s1 : s ≤ 18446744065119617025) :
    s + (q + p / 4294967296) / 4294967296 + ((q + p / 4294967296) % 4294967296 + r) / 4294967296 = (s * 18446744073709551616 + (q + r) * 4294967296 + p) / 18446744073709551616 := by
  omega
theorem half_bd {a b : Int} (a0 : 0 ≤ a) (a1 : a ≤ 4294967295) (b0 : 0 ≤ b) (b1 : b ≤ 4294967295) : 0 ≤ a * b ∧ a * b ≤ 18446744065119617025 :=
  ⟨Int.mul_nonneg a0 b0, Int.le_trans (Int.mul_le_mul a1 b1 b0 (by omega)) (by omega)⟩
theorem split_mul (a b : Int) : a * b = (a / 4294967296) * (b / 4294967296) * 18446744073709551616 + ((a / 4294967296) * (b % 4294967296) + (a % 4294967296) * (b / 4294967296)) * 4294967296 + (a % 4294967296) * (b % 4294967296) := by
  have ha : a = a / 4294967296 * 4294967296 + a % 4294967296 := by omega
  have hb : b = b / 4294967296 * 4294967296 + b % 4294967296 := by omega
  generalize a / 4294967296 = a1 at *
  generalize a % 4294967296 = a0 at *
  generalize b / 4294967296 = b1 at *
  generalize b % 4294967296 = b0 at *
  subst ha hb
  rw [Int.add_mul, Int.mul_add, Int.mul_add, Int.add_mul]
  have e1 : a1 * 4294967296 * (b1 * 4294967296) = a1 * b1 * 18446744073709551616 := by
    rw [Int.mul_assoc, Int.mul_left_comm 4294967296 b1, ← Int.mul_assoc]; rfl
  have e2 : a1 * 4294967296 * b0 = a1 * b0 * 4294967296 := by rw [Int.mul_assoc, Int.mul_comm 4294967296 b0, ← Int.mul_assoc]
  have e3 : a0 * (b1 * 4294967296) = a0 * b1 * 4294967296 := by rw [← Int.mul_assoc]
  rw [e1, e2, e3]
  omega
/-- The upper half, as it is reckoned of halves. -/
theorem up_eq {a b : Int} (a0 : 0 ≤ a) (a1 : a ≤ 18446744073709551615) (b0 : 0 ≤ b) (b1 : b ≤ 18446744073709551615) :
    wr (wr (wr (a / 4294967296 * (b / 4294967296)) + wr (wr (a / 4294967296 * (b % 4294967296)) + wr (a % 4294967296 * (b % 4294967296)) / 4294967296) / 4294967296) +
      wr (wr (wr (a / 4294967296 * (b % 4294967296)) + wr (a % 4294967296 * (b % 4294967296)) / 4294967296) % 4294967296 + wr (a % 4294967296 * (b / 4294967296))) / 4294967296) = upZ a b := by
  have P := half_bd (a := a % 4294967296) (b := b % 4294967296) (by omega) (by omega) (by omega) (by omega)
  have Q := half_bd (a := a / 4294967296) (b := b % 4294967296) (by omega) (by omega) (by omega) (by omega)
  have R := half_bd (a := a % 4294967296) (b := b / 4294967296) (by omega) (by omega) (by omega) (by omega)
  have S := half_bd (a := a / 4294967296) (b := b / 4294967296) (by omega) (by omega) (by omega) (by omega)
  unfold upZ
  rw [split_mul a b]
  generalize a / 4294967296 * (b / 4294967296) = s at *
  generalize a / 4294967296 * (b % 4294967296) = q at *
  generalize a % 4294967296 * (b / 4294967296) = r at *
  generalize a % 4294967296 * (b % 4294967296) = p at *
  rw [← up_parts P.1 P.2 Q.1 Q.2 R.1 R.2 S.1 S.2]
  rw [wr_in P.1 (by omega), wr_in Q.1 (by omega), wr_in R.1 (by omega), wr_in S.1 (by omega)]
  rw [wr_in (n := q + p / 4294967296) (by omega) (by omega)]
  rw [wr_in (n := (q + p / 4294967296) % 4294967296 + r) (by omega) (by omega)]
  rw [wr_in (n := s + (q + p / 4294967296) / 4294967296) (by omega) (by omega)]
  exact wr_in (by omega) (by omega)
theorem up_lt {a b : Int} (a0 : 0 ≤ a) (a1 : a ≤ 18446744073709551615) (b0 : 0 < b) : upZ a b < b := by
  unfold upZ
  refine Int.ediv_lt_of_lt_mul (by omega) ?_
  rw [Int.mul_comm b]
  exact Int.mul_lt_mul_of_pos_right (by omega) b0
theorem up_0 {a b : Int} (a0 : 0 ≤ a) (b0 : 0 ≤ b) : 0 ≤ upZ a b := Int.ediv_nonneg (Int.mul_nonneg a0 b0) (by omega)
theorem up_zero (a : Int) : upZ a 0 = 0 := by unfold upZ; simp
theorem below_bd (s n : Int) {m : Int} (m0 : 0 < m) : 0 ≤ belowZ s n m ∧ belowZ s n m < m := ⟨up_0 (at_bd _ _).1 (by omega), up_lt (at_bd _ _).1 (at_bd _ _).2 m0⟩

/-! ### The way back -/
end Go.Proofs.YtdomjdfancpbbaaGreat
namespace Go.Proofs.YtdomjdfancpbbaaGreat
open Go.RowKit
set_option linter.unusedVariables false
set_option maxRecDepth 1000000

theorem mix_any (n : Int) (w : World) (n0 : 0 ≤ n) (n1 : n ≤ 18446744073709551615) :
    Calls Tryz.prog 143 #[.int .u64 n] w fun e w' => e = .returned (.int .u64 (mixZ n)) ∧ w' = w := by
  go_enter Tryz.func143, Tryz.ntmps143
  go_wp2
  go_ret
  exact ⟨rfl, rfl⟩
theorem at_any (s n : Int) (w : World) :
    Calls Tryz.prog 122 #[.int .u64 s, .int .u64 n] w fun e w' => e = .returned (.int .u64 (atZ s n)) ∧ w' = w := by
  go_enter Tryz.func122, Tryz.ntmps122
  go_wp2_with fail
  refine (mix_any _ _ (wr_0 _) (wr_1 _)).mono ?_
  rintro e w' ⟨rfl, rfl⟩
  go_wp2
  go_ret
  exact ⟨rfl, rfl⟩
theorem mul64_any (a b : Int) (w : World) (a0 : 0 ≤ a) (a1 : a ≤ 18446744073709551615) (b0 : 0 ≤ b) (b1 : b ≤ 18446744073709551615) :
    Calls Tryz.prog 121 #[.int .u64 a, .int .u64 b] w fun e w' => e = .returned (.tuple #[.int .u64 (upZ a b), .int .u64 (wr (a * b))]) ∧ w' = w := by
  have HA : Hid (bits .and .u64 a 4294967295 = a % 4294967296) := and_low a0 a1
  have HB : Hid (bits .and .u64 b 4294967295 = b % 4294967296) := and_low b0 b1
  have HU := hid (up_eq a0 a1 b0 b1)
  have HT : Hid (bits .and .u64 (wr (wr (a / 4294967296 * (b % 4294967296)) + wr (a % 4294967296 * (b % 4294967296)) / 4294967296)) 4294967295 = wr (wr (a / 4294967296 * (b % 4294967296)) + wr (a % 4294967296 * (b % 4294967296)) / 4294967296) % 4294967296) := and_low (wr_0 _) (wr_1 _)
  go_enter Tryz.func121, Tryz.ntmps121
  go_wp2
  go_ret2
  refine ⟨?_, rfl⟩
  unfold Hid at HA HB HU HT
  unfold wr at HT HU
  rw [HA, HB, HT, HU]
  rfl
theorem tq (x : Int) : IntKind.u64.wrap ((IntKind.u64.wrap x).tdiv 4294967296) = IntKind.u64.wrap x / 4294967296 := by
  have h0 := wr_0 x
  have h1 := wr_1 x
  unfold wr at h0 h1
  rw [Int.tdiv_eq_ediv_of_nonneg h0]
  exact wr_in (by omega) (by omega)
theorem tr (x : Int) : (IntKind.u64.wrap x).tmod 4294967296 = IntKind.u64.wrap x % 4294967296 := Int.tmod_eq_emod_of_nonneg (wr_0 x)
theorem dbelow_any (s n m : Int) (w : World) (m0 : 0 ≤ m) (m1 : m ≤ 18446744073709551615) :
    Calls Tryz.prog 97 #[.int .u64 s, .int .u64 n, .int .u64 m] w fun e w' => e = .returned (.int .u64 (belowZ s n m)) ∧ w' = w := by
  go_enter Tryz.func97, Tryz.ntmps97
  go_wp2_with fail
  refine (at_any _ _ _).mono ?_
  rintro e w' ⟨rfl, rfl⟩
  go_wp2_with fail
  refine (mul64_any _ _ _ (at_bd _ _).1 (at_bd _ _).2 m0 m1).mono ?_
  rintro e w' ⟨rfl, rfl⟩
  go_wp2
  go_ret
  exact ⟨rfl, rfl⟩
end Go.Proofs.YtdomjdfancpbbaaGreat
namespace Go.Proofs.YtdomjdfancpbbaaGreat
open Go.RowKit
set_option linter.unusedVariables false
set_option maxRecDepth 1000000

theorem derive_any (s : Int) (a : Option Addr) (len cap : Nat) (zs : List Int) (w : World) (hr : Reads .u64 w a len cap zs) (hlen : len ≤ 1000000) :
    Calls Tryz.prog 108 #[.int .u64 s, .slice a len cap] w fun e w' => e = .returned (.int .u64 (deriveZ s zs)) ∧ w' = w := by
  have HL : Hid (zs.length = len) := hr.size
  go_enter Tryz.func108, Tryz.ntmps108
  go_wp2_with fail
  go_loop [0, 9] (fun v i => ∃ (n : Int) (k : Nat), v = .int .u64 n ∧ i = .int .i64 k ∧ k ≤ len ∧ Hid (n = deriveZ s (zs.take k))) (fun _ i => len - (intOf i).toNat)
  case atStart => exact ⟨_, 0, rfl, rfl, by omega, by unfold Hid; simp [deriveZ]⟩
  case round =>
    obtain ⟨n, k, rfl, rfl, hk, HM⟩ := hrel
    by_cases hlt : k < len
    · obtain ⟨b, off, rfl, hc⟩ := hr.cell k hlt
      have HS : Hid (atZ n (zs[k]?.getD 0) = deriveZ s (zs.take (k + 1))) := by
        unfold Hid
        rw [take_snoc (by have := HL.out; omega), derive_snoc, HM.out]
      clear hr
      generalize zs[k]?.getD 0 = c at *
      go_wp2_with fail
      refine (at_any _ _ _).mono ?_
      rintro e w' ⟨rfl, rfl⟩
      go_wp2_with fail
      go_round
      case rel => exact ⟨_, k + 1, rfl, by go_num, by omega, HS⟩
      case measure => simp [intOf]; omega
    · have HE : Hid (n = deriveZ s zs) := by
        unfold Hid
        rw [HM.out, List.take_of_length_le (by have := HL.out; omega)]
      clear hr
      go_wp2
      go_ret
      exact ⟨ret_int HE.out, rfl⟩

end Go.Proofs.YtdomjdfancpbbaaGreat
namespace Go.Proofs.YtdomjdfancpbbaaGreat
open Go.RowKit
set_option linter.unusedVariables false
set_option maxRecDepth 1000000

theorem satwithin_any (n : Int) (w : World) :
    Calls Tryz.prog 145 #[.int .i64 n, .int .i64 (-2147483648), .int .i64 2147483647] w fun e w' => e = .returned (.int .i64 (wi n)) ∧ w' = w := by
  by_cases h0 : n < -2147483648
  · go_enter Tryz.func145, Tryz.ntmps145
    go_wp2
    go_ret
    exact ⟨ret_int (by unfold wi; rw [if_pos h0]), rfl⟩
  · by_cases h1 : n > 2147483647
    · go_enter Tryz.func145, Tryz.ntmps145
      go_wp2
      go_ret
      exact ⟨ret_int (by unfold wi; rw [if_neg (by omega), if_pos (by omega)]), rfl⟩
    · go_enter Tryz.func145, Tryz.ntmps145
      go_wp2
      go_ret
      exact ⟨ret_int (by unfold wi; rw [if_neg (by omega), if_neg (by omega)]), rfl⟩
theorem between_any (n : Int) (w : World) :
    Calls Tryz.prog 131 #[.int .i64 n, .int .i64 (-2147483648), .int .i64 2147483647] w fun e w' => e = .returned (.int .i64 (wi n)) ∧ w' = w := by
  go_enter Tryz.func131, Tryz.ntmps131
  go_wp2_with fail
  refine (satwithin_any _ _).mono ?_
  rintro e w' ⟨rfl, rfl⟩
  go_wp2
  go_ret
  exact ⟨rfl, rfl⟩
theorem within_any (n : Int) (w : World) : Calls Tryz.prog 107 #[.int .i64 n] w fun e w' => e = .returned (.int .i64 (wi n)) ∧ w' = w := by
  go_enter Tryz.func107, Tryz.ntmps107
  go_wp2_with fail
  refine (between_any _ _).mono ?_
  rintro e w' ⟨rfl, rfl⟩
  go_wp2
  go_ret
  exact ⟨rfl, rfl⟩
theorem add_any (a b : Int) (w : World) : Calls Tryz.prog 82 #[.int .i64 a, .int .i64 b] w fun e w' => e = .returned (.int .i64 (addZ a b)) ∧ w' = w := by
  have a0 := wi_0 a
  have a1 := wi_1 a
  have b0 := wi_0 b
  have b1 := wi_1 b
  go_enter Tryz.func82, Tryz.ntmps82
  go_wp2_with fail
  refine (within_any _ _).mono ?_
  rintro e w' ⟨rfl, rfl⟩
  go_wp2_with fail
  refine (within_any _ _).mono ?_
  rintro e w' ⟨rfl, rfl⟩
  go_wp2_with fail
  refine (within_any _ _).mono ?_
  rintro e w' ⟨rfl, rfl⟩
  go_wp2
  go_ret
  exact ⟨rfl, rfl⟩
theorem mul_any (a b : Int) (w : World) : Calls Tryz.prog 95 #[.int .i64 a, .int .i64 b] w fun e w' => e = .returned (.int .i64 (mulZ a b)) ∧ w' = w := by
  have p := prod_bd a b
  have p0 := p.1
  have p1 := p.2
  clear p
  go_enter Tryz.func95, Tryz.ntmps95
  go_wp2_with fail
  refine (within_any _ _).mono ?_
  rintro e w' ⟨rfl, rfl⟩
  go_wp2_with fail
  refine (within_any _ _).mono ?_
  rintro e w' ⟨rfl, rfl⟩
  go_wp2_with fail
  refine (within_any _ _).mono ?_
  rintro e w' ⟨rfl, rfl⟩
  go_wp2
  go_ret
  exact ⟨rfl, rfl⟩
theorem by_any (a b : Int) (w : World) (n0 : -4611686018427387904 ≤ a) (n1 : a ≤ 4611686018427387904) (hb : b ≠ 0) :
    Calls Tryz.prog 120 #[.int .i64 a, .int .i64 b] w fun e w' => e = .returned (.int .i64 (byZ a b)) ∧ w' = w := by
  have HB := hid (tdiv_bd a b (m := 4611686018427387904) n0 n1)
  by_cases ha : a < 0
  · by_cases h : a.tmod b = 0
    · have HQ := hid (quo_0 hb h)
      go_enter Tryz.func120, Tryz.ntmps120
      go_wp2
      go_ret
      refine ⟨ret_int ?_, rfl⟩
      unfold Hid at HQ HB
      rw [← HQ]
      generalize a.tdiv b = q at *
      unfold wrap64
      omega
    · by_cases hb' : b < 0
      · have HQ := hid (quo_like (a := a) hb (by omega))
        go_enter Tryz.func120, Tryz.ntmps120
        go_wp2
        go_ret
        refine ⟨ret_int ?_, rfl⟩
        unfold Hid at HQ HB
        rw [← HQ]
        generalize a.tdiv b = q at *
        unfold wrap64
        omega
      · have HQ := hid (quo_unlike hb h (by omega))
        go_enter Tryz.func120, Tryz.ntmps120
        go_wp2
        go_ret
        refine ⟨ret_int ?_, rfl⟩
        unfold Hid at HQ HB
        rw [← HQ]
        generalize a.tdiv b = q at *
        unfold wrap64
        omega
  · have e2 : a.tmod b = a % b := Int.tmod_eq_emod_of_nonneg (by omega)
    by_cases hb' : b < 0
    · by_cases h : a % b = 0
      · have HQ := hid (quo_0 hb (by rw [e2]; exact h))
        clear e2
        go_enter Tryz.func120, Tryz.ntmps120
        go_wp2
        go_ret
        refine ⟨ret_int ?_, rfl⟩
        unfold Hid at HQ HB
        rw [← HQ]
        generalize a.tdiv b = q at *
        unfold wrap64
        omega
      · have HQ := hid (quo_unlike hb (by rw [e2]; exact h) (by omega))
        clear e2
        go_enter Tryz.func120, Tryz.ntmps120
        go_wp2
        go_ret
        refine ⟨ret_int ?_, rfl⟩
        unfold Hid at HQ HB
        rw [← HQ]
        generalize a.tdiv b = q at *
        unfold wrap64
        omega
    · have HQ : Hid (a / b = byZ a b) := by unfold byZ; rw [if_neg hb']; exact rfl
      clear e2
      by_cases h : a % b = 0
      · go_enter Tryz.func120, Tryz.ntmps120
        go_wp2
        go_ret
        exact ⟨ret_int HQ, rfl⟩
      · go_enter Tryz.func120, Tryz.ntmps120
        go_wp2
        go_ret
        exact ⟨ret_int HQ, rfl⟩
theorem far_any (a : Int) (w : World) : Calls Tryz.prog 119 #[.int .i64 a] w fun e w' => e = .returned (.int .i64 (farZ a)) ∧ w' = w := by
  by_cases h0 : a > 0
  · go_enter Tryz.func119, Tryz.ntmps119
    go_wp2
    go_ret
    exact ⟨ret_int (by unfold farZ; rw [if_pos (by omega)]), rfl⟩
  · by_cases h1 : a < 0
    · go_enter Tryz.func119, Tryz.ntmps119
      go_wp2
      go_ret
      exact ⟨ret_int (by unfold farZ; rw [if_neg (by omega), if_pos (by omega)]), rfl⟩
    · go_enter Tryz.func119, Tryz.ntmps119
      go_wp2
      go_ret
      exact ⟨ret_int (by unfold farZ; rw [if_neg (by omega), if_neg (by omega)]), rfl⟩
theorem from_any (n : Int) (w : World) : Calls Tryz.prog 96 #[.int .i64 n] w fun e w' => e = .returned (.int .i64 (fromZ n)) ∧ w' = w := by
  have p0 := wi_0 n
  have p1 := wi_1 n
  go_enter Tryz.func96, Tryz.ntmps96
  go_wp2_with fail
  refine (within_any _ _).mono ?_
  rintro e w' ⟨rfl, rfl⟩
  go_wp2_with fail
  refine (within_any _ _).mono ?_
  rintro e w' ⟨rfl, rfl⟩
  go_wp2
  go_ret
  exact ⟨rfl, rfl⟩
theorem wi_big {n : Int} (h : 2147483647 ≤ n) : wi n = 2147483647 := by unfold wi; split <;> (try split) <;> omega
theorem wi_low {n : Int} (h : n ≤ -2147483648) : wi n = -2147483648 := by unfold wi; split <;> (try split) <;> omega
theorem from_hi {n : Int} (h : n > 65536) : wi (65536 * 65536) = fromZ n := by
  have := wi_le (show 65536 ≤ n by omega)
  rw [show wi 65536 = 65536 from rfl] at this
  rw [fromZ, wi_big (by omega), wi_big (by omega)]
theorem from_lo {n : Int} (h : n < -65536) : wi (-65536 * 65536) = fromZ n := by
  have := wi_le (show n ≤ -65536 by omega)
  rw [show wi (-65536) = -65536 from rfl] at this
  rw [fromZ, wi_low (by omega), wi_low (by omega)]
theorem div_any (a b : Int) (w : World) : Calls Tryz.prog 94 #[.int .i64 a, .int .i64 b] w fun e w' => e = .returned (.int .i64 (divZ a b)) ∧ w' = w := by
  have a0 := wi_0 a
  have a1 := wi_1 a
  by_cases hb : wi b = 0
  · have HQ : Hid (farZ (wi a) = divZ a b) := by unfold divZ; rw [if_pos hb]; exact rfl
    go_enter Tryz.func94, Tryz.ntmps94
    go_wp2_with fail
    refine (within_any _ _).mono ?_
    rintro e w' ⟨rfl, rfl⟩
    go_wp2_with fail
    refine (within_any _ _).mono ?_
    rintro e w' ⟨rfl, rfl⟩
    go_wp2_with fail
    refine (far_any _ _).mono ?_
    rintro e w' ⟨rfl, rfl⟩
    go_wp2
    go_ret
    exact ⟨ret_int HQ, rfl⟩
  · have HQ : Hid (wi (byZ (wi a * 65536) (wi b)) = divZ a b) := by unfold divZ; rw [if_neg hb]; exact rfl
    go_enter Tryz.func94, Tryz.ntmps94
    go_wp2_with fail
    refine (within_any _ _).mono ?_
    rintro e w' ⟨rfl, rfl⟩
    go_wp2_with fail
    refine (within_any _ _).mono ?_
    rintro e w' ⟨rfl, rfl⟩
    go_wp2_with fail
    refine (by_any _ _ _ (by omega) (by omega) hb).mono ?_
    rintro e w' ⟨rfl, rfl⟩
    go_wp2_with fail
    refine (within_any _ _).mono ?_
    rintro e w' ⟨rfl, rfl⟩
    go_wp2
    go_ret
    exact ⟨ret_int HQ, rfl⟩
end Go.Proofs.YtdomjdfancpbbaaGreat
namespace Go.Proofs.YtdomjdfancpbbaaGreat
open Go.RowKit
set_option linter.unusedVariables false
set_option maxRecDepth 1000000

/-- A configuration. -/
structure Cf where
  seed : Int
  vocab : Int
  dim : Int
  layers : Int
  top : Int
  heat : Int
/-- Its cells. -/
def CfV (c : Cf) : Array Value := #[.int .u64 c.seed, .int .i64 c.vocab, .int .i64 c.dim, .int .i64 c.layers, .int .i64 c.top, .int .i64 c.heat]
/-- A number is from one to another one. -/
def btw (n lo hi : Int) : Bool := decide (lo ≤ n) && decide (n ≤ hi)
theorem btw_iff {n lo hi : Int} : btw n lo hi = true ↔ lo ≤ n ∧ n ≤ hi := by unfold btw; simp
theorem btw_no {n lo hi : Int} : btw n lo hi = false ↔ n < lo ∨ hi < n := by
  unfold btw; simp only [Bool.and_eq_false_iff, decide_eq_false_iff_not]; omega
/-- A configuration may be. -/
def mayB (c : Cf) : Bool := btw c.vocab 2 64 && (btw c.dim 1 16 && (btw c.layers 1 4 && (btw c.top 1 c.vocab && btw c.heat 0 8)))

theorem mbetween_any (n lo hi : Int) (w : World) :
    Calls Tryz.prog 47 #[.int .i64 n, .int .i64 lo, .int .i64 hi] w fun e w' => e = .returned (.bool (btw n lo hi)) ∧ w' = w := by
  by_cases h : lo ≤ n
  · by_cases h2 : n ≤ hi
    · rw [btw_iff.2 ⟨h, h2⟩]
      go_enter Tryz.func47, Tryz.ntmps47
      go_wp2
      go_ret
      exact ⟨rfl, rfl⟩
    · rw [btw_no.2 (.inr (by omega))]
      go_enter Tryz.func47, Tryz.ntmps47
      go_wp2
      go_ret
      exact ⟨rfl, rfl⟩
  · rw [btw_no.2 (.inl (by omega))]
    go_enter Tryz.func47, Tryz.ntmps47
    go_wp2
    go_ret
    exact ⟨rfl, rfl⟩
theorem may_any (c : Cf) (w : World) :
    Calls Tryz.prog 28 #[.agg (CfV c)] w fun e w' => e = .returned (.bool (mayB c)) ∧ Below w.heap.size w w' := by
  obtain ⟨s, v, d, l, t, h⟩ := c
  have HB : Hid (Below w.heap.size w (w.alloc (.cells (CfV ⟨s, v, d, l, t, h⟩) 69))) := (Below.refl _ _).alloc (Nat.le_refl _) _
  unfold mayB CfV at *
  simp only at HB ⊢
  go_enter Tryz.func28, Tryz.ntmps28
  go_wp2_with fail
  refine (mbetween_any _ _ _ _).mono ?_
  rintro e w' ⟨rfl, rfl⟩
  cases h1 : btw v 2 64 with
  | false =>
    go_wp2
    go_ret
    exact ⟨ret_bool (by simp [h1]), HB.out⟩
  | true =>
  go_wp2_with fail
  refine (mbetween_any _ _ _ _).mono ?_
  rintro e w' ⟨rfl, rfl⟩
  cases h2 : btw d 1 16 with
  | false =>
    go_wp2
    go_ret
    exact ⟨ret_bool (by simp [h1, h2]), HB.out⟩
  | true =>
  go_wp2_with fail
  refine (mbetween_any _ _ _ _).mono ?_
  rintro e w' ⟨rfl, rfl⟩
  cases h3 : btw l 1 4 with
  | false =>
    go_wp2
    go_ret
    exact ⟨ret_bool (by simp [h1, h2, h3]), HB.out⟩
  | true =>
  go_wp2_with fail
  refine (mbetween_any _ _ _ _).mono ?_
  rintro e w' ⟨rfl, rfl⟩
  cases h4 : btw t 1 v with
  | false =>
    go_wp2
    go_ret
    exact ⟨ret_bool (by simp [h1, h2, h3, h4]), HB.out⟩
  | true =>
  go_wp2_with fail
  refine (mbetween_any _ _ _ _).mono ?_
  rintro e w' ⟨rfl, rfl⟩
  go_wp2
  go_ret
  exact ⟨ret_bool (by simp [h1, h2, h3, h4]), HB.out⟩
/-- The model at a pointer has this configuration: a nil one, and one that nobody made, the zero one. -/
def MdAt (W : World) (p : Option Addr) (c : Cf) : Prop :=
  (p = none ∧ c = ⟨0, 0, 0, 0, 0, 0⟩) ∨ ∃ g, p = some ⟨g, 0, none⟩ ∧ W.heap[g]? = some (.cells (CfV c) 101 (0, 0))
theorem MdAt.below {W W' : World} {p : Option Addr} {c : Cf} (h : MdAt W p c) (hb : Below W.heap.size W W') : MdAt W' p c := by
  rcases h with h | ⟨g, hp, hg⟩
  · exact .inl h
  · exact .inr ⟨g, hp, (hb.block g (lt_of_block hg)).trans hg⟩

/-- A configuration's cells, out of its block. -/
theorem Cf_cells {W : World} {g : Nat} {c : Cf} {T : TypeId} (h : W.heap[g]? = some (.cells (CfV c) T (0, 0))) :
    W.cell? ⟨g, 0, none⟩ = some (.int .u64 c.seed) ∧ W.cell? ⟨g, 1, none⟩ = some (.int .i64 c.vocab) ∧ W.cell? ⟨g, 2, none⟩ = some (.int .i64 c.dim) ∧ W.cell? ⟨g, 3, none⟩ = some (.int .i64 c.layers) ∧ W.cell? ⟨g, 4, none⟩ = some (.int .i64 c.top) ∧ W.cell? ⟨g, 5, none⟩ = some (.int .i64 c.heat) := by
  refine ⟨?_, ?_, ?_, ?_, ?_, ?_⟩ <;> (rw [cell_of_row _ _ _ _ _ _ h]; rfl)
theorem block_below {w w' : World} {k : Nat} {o : Obj} (h : w.heap[k]? = some o) (hb : Below w.heap.size w w') : w'.heap[k]? = some o := (hb.block k (lt_of_block h)).trans h

theorem new_yes (c : Cf) (w : World) (hc : mayB c = true) :
    Calls Tryz.prog 27 #[.agg (CfV c)] w fun e w' => ∃ g, e = .returned (.tuple #[.pointer (some ⟨g, 0, none⟩), .int .i64 0]) ∧ w.heap.size ≤ g ∧ w'.heap[g]? = some (.cells (CfV c) 101 (0, 0)) ∧ Below w.heap.size w w' := by
  have HB : Hid (Below w.heap.size w (w.alloc (.cells (CfV c) 69))) := (Below.refl _ _).alloc (Nat.le_refl _) _
  have hM := may_any c (w.alloc (.cells (CfV c) 69))
  rw [hc] at hM
  have HN := hid (heap_alloc_new w (.cells (CfV c) 69))
  obtain ⟨s, v, d, l, t, h⟩ := c
  clear hc
  have HC : Hid (∀ W : World, Below (w.alloc (.cells (CfV ⟨s, v, d, l, t, h⟩) 69)).heap.size (w.alloc (.cells (CfV ⟨s, v, d, l, t, h⟩) 69)) W → _) := fun W hb => Cf_cells (block_below HN.out hb)
  unfold CfV at hM HN HB HC ⊢
  simp only at HB hM HN HC ⊢
  go_enter Tryz.func27, Tryz.ntmps27
  go_wp2_with fail
  refine hM.mono ?_
  rintro e w1 ⟨rfl, hb⟩
  obtain ⟨c0, c1, c2, c3, c4, c5⟩ := HC.out w1 hb
  have HB1 := hid (HB.out.trans (hb.mono (by simp)))
  clear hM HN hb HB HC
  go_wp2
  go_ret2
  exact ⟨_, rfl, HB1.out.size, heap_alloc_new _ _, HB1.out.alloc HB1.out.size _⟩
theorem new_no (c : Cf) (w : World) (hc : mayB c = false) :
    Calls Tryz.prog 27 #[.agg (CfV c)] w fun e w' => e = .returned (.tuple #[.pointer none, .int .i64 1]) ∧ Below w.heap.size w w' := by
  have HB : Hid (Below w.heap.size w (w.alloc (.cells (CfV c) 69))) := (Below.refl _ _).alloc (Nat.le_refl _) _
  have hM := may_any c (w.alloc (.cells (CfV c) 69))
  rw [hc] at hM
  obtain ⟨s, v, d, l, t, h⟩ := c
  clear hc
  unfold CfV at hM HB ⊢
  simp only at HB hM ⊢
  go_enter Tryz.func27, Tryz.ntmps27
  go_wp2_with fail
  refine hM.mono ?_
  rintro e w1 ⟨rfl, hb⟩
  have HB1 := hid (HB.out.trans (hb.mono (by simp)))
  clear hM hb HB
  go_wp2
  go_ret2
  exact ⟨rfl, HB1.out⟩
theorem config_any (p : Option Addr) (c : Cf) (w : World) (h : MdAt w p c) :
    Calls Tryz.prog 29 #[.pointer p] w fun e w' => e = .returned (.agg (CfV c)) ∧ Below w.heap.size w w' := by
  rcases h with ⟨rfl, rfl⟩ | ⟨g, rfl, hg⟩
  · go_enter Tryz.func29, Tryz.ntmps29
    go_wp2
    exact bodyPost_ret (v := .agg (CfV ⟨0, 0, 0, 0, 0, 0⟩)) (by simp [results, Tryz.results29, go_sem, CfV]) rfl ⟨rfl, by go_grown⟩
  · obtain ⟨c0, c1, c2, c3, c4, c5⟩ := Cf_cells hg
    have hlt := lt_of_block hg
    have hne : ¬ g = w.heap.size := by omega
    obtain ⟨s, v, d, l, t, h⟩ := c
    simp only at c0 c1 c2 c3 c4 c5
    clear hg
    go_enter Tryz.func29, Tryz.ntmps29
    go_wp2
    exact bodyPost_ret (v := .agg (CfV ⟨s, v, d, l, t, h⟩)) (by simp [results, Tryz.results29, go_sem, CfV]) rfl ⟨rfl, by go_grown⟩
end Go.Proofs.YtdomjdfancpbbaaGreat
namespace Go.Proofs.YtdomjdfancpbbaaGreat
open Go.RowKit
set_option linter.unusedVariables false
set_option maxRecDepth 1000000

/-- What stands at a row and a column of a table. -/
def weightZ (s t r c : Int) : Int := belowZ (deriveZ s [t]) (64 * r + c) 131073 - 65536
theorem weightZ_bd (s t r c : Int) : -65536 ≤ weightZ s t r c ∧ weightZ s t r c ≤ 65536 := by
  unfold weightZ
  have := below_bd (deriveZ s [t]) (64 * r + c) (m := 131073) (by omega)
  omega
theorem tableof_any (c : Cf) (n : Int) (w : World) (n0 : 0 ≤ n) (n1 : n ≤ 1000) :
    Calls Tryz.prog 84 #[.agg (CfV c), .int .i64 n] w fun e w' => e = .returned (.agg #[.int .u64 (deriveZ c.seed [n])]) ∧ Below w.heap.size w w' := by
  obtain ⟨s, v, d, l, t, h⟩ := c
  unfold CfV
  simp only
  have HD := hid fun a W (hr : Reads .u64 W a 1 1 [n]) => derive_any s a 1 1 [n] W hr (by omega)
  generalize deriveZ s [n] = x at *
  go_enter Tryz.func84, Tryz.ntmps84
  go_wp2_with fail
  refine (HD.out _ _ (Reads.oneB _ _ _ (by simp))).mono ?_
  rintro e w' ⟨rfl, rfl⟩
  clear HD
  go_wp2
  exact bodyPost_ret (v := .agg #[.int .u64 x]) (by simp [results, Tryz.results84, go_sem]) rfl ⟨rfl, by go_grown⟩
theorem weight_any (s t r c : Int) (w : World) (r0 : 0 ≤ r) (r1 : r ≤ 1000) (c0 : 0 ≤ c) (c1 : c ≤ 1000) :
    Calls Tryz.prog 85 #[.agg #[.int .u64 (deriveZ s [t])], .int .i64 r, .int .i64 c] w fun e w' => e = .returned (.int .i64 (weightZ s t r c)) ∧ Below w.heap.size w w' := by
  have HW : Hid (weightZ s t r c = belowZ (deriveZ s [t]) (64 * r + c) 131073 - 65536) := rfl
  have hb := below_bd (deriveZ s [t]) (64 * r + c) (m := 131073) (by omega)
  obtain ⟨hb0, hb1⟩ := hb
  generalize deriveZ s [t] = x at *
  go_enter Tryz.func85, Tryz.ntmps85
  go_wp2_with fail
  refine (dbelow_any _ _ _ _ (by omega) (by omega)).mono ?_
  rintro e w' ⟨rfl, rfl⟩
  go_wp2
  go_ret
  exact ⟨ret_int HW.out.symm, by go_grown⟩
theorem placeweight_any (s t r c : Int) (w : World) (r0 : 0 ≤ r) (r1 : r ≤ 1000) (c0 : 0 ≤ c) (c1 : c ≤ 1000) :
    Calls Tryz.prog 86 #[.agg #[.int .u64 (deriveZ s [t])], .int .i64 r, .int .i64 c] w fun e w' => e = .returned (.int .i64 (mulZ (weightZ s t r c) 16384)) ∧ Below w.heap.size w w' := by
  have hC := weight_any s t r c (w.alloc (.cells #[.int .u64 (deriveZ s [t])] 146)) r0 r1 c0 c1
  have HB : Hid (Below w.heap.size w (w.alloc (.cells #[.int .u64 (deriveZ s [t])] 146))) := (Below.refl _ _).alloc (Nat.le_refl _) _
  generalize deriveZ s [t] = x at *
  go_enter Tryz.func86, Tryz.ntmps86
  go_wp2_with fail
  refine hC.mono ?_
  rintro e w1 ⟨rfl, hb⟩
  have HB1 := hid (HB.out.trans (hb.mono HB.out.size))
  clear hb hC HB
  go_wp2_with fail
  refine (mul_any _ _ _).mono ?_
  rintro e w' ⟨rfl, rfl⟩
  go_wp2
  go_ret
  exact ⟨rfl, HB1.out⟩
end Go.Proofs.YtdomjdfancpbbaaGreat
namespace Go.Proofs.YtdomjdfancpbbaaGreat
open Go.RowKit
set_option linter.unusedVariables false
set_option maxRecDepth 1000000

/-- A slice as a value. -/
def hdV (h : Hd) : Value := .slice h.1 h.2.1 h.2.2
/-- The row in block g, not below base, holds these slices. -/
def OwnS (base g m cap : Nat) (hs : List Hd) (w : World) : Prop := w.ownsRow base 99 1 (.slice (some ⟨g, 0, none⟩) m cap) m (hs.map hdV)
theorem OwnS.len {base g m cap : Nat} {hs : List Hd} {w : World} (h : OwnS base g m cap hs w) : hs.length = m := by have := h.1; simpa using this
theorem OwnS.cell {base g m cap : Nat} {hs : List Hd} {w : World} (h : OwnS base g m cap hs w) {k : Nat} (hk : k < m) : w.cell? ⟨g, k, none⟩ = some (hdV (hs[k]?.getD (none, 0, 0))) := by
  have hl := h.len
  have := World.ownsRow.cellAt h k (by omega)
  rw [this]
  simp [(by omega : k < hs.length)]
theorem OwnS.frozen {base g m cap : Nat} {hs : List Hd} {w : World} (h : OwnS base g m cap hs w) (k : Nat) : w.frozen? ⟨g, k, none⟩ = false := World.ownsRow.frozenAt h k
theorem OwnS.set {base g m cap : Nat} {hs : List Hd} {w : World} (h : OwnS base g m cap hs w) (k : Nat) (v : Hd) : OwnS base g m cap (hs.set k v) (w.setCell ⟨g, k, none⟩ (hdV v)) := by
  have := (World.ownsRow.stored h k (hdV v)).1
  unfold OwnS
  rw [List.map_set]
  exact this
theorem OwnS.base {base g m cap : Nat} {hs : List Hd} {w : World} (h : OwnS base g m cap hs w) : base ≤ g := (World.ownsRow.lt h g rfl).1
theorem OwnS.lt {base g m cap : Nat} {hs : List Hd} {w : World} (h : OwnS base g m cap hs w) : g < w.heap.size := (World.ownsRow.lt h g rfl).2
theorem OwnS.stays {base g m cap : Nat} {hs : List Hd} {w w' : World} (h : OwnS base g m cap hs w) (hb : Below w.heap.size w w') : OwnS base g m cap hs w' := own_below h hb
theorem OwnS.rd {base g m cap : Nat} {hs : List Hd} {w : World} (h : OwnS base g m cap hs w) : Rd2 w (some ⟨g, 0, none⟩) m cap hs := by
  rcases h.2 with ⟨h', _⟩ | ⟨g', c, cur, hv, hB, hg, hnc, hm, _⟩
  · cases h'
  · cases hv
    refine ⟨h.len, hnc, by unfold maxLen at hm; omega, (fun e => by cases e), fun i hi => ⟨g, 0, rfl, ?_⟩⟩
    rw [Nat.zero_add]
    exact h.cell hi
theorem OwnS.low {base base' g m cap : Nat} {hs : List Hd} {w : World} (h : OwnS base g m cap hs w) (hb : base' ≤ base) : OwnS base' g m cap hs w := by
  refine ⟨h.1, ?_⟩
  rcases h.2 with h' | ⟨g', c, cur, hv, hB, rest⟩
  · exact .inl h'
  · exact .inr ⟨g', c, cur, hv, Nat.le_trans hb hB, rest⟩
theorem Tryz.infoS : (Tryz.prog.info? 99).map (fun i => (i.zero, i.size, i.bytes)) = some (some (.slice none 0 0), 1, 24) := by kernel_rfl
/-- 'make' of m slices. -/
theorem make_rows (w : World) (m : Nat) (hm : m ≤ 1001) : (Instr.makeSlice 83 (.int .i64 (m : Int)) (.int .i64 (m : Int))).run Tryz.prog w = .ok (.slice (some ⟨w.heap.size, 0, none⟩) m m) (w.alloc (.cells (madeCells #[.slice none 0 0] m) 99)) := by
  obtain ⟨i0, hi, hz0, hz1, hz2⟩ := info_parts Tryz.infoS
  have := run_make (P := Tryz.prog) w 83 99 i0 (.slice none 0 0) Tryz.underlying83 hi hz0 .i64 .i64 (m : Int) (m : Int) (by omega) (Int.le_refl _) (by rw [hz2]; omega) (by omega)
  rw [this, hz1, Int.toNat_natCast, Nat.mul_one]
  rfl
theorem own_rows (w : World) (m : Nat) (hm : m ≤ 1001) : OwnS w.heap.size w.heap.size m m (List.replicate m (none, 0, 0)) (w.alloc (.cells (madeCells #[.slice none 0 0] m) 99)) := by
  have := World.ownsRow_lit (base := w.heap.size) (e := 99) (size := 1) w (madeCells #[.slice none 0 0] m) m (Nat.le_refl _) (by unfold maxLen; omega) (by simp [madeCells])
  unfold OwnS
  rw [List.map_replicate, show hdV (none, 0, 0) = .slice none 0 0 from rfl, ← toList_madeCells_one]
  exact this

theorem makerow_any (fn : Nat) (recv : Value) (hE : ∀ args w, (callFunc fn args).run Tryz.prog w = .ok (.enter fn args) w) (r : Int) (n : Nat) (w : World) (hn : n ≤ 1000) (f : Nat → Int)
    (hC : ∀ k wr, k < n → Below w.heap.size w wr → Calls Tryz.prog fn #[recv, .int .i64 r, .int .i64 (k : Int)] wr fun e w' => e = .returned (.int .i64 (f k)) ∧ Below wr.heap.size wr w') :
    Calls Tryz.prog 83 #[.int .i64 r, .int .i64 n, .func (.func fn) #[recv] #[]] w fun e w' => Made w n (rowK f n) e w' := by
  have hmk := make_ints w n (by omega)
  have HO0 : Hid (OwnK 2 w.heap.size w.heap.size n n (rowK f 0 ++ List.replicate (n - 0) 0) (w.alloc (.cells (madeCells #[.int .i64 0] n) 2))) := own_made _ w n (by omega)
  have HB0 : Hid (Below w.heap.size w (w.alloc (.cells (madeCells #[.int .i64 0] n) 2))) := (Below.refl _ _).alloc (Nat.le_refl _) _
  have HC := hid hC
  clear hC
  go_enter Tryz.func83, Tryz.ntmps83
  go_wp2_with fail
  go_loopw [13] (fun i W => ∃ k : Nat, k ≤ n ∧ i = .int .i64 k ∧ Hid (OwnK 2 w.heap.size w.heap.size n n (rowK f k ++ List.replicate (n - k) 0) W) ∧ Hid (Below w.heap.size w W)) (fun i _ => n - (intOf i).toNat)
  case atStart => exact ⟨0, Nat.zero_le _, rfl, HO0, HB0⟩
  case round =>
    obtain ⟨k, hk, rfl, HO, HB⟩ := hrel
    clear HO0 HB0 hmk
    by_cases hlt : k < n
    · have hC := HC.out k wr hlt HB.out
      have HS := hid (rowK_set f hlt)
      clear HC
      go_wp2_with fail
      refine hC.mono ?_
      rintro e w2 ⟨rfl, hb⟩
      have HO2 := hid (HO.out.stays hb)
      have HB2 := hid (HB.out.trans (hb.mono HB.out.size))
      have ck := HO2.out.cell hlt
      have fk := HO2.out.frozen k
      have HO3 : Hid (OwnK 2 w.heap.size w.heap.size n n (rowK f (k + 1) ++ List.replicate (n - (k + 1)) 0) (w2.setCell ⟨w.heap.size, k, none⟩ (.int .i64 (f k)))) := by
        have := HO2.out.set k (f k)
        rw [HS.out] at this
        exact this
      have HB3 := hid (HB2.out.setCell (p := ⟨w.heap.size, k, none⟩) (Nat.le_refl _) (.int .i64 (f k)))
      clear hb hC HO HO2 HB HB2 HS
      go_wp2_with fail
      go_round
      case rel => exact ⟨k + 1, by omega, by go_num, HO3, HB3⟩
      case measure => simp [intOf]; omega
    · obtain rfl : k = n := by omega
      have HO3 : Hid (OwnK 2 w.heap.size w.heap.size k k (rowK f k) wr) := by
        have := HO.out
        rw [Nat.sub_self, List.replicate_zero, List.append_nil] at this
        exact this
      clear HO HC
      go_wp2
      go_ret
      exact ⟨_, _, rfl, HO3.out, HB.out⟩

/-- A table of n rows in block G: of the first k rows each lies in memory of its own, and has these numbers. -/
structure TblUp (w : World) (G n m : Nat) (F : Nat → List Int) (k : Nat) (hs : List Hd) (W : World) : Prop where
  own : OwnS w.heap.size G n n hs W
  rows : ∀ j, j < k → ∃ g c, hs[j]?.getD (none, 0, 0) = (some ⟨g, 0, none⟩, m, c) ∧ g ≠ G ∧ OwnK 2 w.heap.size g m c (F j) W
  old : Below w.heap.size w W
theorem TblUp.below {w : World} {G n m : Nat} {F : Nat → List Int} {k : Nat} {hs : List Hd} {W W' : World} (h : TblUp w G n m F k hs W) (hb : Below W.heap.size W W') : TblUp w G n m F k hs W' :=
  ⟨h.own.stays hb, fun j hj => by
    obtain ⟨g, c, h1, h2, h3⟩ := h.rows j hj
    exact ⟨g, c, h1, h2, h3.stays hb⟩, h.old.trans (hb.mono h.old.size)⟩
theorem TblUp.low {w w0 : World} {G n m : Nat} {F : Nat → List Int} {k : Nat} {hs : List Hd} {W : World} (h : TblUp w G n m F k hs W) (hb : Below w0.heap.size w0 w) : TblUp w0 G n m F k hs W :=
  ⟨h.own.low hb.size, fun j hj => by
    obtain ⟨g, c, h1, h2, h3⟩ := h.rows j hj
    exact ⟨g, c, h1, h2, h3.low hb.size⟩, hb.trans (h.old.mono hb.size)⟩
theorem TblUp.step {w : World} {G n m : Nat} {F : Nat → List Int} {k : Nat} {hs : List Hd} {W : World} (h : TblUp w G n m F k hs W) (hk : k < n) {g c : Nat} (hg : g ≠ G) (hw : OwnK 2 w.heap.size g m c (F k) W) :
    TblUp w G n m F (k + 1) (hs.set k (some ⟨g, 0, none⟩, m, c)) (W.setCell ⟨G, k, none⟩ (.slice (some ⟨g, 0, none⟩) m c)) := by
  have hl := h.own.len
  refine ⟨h.own.set k (some ⟨g, 0, none⟩, m, c), fun j hj => ?_, h.old.setCell h.own.base _⟩
  by_cases e : j = k
  · subst e
    refine ⟨g, c, by simp [(by omega : j < hs.length)], hg, hw.same (Below.heap_setCell _ _ _ _ ?_)⟩
    exact hg
  · obtain ⟨g', c', h1, h2, h3⟩ := h.rows j (by omega)
    refine ⟨g', c', ?_, h2, h3.same (Below.heap_setCell _ _ _ _ h2)⟩
    rw [List.getElem?_set_ne (by omega)]
    exact h1
/-- The rows of a table. -/
def tblK (F : Nat → List Int) (n : Nat) : List (List Int) := (List.range n).map F
theorem tblK_at (F : Nat → List Int) {n i : Nat} (h : i < n) : (tblK F n)[i]?.getD [] = F i := by simp [tblK, h]
theorem TblUp.tbl {w : World} {G n m : Nat} {F : Nat → List Int} {hs : List Hd} {W : World} (h : TblUp w G n m F n hs W) (hm : m ≤ 1000) : Tbl W (some ⟨G, 0, none⟩) n n hs (tblK F n) := by
  refine ⟨h.own.rd, fun i hi => ?_, fun i hi => ?_⟩
  · obtain ⟨g, c, h1, h2, h3⟩ := h.rows i hi
    rw [h1, tblK_at F hi]
    exact h3.reads
  · obtain ⟨g, c, h1, h2, h3⟩ := h.rows i hi
    rw [h1]
    exact hm
/-- The call made this table. -/
def MadeT (w : World) (n m : Nat) (F : Nat → List Int) (e : Ending) (w' : World) : Prop := ∃ G hs, e = .returned (.slice (some ⟨G, 0, none⟩) n n) ∧ TblUp w G n m F n hs w'

theorem makerows_any (fn : Nat) (recv : Value) (hE : ∀ args w, (callFunc fn args).run Tryz.prog w = .ok (.enter fn args) w) (n m : Nat) (w : World) (hn : n ≤ 1000) (hm : m ≤ 1000) (f : Nat → Nat → Int)
    (hC : ∀ r k wr, r < n → k < m → Below w.heap.size w wr → Calls Tryz.prog fn #[recv, .int .i64 (r : Int), .int .i64 (k : Int)] wr fun e w' => e = .returned (.int .i64 (f r k)) ∧ Below wr.heap.size wr w') :
    Calls Tryz.prog 134 #[.int .i64 n, .int .i64 m, .func (.func fn) #[recv] #[]] w fun e w' => MadeT w n m (fun r => rowK (f r) m) e w' := by
  have hmk := make_rows w n (by omega)
  have HU0 : Hid (TblUp w w.heap.size n m (fun r => rowK (f r) m) 0 (List.replicate n (none, 0, 0)) (w.alloc (.cells (madeCells #[.slice none 0 0] n) 99))) :=
    ⟨own_rows w n (by omega), fun j hj => absurd hj (by omega), (Below.refl _ _).alloc (Nat.le_refl _) _⟩
  have HR : Hid (∀ r W, r < n → Below w.heap.size w W → Calls Tryz.prog 83 #[.int .i64 (r : Int), .int .i64 m, .func (.func fn) #[recv] #[]] W fun e w' => Made W m (rowK (f r) m) e w') :=
    fun r W hr hW => makerow_any fn recv hE r m W hm (f r) fun k wr hk hb => hC r k wr hr hk (hW.trans (hb.mono hW.size))
  clear hC
  go_enter Tryz.func134, Tryz.ntmps134
  go_wp2_with fail
  go_loopw [13] (fun i W => ∃ (k : Nat) (hs : List Hd), k ≤ n ∧ i = .int .i64 k ∧ Hid (TblUp w w.heap.size n m (fun r => rowK (f r) m) k hs W)) (fun i _ => n - (intOf i).toNat)
  case atStart => exact ⟨0, _, Nat.zero_le _, rfl, HU0⟩
  case round =>
    obtain ⟨k, hs, hk, rfl, HU⟩ := hrel
    clear HU0 hmk
    by_cases hlt : k < n
    · have hC := HR.out k wr hlt HU.out.old
      clear HR
      go_wp2_with fail
      refine hC.mono ?_
      rintro e w2 ⟨g, c, rfl, hO, hb⟩
      have HU2 := hid (HU.out.below hb)
      have hGlt := HU.out.own.lt
      have hgb := hO.base
      have hgG : g ≠ w.heap.size := by omega
      have HU3 := hid (HU2.out.step hlt hgG (hO.low HU.out.old.size))
      have ck := HU2.out.own.cell hlt
      have fk := HU2.out.own.frozen k
      generalize hs[k]?.getD (none, 0, 0) = z at *
      obtain ⟨z1, z2, z3⟩ := z
      unfold hdV at ck
      simp only at ck
      clear hb hC HU HU2 hO hGlt hgb hgG
      go_wp2_with fail
      go_round
      case rel => exact ⟨k + 1, _, by omega, by go_num, HU3⟩
      case measure => simp [intOf]; omega
    · obtain rfl : k = n := by omega
      clear HR
      go_wp2
      go_ret
      exact ⟨_, _, rfl, HU.out⟩
end Go.Proofs.YtdomjdfancpbbaaGreat
namespace Go.Proofs.YtdomjdfancpbbaaGreat
open Go.RowKit
set_option linter.unusedVariables false
set_option maxRecDepth 1000000

/-- What a configuration's block holds, behind a call. -/
theorem Cf_keep {W W' : World} {g : Nat} {v0 v1 v2 v3 v4 v5 : Value} (hb : Below W.heap.size W W')
    (h : W.cell? ⟨g, 0, none⟩ = some v0 ∧ W.cell? ⟨g, 1, none⟩ = some v1 ∧ W.cell? ⟨g, 2, none⟩ = some v2 ∧ W.cell? ⟨g, 3, none⟩ = some v3 ∧ W.cell? ⟨g, 4, none⟩ = some v4 ∧ W.cell? ⟨g, 5, none⟩ = some v5) :
    W'.cell? ⟨g, 0, none⟩ = some v0 ∧ W'.cell? ⟨g, 1, none⟩ = some v1 ∧ W'.cell? ⟨g, 2, none⟩ = some v2 ∧ W'.cell? ⟨g, 3, none⟩ = some v3 ∧ W'.cell? ⟨g, 4, none⟩ = some v4 ∧ W'.cell? ⟨g, 5, none⟩ = some v5 :=
  ⟨(hb.cell (World.block_lt_of_cell? _ _ h.1)).trans h.1, (hb.cell (World.block_lt_of_cell? _ _ h.2.1)).trans h.2.1, (hb.cell (World.block_lt_of_cell? _ _ h.2.2.1)).trans h.2.2.1, (hb.cell (World.block_lt_of_cell? _ _ h.2.2.2.1)).trans h.2.2.2.1, (hb.cell (World.block_lt_of_cell? _ _ h.2.2.2.2.1)).trans h.2.2.2.2.1, (hb.cell (World.block_lt_of_cell? _ _ h.2.2.2.2.2)).trans h.2.2.2.2.2⟩
theorem token_no (p : Option Addr) (c : Cf) (t : Int) (w : World) (hp : MdAt w p c) (hb : t < 0 ∨ c.vocab ≤ t) (v0 : 0 ≤ c.vocab) (v1 : c.vocab ≤ 64) :
    Calls Tryz.prog 61 #[.pointer p, .int .i64 t] w fun e w' => e = .returned (.slice none 0 0) ∧ Below w.heap.size w w' := by
  have hC := config_any p c w hp
  obtain ⟨s, v, d, l, tt, h⟩ := c
  clear hp
  unfold CfV at hC
  simp only at hC hb v0 v1
  have hb : btw t 0 (v - 1) = false := btw_no.2 (by omega)
  go_enter Tryz.func61, Tryz.ntmps61
  go_wp2_with fail
  refine hC.mono ?_
  rintro e w1 ⟨rfl, hb1⟩
  have HB1 := hid hb1
  clear hb1 hC
  go_wp2_with fail
  refine (mbetween_any _ _ _ _).mono ?_
  rintro e w' ⟨rfl, rfl⟩
  rw [hb]
  go_wp2
  go_ret
  exact ⟨rfl, HB1.out.alloc HB1.out.size _⟩
theorem token_yes (p : Option Addr) (s v l tt h t : Int) (D : Nat) (w : World) (hp : MdAt w p ⟨s, v, D, l, tt, h⟩) (t0 : 0 ≤ t) (t1 : t < v) (v1 : v ≤ 64) (hD : D ≤ 16) :
    Calls Tryz.prog 61 #[.pointer p, .int .i64 t] w fun e w' => Made w D (rowK (fun k => weightZ s 0 t k) D) e w' := by
  have hC := config_any p _ w hp
  have HT := hid fun W => tableof_any ⟨s, v, D, l, tt, h⟩ 0 W (by omega) (by omega)
  have HR := hid fun W => makerow_any 85 (.agg #[.int .u64 (deriveZ s [0])]) (enters_of Tryz.func85 (by kernel_rfl) rfl) t D W (by omega) (fun k => weightZ s 0 t k) fun k wr hk hb => weight_any s 0 t k wr t0 (by omega) (by omega) (by omega)
  generalize rowK (fun k => weightZ s 0 t k) D = row at *
  clear hp
  unfold CfV at hC HT
  simp only at hC HT
  generalize deriveZ s [0] = x at *
  have hb : btw t 0 (v - 1) = true := btw_iff.2 (by omega)
  go_enter Tryz.func61, Tryz.ntmps61
  go_wp2_with fail
  refine hC.mono ?_
  rintro e w1 ⟨rfl, hb1⟩
  have HB1 := hid hb1
  have HN : Hid ((w1.alloc (.cells (CfV ⟨s, v, D, l, tt, h⟩) 69)).heap[w1.heap.size]? = some (.cells (CfV ⟨s, v, D, l, tt, h⟩) 69)) := heap_alloc_new w1 _
  have HK := hid (Cf_cells HN.out)
  unfold CfV at HK
  simp only at HK
  clear hb1 hC HN
  go_wp2_with fail
  refine (mbetween_any _ _ _ _).mono ?_
  rintro e w' ⟨rfl, rfl⟩
  rw [hb]
  have HB2 : Hid (Below w.heap.size w (w1.alloc (.cells #[.int .u64 s, .int .i64 v, .int .i64 D, .int .i64 l, .int .i64 tt, .int .i64 h] 69))) := HB1.out.alloc HB1.out.size _
  generalize hW : w1.alloc (.cells #[.int .u64 s, .int .i64 v, .int .i64 D, .int .i64 l, .int .i64 tt, .int .i64 h] 69) = W2 at *
  clear hW HB1
  go_wp2_with fail
  go_region_held3 (fun W : World => W.cell? ⟨w1.heap.size, 0, none⟩ = some (.int .u64 s) ∧ W.cell? ⟨w1.heap.size, 1, none⟩ = some (.int .i64 v) ∧ W.cell? ⟨w1.heap.size, 2, none⟩ = some (.int .i64 D) ∧ W.cell? ⟨w1.heap.size, 3, none⟩ = some (.int .i64 l) ∧ W.cell? ⟨w1.heap.size, 4, none⟩ = some (.int .i64 tt) ∧ W.cell? ⟨w1.heap.size, 5, none⟩ = some (.int .i64 h))
    (first | exact HK.out | exact Cf_keep hb4 (by assumption) | exact Cf_keep hb3 (by assumption))
    (first | (go_at_call 84; refine (HT.out _).mono ?_; rintro e w3 ⟨rfl, hb3⟩) | (go_at_call 83; refine (HR.out _).mono ?_; rintro e w4 ⟨g, c, rfl, hO, hb4⟩))
  have HB3 := hid (HB2.out.drew.trans (hb3.mono HB2.out.size))
  have HO := hid (hO.low HB3.out.size)
  have HB4 := hid (HB3.out.trans (hb4.mono HB3.out.size))
  clear hO hb3 hb4 HB2 HB3 HT HR HK
  go_wp2
  go_ret
  exact ⟨_, _, rfl, HO.out, HB4.out⟩
theorem place_off (p : Option Addr) (c : Cf) (t : Int) (w : World) (hp : MdAt w p c) (hb : mayB c = false) :
    Calls Tryz.prog 62 #[.pointer p, .int .i64 t] w fun e w' => e = .returned (.slice none 0 0) ∧ Below w.heap.size w w' := by
  have hC := config_any p c w hp
  have HM := hid (may_any c)
  obtain ⟨s, v, d, l, tt, h⟩ := c
  rw [hb] at HM
  clear hp hb
  unfold CfV at hC HM
  simp only at hC HM
  go_enter Tryz.func62, Tryz.ntmps62
  go_wp2_with fail
  refine hC.mono ?_
  rintro e w1 ⟨rfl, hb1⟩
  have HB1 := hid hb1
  clear hb1 hC
  go_wp2_with fail
  refine (HM.out _).mono ?_
  rintro e w2 ⟨rfl, hb2⟩
  have HB2 := hid ((HB1.out.alloc HB1.out.size _).trans (hb2.mono (Nat.le_trans HB1.out.size (by simp))))
  clear HB1 hb2 HM
  go_wp2
  go_ret
  exact ⟨rfl, HB2.out⟩
theorem place_no (p : Option Addr) (c : Cf) (t : Int) (w : World) (hp : MdAt w p c) (hm : mayB c = true) (hb : t < 0 ∨ 256 ≤ t) :
    Calls Tryz.prog 62 #[.pointer p, .int .i64 t] w fun e w' => e = .returned (.slice none 0 0) ∧ Below w.heap.size w w' := by
  have hC := config_any p c w hp
  have HM := hid (may_any c)
  obtain ⟨s, v, d, l, tt, h⟩ := c
  rw [hm] at HM
  clear hp hm
  have hb : btw t 0 255 = false := btw_no.2 (by omega)
  unfold CfV at hC HM
  simp only at hC HM
  go_enter Tryz.func62, Tryz.ntmps62
  go_wp2_with fail
  refine hC.mono ?_
  rintro e w1 ⟨rfl, hb1⟩
  have HB1 := hid hb1
  clear hb1 hC
  go_wp2_with fail
  refine (HM.out _).mono ?_
  rintro e w2 ⟨rfl, hb2⟩
  have HB2 := hid ((HB1.out.alloc HB1.out.size _).trans (hb2.mono (Nat.le_trans HB1.out.size (by simp))))
  clear HB1 hb2 HM
  go_wp2_with fail
  refine (mbetween_any _ _ _ _).mono ?_
  rintro e w' ⟨rfl, rfl⟩
  rw [hb]
  go_wp2
  go_ret
  exact ⟨rfl, HB2.out⟩
theorem place_yes (p : Option Addr) (s v l tt h t : Int) (D : Nat) (w : World) (hp : MdAt w p ⟨s, v, D, l, tt, h⟩) (hm : mayB ⟨s, v, D, l, tt, h⟩ = true) (t0 : 0 ≤ t) (t1 : t < 256) (hD : D ≤ 16) :
    Calls Tryz.prog 62 #[.pointer p, .int .i64 t] w fun e w' => Made w D (rowK (fun k => mulZ (weightZ s 1 t k) 16384) D) e w' := by
  have hC := config_any p _ w hp
  have HM := hid (may_any ⟨s, v, D, l, tt, h⟩)
  rw [hm] at HM
  have HT := hid fun W => tableof_any ⟨s, v, D, l, tt, h⟩ 1 W (by omega) (by omega)
  have HR := hid fun W => makerow_any 86 (.agg #[.int .u64 (deriveZ s [1])]) (enters_of Tryz.func86 (by kernel_rfl) rfl) t D W (by omega) (fun k => mulZ (weightZ s 1 t k) 16384) fun k wr hk hb => placeweight_any s 1 t k wr t0 (by omega) (by omega) (by omega)
  generalize rowK (fun k => mulZ (weightZ s 1 t k) 16384) D = row at *
  clear hp hm
  unfold CfV at hC HT HM
  simp only at hC HT HM
  generalize deriveZ s [1] = x at *
  have hb : btw t 0 255 = true := btw_iff.2 (by omega)
  go_enter Tryz.func62, Tryz.ntmps62
  go_wp2_with fail
  refine hC.mono ?_
  rintro e w1 ⟨rfl, hb1⟩
  have HB1 := hid hb1
  have HN : Hid ((w1.alloc (.cells (CfV ⟨s, v, D, l, tt, h⟩) 69)).heap[w1.heap.size]? = some (.cells (CfV ⟨s, v, D, l, tt, h⟩) 69)) := heap_alloc_new w1 _
  have HK := hid (Cf_cells HN.out)
  unfold CfV at HK
  simp only at HK
  clear hb1 hC HN
  go_wp2_with fail
  refine (HM.out _).mono ?_
  rintro e W2 ⟨rfl, hb2⟩
  have HB2 := hid ((HB1.out.alloc HB1.out.size _).trans (hb2.mono (Nat.le_trans HB1.out.size (by simp))))
  replace HK := hid (Cf_keep hb2 HK.out)
  clear HB1 hb2 HM
  go_wp2_with fail
  refine (mbetween_any _ _ _ _).mono ?_
  rintro e w' ⟨rfl, rfl⟩
  rename World => W2
  rw [hb]
  go_wp2_with fail
  go_region_held3 (fun W : World => W.cell? ⟨w1.heap.size, 0, none⟩ = some (.int .u64 s) ∧ W.cell? ⟨w1.heap.size, 1, none⟩ = some (.int .i64 v) ∧ W.cell? ⟨w1.heap.size, 2, none⟩ = some (.int .i64 D) ∧ W.cell? ⟨w1.heap.size, 3, none⟩ = some (.int .i64 l) ∧ W.cell? ⟨w1.heap.size, 4, none⟩ = some (.int .i64 tt) ∧ W.cell? ⟨w1.heap.size, 5, none⟩ = some (.int .i64 h))
    (first | exact HK.out | exact Cf_keep hb4 (by assumption) | exact Cf_keep hb3 (by assumption))
    (first | (go_at_call 84; refine (HT.out _).mono ?_; rintro e w3 ⟨rfl, hb3⟩) | (go_at_call 83; refine (HR.out _).mono ?_; rintro e w4 ⟨g, c, rfl, hO, hb4⟩))
  have HB3 := hid (HB2.out.drew.trans (hb3.mono HB2.out.size))
  have HO := hid (hO.low HB3.out.size)
  have HB4 := hid (HB3.out.trans (hb4.mono HB3.out.size))
  clear hO hb3 hb4 HB2 HB3 HT HR HK
  go_wp2
  go_ret
  exact ⟨_, _, rfl, HO.out, HB4.out⟩
theorem rows_no (p : Option Addr) (c : Cf) (la wh : Int) (w : World) (hp : MdAt w p c) (hb : (la < 0 ∨ c.layers ≤ la) ∨ (wh < 0 ∨ 5 < wh)) (v0 : 0 ≤ c.layers) (v1 : c.layers ≤ 4) :
    Calls Tryz.prog 110 #[.pointer p, .int .i64 la, .int .i64 wh] w fun e w' => e = .returned (.slice none 0 0) ∧ Below w.heap.size w w' := by
  have hC := config_any p c w hp
  obtain ⟨s, v, d, l, tt, h⟩ := c
  clear hp
  unfold CfV at hC
  simp only at hC hb v0 v1
  by_cases h1 : la < 0 ∨ l ≤ la
  · have hb : btw la 0 (l - 1) = false := btw_no.2 (by omega)
    clear h1
    go_enter Tryz.func110, Tryz.ntmps110
    go_wp2_with fail
    refine hC.mono ?_
    rintro e w1 ⟨rfl, hb1⟩
    have HB1 := hid hb1
    clear hb1 hC
    go_wp2_with fail
    refine (mbetween_any _ _ _ _).mono ?_
    rintro e w' ⟨rfl, rfl⟩
    rw [hb]
    go_wp2
    go_ret
    exact ⟨rfl, HB1.out.alloc HB1.out.size _⟩
  · have hb1 : btw la 0 (l - 1) = true := btw_iff.2 (by omega)
    have hb2 : btw wh 0 5 = false := btw_no.2 (by omega)
    clear h1 hb
    go_enter Tryz.func110, Tryz.ntmps110
    go_wp2_with fail
    refine hC.mono ?_
    rintro e w1 ⟨rfl, hbl⟩
    have HB1 := hid hbl
    clear hbl hC
    go_wp2_with fail
    refine (mbetween_any _ _ _ _).mono ?_
    rintro e w' ⟨rfl, rfl⟩
    rw [hb1]
    go_wp2_with fail
    refine (mbetween_any _ _ _ _).mono ?_
    rintro e w' ⟨rfl, rfl⟩
    rw [hb2]
    go_wp2
    go_ret
    exact ⟨rfl, HB1.out.alloc HB1.out.size _⟩
end Go.Proofs.YtdomjdfancpbbaaGreat
namespace Go.Proofs.YtdomjdfancpbbaaGreat
open Go.RowKit
set_option linter.unusedVariables false
set_option maxRecDepth 1000000

theorem wrap_in {n : Int} (h0 : -9223372036854775808 ≤ n) (h1 : n ≤ 9223372036854775807) : IntKind.i64.wrap n = n := by
  rw [IntKind.wrap_i64]; omega
theorem rows_yes (p : Option Addr) (s v l tt h la wh : Int) (D : Nat) (w : World) (hp : MdAt w p ⟨s, v, D, l, tt, h⟩) (l0 : 0 ≤ la) (l1 : la < l) (l2 : l ≤ 4) (k0 : 0 ≤ wh) (k1 : wh ≤ 5) (hD : D ≤ 16) :
    Calls Tryz.prog 110 #[.pointer p, .int .i64 la, .int .i64 wh] w fun e w' => MadeT w D D (fun r => rowK (fun k => weightZ s (2 + 6 * la + wh) r k) D) e w' := by
  have hC := config_any p _ w hp
  have HT := hid fun W => tableof_any ⟨s, v, D, l, tt, h⟩ (2 + 6 * la + wh) W (by omega) (by omega)
  have HR := hid fun W => makerows_any 85 (.agg #[.int .u64 (deriveZ s [2 + 6 * la + wh])]) (enters_of Tryz.func85 (by kernel_rfl) rfl) D D W (by omega) (by omega) (fun r k => weightZ s (2 + 6 * la + wh) r k) fun r k wr hr hk hb => weight_any s _ r k wr (by omega) (by omega) (by omega) (by omega)
  generalize (fun r : Nat => rowK (fun k => weightZ s (2 + 6 * la + wh) r k) D) = F at *
  clear hp
  unfold CfV at hC HT
  simp only at hC HT
  generalize deriveZ s [2 + 6 * la + wh] = x at *
  have hw : 2 + 6 * la + wh = IntKind.i64.wrap (IntKind.i64.wrap (2 + IntKind.i64.wrap (6 * la)) + wh) := by
    rw [wrap_in (n := 6 * la) (by omega) (by omega), wrap_in (n := 2 + 6 * la) (by omega) (by omega), wrap_in (by omega) (by omega)]
  rw [hw] at HT
  clear hw
  have hb1 : btw la 0 (l - 1) = true := btw_iff.2 (by omega)
  have hb2 : btw wh 0 5 = true := btw_iff.2 (by omega)
  go_enter Tryz.func110, Tryz.ntmps110
  go_wp2_with fail
  refine hC.mono ?_
  rintro e w1 ⟨rfl, hbl⟩
  have HB1 := hid hbl
  have HN : Hid ((w1.alloc (.cells (CfV ⟨s, v, D, l, tt, h⟩) 69)).heap[w1.heap.size]? = some (.cells (CfV ⟨s, v, D, l, tt, h⟩) 69)) := heap_alloc_new w1 _
  have HK := hid (Cf_cells HN.out)
  unfold CfV at HK
  simp only at HK
  clear hbl hC HN
  go_wp2_with fail
  refine (mbetween_any _ _ _ _).mono ?_
  rintro e w' ⟨rfl, rfl⟩
  rw [hb1]
  go_wp2_with fail
  refine (mbetween_any _ _ _ _).mono ?_
  rintro e w' ⟨rfl, rfl⟩
  rw [hb2]
  have HB2 : Hid (Below w.heap.size w (w1.alloc (.cells #[.int .u64 s, .int .i64 v, .int .i64 D, .int .i64 l, .int .i64 tt, .int .i64 h] 69))) := HB1.out.alloc HB1.out.size _
  generalize hW : w1.alloc (.cells #[.int .u64 s, .int .i64 v, .int .i64 D, .int .i64 l, .int .i64 tt, .int .i64 h] 69) = W2 at *
  clear hW HB1
  go_wp2_with fail
  go_region_held3 (fun W : World => W.cell? ⟨w1.heap.size, 0, none⟩ = some (.int .u64 s) ∧ W.cell? ⟨w1.heap.size, 1, none⟩ = some (.int .i64 v) ∧ W.cell? ⟨w1.heap.size, 2, none⟩ = some (.int .i64 D) ∧ W.cell? ⟨w1.heap.size, 3, none⟩ = some (.int .i64 l) ∧ W.cell? ⟨w1.heap.size, 4, none⟩ = some (.int .i64 tt) ∧ W.cell? ⟨w1.heap.size, 5, none⟩ = some (.int .i64 h))
    (first | exact HK.out | exact Cf_keep hb4 (by assumption) | exact Cf_keep hb3 (by assumption))
    (first | (go_at_call 84; refine (HT.out _).mono ?_; rintro e w3 ⟨rfl, hb3⟩) | (go_at_call 134; refine (HR.out _).mono ?_; rintro e w4 ⟨G, hs, rfl, hU⟩; have hb4 := hU.old))
  have HB3 := hid (HB2.out.drew.trans (hb3.mono HB2.out.size))
  have HU := hid (hU.low HB3.out)
  clear hU hb3 hb4 HB2 HB3 HT HR HK
  go_wp2
  go_ret
  exact ⟨_, _, rfl, HU.out⟩
end Go.Proofs.YtdomjdfancpbbaaGreat
namespace Go.Proofs.YtdomjdfancpbbaaGreat
open Go.RowKit
set_option linter.unusedVariables false
set_option maxRecDepth 1000000

/-- The slice's block is one of numbers. -/
def BlI (w : World) (a : Option Addr) : Prop := ∀ p, a = some p → ∃ cur fz, w.heap[p.block]? = some (.cells cur 2 fz)
theorem BlI.none (w : World) : BlI w none := fun p h => by cases h
theorem BlI.below {w w' : World} {a : Option Addr} (h : BlI w a) (hb : Below w.heap.size w w') : BlI w' a := fun p hp => by
  obtain ⟨cur, fz, hc⟩ := h p hp
  exact ⟨cur, fz, (hb.block _ (lt_of_block hc)).trans hc⟩
theorem BlI.own {w : World} {B n l c : Nat} {a : Option Addr} {xs : List Value} (h : w.ownsRow B 2 1 (.slice a l c) n xs) : BlI w a := by
  rcases h.2 with ⟨h', _⟩ | ⟨g, cap, cur, h', _, hg, _⟩
  · cases h'; exact BlI.none w
  · cases h'; intro p hp; cases hp; exact ⟨cur, (0, 0), hg⟩
/-- A row of the call's own, whose cells are these slices, and they read as these lists. -/
structure RowsI (w : World) (base : Nat) (v : Value) (n : Nat) (hs : List Hd) (ls : List (List Int)) : Prop where
  own : w.ownsRow base 99 1 v n (hs.map hdV)
  size : ls.length = n
  rows : ∀ j, j < n → Reads .i64 w (hs[j]?.getD (none, 0, 0)).1 (hs[j]?.getD (none, 0, 0)).2.1 (hs[j]?.getD (none, 0, 0)).2.2 (ls[j]?.getD []) ∧ BlI w (hs[j]?.getD (none, 0, 0)).1 ∧ (hs[j]?.getD (none, 0, 0)).2.1 ≤ 1000
theorem RowsI.nil (w : World) (base : Nat) : RowsI w base (.slice none 0 0) 0 [] [] := ⟨World.ownsRow_nil _ _ _ _, rfl, fun j hj => by omega⟩
theorem RowsI.below {w w' : World} {base : Nat} {v : Value} {n : Nat} {hs : List Hd} {ls : List (List Int)} (h : RowsI w base v n hs ls) (hb : Below w.heap.size w w') : RowsI w' base v n hs ls :=
  ⟨own_below h.own hb, h.size, fun j hj => ⟨(h.rows j hj).1.below hb, (h.rows j hj).2.1.below hb, (h.rows j hj).2.2⟩⟩
theorem RowsI.tbl {w : World} {base : Nat} {v : Value} {n : Nat} {hs : List Hd} {ls : List (List Int)} (h : RowsI w base v n hs ls) : ∃ a c, v = .slice a n c ∧ Tbl w a n c hs ls := by
  have hl : hs.length = n := by have := h.own.1; simpa using this
  rcases id h.own.2 with ⟨rfl, rfl⟩ | ⟨g, cap, cur, rfl, hb, hg, hnc, hm, hs', ht⟩
  · exact ⟨none, 0, rfl, ⟨hl, Nat.le_refl _, by omega, fun _ => ⟨rfl, rfl⟩, fun i hi => by omega⟩, fun i hi => (h.rows i hi).1, fun i hi => (h.rows i hi).2.2⟩
  · refine ⟨some ⟨g, 0, none⟩, cap, rfl, ⟨hl, hnc, by unfold maxLen at hm; omega, (fun e => by cases e), fun i hi => ⟨g, 0, rfl, ?_⟩⟩, fun i hi => (h.rows i hi).1, fun i hi => (h.rows i hi).2.2⟩
    have := World.ownsRow.cellAt h.own i (by omega)
    rw [Nat.zero_add, this]
    simp [(by omega : i < hs.length), hdV]
/-- A slice of numbers stays while a row of slices grows. -/
theorem Reads.kept {w w' : World} {base : Nat} {v : Value} {n : Nat} {vals : List Value} {a : Option Addr} {l c : Nat} {zs : List Int} (ho : w.ownsRow base 99 1 v n vals) (hg : w.grownBy w' v.ownBlock)
    (hr : Reads .i64 w a l c zs) (h5 : BlI w a) : Reads .i64 w' a l c zs ∧ BlI w' a := by
  have key : ∀ p, a = some p → w'.heap[p.block]? = w.heap[p.block]? := by
    intro p hp
    obtain ⟨cur, fz, hc⟩ := h5 p hp
    refine hg.block p.block (lt_of_block hc) ?_
    intro e
    rcases ho.2 with ⟨rfl, _⟩ | ⟨g, cap, cur', rfl, _, hgb, _⟩
    · simp [Value.ownBlock] at e
    · simp [Value.ownBlock] at e
      rw [e, hgb] at hc
      simp at hc
  refine ⟨⟨hr.size, hr.room, hr.most, hr.bare, fun i hi => ?_⟩, fun p hp => ?_⟩
  · obtain ⟨b, off, ha, hc⟩ := hr.cell i hi
    exact ⟨b, off, ha, (World.cell?_of_block (a := ⟨b, off + i, none⟩) (key ⟨b, off, none⟩ ha)).trans hc⟩
  · obtain ⟨cur, fz, hc⟩ := h5 p hp
    exact ⟨cur, fz, (key p hp).trans hc⟩
/-- An append of one slice to a row of slices of the call's own. -/
theorem append_rowI {P : Program} (w : World) {ops : Array Oper} {rest : List Oper} {o : Oper} {a : Act} {Q : Exit → Act → World → Prop} (hgd : o.guard = none) (s x : Operand) (t : TypeId)
    (ho : o.op = .call { callee := .builtin .append, args := #[s, x], argTypes := #[t, t] })
    (base : Nat) (i : TypeInfo) (ht : P.underlying t = some (.slice 99)) (hi : P.info? 99 = some i) (hz : i.zero = some (.slice none 0 0)) (hsize : i.size = 1) (hby : i.bytes = 24)
    (v : Value) (n : Nat) (hs : List Hd) (ls : List (List Int)) (hv : a.eval s = v) (hown : RowsI w base v n hs ls) (hn : n ≤ 100000)
    (B : Nat) (y : Hd) (zs : List Int) (hx : a.eval x = .slice (some ⟨B, 0, none⟩) 1 1) (hc : w.cell? ⟨B, 0, none⟩ = some (.slice y.1 y.2.1 y.2.2)) (hr : Reads .i64 w y.1 y.2.1 y.2.2 zs) (h5 : BlI w y.1) (hy : y.2.1 ≤ 1000)
    (hbase : base ≤ w.heap.size)
    (h : ∀ v' w', RowsI w' base v' (n + 1) (hs ++ [y]) (ls ++ [zs]) → Below base w w' → wpList P ops Q rest (a.put o.dst v') w') : wpList P ops Q (o :: rest) a w := by
  have hlen : hs.length = n := by have := hown.own.1; simpa using this
  refine wpList_append_own w hgd s x t ho base 99 i (.slice none 0 0) 1 24 ht hi hz hsize hby rfl (by decide) v n _ hv hown.own ⟨B, 0, none⟩ 1 1 [hdV y] hx rfl ?_ ?_ (by unfold maxLen; omega) (by omega) hbase ?_
  · intro j u hu
    rcases j with _ | j
    · simp at hu
      rw [Addr.add_lit, Nat.zero_add, hc, ← hu]
      rfl
    · simp at hu
  · intro u hu
    simp at hu
    subst hu
    rfl
  · intro v' w' h1 h2 _
    refine h v' w' ⟨by rw [List.map_append]; exact h1, by simp [hown.size], fun j hj => ?_⟩ ((Below.refl _ _).grown h2 hbase fun g hg => (hown.own.lt g hg).1)
    have hsz := hown.size
    rcases Nat.lt_or_ge j n with hj' | hj'
    · obtain ⟨e2, e3, e4⟩ := hown.rows j hj'
      obtain ⟨k1, k2⟩ := Reads.kept hown.own h2 e2 e3
      rw [List.getElem?_append_left (by omega), List.getElem?_append_left (by omega)]
      exact ⟨k1, k2, e4⟩
    · obtain rfl : j = n := by omega
      obtain ⟨k1, k2⟩ := Reads.kept hown.own h2 hr h5
      rw [List.getElem?_append_right (by omega), List.getElem?_append_right (by omega)]
      simp only [hlen, hsz, Nat.sub_self, List.getElem?_cons_zero, Option.getD_some]
      exact ⟨k1, k2, hy⟩
theorem tblK_len (F : Nat → List Int) (n : Nat) : (tblK F n).length = n := by simp [tblK]
theorem tblK_snoc (F : Nat → List Int) (n : Nat) : tblK F n ++ [F n] = tblK F (n + 1) := by unfold tblK; rw [List.range_succ, List.map_append]; rfl
/-- Of a row's places the first k are turned. -/
def overK (f h : Nat → Int) (k n : Nat) : List Int := rowK (fun j => if j < k then h j else f j) n
theorem overK_0 (f h : Nat → Int) (n : Nat) : overK f h 0 n = rowK f n := by unfold overK; congr 1
theorem rowK_at (f : Nat → Int) {n i : Nat} (hi : i < n) : (rowK f n)[i]?.getD 0 = f i := by simp [rowK, hi]
theorem overK_at (f h : Nat → Int) {k n : Nat} (hk : k < n) : (overK f h k n)[k]?.getD 0 = f k := by unfold overK; rw [rowK_at _ hk]; simp
theorem overK_set (f h : Nat → Int) {k n : Nat} (hk : k < n) : (overK f h k n).set k (h k) = overK f h (k + 1) n := by
  apply List.ext_getElem?
  intro i
  unfold overK rowK
  by_cases e : k = i
  · subst e; simp [hk]
  · rw [List.getElem?_set_ne e]
    by_cases hi : i < n
    · simp only [List.getElem?_map, List.getElem?_range hi, Option.map_some]
      by_cases h1 : i < k
      · rw [if_pos h1, if_pos (by omega)]
      · rw [if_neg h1, if_neg (by omega)]
    · simp [hi]
theorem overK_all (f h : Nat → Int) (n : Nat) : overK f h n n = rowK h n := by
  unfold overK rowK
  apply List.map_congr_left
  intro i hi
  simp at hi
  simp [hi]
end Go.Proofs.YtdomjdfancpbbaaGreat
namespace Go.Proofs.YtdomjdfancpbbaaGreat
open Go.RowKit
set_option linter.unusedVariables false
set_option maxRecDepth 1000000

/-- The call hands back a row of its own. -/
def GivesO (w : World) (n : Nat) (xs : List Int) (e : Ending) (w' : World) : Prop := ∃ v, e = .returned v ∧ w'.ownsRow w.heap.size 2 1 v n (xs.map (Value.int .i64)) ∧ Below w.heap.size w w'
theorem GivesO.gives {w w' : World} {n : Nat} {xs : List Int} {e : Ending} (h : GivesO w n xs e w') : Gives w n xs e w' := by
  obtain ⟨v, rfl, h1, h2⟩ := h
  exact gives_own h1 h2
theorem own_base {base base' e size n : Nat} {v : Value} {xs : List Value} {w : World} (h : w.ownsRow base e size v n xs) (hb : base' ≤ base) : w.ownsRow base' e size v n xs := by
  refine ⟨h.1, ?_⟩
  rcases h.2 with h' | ⟨g', c, cur, hv, hB, rest⟩
  · exact .inl h'
  · exact .inr ⟨g', c, cur, hv, Nat.le_trans hb hB, rest⟩

theorem ownK_of {base n : Nat} {v : Value} {xs : List Int} {w : World} (h : w.ownsRow base 2 1 v n (xs.map (Value.int .i64))) (hn : 1 ≤ n) : ∃ g c, v = .slice (some ⟨g, 0, none⟩) n c ∧ OwnK 2 base g n c xs w := by
  rcases id h.2 with ⟨rfl, rfl⟩ | ⟨g, cap, cur, rfl, rest⟩
  · omega
  · exact ⟨g, cap, rfl, h⟩
end Go.Proofs.YtdomjdfancpbbaaGreat
namespace Go.Proofs.YtdomjdfancpbbaaGreat
open Go.RowKit
set_option linter.unusedVariables false
set_option maxRecDepth 1000000

/-- The call hands back a table. -/
def GivesT (w : World) (n : Nat) (ls : List (List Int)) (e : Ending) (w' : World) : Prop := ∃ a c hs, e = .returned (.slice a n c) ∧ Tbl w' a n c hs ls ∧ Below w.heap.size w w'
theorem MadeT.gives {w w' : World} {n m : Nat} {F : Nat → List Int} {e : Ending} (h : MadeT w n m F e w') (hm : m ≤ 1000) : GivesT w n (tblK F n) e w' := by
  obtain ⟨G, hs, rfl, hU⟩ := h
  exact ⟨_, _, hs, rfl, hU.tbl hm, hU.old⟩
theorem may_al : mayB ⟨0, 2, 1, 1, 1, 0⟩ = true := by decide
end Go.Proofs.YtdomjdfancpbbaaGreat
