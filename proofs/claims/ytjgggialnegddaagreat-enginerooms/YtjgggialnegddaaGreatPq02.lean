/-
  The texts KvMath, KvMath2, KvMath3, KvMath4, KvMath5, Derives, KvRef, PgMath, PgRef, PgFree, HiMath, HiOps, HiUps of this proof.
-/
import Derived.Test.YtjgggialnegddaaGreatPq01
import Derived.Deep.QuietTactic
import Derived.BigQuiet
set_option linter.unusedVariables false
set_option maxRecDepth 1000000
namespace Go.Proofs.YtjgggialnegddaaGreat
open Go.RowKit
abbrev En := List Int × Int
def en (es : List En) (i : Nat) : En := es[i]?.getD ([], 0)
def begB (a b : List Int) : Bool := a.isPrefixOf b
theorem begB_iff {a b : List Int} : begB a b = true ↔ a.length ≤ b.length ∧ ∀ i, i < a.length → a[i]?.getD 0 = b[i]?.getD 0 := by
 unfold begB
 rw [List.isPrefixOf_iff_prefix]
 constructor
 ·rintro ⟨c, rfl⟩
  refine ⟨by simp, fun i hi => ?_⟩
  rw [List.getElem?_append_left hi]
 ·rintro ⟨h1, h2⟩
  refine List.prefix_iff_eq_take.2 (List.ext_getElem (by simp; omega) fun i h3 h4 => ?_)
  have := h2 i h3
  rw [List.getElem?_eq_getElem h3, List.getElem?_eq_getElem (by omega)] at this
  simpa using this
def plcI (es : List En) (ts : List Int) : Nat := es.findIdx (fun e => e.1 == ts)
def plcZ (es : List En) (ts : List Int) : Int := if plcI es ts < es.length then (plcI es ts : Int) else -1
theorem plc_at {es : List En} {ts : List Int} {i : Nat} (hi : i < es.length) (h0 : (en es i).1 = ts) (hn : ∀ j, j < i → (en es j).1 ≠ ts) : plcZ es ts = i := by
 have e : plcI es ts = i := by
  unfold plcI
  rw [List.findIdx_eq hi]
  unfold en at h0
  rw [List.getElem?_eq_getElem hi] at h0
  refine ⟨by simpa using h0, fun j hj => ?_⟩
  have := hn j hj
  unfold en at this
  rw [List.getElem?_eq_getElem (by omega)] at this
  simpa using this
 unfold plcZ
 rw [if_pos (by omega), e]
def useK (tm : Int) (ts : List Int) (es : List En) (k : Nat) : List En := (es.take k).map (fun e => if begB e.1 ts then (e.1, tm) else e) ++ es.drop k
def bestK (ts : List Int) (es : List En) : Nat → Int
 | 0 => 0
 | k + 1 => if begB (en es k).1 ts then max (bestK ts es k) ((en es k).1.length : Int) else bestK ts es k
theorem useK_len (tm : Int) (ts : List Int) (es : List En) (k : Nat) : (useK tm ts es k).length = es.length := by simp [useK]; omega
theorem en_set {es : List En} {k : Nat} {x : En} (hk : k < es.length) (i : Nat) : en (es.set k x) i = if i = k then x else en es i := by
 unfold en
 rw [List.getElem?_set]
 by_cases e : k = i
 ·subst e; rw [if_pos rfl, if_pos hk, if_pos rfl]; rfl
 ·rw [if_neg e, if_neg (fun h => e h.symm)]
theorem useK_at (tm : Int) (ts : List Int) {es : List En} {k i : Nat} (hi : i < es.length) : en (useK tm ts es k) i = if i < k ∧ begB (en es i).1 ts = true then ((en es i).1, tm) else en es i := by
 unfold useK en
 by_cases h : i < k
 ·rw [List.getElem?_append_left (by simp; omega), List.getElem?_map, List.getElem?_take_of_lt h, List.getElem?_eq_getElem hi]
  simp only [Option.map_some, Option.getD_some, h, true_and]
 ·rw [List.getElem?_append_right (by simp; omega), if_neg (fun e => h e.1)]
  simp only [List.length_map, List.length_take, List.getElem?_drop]
  congr 1
  rw [Nat.min_eq_left (by omega)]
  congr 1
  omega
theorem en_ext {es fs : List En} (hl : es.length = fs.length) (h : ∀ i, i < es.length → en es i = en fs i) : es = fs := by
 apply List.ext_getElem hl
 intro i h1 h2
 have := h i h1
 unfold en at this
 rw [List.getElem?_eq_getElem h1, List.getElem?_eq_getElem h2] at this
 exact this
def leafB (es : List En) (k : Nat) : Bool := (List.range es.length).all fun i => i == k || !begB (en es k).1 (en es i).1
theorem leaf_yes {es : List En} {k : Nat} (h : ∀ i, i < es.length → i ≠ k → begB (en es k).1 (en es i).1 = false) : leafB es k = true := by
 unfold leafB
 rw [List.all_eq_true]
 intro i hi
 rw [List.mem_range] at hi
 by_cases e : i = k
 ·simp [e]
 ·simp [h i hi e]
theorem leaf_no {es : List En} {k i : Nat} (hi : i < es.length) (hk : i ≠ k) (h : begB (en es k).1 (en es i).1 = true) : leafB es k = false := by
 rw [Bool.eq_false_iff]
 intro hl
 unfold leafB at hl
 rw [List.all_eq_true] at hl
 have := hl i (List.mem_range.2 hi)
 simp [hk, h] at this
def goB (es : List En) (ts : List Int) (i : Nat) : Bool := leafB es i && !begB (en es i).1 ts
def oldK (es : List En) (ts : List Int) : Nat → Int
 | 0 => -1
 | k + 1 => if goB es ts k && (decide (oldK es ts k < 0) || decide ((en es k).2 < (en es (oldK es ts k).toNat).2)) then (k : Int) else oldK es ts k
theorem oldK_bd (es : List En) (ts : List Int) (k : Nat) : -1 ≤ oldK es ts k ∧ oldK es ts k < k := by
 induction k with
 | zero => simp [oldK]
 | succ k ih =>
  simp only [oldK]
  split
  ·omega
  ·omega
end Go.Proofs.YtjgggialnegddaaGreat
namespace Go.Proofs.YtjgggialnegddaaGreat
open Go.RowKit
def putE (pg tm : Int) (ts x : List Int) (es : List En) : Option (List En × Int) :=
 if plcI es x < es.length then some (es.set (plcI es x) ((en es (plcI es x)).1, tm), 0)
 else if pg ≤ (es.length : Int) then (if oldK es ts es.length < 0 then none else some (es.eraseIdx (oldK es ts es.length).toNat ++ [(x, tm)], 1))
 else some (es ++ [(x, tm)], 1)
def putK (pg tm : Int) (sz : Nat) (ts : List Int) (es : List En) : Nat → List En × Int × Bool
 | 0 => (es, 0, false)
 | j + 1 => if (putK pg tm sz ts es j).2.2 = true then putK pg tm sz ts es j else
  match putE pg tm ts (ts.take ((j + 1) * sz)) (putK pg tm sz ts es j).1 with
  | none => ((putK pg tm sz ts es j).1, (putK pg tm sz ts es j).2.1, true)
  | some p => (p.1, (putK pg tm sz ts es j).2.1 + p.2, false)
section
variable {pg tm : Int} {sz : Nat} {ts : List Int} {es : List En} {j : Nat}
theorem putK_use (hs : (putK pg tm sz ts es j).2.2 = false) {E : List En} (hE : (putK pg tm sz ts es j).1 = E) {p : Nat} (hp : plcZ E (ts.take ((j + 1) * sz)) = (p : Int)) :
  putK pg tm sz ts es (j + 1) = (E.set p ((en E p).1, tm), (putK pg tm sz ts es j).2.1, false) ∧ p < E.length := by
 have h1 : plcI E (ts.take ((j + 1) * sz)) < E.length ∧ plcI E (ts.take ((j + 1) * sz)) = p := by
  unfold plcZ at hp
  split at hp
  ·exact ⟨by assumption, by omega⟩
  ·omega
 obtain ⟨h1, rfl⟩ := h1
 refine ⟨?_, h1⟩
 rw [putK]
 simp only [hs, hE, Bool.false_eq_true, if_false, putE, if_pos h1, Int.add_zero]
theorem plcZ_neg {E : List En} {x : List Int} (h : plcZ E x < 0) : ¬ plcI E x < E.length := by
 unfold plcZ at h
 split at h
 ·omega
 ·assumption
theorem putK_add (hs : (putK pg tm sz ts es j).2.2 = false) {E : List En} (hE : (putK pg tm sz ts es j).1 = E) (hp : plcZ E (ts.take ((j + 1) * sz)) < 0) (hl : (E.length : Int) < pg) :
  putK pg tm sz ts es (j + 1) = (E ++ [(ts.take ((j + 1) * sz), tm)], (putK pg tm sz ts es j).2.1 + 1, false) := by
 rw [putK]
 simp only [hs, hE, Bool.false_eq_true, if_false, putE, if_neg (plcZ_neg hp), if_neg (show ¬ pg ≤ (E.length : Int) by omega)]
theorem putK_swap (hs : (putK pg tm sz ts es j).2.2 = false) {E : List En} (hE : (putK pg tm sz ts es j).1 = E) (hp : plcZ E (ts.take ((j + 1) * sz)) < 0) (hl : pg ≤ (E.length : Int)) {o : Nat} (ho : oldK E ts E.length = (o : Int)) :
  putK pg tm sz ts es (j + 1) = (E.eraseIdx o ++ [(ts.take ((j + 1) * sz), tm)], (putK pg tm sz ts es j).2.1 + 1, false) := by
 rw [putK]
 simp only [hs, hE, Bool.false_eq_true, if_false, putE, if_neg (plcZ_neg hp), if_pos hl, ho, if_neg (show ¬ ((o : Int) < 0) by omega), Int.toNat_natCast]
theorem putK_stop (hs : (putK pg tm sz ts es j).2.2 = false) {E : List En} (hE : (putK pg tm sz ts es j).1 = E) (hp : plcZ E (ts.take ((j + 1) * sz)) < 0) (hl : pg ≤ (E.length : Int)) (ho : oldK E ts E.length < 0) :
  putK pg tm sz ts es (j + 1) = (E, (putK pg tm sz ts es j).2.1, true) := by
 rw [putK]
 simp only [hs, hE, Bool.false_eq_true, if_false, putE, if_neg (plcZ_neg hp), if_pos hl, if_pos ho]
theorem putK_stay (h : (putK pg tm sz ts es j).2.2 = true) : ∀ d, putK pg tm sz ts es (j + d) = putK pg tm sz ts es j := by
 intro d
 induction d with
 | zero => rfl
 | succ d ih =>
  rw [← Nat.add_assoc, putK, ih, if_pos h]
theorem putK_len (h : (es.length : Int) ≤ pg) (j : Nat) : ((putK pg tm sz ts es j).1.length : Int) ≤ pg := by
 induction j with
 | zero => simpa [putK] using h
 | succ j ih =>
  have hb : ∀ p, putE pg tm ts (ts.take ((j + 1) * sz)) (putK pg tm sz ts es j).1 = some p → (p.1.length : Int) ≤ pg := by
   intro p hp
   generalize (putK pg tm sz ts es j).1 = E at *
   unfold putE at hp
   split at hp
   ·cases hp; simpa using ih
   ·split at hp
    ·split at hp
     ·cases hp
     ·cases hp
      have := oldK_bd E ts E.length
      simp only [List.length_append, List.length_singleton, List.length_eraseIdx]
      split <;> omega
    ·cases hp; simp; omega
  rw [putK]
  split
  ·exact ih
  ·split
   ·exact ih
   ·rename_i p hp
    exact hb p hp
end
end Go.Proofs.YtjgggialnegddaaGreat
namespace Go.Proofs.YtjgggialnegddaaGreat
open Go.RowKit
def txs (es : List En) : List (List Int) := es.map (·.1)
theorem mem_txs {es : List En} {x : List Int} : x ∈ txs es ↔ ∃ i, i < es.length ∧ (en es i).1 = x := by
 unfold txs
 rw [List.mem_map]
 constructor
 ·rintro ⟨e, he, rfl⟩
  obtain ⟨i, hi, rfl⟩ := List.getElem_of_mem he
  exact ⟨i, hi, by unfold en; rw [List.getElem?_eq_getElem hi]; rfl⟩
 ·rintro ⟨i, hi, rfl⟩
  refine ⟨es[i], List.getElem_mem hi, ?_⟩
  unfold en
  rw [List.getElem?_eq_getElem hi]
  rfl
theorem en_mem {es : List En} {i : Nat} (hi : i < es.length) : en es i ∈ es := by
 unfold en
 rw [List.getElem?_eq_getElem hi]
 exact List.getElem_mem hi
theorem mem_en {es : List En} {e : En} (h : e ∈ es) : ∃ i, i < es.length ∧ en es i = e := by
 obtain ⟨i, hi, rfl⟩ := List.getElem_of_mem h
 exact ⟨i, hi, by unfold en; rw [List.getElem?_eq_getElem hi]; rfl⟩
theorem txs_len (es : List En) : (txs es).length = es.length := by unfold txs; simp
theorem txs_set {es : List En} {p : Nat} {t : Int} : txs (es.set p ((en es p).1, t)) = txs es := by
 unfold txs
 rw [List.map_set]
 apply List.ext_getElem (by simp)
 intro i h1 h2
 rw [List.getElem_set]
 split
 ·rename_i e
  subst e
  simp only [List.length_map] at h2
  simp only [List.getElem_map]
  unfold en
  rw [List.getElem?_eq_getElem h2]
  rfl
 ·rfl
theorem txs_use {tm : Int} {ts : List Int} {es : List En} {k : Nat} : txs (useK tm ts es k) = txs es := by
 unfold txs useK
 rw [List.map_append, List.map_map]
 have e : ((fun x : En => x.1) ∘ fun e : En => if begB e.1 ts = true then (e.1, tm) else e) = fun x : En => x.1 := by
  funext e
  simp only [Function.comp]
  split <;> rfl
 rw [e, ← List.map_append, List.take_append_drop]
theorem plcI_lt {es : List En} {x : List Int} : plcI es x < es.length ↔ x ∈ txs es := by
 unfold plcI txs
 rw [List.findIdx_lt_length, List.mem_map]
 constructor
 ·rintro ⟨e, he, h⟩
  exact ⟨e, he, eq_of_beq h⟩
 ·rintro ⟨e, he, rfl⟩
  exact ⟨e, he, by simp⟩
theorem plcZ_mem {es : List En} {x : List Int} : 0 ≤ plcZ es x ↔ x ∈ txs es := by
 rw [← plcI_lt]
 unfold plcZ
 split
 ·constructor
  ·intro _; assumption
  ·intro _; omega
 ·constructor
  ·intro h; omega
  ·intro h; omega
theorem begB_trans {a b c : List Int} (h : begB a b = true) (k : begB b c = true) : begB a c = true := by
 unfold begB at *
 rw [List.isPrefixOf_iff_prefix] at *
 exact h.trans k
theorem begB_take {a : List Int} (n : Nat) : begB (a.take n) a = true := by
 unfold begB
 rw [List.isPrefixOf_iff_prefix]
 exact List.take_prefix n a
theorem begB_eq {a b : List Int} (h : begB a b = true) : a = b.take a.length := by
 unfold begB at h
 rw [List.isPrefixOf_iff_prefix] at h
 exact List.prefix_iff_eq_take.1 h
theorem begB_two {a b c : List Int} (h : begB a c = true) (k : begB b c = true) : begB a b = true ∨ begB b a = true := by
 unfold begB at *
 simp only [List.isPrefixOf_iff_prefix] at *
 exact List.prefix_or_prefix_of_prefix h k
structure OkE (sz : Nat) (es : List En) : Prop where
 mult : ∀ x ∈ txs es, ∃ j, 1 ≤ j ∧ x.length = j * sz
 shut : ∀ x ∈ txs es, ∀ j, 1 ≤ j → j * sz ≤ x.length → x.take (j * sz) ∈ txs es
 one : (txs es).Nodup
theorem oke_nil (sz : Nat) : OkE sz [] := ⟨fun x h => by simp [txs] at h, fun x h => by simp [txs] at h, by simp [txs]⟩
theorem OkE.same {sz : Nat} {es fs : List En} (h : OkE sz es) (e : txs fs = txs es) : OkE sz fs := ⟨by rw [e]; exact h.mult, by rw [e]; exact h.shut, by rw [e]; exact h.one⟩
structure OkU (tm : Int) (es : List En) : Prop where
 bd : ∀ e ∈ es, 0 ≤ e.2 ∧ e.2 ≤ tm
 like : ∀ e ∈ es, ∀ f ∈ es, e.2 = f.2 → begB e.1 f.1 = true ∨ begB f.1 e.1 = true
theorem oku_nil (tm : Int) : OkU tm [] := ⟨fun e h => by simp at h, fun e h => by simp at h⟩
structure OkV (tm : Int) (ts : List Int) (es : List En) : Prop where
 bd : ∀ e ∈ es, 0 ≤ e.2 ∧ e.2 ≤ tm
 now : ∀ e ∈ es, e.2 = tm → begB e.1 ts = true
 like : ∀ e ∈ es, ∀ f ∈ es, e.2 = f.2 → begB e.1 f.1 = true ∨ begB f.1 e.1 = true
theorem OkU.next {tm : Int} {es : List En} (h : OkU tm es) (h0 : 0 ≤ tm) (ts : List Int) : OkV (tm + 1) ts es :=
 ⟨fun e he => ⟨(h.bd e he).1, by have := (h.bd e he).2; omega⟩, fun e he k => by have := (h.bd e he).2; omega, h.like⟩
theorem OkV.u {tm : Int} {ts : List Int} {es : List En} (h : OkV tm ts es) : OkU tm es := ⟨h.bd, h.like⟩
theorem OkV.put {tm : Int} {ts : List Int} {es fs : List En} (h : OkV tm ts es) (h0 : 0 ≤ tm) (hf : ∀ e ∈ fs, e ∈ es ∨ (e.2 = tm ∧ begB e.1 ts = true)) : OkV tm ts fs := by
 refine ⟨fun e he => ?_, fun e he k => ?_, fun e he f hf' k => ?_⟩
 ·rcases hf e he with h1 | ⟨h1, _⟩
  ·exact h.bd e h1
  ·omega
 ·rcases hf e he with h1 | ⟨_, h1⟩
  ·exact h.now e h1 k
  ·exact h1
 ·rcases hf e he with h1 | ⟨h1, h2⟩
  ·rcases hf f hf' with h3 | ⟨h3, h4⟩
   ·exact h.like e h1 f h3 k
   ·exact begB_two (h.now e h1 (by omega)) h4
  ·have h5 : begB f.1 ts = true := by
    rcases hf f hf' with h3 | ⟨h3, h4⟩
    ·exact h.now f h3 (by omega)
    ·exact h4
   exact begB_two h2 h5
theorem OkU.find {tm : Int} {es : List En} (h : OkU tm es) (h0 : 0 ≤ tm) (ts : List Int) (k : Nat) : OkU (tm + 1) (useK (tm + 1) ts es k) := by
 refine ((h.next h0 ts).put (by omega) fun e he => ?_).u
 obtain ⟨i, hi, rfl⟩ := mem_en he
 rw [useK_len] at hi
 rw [useK_at _ _ hi]
 split
 ·rename_i q; exact .inr ⟨rfl, q.2⟩
 ·exact .inl (en_mem hi)
theorem leaf_iff {es : List En} {k : Nat} (h : leafB es k = true) {i : Nat} (hi : i < es.length) (hk : i ≠ k) : begB (en es k).1 (en es i).1 = false := by
 rw [Bool.eq_false_iff]
 intro e
 rw [leaf_no hi hk e] at h
 cases h
theorem goB_iff {es : List En} {ts : List Int} {i : Nat} : goB es ts i = true ↔ leafB es i = true ∧ begB (en es i).1 ts = false := by
 unfold goB
 rw [Bool.and_eq_true, Bool.not_eq_true']
theorem oldK_go (es : List En) (ts : List Int) : ∀ k, (oldK es ts k < 0 ∧ (∀ i, i < k → goB es ts i = false)) ∨ (∃ o : Nat, oldK es ts k = o ∧ o < k ∧ goB es ts o = true ∧ ∀ i, i < k → goB es ts i = true → (en es o).2 ≤ (en es i).2) := by
 intro k
 induction k with
 | zero => left; exact ⟨by simp [oldK], fun i hi => by omega⟩
 | succ k ih =>
  by_cases hg : goB es ts k = true
  ·rcases ih with ⟨h1, h2⟩ | ⟨o, h1, h2, h3, h4⟩
   ·right
    refine ⟨k, ?_, by omega, hg, fun i hi hgi => ?_⟩
    ·simp only [oldK]; rw [if_pos (by simp [hg, h1])]
    ·rcases (by omega : i < k ∨ i = k) with h5 | rfl
     ·rw [h2 i h5] at hgi; cases hgi
     ·exact Int.le_refl _
   ·by_cases hl : (en es k).2 < (en es o).2
    ·right
     refine ⟨k, ?_, by omega, hg, fun i hi hgi => ?_⟩
     ·simp only [oldK]; rw [h1, Int.toNat_natCast, if_pos (by simp [hg, hl])]
     ·rcases (by omega : i < k ∨ i = k) with h5 | rfl
      ·have := h4 i h5 hgi; omega
      ·exact Int.le_refl _
    ·right
     refine ⟨o, ?_, by omega, h3, fun i hi hgi => ?_⟩
     ·simp only [oldK]
      rw [h1, Int.toNat_natCast, if_neg (by simp [hg, hl])]
     ·rcases (by omega : i < k ∨ i = k) with h5 | rfl
      ·exact h4 i h5 hgi
      ·omega
  ·have hg' : goB es ts k = false := by simpa using hg
   have e : oldK es ts (k + 1) = oldK es ts k := by simp only [oldK]; rw [if_neg (by simp [hg'])]
   rcases ih with ⟨h1, h2⟩ | ⟨o, h1, h2, h3, h4⟩
   ·left
    refine ⟨by rw [e]; exact h1, fun i hi => ?_⟩
    rcases (by omega : i < k ∨ i = k) with h5 | rfl
    ·exact h2 i h5
    ·exact hg'
   ·right
    refine ⟨o, by rw [e]; exact h1, by omega, h3, fun i hi hgi => ?_⟩
    rcases (by omega : i < k ∨ i = k) with h5 | rfl
    ·exact h4 i h5 hgi
    ·rw [hg'] at hgi; cases hgi
theorem oldK_one {tm : Int} {es : List En} {ts : List Int} (hU : OkU tm es) {i : Nat} (hi : i < es.length) (hg : goB es ts i = true) (hm : ∀ j, j < es.length → goB es ts j = true → (en es i).2 ≤ (en es j).2) : oldK es ts es.length = i := by
 rcases oldK_go es ts es.length with ⟨_, h2⟩ | ⟨o, h1, h2, h3, h4⟩
 ·rw [h2 i hi] at hg; cases hg
 ·have e1 := h4 i hi hg
  have e2 := hm o h2 h3
  by_cases e : o = i
  ·rw [h1, e]
  ·exfalso
   rcases hU.like _ (en_mem h2) _ (en_mem hi) (by omega) with h5 | h5
   ·have := leaf_iff (goB_iff.1 h3).1 hi (fun h => e h.symm)
    rw [this] at h5; cases h5
   ·have := leaf_iff (goB_iff.1 hg).1 h2 e
    rw [this] at h5; cases h5
theorem mem_erase {es : List En} {o : Nat} {e : En} : e ∈ es.eraseIdx o ↔ ∃ i, i < es.length ∧ i ≠ o ∧ en es i = e := by
 rw [List.mem_eraseIdx_iff_getElem]
 constructor
 ·rintro ⟨i, h1, h2, rfl⟩
  exact ⟨i, h1, h2, by unfold en; rw [List.getElem?_eq_getElem h1]; rfl⟩
 ·rintro ⟨i, h1, h2, rfl⟩
  exact ⟨i, h1, h2, by unfold en; rw [List.getElem?_eq_getElem h1]; rfl⟩
theorem txs_erase {es : List En} {o : Nat} {x : List Int} : x ∈ txs (es.eraseIdx o) ↔ ∃ i, i < es.length ∧ i ≠ o ∧ (en es i).1 = x := by
 unfold txs
 rw [List.mem_map]
 constructor
 ·rintro ⟨e, he, rfl⟩
  obtain ⟨i, h1, h2, rfl⟩ := mem_erase.1 he
  exact ⟨i, h1, h2, rfl⟩
 ·rintro ⟨i, h1, h2, rfl⟩
  exact ⟨_, mem_erase.2 ⟨i, h1, h2, rfl⟩, rfl⟩
theorem OkE.inj {sz : Nat} {es : List En} (h : OkE sz es) {i j : Nat} (hi : i < es.length) (hj : j < es.length) (e : (en es i).1 = (en es j).1) : i = j := by
 have h1 := h.one
 have e1 : (txs es)[i]'(by rw [txs_len]; exact hi) = (txs es)[j]'(by rw [txs_len]; exact hj) := by
  unfold txs
  rw [List.getElem_map, List.getElem_map]
  unfold en at e
  rw [List.getElem?_eq_getElem hi, List.getElem?_eq_getElem hj] at e
  exact e
 exact (List.getElem_inj h1).1 e1
theorem OkE.erase {sz : Nat} {es : List En} (h : OkE sz es) {o : Nat} (ho : o < es.length) (hl : leafB es o = true) : OkE sz (es.eraseIdx o) ∧ ∀ x, x ∈ txs (es.eraseIdx o) ↔ x ∈ txs es ∧ x ≠ (en es o).1 := by
 have key : ∀ x, x ∈ txs (es.eraseIdx o) ↔ x ∈ txs es ∧ x ≠ (en es o).1 := by
  intro x
  rw [txs_erase, mem_txs]
  constructor
  ·rintro ⟨i, h1, h2, rfl⟩
   exact ⟨⟨i, h1, rfl⟩, fun e => h2 (h.inj h1 ho e)⟩
  ·rintro ⟨⟨i, h1, rfl⟩, h2⟩
   exact ⟨i, h1, fun e => h2 (by rw [e]), rfl⟩
 refine ⟨⟨fun x hx => h.mult x ((key x).1 hx).1, fun x hx j h1 h2 => ?_, ?_⟩, key⟩
 ·obtain ⟨hx1, hx2⟩ := (key x).1 hx
  refine (key _).2 ⟨h.shut x hx1 j h1 h2, fun e => ?_⟩
  obtain ⟨i, hi, rfl⟩ := mem_txs.1 hx1
  have hio : i ≠ o := fun e' => hx2 (by rw [e'])
  have := leaf_iff hl hi hio
  rw [← e, begB_take] at this
  cases this
 ·have : txs (es.eraseIdx o) = (txs es).eraseIdx o := by
   unfold txs
   rw [List.eraseIdx_eq_take_drop_succ, List.eraseIdx_eq_take_drop_succ, List.map_append, List.map_take, List.map_drop]
  rw [this]
  exact h.one.sublist (List.eraseIdx_sublist _ _)
theorem OkE.add {sz : Nat} {es : List En} (h : OkE sz es) {x : List Int} {t : Int} {j : Nat} (hx : x.length = (j + 1) * sz) (hb : ∀ i, 1 ≤ i → i ≤ j → x.take (i * sz) ∈ txs es) (hz : 1 ≤ sz) (hn : x ∉ txs es) : OkE sz (es ++ [(x, t)]) ∧ ∀ y, y ∈ txs (es ++ [(x, t)]) ↔ y ∈ txs es ∨ y = x := by
 have key : ∀ y, y ∈ txs (es ++ [(x, t)]) ↔ y ∈ txs es ∨ y = x := by intro y; unfold txs; simp
 refine ⟨⟨fun y hy => ?_, fun y hy i h1 h2 => ?_, ?_⟩, key⟩
 ·rcases (key y).1 hy with h1 | rfl
  ·exact h.mult y h1
  ·exact ⟨j + 1, by omega, hx⟩
 ·rcases (key y).1 hy with h3 | rfl
  ·exact (key _).2 (.inl (h.shut y h3 i h1 h2))
  ·have hi : i ≤ j + 1 := by
    rw [hx] at h2
    exact Nat.le_of_mul_le_mul_right h2 (by omega)
   rcases (by omega : i ≤ j ∨ i = j + 1) with h4 | rfl
   ·exact (key _).2 (.inl (hb i h1 h4))
   ·rw [← hx, List.take_length]
    exact (key _).2 (.inr rfl)
 ·unfold txs at hn ⊢
  rw [List.map_append, List.nodup_append]
  refine ⟨h.one, by simp, fun a ha b hb' => ?_⟩
  simp at hb'
  subst hb'
  rintro rfl
  exact hn ha
theorem best_is {ts : List Int} {es : List En} {N : Nat} (h1 : ∀ x ∈ txs es, begB x ts = true → x.length ≤ N) (h2 : N = 0 ∨ ts.take N ∈ txs es ∧ N ≤ ts.length) : bestK ts es es.length = N := by
 have a1 : ∀ k, k ≤ es.length → 0 ≤ bestK ts es k ∧ bestK ts es k ≤ N := by
  intro k
  induction k with
  | zero => intro _; simp [bestK]
  | succ k ih =>
   intro hk
   have := ih (by omega)
   simp only [bestK]
   split
   ·rename_i hb
    have := h1 _ (mem_txs.2 ⟨k, by omega, rfl⟩) hb
    omega
   ·exact this
 have a2 : ∀ i, i < es.length → begB (en es i).1 ts = true → ∀ k, i < k → k ≤ es.length → ((en es i).1.length : Int) ≤ bestK ts es k := by
  intro i hi hb k
  induction k with
  | zero => intro h; omega
  | succ k ih =>
   intro hk hk2
   simp only [bestK]
   rcases (by omega : i < k ∨ i = k) with h | rfl
   ·have := ih h (by omega)
    split
    ·omega
    ·exact this
   ·rw [if_pos hb]; omega
 have b1 := a1 es.length (Nat.le_refl _)
 rcases h2 with rfl | ⟨h2, h3⟩
 ·omega
 ·obtain ⟨i, hi, e⟩ := mem_txs.1 h2
  have := a2 i hi (by rw [e]; exact begB_take N) es.length hi (Nat.le_refl _)
  rw [e, List.length_take, Nat.min_eq_left h3] at this
  omega
theorem OkE.best {sz : Nat} {es : List En} (h : OkE sz es) (hz : 1 ≤ sz) {ts : List Int} {J : Nat} (hJ : ∀ i, 1 ≤ i → i ≤ J → ts.take (i * sz) ∈ txs es) (hl : J * sz ≤ ts.length) (hn : (J + 1) * sz ≤ ts.length → ts.take ((J + 1) * sz) ∉ txs es) : bestK ts es es.length = ((J * sz : Nat) : Int) := by
 refine best_is (fun x hx hb => ?_) ?_
 ·obtain ⟨j, hj1, hj2⟩ := h.mult x hx
  rw [hj2]
  have e := begB_eq hb
  have hle := (begB_iff.1 hb).1
  apply Nat.mul_le_mul_right
  apply Nat.le_of_not_lt
  intro hlt
  have hle2 : (J + 1) * sz ≤ j * sz := Nat.mul_le_mul_right _ hlt
  have h5 := h.shut x hx (J + 1) (by omega) (by omega)
  rw [e, List.take_take, Nat.min_eq_left (by omega)] at h5
  exact hn (by omega) h5
 ·by_cases h0 : J = 0
  ·left; rw [h0]; omega
  ·right; exact ⟨hJ J (by omega) (Nat.le_refl _), hl⟩
theorem putE_ok {pg tm : Int} {sz j : Nat} {ts : List Int} {E : List En} (hE : OkE sz E) (hz : 1 ≤ sz) (hj : (j + 1) * sz ≤ ts.length) (hp : ∀ i, 1 ≤ i → i ≤ j → ts.take (i * sz) ∈ txs E) :
  (putE pg tm ts (ts.take ((j + 1) * sz)) E = none ∧ ts.take ((j + 1) * sz) ∉ txs E ∧ pg ≤ E.length ∧ oldK E ts E.length < 0) ∨
  ∃ E' d, putE pg tm ts (ts.take ((j + 1) * sz)) E = some (E', d) ∧ OkE sz E' ∧ (∀ y, begB y ts = true → (y ∈ txs E' ↔ y ∈ txs E ∨ y = ts.take ((j + 1) * sz))) ∧ ((d = 0 ∧ ts.take ((j + 1) * sz) ∈ txs E) ∨ (d = 1 ∧ ts.take ((j + 1) * sz) ∉ txs E)) ∧ (∀ e ∈ E', e ∈ E ∨ (e.2 = tm ∧ begB e.1 ts = true)) := by
 obtain ⟨x, hx⟩ : ∃ x, ts.take ((j + 1) * sz) = x := ⟨_, rfl⟩
 have hxl : x.length = (j + 1) * sz := by rw [← hx, List.length_take]; omega
 have hxb : begB x ts = true := by rw [← hx]; exact begB_take _
 have hxt : ∀ i, 1 ≤ i → i ≤ j → x.take (i * sz) ∈ txs E := fun i h1 h2 => by
  have : i * sz ≤ (j + 1) * sz := Nat.mul_le_mul_right _ (by omega)
  rw [← hx, List.take_take, Nat.min_eq_left this]
  exact hp i h1 h2
 rw [hx]
 unfold putE
 by_cases h1 : plcI E x < E.length
 ·rw [if_pos h1]
  have hm := plcI_lt.1 h1
  right
  refine ⟨_, _, rfl, hE.same txs_set, fun y hy => ?_, .inl ⟨rfl, hm⟩, fun e he => ?_⟩
  ·rw [txs_set]
   constructor
   ·exact .inl
   ·rintro (h | rfl)
    ·exact h
    ·exact hm
  ·rcases List.mem_or_eq_of_mem_set he with h | rfl
   ·exact .inl h
   ·right
    refine ⟨rfl, ?_⟩
    have : (en E (plcI E x)).1 = x := by
     unfold en
     rw [List.getElem?_eq_getElem h1]
     exact eq_of_beq (List.findIdx_getElem (p := fun e : En => e.1 == x) (xs := E) (w := h1))
    show begB (en E (plcI E x)).1 ts = true
    rw [this]
    exact hxb
 ·rw [if_neg h1]
  have hn : x ∉ txs E := fun h => h1 (plcI_lt.2 h)
  by_cases h2 : pg ≤ (E.length : Int)
  ·rw [if_pos h2]
   rcases oldK_go E ts E.length with ⟨h3, _⟩ | ⟨o, h3, h4, h5, _⟩
   ·rw [if_pos h3]
    exact .inl ⟨rfl, hn, h2, h3⟩
   ·rw [if_neg (by omega), h3, Int.toNat_natCast]
    right
    obtain ⟨g1, g2⟩ := goB_iff.1 h5
    obtain ⟨q1, q2⟩ := hE.erase h4 g1
    have hno : ∀ y, begB y ts = true → y ≠ (en E o).1 := fun y hy e => by rw [e, g2] at hy; cases hy
    obtain ⟨r1, r2⟩ := q1.add (t := tm) hxl (fun i a1 a2 => (q2 _).2 ⟨hxt i a1 a2, hno _ (begB_trans (begB_take _) hxb)⟩) hz (fun h => hn ((q2 _).1 h).1)
    refine ⟨_, _, rfl, r1, fun y hy => ?_, .inr ⟨rfl, hn⟩, fun e he => ?_⟩
    ·rw [r2, q2]
     constructor
     ·rintro (⟨h, _⟩ | h)
      ·exact .inl h
      ·exact .inr h
     ·rintro (h | h)
      ·exact .inl ⟨h, hno y hy⟩
      ·exact .inr h
    ·rcases List.mem_append.1 he with h | h
     ·exact .inl (List.mem_of_mem_eraseIdx h)
     ·simp at h; subst h; exact .inr ⟨rfl, hxb⟩
  ·rw [if_neg h2]
   right
   obtain ⟨r1, r2⟩ := hE.add (t := tm) hxl hxt hz hn
   refine ⟨_, _, rfl, r1, fun y hy => r2 y, .inr ⟨rfl, hn⟩, fun e he => ?_⟩
   rcases List.mem_append.1 he with h | h
   ·exact .inl h
   ·simp at h; subst h; exact .inr ⟨rfl, hxb⟩
theorem putK_ok {pg tm : Int} {sz j0 : Nat} {ts : List Int} {es : List En} (hE : OkE sz es) (hz : 1 ≤ sz) (hV : OkV tm ts es) (h0 : 0 ≤ tm) (hj0 : ∀ i, 1 ≤ i → i * sz ≤ ts.length → (ts.take (i * sz) ∈ txs es ↔ i ≤ j0)) :
  ∀ j, j * sz ≤ ts.length → ∃ m, m ≤ j ∧ ((putK pg tm sz ts es j).2.2 = false → m = j) ∧ ((putK pg tm sz ts es j).2.2 = true → j0 ≤ m ∧ pg ≤ (putK pg tm sz ts es j).1.length) ∧ OkE sz (putK pg tm sz ts es j).1 ∧ OkV tm ts (putK pg tm sz ts es j).1 ∧
   (∀ i, 1 ≤ i → i * sz ≤ ts.length → (ts.take (i * sz) ∈ txs (putK pg tm sz ts es j).1 ↔ i ≤ j0 ∨ i ≤ m)) ∧ (putK pg tm sz ts es j).2.1 = ((m - j0 : Nat) : Int) := by
 intro j
 induction j with
 | zero => intro _; exact ⟨0, by omega, fun _ => rfl, fun h => by simp [putK] at h, hE, hV, fun i h1 h2 => by rw [show (putK pg tm sz ts es 0).1 = es from rfl, hj0 i h1 h2]; omega, by simp [putK]⟩
 | succ j ih =>
  intro hj
  have hjl : j * sz ≤ ts.length := Nat.le_trans (Nat.mul_le_mul_right _ (by omega)) hj
  obtain ⟨m, m1, m2, m3, m4, m5, m6, m7⟩ := ih hjl
  by_cases hs : (putK pg tm sz ts es j).2.2 = true
  ·have e : putK pg tm sz ts es (j + 1) = putK pg tm sz ts es j := putK_stay hs 1
   rw [e]
   exact ⟨m, by omega, (fun h => by rw [hs] at h; cases h), m3, m4, m5, m6, m7⟩
  ·have hs' : (putK pg tm sz ts es j).2.2 = false := by simpa using hs
   obtain rfl := m2 hs'
   have hp : ∀ i, 1 ≤ i → i ≤ m → ts.take (i * sz) ∈ txs (putK pg tm sz ts es m).1 := fun i h1 h2 => (m6 i h1 (Nat.le_trans (Nat.mul_le_mul_right _ h2) hjl)).2 (.inr h2)
   have hx := m6 (m + 1) (by omega) hj
   rcases putE_ok (pg := pg) (tm := tm) m4 hz hj hp with ⟨p1, p2, p3, p4⟩ | ⟨E', d, p1, p2, p3, p4, p5⟩
   ·have e : putK pg tm sz ts es (m + 1) = ((putK pg tm sz ts es m).1, (putK pg tm sz ts es m).2.1, true) := by
     rw [putK]; simp only [hs', Bool.false_eq_true, if_false, p1]
    rw [e]
    rw [hx] at p2
    exact ⟨m, by omega, fun h => by simp at h, fun _ => ⟨by omega, p3⟩, m4, m5, m6, m7⟩
   ·have e : putK pg tm sz ts es (m + 1) = (E', (putK pg tm sz ts es m).2.1 + d, false) := by
     rw [putK]; simp only [hs', Bool.false_eq_true, if_false, p1]
    rw [e]
    refine ⟨m + 1, by omega, fun _ => rfl, fun h => by simp at h, p2, m5.put h0 p5, fun i h1 h2 => ?_, ?_⟩
    ·rw [p3 _ (begB_take _), m6 i h1 h2]
     constructor
     ·rintro (h | h)
      ·omega
      ·right
       have hl := congrArg List.length h
       rw [List.length_take, List.length_take, Nat.min_eq_left h2, Nat.min_eq_left hj] at hl
       have := Nat.eq_of_mul_eq_mul_right (by omega) hl
       omega
     ·intro h
      rcases (by omega : (i ≤ j0 ∨ i ≤ m) ∨ i = m + 1) with h' | rfl
      ·exact .inl h'
      ·exact .inr rfl
    ·show (putK pg tm sz ts es m).2.1 + d = _
     rw [m7]
     rcases p4 with ⟨rfl, p4⟩ | ⟨rfl, p4⟩
     ·rw [hx] at p4; omega
     ·rw [hx] at p4; omega
theorem OkE.was {sz : Nat} {es : List En} (h : OkE sz es) (hz : 1 ≤ sz) (ts : List Int) : ∃ j0, j0 * sz ≤ ts.length ∧ ∀ i, 1 ≤ i → i * sz ≤ ts.length → (ts.take (i * sz) ∈ txs es ↔ i ≤ j0) := by
 have key : ∀ n, n * sz ≤ ts.length → ∃ j0, j0 ≤ n ∧ ∀ i, 1 ≤ i → i ≤ n → (ts.take (i * sz) ∈ txs es ↔ i ≤ j0) := by
  intro n
  induction n with
  | zero => intro _; exact ⟨0, by omega, fun i h1 h2 => by omega⟩
  | succ n ih =>
   intro hn
   obtain ⟨j0, j1, j2⟩ := ih (Nat.le_trans (Nat.mul_le_mul_right _ (by omega)) hn)
   by_cases hm : ts.take ((n + 1) * sz) ∈ txs es
   ·refine ⟨n + 1, by omega, fun i h1 h2 => ⟨fun _ => h2, fun _ => ?_⟩⟩
    have hle : i * sz ≤ (n + 1) * sz := Nat.mul_le_mul_right _ h2
    have := h.shut _ hm i h1 (by rw [List.length_take]; omega)
    rw [List.take_take, Nat.min_eq_left hle] at this
    exact this
   ·refine ⟨j0, by omega, fun i h1 h2 => ?_⟩
    rcases (by omega : i ≤ n ∨ i = n + 1) with h3 | rfl
    ·exact j2 i h1 h3
    ·exact ⟨fun h => absurd h hm, fun h => by omega⟩
 obtain ⟨j0, j1, j2⟩ := key (ts.length / sz) (Nat.div_mul_le_self _ _)
 refine ⟨j0, Nat.le_trans (Nat.mul_le_mul_right _ j1) (Nat.div_mul_le_self _ _), fun i h1 h2 => j2 i h1 ?_⟩
 exact (Nat.le_div_iff_mul_le (by omega)).2 h2
theorem put_all {pg tm : Int} {sz j0 : Nat} {ts : List Int} {es : List En} (hE : OkE sz es) (hz : 1 ≤ sz) (hU : OkU tm es) (h0 : 0 ≤ tm) (hl : j0 * sz ≤ ts.length) (hj0 : ∀ i, 1 ≤ i → i * sz ≤ ts.length → (ts.take (i * sz) ∈ txs es ↔ i ≤ j0)) :
  OkE sz (putK pg (tm + 1) sz ts es (ts.length / sz)).1 ∧ OkU (tm + 1) (putK pg (tm + 1) sz ts es (ts.length / sz)).1 ∧
  ∃ got : Nat, (putK pg (tm + 1) sz ts es (ts.length / sz)).2.1 = got ∧ (j0 + got) * sz ≤ ts.length ∧ bestK ts (putK pg (tm + 1) sz ts es (ts.length / sz)).1 (putK pg (tm + 1) sz ts es (ts.length / sz)).1.length = (((j0 + got) * sz : Nat) : Int) ∧ (got = 0 → (j0 + 1) * sz ≤ ts.length → pg ≤ (putK pg (tm + 1) sz ts es (ts.length / sz)).1.length) := by
 have hd := Nat.div_mul_le_self ts.length sz
 obtain ⟨m, m1, m2, m3, m4, m5, m6, m7⟩ := putK_ok (pg := pg) (tm := tm + 1) hE hz (hU.next h0 ts) (by omega) hj0 (ts.length / sz) hd
 have hj0d : j0 ≤ ts.length / sz := (Nat.le_div_iff_mul_le (by omega)).2 hl
 have hM : (j0 + (m - j0)) * sz ≤ ts.length := by
  refine Nat.le_trans (Nat.mul_le_mul_right _ (?_ : _ ≤ ts.length / sz)) hd
  omega
 refine ⟨m4, m5.u, m - j0, m7, hM, ?_, fun hg hl2 => ?_⟩
 ·refine m4.best hz (fun i h1 h2 => ?_) hM fun h h' => ?_
  ·exact (m6 i h1 (Nat.le_trans (Nat.mul_le_mul_right _ h2) hM)).2 (by omega)
  ·have := (m6 _ (by omega) h).1 h'
   omega
 ·by_cases hs : (putK pg (tm + 1) sz ts es (ts.length / sz)).2.2 = true
  ·exact (m3 hs).2
  ·have := m2 (by simpa using hs)
   have h3 : j0 + 1 ≤ ts.length / sz := (Nat.le_div_iff_mul_le (by omega)).2 hl2
   omega
end Go.Proofs.YtjgggialnegddaaGreat
namespace Go.Proofs.YtjgggialnegddaaGreat
open Go.RowKit
structure OkK (pg sz : Nat) (tm : Int) (es : List En) : Prop where
 e : OkE sz es
 u : OkU tm es
 few : es.length ≤ pg
 short : ∀ x ∈ txs es, x.length ≤ 256
 z : 1 ≤ sz ∧ sz ≤ 16
 p : 1 ≤ pg ∧ pg ≤ 256
 t : 0 ≤ tm
theorem okk_new {pg sz : Nat} (hz : 1 ≤ sz ∧ sz ≤ 16) (hp : 1 ≤ pg ∧ pg ≤ 256) : OkK pg sz 0 [] := ⟨oke_nil sz, oku_nil 0, by simp, fun x h => by simp [txs] at h, hz, hp, by omega⟩
theorem OkK.clear {pg sz : Nat} {tm : Int} {es : List En} (h : OkK pg sz tm es) : OkK pg sz tm [] := ⟨oke_nil sz, oku_nil tm, by simp, fun x h => by simp [txs] at h, h.z, h.p, h.t⟩
theorem OkK.find {pg sz : Nat} {tm : Int} {es : List En} (h : OkK pg sz tm es) (ts : List Int) (k : Nat) : OkK pg sz (tm + 1) (useK (tm + 1) ts es k) :=
 ⟨h.e.same txs_use, h.u.find h.t ts k, by rw [useK_len]; exact h.few, by rw [txs_use]; exact h.short, h.z, h.p, by have := h.t; omega⟩
theorem putK_sub (pg tm : Int) (sz : Nat) (ts : List Int) (es : List En) (j : Nat) : ∀ x ∈ txs (putK pg tm sz ts es j).1, x ∈ txs es ∨ begB x ts = true := by
 induction j with
 | zero => intro x hx; exact .inl hx
 | succ j ih =>
  have hb : ∀ p, putE pg tm ts (ts.take ((j + 1) * sz)) (putK pg tm sz ts es j).1 = some p → ∀ x ∈ txs p.1, x ∈ txs es ∨ begB x ts = true := by
   intro p hp
   generalize (putK pg tm sz ts es j).1 = E at *
   have hx : begB (ts.take ((j + 1) * sz)) ts = true := begB_take _
   generalize ts.take ((j + 1) * sz) = y at *
   have hadd : ∀ E' : List En, (∀ x ∈ txs E', x ∈ txs es ∨ begB x ts = true) → ∀ x ∈ txs (E' ++ [(y, tm)]), x ∈ txs es ∨ begB x ts = true := by
    intro E' h' x hx'
    unfold txs at hx'
    rw [List.map_append, List.mem_append] at hx'
    rcases hx' with h | h
    ·exact h' x h
    ·simp at h; subst h; exact .inr hx
   unfold putE at hp
   split at hp
   ·cases hp; rw [txs_set]; exact ih
   ·split at hp
    ·split at hp
     ·cases hp
     ·cases hp
      refine hadd _ fun x hx' => ih x ?_
      obtain ⟨i, h1, _, h3⟩ := txs_erase.1 hx'
      exact mem_txs.2 ⟨i, h1, h3⟩
    ·cases hp; exact hadd _ ih
  rw [putK]
  split
  ·exact ih
  ·split
   ·exact ih
   ·rename_i p hp
    exact hb p hp
theorem OkK.put {pg sz : Nat} {tm : Int} {es : List En} (h : OkK pg sz tm es) (ts : List Int) (hl : ts.length ≤ 256) : OkK pg sz (tm + 1) (putK pg (tm + 1) sz ts es (ts.length / sz)).1 := by
 obtain ⟨j0, j1, j2⟩ := h.e.was h.z.1 ts
 obtain ⟨a1, a2, _⟩ := put_all (pg := pg) h.e h.z.1 h.u h.t j1 j2
 have hf := h.few
 refine ⟨a1, a2, ?_, fun x hx => ?_, h.z, h.p, by have := h.t; omega⟩
 ·have := putK_len (pg := (pg : Int)) (tm := tm + 1) (sz := sz) (ts := ts) (es := es) (by omega) (ts.length / sz)
  omega
 ·rcases putK_sub _ _ _ _ _ _ x hx with h1 | h1
  ·exact h.short x h1
  ·have := (begB_iff.1 h1).1; omega
end Go.Proofs.YtjgggialnegddaaGreat
namespace Go.Proofs.YtjgggialnegddaaGreat
open Go.RowKit
def chunk (sz j : Nat) (ts : List Int) : List Int := (ts.drop (j * sz)).take sz
theorem chunk_len {sz j : Nat} {ts : List Int} (h : (j + 1) * sz ≤ ts.length) : (chunk sz j ts).length = sz := by
 unfold chunk
 rw [List.length_take, List.length_drop]
 rw [Nat.add_mul] at h
 omega
theorem take_chunk {sz j : Nat} (ts : List Int) : ts.take (j * sz) ++ chunk sz j ts = ts.take ((j + 1) * sz) := by
 unfold chunk
 rw [Nat.add_mul, Nat.one_mul, List.take_add]
theorem OkE.leaf {sz : Nat} {es : List En} (h : OkE sz es) (hz : 1 ≤ sz) {i : Nat} (hi : i < es.length) : leafB es i = true ↔ ∀ ch : List Int, ch.length = sz → (en es i).1 ++ ch ∉ txs es := by
 constructor
 ·intro hl ch hc hm
  obtain ⟨k, hk, e⟩ := mem_txs.1 hm
  have hne : k ≠ i := fun e' => by
   rw [e'] at e
   have := congrArg List.length e
   rw [List.length_append] at this
   omega
  have := leaf_iff hl hk hne
  rw [e] at this
  have hb : begB (en es i).1 ((en es i).1 ++ ch) = true := by
   unfold begB
   rw [List.isPrefixOf_iff_prefix]
   exact ⟨ch, rfl⟩
  rw [hb] at this
  cases this
 ·intro hn
  apply leaf_yes
  intro k hk hki
  rw [Bool.eq_false_iff]
  intro hb
  obtain ⟨a, a1, a2⟩ := h.mult _ (mem_txs.2 ⟨i, hi, rfl⟩)
  obtain ⟨b, b1, b2⟩ := h.mult _ (mem_txs.2 ⟨k, hk, rfl⟩)
  have hle := (begB_iff.1 hb).1
  have hx := begB_eq hb
  have hne : a ≠ b := fun e => hki (h.inj hk hi (by rw [hx, a2, e, ← b2, List.take_length]))
  have hab : a + 1 ≤ b := by
   rw [a2, b2] at hle
   have := Nat.le_of_mul_le_mul_right hle (by omega)
   omega
  have hl2 : (a + 1) * sz ≤ (en es k).1.length := by rw [b2]; exact Nat.mul_le_mul_right _ hab
  have hm := h.shut _ (mem_txs.2 ⟨k, hk, rfl⟩) (a + 1) (by omega) hl2
  refine hn (chunk sz a (en es k).1) (chunk_len hl2) ?_
  rw [hx, a2, take_chunk]
  exact hm
end Go.Proofs.YtjgggialnegddaaGreat
namespace Go.Proofs.YtjgggialnegddaaGreat
open Go.RowKit
theorem derive_any (s : Int) (a : Option Addr) (len cap : Nat) (zs : List Int) (w : World) (hr : Reads .u64 w a len cap zs) (hlen : len ≤ 1000000) :
  Calls Tryz.prog 206 #[.int .u64 s, .slice a len cap] w fun e w' => e = .returned (.int .u64 (deriveZ s zs)) ∧ w' = w := by
 have HL : Hid (zs.length = len) := hr.size
 go_enter Tryz.func206, Tryz.ntmps206
 go_wp2_with fail
 go_loop [0, 9] (fun v i => ∃ (n : Int) (k : Nat), v = .int .u64 n ∧ i = .int .i64 k ∧ k ≤ len ∧ Hid (n = deriveZ s (zs.take k))) (fun _ i => len - (intOf i).toNat)
 case atStart => exact ⟨_, 0, rfl, rfl, by omega, by unfold Hid; simp [deriveZ]⟩
 case round =>
  obtain ⟨n, k, rfl, rfl, hk, HM⟩ := hrel
  by_cases hlt : k < len
  ·obtain ⟨b, off, rfl, hc⟩ := hr.cell k hlt
   have HS : Hid (atZ n (zs[k]?.getD 0) = deriveZ s (zs.take (k + 1))) := by
    unfold Hid
    rw [take_snoc (by have := HL.out; omega), derive_snoc, HM.out]
   clear hr
   generalize zs[k]?.getD 0 = c at *
   go_wp2_with fail
   refine (at_any _ _ _).mono ?_
   rintro e w' ⟨rfl, rfl⟩
   go_wp2_with fail
   go_round
   case rel => exact ⟨_, k + 1, rfl, by go_num, by omega, HS⟩
   case measure => simp [intOf]; omega
  ·have HE : Hid (n = deriveZ s zs) := by
    unfold Hid
    rw [HM.out, List.take_of_length_le (by have := HL.out; omega)]
   clear hr
   go_wp2
   go_ret
   exact ⟨ret_int HE.out, rfl⟩
end Go.Proofs.YtjgggialnegddaaGreat
namespace Go.Proofs.YtjgggialnegddaaGreat
open Go.RowKit
variable {P : Nat → Prop}
def BlN (w : World) (a : Option Addr) : Prop := ∀ p, a = some p → ∃ cur fz, w.heap[p.block]? = some (.cells cur 3 fz)
theorem Reads.blk {k : IntKind} {W W' : World} {a : Option Addr} {l c : Nat} {zs : List Int} (hr : Reads k W a l c zs) (hb : ∀ p, a = some p → W'.heap[p.block]? = W.heap[p.block]?) : Reads k W' a l c zs :=
 ⟨hr.size, hr.room, hr.most, hr.bare, fun i hi => by
  obtain ⟨b, off, ha, hc⟩ := hr.cell i hi
  exact ⟨b, off, ha, (World.cell?_of_block (a := ⟨b, off + i, none⟩) (hb ⟨b, off, none⟩ ha)).trans hc⟩⟩
end Go.Proofs.YtjgggialnegddaaGreat
namespace Go.Proofs.YtjgggialnegddaaGreat
open Go.RowKit
def heldZ (hs : List Int) (n : Int) : Int := if 0 ≤ n ∧ n < hs.length then hs[n.toNat]?.getD 0 else 0
def takeI (hs : List Int) : Nat := hs.findIdx (· == 0)
def takeN (hs : List Int) : Int := if takeI hs < hs.length then (takeI hs : Int) else 0
def takeE (hs : List Int) : Int := if takeI hs < hs.length then 0 else 9
def takeH (hs : List Int) : List Int := if takeI hs < hs.length then hs.set (takeI hs) 1 else hs
def dropE (hs : List Int) (n : Int) : Int := if heldZ hs n = 0 then 1 else 0
def dropH (hs : List Int) (n : Int) : List Int := if heldZ hs n = 0 then hs else hs.set n.toNat (heldZ hs n - 1)
def dropB (hs : List Int) (n : Int) : Bool := decide (heldZ hs n = 1)
def usedK (hs : List Int) : Nat → List Int
 | 0 => []
 | k + 1 => if 0 < hs[k]?.getD 0 then usedK hs k ++ [(k : Int)] else usedK hs k
def usedL (hs : List Int) : List Int := usedK hs hs.length
def OkP (hs : List Int) : Prop := 1 ≤ hs.length ∧ hs.length ≤ 256 ∧ ∀ i, i < hs.length → 0 ≤ hs[i]?.getD 0 ∧ hs[i]?.getD 0 ≤ 2147483647
theorem usedK_len (hs : List Int) (k : Nat) : (usedK hs k).length ≤ k := by
 induction k with
 | zero => simp [usedK]
 | succ k ih =>
  simp only [usedK]
  split
  ·simp; exact ih
  ·omega
theorem takeI_le (hs : List Int) : takeI hs ≤ hs.length := List.findIdx_le_length
theorem takeI_at {hs : List Int} {i : Nat} (hi : i < hs.length) (h0 : hs[i]?.getD 0 = 0) (hn : ∀ j, j < i → hs[j]?.getD 0 ≠ 0) : takeI hs = i := by
 unfold takeI
 rw [List.findIdx_eq hi]
 rw [List.getElem?_eq_getElem hi] at h0
 refine ⟨by simpa using h0, fun j hj => ?_⟩
 have := hn j hj
 rw [List.getElem?_eq_getElem (by omega)] at this
 simpa using this
theorem takeI_free {hs : List Int} (h : takeI hs < hs.length) : hs[takeI hs]?.getD 0 = 0 := by
 rw [List.getElem?_eq_getElem h]
 exact eq_of_beq (List.findIdx_getElem (p := fun x : Int => x == 0) (xs := hs) (w := h))
theorem takeH_len (hs : List Int) : (takeH hs).length = hs.length := by unfold takeH; split <;> simp
theorem dropH_len (hs : List Int) (n : Int) : (dropH hs n).length = hs.length := by unfold dropH; split <;> simp
theorem heldZ_in {hs : List Int} {n : Int} (h : heldZ hs n ≠ 0) : 0 ≤ n ∧ n < hs.length := by
 unfold heldZ at h
 split at h
 ·assumption
 ·exact absurd rfl h
theorem heldZ_at {hs : List Int} {n : Int} (h0 : 0 ≤ n) (h1 : n < hs.length) : heldZ hs n = hs[n.toNat]?.getD 0 := by unfold heldZ; rw [if_pos ⟨h0, h1⟩]
theorem heldZ_out {hs : List Int} {n : Int} (h : n < 0 ∨ (hs.length : Int) ≤ n) : heldZ hs n = 0 := by unfold heldZ; rw [if_neg (by omega)]
theorem OkP.held {hs : List Int} (h : OkP hs) (n : Int) : 0 ≤ heldZ hs n ∧ heldZ hs n ≤ 2147483647 := by
 by_cases hn : 0 ≤ n ∧ n < hs.length
 ·rw [heldZ_at hn.1 hn.2]; exact h.2.2 _ (by omega)
 ·rw [heldZ_out (by omega)]; omega
theorem set_bd {hs : List Int} {k : Nat} {v lo hi : Int} (h : ∀ i, i < hs.length → lo ≤ hs[i]?.getD 0 ∧ hs[i]?.getD 0 ≤ hi) (h0 : lo ≤ v) (h1 : v ≤ hi) : ∀ i, i < (hs.set k v).length → lo ≤ (hs.set k v)[i]?.getD 0 ∧ (hs.set k v)[i]?.getD 0 ≤ hi := by
 intro i hi'
 rw [List.length_set] at hi'
 rw [List.getElem?_set]
 by_cases e : k = i
 ·subst e
  rw [if_pos rfl, if_pos hi']
  exact ⟨h0, h1⟩
 ·rw [if_neg e]
  exact h i hi'
theorem OkP.take {hs : List Int} (h : OkP hs) : OkP (takeH hs) := by
 refine ⟨by rw [takeH_len]; exact h.1, by rw [takeH_len]; exact h.2.1, ?_⟩
 unfold takeH
 split
 ·exact set_bd h.2.2 (by omega) (by omega)
 ·exact h.2.2
theorem OkP.drop {hs : List Int} (h : OkP hs) (n : Int) : OkP (dropH hs n) := by
 refine ⟨by rw [dropH_len]; exact h.1, by rw [dropH_len]; exact h.2.1, ?_⟩
 have := h.held n
 unfold dropH
 split
 ·exact h.2.2
 ·exact set_bd h.2.2 (by omega) (by omega)
theorem okp_new {n : Nat} (h0 : 1 ≤ n) (h1 : n ≤ 256) : OkP (List.replicate n 0) := by
 refine ⟨by simpa using h0, by simpa using h1, fun i hi => ?_⟩
 rw [List.length_replicate] at hi
 rw [List.getElem?_replicate, if_pos hi]
 simp
end Go.Proofs.YtjgggialnegddaaGreat
namespace Go.Proofs.YtjgggialnegddaaGreat
open Go.RowKit
theorem make_intsI (w : World) (m : Nat) (hm : m ≤ 1001) : (Instr.makeSlice 41 (.int .i64 (m : Int)) (.int .i64 (m : Int))).run Tryz.prog w = .ok (.slice (some ⟨w.heap.size, 0, none⟩) m m) (w.alloc (.cells (madeCells #[.int .i64 0] m) 3)) := by
 obtain ⟨i0, hi, hz0, hz1, hz2⟩ := info_parts Tryz.info3
 have := run_make (P := Tryz.prog) w 41 3 i0 (.int .i64 0) Tryz.underlying41 hi hz0 .i64 .i64 (m : Int) (m : Int) (by omega) (Int.le_refl _) (by rw [hz2]; omega) (by omega)
 rw [this, hz1, Int.toNat_natCast, Nat.mul_one]
 rfl
end Go.Proofs.YtjgggialnegddaaGreat
namespace Go.Proofs.YtjgggialnegddaaGreat
open Go.RowKit
structure FreeOf (hs fs : List Int) : Prop where
 nd : fs.Nodup
 mem : ∀ x, x ∈ fs ↔ ∃ i : Nat, i < hs.length ∧ x = i ∧ hs[i]?.getD 0 = 0
 cnt : fs.length + (usedL hs).length = hs.length
theorem used_set {hs : List Int} {i : Nat} {v : Int} (hi : i < hs.length) : ∀ k, k ≤ hs.length → (usedK (hs.set i v) k).length + (if i < k ∧ 0 < hs[i]?.getD 0 then 1 else 0) = (usedK hs k).length + (if i < k ∧ 0 < v then 1 else 0) := by
 intro k
 induction k with
 | zero => intro _; simp [usedK]
 | succ k ih =>
  intro hk
  have h := ih (by omega)
  simp only [usedK]
  by_cases e : k = i
  ·subst e
   have e1 : (hs.set k v)[k]?.getD 0 = v := by rw [List.getElem?_set, if_pos rfl, if_pos hi]; rfl
   rw [e1]
   simp only [Nat.lt_irrefl, false_and, if_false, Nat.add_zero] at h
   have a1 : k < k + 1 := by omega
   simp only [a1, true_and]
   split <;> split <;> simp <;> omega
  ·have e1 : (hs.set i v)[k]?.getD 0 = hs[k]?.getD 0 := by rw [List.getElem?_set, if_neg (fun h => e h.symm)]
   rw [e1]
   have a1 : (i < k + 1) = (i < k) := propext ⟨fun h => by omega, fun h => by omega⟩
   simp only [a1]
   by_cases q : 0 < hs[k]?.getD 0
   ·rw [if_pos q, if_pos q]; simp only [List.length_append, List.length_singleton]; omega
   ·rw [if_neg q, if_neg q]; exact h
theorem used_set1 {hs : List Int} {i : Nat} {v : Int} (hi : i < hs.length) (h0 : hs[i]?.getD 0 = 0) (hv : 0 < v) : (usedL (hs.set i v)).length = (usedL hs).length + 1 := by
 have := used_set (v := v) hi hs.length (Nat.le_refl _)
 rw [if_neg (by omega), if_pos ⟨hi, hv⟩] at this
 unfold usedL
 rw [List.length_set]
 omega
theorem used_set0 {hs : List Int} {i : Nat} (hi : i < hs.length) (h0 : 0 < hs[i]?.getD 0) : (usedL (hs.set i 0)).length + 1 = (usedL hs).length := by
 have := used_set (v := 0) hi hs.length (Nat.le_refl _)
 rw [if_pos ⟨hi, h0⟩, if_neg (by omega)] at this
 unfold usedL
 rw [List.length_set]
 omega
theorem used_setn {hs : List Int} {i : Nat} {v : Int} (hi : i < hs.length) (h0 : 0 < hs[i]?.getD 0) (hv : 0 < v) : (usedL (hs.set i v)).length = (usedL hs).length := by
 have := used_set (v := v) hi hs.length (Nat.le_refl _)
 rw [if_pos ⟨hi, h0⟩, if_pos ⟨hi, hv⟩] at this
 unfold usedL
 rw [List.length_set]
 omega
theorem set_at (hs : List Int) {i : Nat} (v : Int) (hi : i < hs.length) (j : Nat) : (hs.set i v)[j]?.getD 0 = if j = i then v else hs[j]?.getD 0 := by
 rw [List.getElem?_set]
 by_cases e : i = j
 ·subst e; rw [if_pos rfl, if_pos hi, if_pos rfl]; rfl
 ·rw [if_neg e, if_neg (fun h => e h.symm)]
theorem FreeOf.pop {hs fs ns : List Int} {x : Int} (h : FreeOf hs fs) (hp : (x :: ns).Perm fs) (hm : ∀ y ∈ fs, x ≤ y) : takeI hs < hs.length ∧ x = (takeI hs : Int) ∧ FreeOf (takeH hs) ns := by
 have hx : x ∈ fs := hp.subset (List.mem_cons_self ..)
 obtain ⟨i, hi, rfl, h0⟩ := (h.mem x).1 hx
 have ht : takeI hs = i := takeI_at hi h0 fun j hj e => by
  have := hm j ((h.mem j).2 ⟨j, by omega, rfl, e⟩)
  omega
 have hlt : takeI hs < hs.length := by omega
 have hH : takeH hs = hs.set i 1 := by unfold takeH; rw [if_pos hlt, ht]
 have hnd := hp.nodup_iff.2 h.nd
 rw [List.nodup_cons] at hnd
 refine ⟨hlt, by rw [ht], hnd.2, fun y => ?_, ?_⟩
 ·rw [hH, List.length_set]
  constructor
  ·intro hy
   obtain ⟨j, hj, rfl, hj0⟩ := (h.mem y).1 (hp.subset (List.mem_cons_of_mem _ hy))
   refine ⟨j, hj, rfl, ?_⟩
   rw [set_at _ _ hi, if_neg, hj0]
   rintro rfl
   exact hnd.1 hy
  ·rintro ⟨j, hj, rfl, hj0⟩
   rw [set_at _ _ hi] at hj0
   by_cases e : j = i
   ·rw [if_pos e] at hj0; omega
   ·rw [if_neg e] at hj0
    have : (j : Int) ∈ (i : Int) :: ns := hp.symm.subset ((h.mem _).2 ⟨j, hj, rfl, hj0⟩)
    rcases List.mem_cons.1 this with h1 | h1
    ·omega
    ·exact h1
 ·have hl := hp.length_eq
  simp only [List.length_cons] at hl
  rw [hH, used_set1 hi h0 (by omega), List.length_set]
  have := h.cnt
  omega
theorem FreeOf.push {hs fs ns : List Int} {i : Nat} (h : FreeOf hs fs) (hi : i < hs.length) (h0 : 0 < hs[i]?.getD 0) (hp : ns.Perm (fs ++ [(i : Int)])) : FreeOf (hs.set i 0) ns := by
 have hni : (i : Int) ∉ fs := fun hx => by
  obtain ⟨j, hj, e, hj0⟩ := (h.mem _).1 hx
  have : j = i := by omega
  subst this
  omega
 refine ⟨hp.nodup_iff.2 ?_, fun y => ?_, ?_⟩
 ·rw [List.nodup_append]
  refine ⟨h.nd, by simp, fun a ha b hb => ?_⟩
  simp at hb
  subst hb
  rintro rfl
  exact hni ha
 ·rw [hp.mem_iff, List.mem_append, List.mem_singleton, List.length_set]
  constructor
  ·rintro (hy | rfl)
   ·obtain ⟨j, hj, rfl, hj0⟩ := (h.mem y).1 hy
    refine ⟨j, hj, rfl, ?_⟩
    rw [set_at _ _ hi]
    by_cases e : j = i
    ·rw [if_pos e]
    ·rw [if_neg e]; exact hj0
   ·exact ⟨i, hi, rfl, by rw [set_at _ _ hi, if_pos rfl]⟩
  ·rintro ⟨j, hj, rfl, hj0⟩
   rw [set_at _ _ hi] at hj0
   by_cases e : j = i
   ·right; rw [e]
   ·rw [if_neg e] at hj0
    left
    exact (h.mem _).2 ⟨j, hj, rfl, hj0⟩
 ·have hl := hp.length_eq
  simp only [List.length_append, List.length_singleton] at hl
  have h2 := used_set0 hi h0
  rw [List.length_set]
  have := h.cnt
  omega
theorem FreeOf.stay {hs fs : List Int} {i : Nat} {v : Int} (h : FreeOf hs fs) (hi : i < hs.length) (h0 : 0 < hs[i]?.getD 0) (hv : 0 < v) : FreeOf (hs.set i v) fs := by
 refine ⟨h.nd, fun y => ?_, by rw [used_setn hi h0 hv, List.length_set]; exact h.cnt⟩
 rw [h.mem, List.length_set]
 constructor
 ·rintro ⟨j, hj, rfl, hj0⟩
  refine ⟨j, hj, rfl, ?_⟩
  rw [set_at _ _ hi, if_neg, hj0]
  rintro rfl
  omega
 ·rintro ⟨j, hj, rfl, hj0⟩
  rw [set_at _ _ hi] at hj0
  by_cases e : j = i
  ·rw [if_pos e] at hj0; omega
  ·rw [if_neg e] at hj0; exact ⟨j, hj, rfl, hj0⟩
theorem FreeOf.none {hs : List Int} (h : FreeOf hs []) : ¬ takeI hs < hs.length := fun ht => by
 have := (h.mem (takeI hs : Int)).2 ⟨_, ht, rfl, takeI_free ht⟩
 simp at this
def upto (n : Nat) : List Int := (List.range n).map fun i : Nat => (i : Int)
theorem upto_len (n : Nat) : (upto n).length = n := by simp [upto]
theorem upto_at {n i : Nat} (h : i < n) : (upto n)[i]?.getD 0 = (i : Int) := by simp [upto, h]
theorem used_none (n : Nat) : ∀ k, k ≤ n → usedK (List.replicate n 0) k = [] := by
 intro k
 induction k with
 | zero => intro _; rfl
 | succ k ih =>
  intro hk
  simp only [usedK]
  have e : (List.replicate n (0 : Int))[k]?.getD 0 = 0 := by rw [List.getElem?_replicate, if_pos (by omega)]; rfl
  rw [ih (by omega), e, if_neg (by omega)]
theorem free_new (n : Nat) : FreeOf (List.replicate n 0) (upto n) := by
 refine ⟨?_, fun x => ?_, ?_⟩
 ·unfold upto
  exact List.Pairwise.map _ (fun a b (h : a ≠ b) e => h (Int.ofNat.inj e)) List.nodup_range
 ·unfold upto
  rw [List.mem_map, List.length_replicate]
  constructor
  ·rintro ⟨i, hi, rfl⟩
   rw [List.mem_range] at hi
   exact ⟨i, hi, rfl, by rw [List.getElem?_replicate, if_pos hi]; rfl⟩
  ·rintro ⟨i, hi, rfl, _⟩
   exact ⟨i, List.mem_range.2 hi, rfl⟩
 ·unfold usedL
  rw [upto_len, List.length_replicate, used_none n n (Nat.le_refl _)]
  rfl
end Go.Proofs.YtjgggialnegddaaGreat
namespace Go.Proofs.YtjgggialnegddaaGreat
open Go.RowKit
def ltI (a b : Int) : Prop := a < b
def leI (a b : Int) : Prop := ¬ ltI b a
theorem leI_refl (a : Int) : leI a a := by unfold leI ltI; omega
theorem leI_trans {a b c : Int} (h : leI a b) (k : leI b c) : leI a c := by unfold leI ltI at *; omega
theorem leI_of_lt {a b : Int} (h : ltI a b) : leI a b := by unfold leI; unfold ltI at *; omega
def gi (ms : List Int) (i : Nat) : Int := ms[i]?.getD 0
theorem gi_of {ms : List Int} {i : Nat} (h : i < ms.length) : gi ms i = ms[i] := by simp [gi, h]
def swi (ms : List Int) (i j : Nat) : List Int := (ms.set i (gi ms j)).set j (gi ms i)
theorem swi_len (ms : List Int) (i j : Nat) : (swi ms i j).length = ms.length := by simp [swi]
theorem gi_swi {ms : List Int} {i j : Nat} (hi : i < ms.length) (hj : j < ms.length) (k : Nat) : gi (swi ms i j) k = if k = j then gi ms i else if k = i then gi ms j else gi ms k := by
 unfold gi swi
 rw [List.getElem?_set, List.getElem?_set]
 by_cases h1 : k = j
 ·subst h1; simp [hj]; rfl
 ·rw [if_neg (fun e => h1 e.symm), if_neg h1]
  by_cases h2 : k = i
  ·subst h2; simp [hi]; rfl
  ·rw [if_neg (fun e => h2 e.symm), if_neg h2]
theorem swi_perm {ms : List Int} {i j : Nat} (hi : i < ms.length) (hj : j < ms.length) : (swi ms i j).Perm ms := by
 unfold swi
 rw [gi_of hi, gi_of hj]
 exact List.set_set_perm hi hj
def HeapI (ms : List Int) (n : Nat) : Prop := ∀ i, 0 < i → i < n → leI (gi ms ((i - 1) / 2)) (gi ms i)
def UpI (ms : List Int) (n j : Nat) : Prop := (∀ i, 0 < i → i < n → i ≠ j → leI (gi ms ((i - 1) / 2)) (gi ms i)) ∧ (0 < j → ∀ i, 0 < i → i < n → (i - 1) / 2 = j → leI (gi ms ((j - 1) / 2)) (gi ms i))
theorem UpI.done {ms : List Int} {n j : Nat} (h : UpI ms n j) (hj : 0 < j → ¬ ltI (gi ms j) (gi ms ((j - 1) / 2))) : HeapI ms n := by
 intro i h0 hn
 by_cases e : i = j
 ·subst e; exact hj h0
 ·exact h.1 i h0 hn e
theorem UpI.step {ms : List Int} {n j : Nat} (h : UpI ms n j) (h0 : 0 < j) (hj : j < n) (hn : n ≤ ms.length) (hl : ltI (gi ms j) (gi ms ((j - 1) / 2))) : UpI (swi ms ((j - 1) / 2) j) n ((j - 1) / 2) := by
 obtain ⟨p, hp⟩ : ∃ p, (j - 1) / 2 = p := ⟨_, rfl⟩
 rw [hp] at hl ⊢
 have hG := gi_swi (ms := ms) (i := p) (j := j) (by omega) (by omega)
 have hlj := leI_of_lt hl
 constructor
 ·intro i i0 hi hip
  rw [hG, hG]
  by_cases e1 : i = j
  ·subst e1
   rw [hp, if_pos rfl, if_neg (by omega), if_pos rfl]
   exact hlj
  ·rw [if_neg e1, if_neg hip]
   have hx := h.1 i i0 hi e1
   by_cases e2 : (i - 1) / 2 = j
   ·rw [if_pos e2]
    have := h.2 h0 i i0 hi e2
    rwa [hp] at this
   ·rw [if_neg e2]
    by_cases e3 : (i - 1) / 2 = p
    ·rw [if_pos e3]
     rw [e3] at hx
     exact leI_trans hlj hx
    ·rw [if_neg e3]; exact hx
 ·intro p0 i i0 hi hip
  have hpp := h.1 p p0 (by omega) (by omega)
  rw [hG, hG, if_neg (by omega), if_neg (by omega)]
  by_cases e1 : i = j
  ·rw [if_pos e1]; exact hpp
  ·rw [if_neg e1, if_neg (by omega)]
   have hx := h.1 i i0 hi e1
   rw [hip] at hx
   exact leI_trans hpp hx
def DownI (ms : List Int) (n c : Nat) : Prop := (∀ i, 0 < i → i < n → (i - 1) / 2 ≠ c → leI (gi ms ((i - 1) / 2)) (gi ms i)) ∧ (0 < c → ∀ i, 0 < i → i < n → (i - 1) / 2 = c → leI (gi ms ((c - 1) / 2)) (gi ms i))
theorem DownI.done {ms : List Int} {n c : Nat} (h : DownI ms n c) (hc : ∀ i, 0 < i → i < n → (i - 1) / 2 = c → leI (gi ms c) (gi ms i)) : HeapI ms n := by
 intro i h0 hn
 by_cases e : (i - 1) / 2 = c
 ·rw [e]; exact hc i h0 hn e
 ·exact h.1 i h0 hn e
theorem DownI.step {ms : List Int} {n c j : Nat} (h : DownI ms n c) (h0 : 0 < j) (hj : j < n) (hn : n ≤ ms.length) (hjc : (j - 1) / 2 = c) (hm : ∀ i, 0 < i → i < n → (i - 1) / 2 = c → leI (gi ms j) (gi ms i)) (hl : ltI (gi ms j) (gi ms c)) : DownI (swi ms c j) n j := by
 have hG := gi_swi (ms := ms) (i := c) (j := j) (by omega) (by omega)
 have hlj := leI_of_lt hl
 constructor
 ·intro i i0 hi hip
  rw [hG, hG, if_neg hip]
  by_cases e1 : i = j
  ·subst e1
   rw [if_pos hjc, if_pos rfl]
   exact hlj
  ·rw [if_neg e1]
   by_cases e2 : i = c
   ·subst e2
    rw [if_neg (by omega), if_pos rfl]
    exact h.2 i0 j h0 hj hjc
   ·rw [if_neg e2]
    by_cases e3 : (i - 1) / 2 = c
    ·rw [if_pos e3]; exact hm i i0 hi e3
    ·rw [if_neg e3]; exact h.1 i i0 hi e3
 ·intro _ i i0 hi hij
  rw [hG, hG, hjc, if_neg (by omega), if_pos rfl, if_neg (by omega), if_neg (by omega)]
  have := h.1 i i0 hi (by omega)
  rwa [hij] at this
theorem HeapI.least {ms : List Int} {n : Nat} (h : HeapI ms n) : ∀ i, i < n → leI (gi ms 0) (gi ms i) := by
 intro i
 induction i using Nat.strongRecOn with
 | ind i ih =>
  intro hi
  by_cases h0 : i = 0
  ·subst h0; exact leI_refl _
  ·exact leI_trans (ih ((i - 1) / 2) (by omega) (by omega)) (h i (by omega) hi)
theorem HeapI.cut {ms : List Int} {n : Nat} (h : HeapI ms n) (hn : n + 1 ≤ ms.length) (h' : HeapI ms (n + 1)) : DownI (swi ms 0 n) n 0 := by
 have hG := gi_swi (ms := ms) (i := 0) (j := n) (by omega) (by omega)
 refine ⟨fun i i0 hi hp => ?_, fun h => absurd h (by omega)⟩
 rw [hG, hG, if_neg (by omega), if_neg hp, if_neg (by omega), if_neg (by omega)]
 exact h' i i0 (by omega)
theorem gi_app {ms : List Int} {x : Int} {i : Nat} (h : i < ms.length) : gi (ms ++ [x]) i = gi ms i := by simp [gi, List.getElem?_append_left h]
theorem HeapI.push {ms : List Int} (h : HeapI ms ms.length) (x : Int) : UpI (ms ++ [x]) (ms.length + 1) ms.length := by
 refine ⟨fun i i0 hi hp => ?_, fun h0 i i0 hi hp => absurd hp (by omega)⟩
 rw [gi_app (by omega), gi_app (by omega)]
 exact h i i0 (by omega)
theorem gi_take {ms : List Int} {n i : Nat} (h : i < n) : gi (ms.take n) i = gi ms i := by simp [gi, List.getElem?_take_of_lt h]
theorem HeapI.take {ms : List Int} {n : Nat} (h : HeapI ms n) : HeapI (ms.take n) n := by
 intro i h0 hn
 rw [gi_take (by omega), gi_take hn]
 exact h i h0 hn
end Go.Proofs.YtjgggialnegddaaGreat
namespace Go.Proofs.YtjgggialnegddaaGreat
open Go.RowKit
def at2 (B g k : Nat) : Prop := k = B ∨ k = g
theorem fb_set3 (w : World) (B g k : Nat) (u : Value) : Fb (at2 B g) w (w.setCell ⟨B, k, none⟩ u) := Fb.set (F := at2 B g) (p := ⟨B, k, none⟩) (.inl rfl) u
theorem Fb.tr {F : Nat → Prop} {a b c : World} (h : Fb F a b) (k : Fb F b c) : Fb F a c := h.trans k fun x hx => .inl hx
structure HqAt (B o g cap : Nat) (cs : Array Value) (Tb : TypeId) (ms : List Int) (W : World) : Prop where
 var : W.heap[B]? = some (.cells cs Tb (0, 0))
 hdr : cs[o]? = some (.slice (some ⟨g, 0, none⟩) ms.length cap)
 own : OwnK 3 0 g ms.length cap ms W
 ne : B ≠ g
theorem HqAt.cell {B o g cap : Nat} {cs : Array Value} {Tb : TypeId} {ms : List Int} {W : World} (h : HqAt B o g cap cs Tb ms W) : W.cell? ⟨B, o, none⟩ = some (.slice (some ⟨g, 0, none⟩) ms.length cap) := by rw [cell_of_row _ _ _ _ _ _ h.var]; exact h.hdr
theorem HqAt.same {B o g cap : Nat} {cs : Array Value} {Tb : TypeId} {ms : List Int} {W W' : World} (h : HqAt B o g cap cs Tb ms W) (h1 : W'.heap[B]? = W.heap[B]?) (h2 : W'.heap[g]? = W.heap[g]?) : HqAt B o g cap cs Tb ms W' :=
 ⟨h1.trans h.var, h.hdr, h.own.same h2, h.ne⟩
theorem HqAt.below {B o g cap : Nat} {cs : Array Value} {Tb : TypeId} {ms : List Int} {W W' : World} (h : HqAt B o g cap cs Tb ms W) (hb : Below W.heap.size W W') : HqAt B o g cap cs Tb ms W' :=
 h.same (hb.block _ (lt_of_block h.var)) (hb.block _ h.own.lt)
theorem OwnK.room {t : TypeId} {base g m cap : Nat} {xs : List Int} {w : World} (h : OwnK t base g m cap xs w) : m ≤ cap ∧ cap ≤ 9223372036854775807 := by
 rcases id h.2 with ⟨h', _⟩ | ⟨g', c, cur, hv, hB, hg, hnc, hm, rest⟩
 ·cases h'
 ·cases hv; exact ⟨hnc, by unfold maxLen at hm; omega⟩
theorem qlen_any (a : Option Addr) (n cap : Nat) (w : World) : Calls Tryz.prog 158 #[.slice a n cap] w fun e w' => e = .returned (.int .i64 n) ∧ w = w' := by
 go_enter Tryz.func158, Tryz.ntmps158
 go_wp2
 go_ret
 exact ⟨rfl, rfl⟩
theorem qless_any (g n cap i j : Nat) (ms : List Int) (w : World) (h : OwnK 3 0 g n cap ms w) (hi : i < n) (hj : j < n) (hn : n ≤ 1001) :
  Calls Tryz.prog 267 #[.slice (some ⟨g, 0, none⟩) n cap, .int .i64 i, .int .i64 j] w fun e w' => e = .returned (.bool (decide (gi ms i < gi ms j))) ∧ Below w.heap.size w w' := by
 have ci : w.cell? ⟨g, i, none⟩ = some (.int .i64 (gi ms i)) := h.cell hi
 have cj : w.cell? ⟨g, j, none⟩ = some (.int .i64 (gi ms j)) := h.cell hj
 clear h
 generalize gi ms i = x at *
 generalize gi ms j = y at *
 go_enter Tryz.func267, Tryz.ntmps267
 go_wp2_with fail
 go_region
 go_wp2
 go_ret
 exact ⟨rfl, (Below.refl _ _).drew⟩
theorem qswap_any (g n cap i j : Nat) (ms : List Int) (w : World) (h : OwnK 3 0 g n cap ms w) (hi : i < n) (hj : j < n) (hn : n ≤ 1001) :
  Calls Tryz.prog 268 #[.slice (some ⟨g, 0, none⟩) n cap, .int .i64 i, .int .i64 j] w fun e w' => e = .returned (.tuple #[]) ∧ OwnK 3 0 g n cap (swi ms i j) w' ∧ Fb (at1 g) w w' := by
 have ci : w.cell? ⟨g, i, none⟩ = some (.int .i64 (gi ms i)) := h.cell hi
 have cj : w.cell? ⟨g, j, none⟩ = some (.int .i64 (gi ms j)) := h.cell hj
 have fi := h.frozen
 have h2 := h.set i (gi ms j)
 have c2 : (w.setCell ⟨g, i, none⟩ (.int .i64 (gi ms j))).cell? ⟨g, j, none⟩ = some (.int .i64 (gi (ms.set i (gi ms j)) j)) := h2.cell hj
 have f2 := h2.frozen
 have HS : Hid (OwnK 3 0 g n cap (swi ms i j) _) := h2.set j (gi ms i)
 have HF : Hid (∀ u v : Value, Fb (at1 g) w ((w.setCell ⟨g, i, none⟩ u).setCell ⟨g, j, none⟩ v)) := fun u v => (Fb.set (F := at1 g) (p := ⟨g, i, none⟩) rfl u).trans (Fb.set (F := at1 g) (p := ⟨g, j, none⟩) rfl v) fun x hx => .inl hx
 clear h h2
 generalize gi ms i = x at *
 generalize gi ms j = y at *
 generalize gi (ms.set i y) j = z at *
 go_enter Tryz.func268, Tryz.ntmps268
 go_wp2_with fail
 go_region
 go_wp2
 go_end0
 exact ⟨rfl, HS.out, (HF.out _ _).drew⟩
abbrev hq (B o : Nat) : Value := .iface 159 (.pointer (some ⟨B, o, none⟩))
theorem Tryz.methI (name : String) (f : Nat) (h : (Tryz.prog.info? 159).map (fun i => (i.methods.find? (·.name == name)).map (fun m => (m.path, m.func))) = some (some (#[], some (f, false)))) :
  ∃ i m, Tryz.prog.info? 159 = some i ∧ i.methods.find? (·.name == name) = some m ∧ m.path = #[] ∧ m.func = some (f, false) := by
 cases hi : Tryz.prog.info? 159 with
 | none => rw [hi] at h; simp at h
 | some i =>
  rw [hi] at h
  simp only [Option.map_some, Option.some.injEq] at h
  cases hm : i.methods.find? (·.name == name) with
  | none => rw [hm] at h; simp at h
  | some m =>
   rw [hm] at h
   simp at h
   exact ⟨i, m, rfl, hm, h.1, h.2⟩
theorem wrapnilI (x : TypeId) (a : Addr) (s : String) (w : World) : (Builtin.ssaWrapNilChk_ #[x] x #[.pointer (some a), strVal "", strVal s]).run Tryz.prog w = .ok (.pointer (some a)) w := by kernel_rfl
theorem methI_val (name : String) (f : Nat) (h : (Tryz.prog.info? 159).map (fun i => (i.methods.find? (·.name == name)).map (fun m => (m.path, m.func))) = some (some (#[], some (f, false)))) (B o : Nat) (w : World) (v : Value) (hc : w.cell? ⟨B, o, none⟩ = some v) :
  (method 403 159 (.pointer (some ⟨B, o, none⟩)) name).run Tryz.prog w = .ok (f, v) w := by
 obtain ⟨i, m, hi, hm, hp, hf⟩ := Tryz.methI name f h
 unfold method
 simp [go_sem, typeInfo, hi, hm, hp, hf, follow, receiverAt, Place.get, wrapnilI, loadVar, hc]
theorem methI_less (B o : Nat) (w : World) (v : Value) (hc : w.cell? ⟨B, o, none⟩ = some v) : (method 403 159 (.pointer (some ⟨B, o, none⟩)) "Less").run Tryz.prog w = .ok (267, v) w := methI_val "Less" 267 (by kernel_rfl) B o w v hc
theorem methI_swap (B o : Nat) (w : World) (v : Value) (hc : w.cell? ⟨B, o, none⟩ = some v) : (method 403 159 (.pointer (some ⟨B, o, none⟩)) "Swap").run Tryz.prog w = .ok (268, v) w := methI_val "Swap" 268 (by kernel_rfl) B o w v hc
theorem methI_len (B o : Nat) (w : World) (v : Value) (hc : w.cell? ⟨B, o, none⟩ = some v) : (method 403 159 (.pointer (some ⟨B, o, none⟩)) "Len").run Tryz.prog w = .ok (158, v) w := methI_val "Len" 158 (by kernel_rfl) B o w v hc
theorem methI_push (a : Addr) (w : World) : (method 403 159 (.pointer (some a)) "Push").run Tryz.prog w = .ok (270, .pointer (some a)) w := by kernel_rfl
theorem methI_pop (a : Addr) (w : World) : (method 403 159 (.pointer (some a)) "Pop").run Tryz.prog w = .ok (269, .pointer (some a)) w := by kernel_rfl
theorem HqAt.less {B o g cap : Nat} {cs : Array Value} {Tb : TypeId} {ms : List Int} {W : World} (h : HqAt B o g cap cs Tb ms W) (i j : Nat) (hi : i < ms.length) (hj : j < ms.length) (hn : ms.length ≤ 1001) :
  Calls Tryz.prog 267 #[.slice (some ⟨g, 0, none⟩) ms.length cap, .int .i64 i, .int .i64 j] W fun e w' => e = .returned (.bool (decide (gi ms i < gi ms j))) ∧ HqAt B o g cap cs Tb ms w' ∧ Fb (at2 B g) W w' :=
 (qless_any g ms.length cap i j ms W h.own hi hj hn).mono fun e w' ⟨h1, h2⟩ => ⟨h1, h.below h2, Fb.of h2⟩
theorem HqAt.swap {B o g cap : Nat} {cs : Array Value} {Tb : TypeId} {ms : List Int} {W : World} (h : HqAt B o g cap cs Tb ms W) (i j : Nat) (hi : i < ms.length) (hj : j < ms.length) (hn : ms.length ≤ 1001) :
  Calls Tryz.prog 268 #[.slice (some ⟨g, 0, none⟩) ms.length cap, .int .i64 i, .int .i64 j] W fun e w' => e = .returned (.tuple #[]) ∧ HqAt B o g cap cs Tb (swi ms i j) w' ∧ Fb (at2 B g) W w' :=
 (qswap_any g ms.length cap i j ms W h.own hi hj hn).mono fun e w' ⟨h1, h2, h3⟩ => ⟨h1, ⟨h3.one h.var h.ne, by rw [swi_len]; exact h.hdr, by rw [swi_len]; exact h2, h.ne⟩, h3.mono fun x hx => .inr hx⟩
end Go.Proofs.YtjgggialnegddaaGreat
namespace Go.Proofs.YtjgggialnegddaaGreat
open Go.RowKit
set_option maxHeartbeats 1000000 in
theorem qup_any (B o g cap : Nat) (cs : Array Value) (Tb : TypeId) (ms : List Int) (j : Nat) (w : World) (h : HqAt B o g cap cs Tb ms w) (hj : j < ms.length) (hn : ms.length ≤ 1001) (hU : UpI ms ms.length j) :
  Calls Tryz.prog 117 #[hq B o, .int .i64 j] w fun e w' => e = .returned (.tuple #[]) ∧ (∃ ns, ns.Perm ms ∧ HeapI ns ns.length ∧ HqAt B o g cap cs Tb ns w') ∧ Fb (at2 B g) w w' := by
 have H := hid h
 have HU := hid hU
 clear h hU
 go_enter Tryz.func117, Tryz.ntmps117
 go_wp2_with fail
 go_loopw [1] (fun i W => ∃ (k : Nat) (ns : List Int), i = .int .i64 k ∧ k < ns.length ∧ Hid (ns.Perm ms) ∧ Hid (UpI ns ns.length k) ∧ Hid (HqAt B o g cap cs Tb ns W) ∧ Hid (Fb (at2 B g) w W)) (fun i _ => (intOf i).toNat)
 case atStart => exact ⟨j, ms, rfl, hj, List.Perm.refl _, HU, H, Fb.refl _ _⟩
 case round =>
  obtain ⟨k, ns, rfl, hk, HP, HUk, HH, HB⟩ := hrel
  have hl : ns.length ≤ 1001 := by have := HP.out.length_eq; omega
  by_cases h0 : k = 0
  ·subst h0
   have HD : Hid (HeapI ns ns.length) := HUk.out.done (fun h => absurd h (by omega))
   go_wp2
   go_end0
   exact ⟨rfl, ⟨ns, HP.out, HD.out, HH.out⟩, HB.out⟩
  ·obtain ⟨p, hp⟩ : ∃ p : Nat, ((k : Int) - 1) / 2 = (p : Int) := ⟨(k - 1) / 2, by omega⟩
   have hp' : (k - 1) / 2 = p := by omega
   have hne : ¬ (p : Int) = (k : Int) := by omega
   have hne' : ((p : Int) == (k : Int)) = false := by simpa using hne
   have hml := methI_less B o wr _ HH.out.cell
   have hL := HH.out.less k p hk (by omega) hl
   by_cases hb : ltI (gi ns k) (gi ns p)
   ·have hbb : decide (gi ns k < gi ns p) = true := decide_eq_true hb
    have HS : Hid (UpI (swi ns p k) (swi ns p k).length p) := by
     have := HUk.out.step (by omega) hk (Nat.le_refl _) (by rw [hp']; exact hb)
     rw [hp'] at this
     rw [swi_len]
     exact this
    have HPS : Hid ((swi ns p k).Perm ms) := (swi_perm (by omega) hk).trans HP.out
    rw [hbb] at hL
    clear hb hbb HH
    go_wp2_with fail
    refine hL.mono ?_
    rintro e w2 ⟨rfl, hH2, hB2⟩
    have hms := methI_swap B o w2 _ hH2.cell
    have hS := hH2.swap p k (by omega) hk hl
    have HB2 := hid (HB.out.tr hB2)
    clear hH2 hB2 hL hml
    go_wp2_with fail
    refine hS.mono ?_
    rintro e w3 ⟨rfl, hH3, hB3⟩
    have HH3 := hid hH3
    have HB3 := hid (HB2.out.tr hB3)
    clear hH3 hB3 hS hms
    go_wp2_with fail
    go_round
    case rel => exact ⟨p, swi ns p k, rfl, by rw [swi_len]; omega, HPS, HS, HH3, HB3⟩
    case measure => simp [intOf]; omega
   ·have hbb : decide (gi ns k < gi ns p) = false := decide_eq_false hb
    have HD : Hid (HeapI ns ns.length) := HUk.out.done (fun _ => by rw [hp']; exact hb)
    rw [hbb] at hL
    clear hb hbb HH
    go_wp2_with fail
    refine hL.mono ?_
    rintro e w2 ⟨rfl, hH2, hB2⟩
    have HH2 := hid hH2
    have HB2 := hid (HB.out.tr hB2)
    clear hH2 hB2 hL hml
    go_wp2
    go_end0
    exact ⟨rfl, ⟨ns, HP.out, HD.out, HH2.out⟩, HB2.out⟩
end Go.Proofs.YtjgggialnegddaaGreat
