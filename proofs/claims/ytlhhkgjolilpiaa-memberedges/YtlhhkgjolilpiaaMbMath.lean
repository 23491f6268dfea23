/-
  Mathematics of stage 24: a list of replicas (Ml) and what its calls make of it; the document's is the same one.
-/
import Derived.Test.YtlhhkgjolilpiaaMbMap
namespace Go.Proofs.Ytlhhkgjolilpiaa
open Go.RowKit
set_option linter.unusedVariables false
set_option maxRecDepth 1000000

/-- A replica: number, state, incarnation, how many are bound, since when. -/
structure Mr where
  n : Int
  st : Int
  inc : Int
  bd : Int
  si : Int
/-- A list: the time, the number given last, its replicas, rising. -/
structure Ml where
  now : Int
  last : Int
  L : List Mr
/-- The replica of a number. -/
def gtL : List Mr → Int → Option Mr
  | [], _ => none
  | r :: L, n => if r.n = n then some r else gtL L n
theorem gtL_none {L : List Mr} {n : Int} : gtL L n = none ↔ ∀ r ∈ L, r.n ≠ n := by
  induction L with
  | nil => simp [gtL]
  | cons m L ih => by_cases e : m.n = n <;> simp [gtL, e, ih]
theorem gtL_some {L : List Mr} {n : Int} {r : Mr} (h : gtL L n = some r) : r ∈ L ∧ r.n = n := by
  induction L with
  | nil => simp [gtL] at h
  | cons m L ih =>
    by_cases e : m.n = n
    · simp [gtL, e] at h
      exact ⟨by simp [h], by rw [← h]; exact e⟩
    · simp [gtL, e] at h
      obtain ⟨h1, h2⟩ := ih h
      exact ⟨by simp [h1], h2⟩
/-- Numbers rise. -/
def RisM (L : List Mr) : Prop := (L.map Mr.n).Pairwise (· < ·)
theorem RisM.nodup {L : List Mr} (h : RisM L) : (L.map Mr.n).Nodup := h.imp fun h => by omega
theorem RisM.one {L : List Mr} (h : RisM L) {a b : Mr} (ha : a ∈ L) (hb : b ∈ L) (e : a.n = b.n) : a = b := by
  have h := h.nodup
  induction L with
  | nil => simp at ha
  | cons x L ih =>
    rw [List.map_cons, List.nodup_cons] at h
    rcases List.mem_cons.1 ha with rfl | ha' <;> rcases List.mem_cons.1 hb with rfl | hb'
    · rfl
    · exact absurd (List.mem_map.2 ⟨b, hb', e.symm⟩) h.1
    · exact absurd (List.mem_map.2 ⟨a, ha', e⟩) h.1
    · rename_i hr; exact ih (List.Pairwise.of_cons (by simpa [RisM] using hr)) ha' hb' h.2
theorem gtL_mem {L : List Mr} (h : RisM L) {r : Mr} (hr : r ∈ L) : gtL L r.n = some r := by
  cases hl : gtL L r.n with
  | none => exact absurd rfl (gtL_none.1 hl r hr)
  | some p =>
    obtain ⟨h1, h2⟩ := gtL_some hl
    rw [h.one h1 hr h2]
/-- One is another one. -/
def putL (L : List Mr) (r : Mr) : List Mr := L.map fun x => if x.n = r.n then r else x
theorem putL_n (L : List Mr) (r : Mr) : (putL L r).map Mr.n = L.map Mr.n := by
  unfold putL
  rw [List.map_map]
  refine List.map_congr_left fun x _ => ?_
  show (if x.n = r.n then r else x).n = x.n
  split
  · rename_i h; exact h.symm
  · rfl
theorem putL_len (L : List Mr) (r : Mr) : (putL L r).length = L.length := List.length_map ..
theorem putL_put (L : List Mr) {r q : Mr} (e : r.n = q.n) : putL (putL L r) q = putL L q := by
  unfold putL
  rw [List.map_map]
  refine List.map_congr_left fun x _ => ?_
  show (if (if x.n = r.n then r else x).n = q.n then q else (if x.n = r.n then r else x)) = _
  by_cases h : x.n = r.n
  · rw [if_pos h, if_pos e, if_pos (h.trans e)]
  · rw [if_neg h]
theorem putL_same {L : List Mr} (h : RisM L) {r : Mr} (hr : r ∈ L) : putL L r = L := by
  unfold putL
  conv => rhs; rw [← List.map_id L]
  refine List.map_congr_left fun x hx => ?_
  show (if x.n = r.n then r else x) = x
  split
  · rename_i e; exact (h.one hx hr e).symm
  · rfl
theorem putL_mem {L : List Mr} {r x : Mr} (h : x ∈ putL L r) : (x = r ∧ ∃ y ∈ L, y.n = r.n) ∨ (x ∈ L ∧ x.n ≠ r.n) := by
  obtain ⟨y, hy, e⟩ := List.mem_map.1 h
  by_cases hn : y.n = r.n
  · rw [if_pos hn] at e
    exact .inl ⟨e.symm, y, hy, hn⟩
  · rw [if_neg hn] at e
    exact .inr ⟨e ▸ hy, e ▸ hn⟩
theorem gtL_put {L : List Mr} {r : Mr} (n : Int) : gtL (putL L r) n = if n = r.n then (gtL L n).map (fun _ => r) else gtL L n := by
  induction L with
  | nil => simp [putL, gtL]
  | cons x L ih =>
    have ih : gtL (putL L r) n = _ := ih
    show gtL ((if x.n = r.n then r else x) :: putL L r) n = _
    by_cases h1 : x.n = r.n
    · rw [if_pos h1]
      by_cases h2 : n = r.n
      · simp [gtL, h1, h2]
      · have h3 : ¬ r.n = n := fun e => h2 e.symm
        have h4 : ¬ x.n = n := fun e => h2 (e.symm.trans h1)
        simp only [gtL, if_neg h3, if_neg h4, ih, if_neg h2]
    · rw [if_neg h1]
      by_cases h2 : n = r.n
      · have h3 : ¬ x.n = n := fun e => h1 (e.trans h2)
        simp only [gtL, if_neg h3, ih]
      · simp only [gtL, ih, if_neg h2]
theorem RisM.put {L : List Mr} (h : RisM L) (r : Mr) : RisM (putL L r) := by unfold RisM; rw [putL_n]; exact h
/-- All but one. -/
def rmL (L : List Mr) (n : Int) : List Mr := L.filter fun r => decide (r.n ≠ n)
theorem RisM.rm {L : List Mr} (h : RisM L) (n : Int) : RisM (rmL L n) := h.sublist (List.filter_sublist.map _)
theorem rmL_mem {L : List Mr} {n : Int} {r : Mr} : r ∈ rmL L n ↔ r ∈ L ∧ r.n ≠ n := by unfold rmL; rw [List.mem_filter]; simp
/-- What is known of a replica. -/
structure MrOk (T last : Int) (r : Mr) : Prop where
  n : 1 ≤ r.n ∧ r.n ≤ last
  st : 1 ≤ r.st ∧ r.st ≤ 4
  inc : isU r.inc
  bd : 0 ≤ r.bd ∧ r.bd ≤ 1048576
  si : 0 ≤ r.si ∧ r.si ≤ T
structure MlOk (S : Ml) : Prop where
  now : 0 ≤ S.now ∧ S.now ≤ 1099511627776
  last : 0 ≤ S.last ∧ S.last ≤ 9223372036854775807
  rep : ∀ r ∈ S.L, MrOk S.now S.last r
  ris : RisM S.L
  len : S.L.length ≤ 8
/-- The time that is meant. -/
def tmZ (T now : Int) : Int := if T < now ∧ now ≤ 1099511627776 then now else T
theorem tmZ_bd {T now : Int} (h : 0 ≤ T ∧ T ≤ 1099511627776) : T ≤ tmZ T now ∧ 0 ≤ tmZ T now ∧ tmZ T now ≤ 1099511627776 := by unfold tmZ; split <;> omega
def Ml.tm (S : Ml) (t : Int) : Ml := { S with now := tmZ S.now t }
def Ml.get (S : Ml) (n : Int) : Option Mr := gtL S.L n
def Ml.put (S : Ml) (r : Mr) : Ml := { S with L := putL S.L r }
def Ml.rm (S : Ml) (n : Int) : Ml := { S with L := rmL S.L n }
def Ml.zero : Ml := ⟨0, 0, []⟩
def Ml.full (S : Ml) : Bool := decide (8 ≤ S.L.length) || decide (9223372036854775807 ≤ S.last)
def Ml.new1 (S : Ml) : Mr := ⟨S.last + 1, 1, 0, 0, S.now⟩
def Ml.more (S : Ml) : Ml := ⟨S.now, S.last + 1, S.L ++ [S.new1]⟩
def Ml.addS (S : Ml) : Ml := if S.full = true then S else S.more
def Ml.addN (S : Ml) : Int := if S.full = true then 0 else S.last + 1
def Ml.addE (S : Ml) : Int := if S.full = true then 5 else 0
def Mr.ent (r : Mr) (T s : Int) : Mr := if r.st = s then r else { r with st := s, si := T }
def Mr.ups (r : Mr) (T : Int) : Mr := if r.st = 1 ∨ r.st = 4 then r.ent T 2 else r
def Mr.anew (r : Mr) (i : Int) : Bool := decide (r.inc ≠ 0 ∧ i ≠ r.inc)
def Mr.beg (r : Mr) (i : Int) : Mr := if r.anew i = true then { r with inc := i, bd := 0 } else { r with inc := i }
def Mr.old (r : Mr) (i : Int) : Bool := decide (i = 0 ∨ i < r.inc)
def Mr.stays (r : Mr) (T wt : Int) : Bool := decide (r.st ≠ 3 ∨ 0 < r.bd ∧ T - r.si < wt)
def Mr.far (r : Mr) (v : Int) : Bool := decide (v < -r.bd ∨ 1048576 - r.bd < v)
def Ml.upE (S : Ml) (n i : Int) : Int := match S.get n with | none => 6 | some r => if r.old i = true then 1 else 0
def Ml.upB (S : Ml) (n i : Int) : Bool := match S.get n with | none => false | some r => if r.old i = true then false else r.anew i
def Ml.upS (S : Ml) (n i : Int) : Ml := match S.get n with | none => S | some r => if r.old i = true then S else S.put ((r.ups S.now).beg i)
def Ml.turnE (S : Ml) (n : Int) : Int := match S.get n with | none => 6 | some r => if r.st = 3 then 10 else 0
def Ml.turnS (S : Ml) (n s : Int) : Ml := match S.get n with | none => S | some r => if r.st = 3 then S else S.put (r.ent S.now s)
def Ml.rmE (S : Ml) (n wt : Int) : Int := match S.get n with | none => 6 | some r => if r.stays S.now wt = true then 10 else 0
def Ml.rmS (S : Ml) (n wt : Int) : Ml := match S.get n with | none => S | some r => if r.stays S.now wt = true then S else S.rm n
def Ml.bindE (S : Ml) (n v : Int) : Int := match S.get n with | none => 6 | some r => if r.far v = true then 1 else 0
def Ml.bindS (S : Ml) (n v : Int) : Ml := match S.get n with | none => S | some r => if r.far v = true then S else S.put { r with bd := r.bd + v }
def Mr.zero : Mr := ⟨0, 0, 0, 0, 0⟩
def Ml.getR (S : Ml) (n : Int) : Mr := (S.get n).getD Mr.zero
def Ml.getE (S : Ml) (n : Int) : Int := match S.get n with | none => 6 | some _ => 0
def liveL (L : List Mr) : Nat := (L.filter fun r => decide (r.st ≠ 3)).length
variable {S : Ml} {r : Mr} {n i v wt s : Int}
theorem get_none (h : S.get n = none) : S.upE n i = 6 ∧ S.upB n i = false ∧ S.upS n i = S ∧ S.turnE n = 6 ∧ S.turnS n s = S ∧ S.rmE n wt = 6 ∧ S.rmS n wt = S ∧ S.bindE n v = 6 ∧ S.bindS n v = S ∧ S.getR n = Mr.zero ∧ S.getE n = 6 := by
  unfold Ml.upE Ml.upB Ml.upS Ml.turnE Ml.turnS Ml.rmE Ml.rmS Ml.bindE Ml.bindS Ml.getR Ml.getE
  rw [h]
  exact ⟨rfl, rfl, rfl, rfl, rfl, rfl, rfl, rfl, rfl, rfl, rfl⟩
theorem get_up (h : S.get n = some r) : S.upE n i = (if r.old i = true then 1 else 0) ∧ S.upB n i = (if r.old i = true then false else r.anew i) ∧ S.upS n i = (if r.old i = true then S else S.put ((r.ups S.now).beg i)) := by
  unfold Ml.upE Ml.upB Ml.upS
  rw [h]
  exact ⟨rfl, rfl, rfl⟩
theorem get_turn (h : S.get n = some r) : S.turnE n = (if r.st = 3 then 10 else 0) ∧ S.turnS n s = (if r.st = 3 then S else S.put (r.ent S.now s)) := by
  unfold Ml.turnE Ml.turnS
  rw [h]
  exact ⟨rfl, rfl⟩
theorem get_rm (h : S.get n = some r) : S.rmE n wt = (if r.stays S.now wt = true then 10 else 0) ∧ S.rmS n wt = (if r.stays S.now wt = true then S else S.rm n) := by
  unfold Ml.rmE Ml.rmS
  rw [h]
  exact ⟨rfl, rfl⟩
theorem get_bind (h : S.get n = some r) : S.bindE n v = (if r.far v = true then 1 else 0) ∧ S.bindS n v = (if r.far v = true then S else S.put { r with bd := r.bd + v }) := by
  unfold Ml.bindE Ml.bindS
  rw [h]
  exact ⟨rfl, rfl⟩
theorem get_get (h : S.get n = some r) : S.getR n = r ∧ S.getE n = 0 := by
  unfold Ml.getR Ml.getE
  rw [h]
  exact ⟨rfl, rfl⟩
theorem get_num (h : S.get n = some r) : r ∈ S.L ∧ r.n = n := gtL_some h
/-! ### What is known stays known -/
theorem MlOk.zero : MlOk Ml.zero := ⟨⟨Int.le_refl 0, show (0 : Int) ≤ 1099511627776 by decide⟩, ⟨Int.le_refl 0, show (0 : Int) ≤ 9223372036854775807 by decide⟩, fun r hr => absurd hr (by show ¬ r ∈ ([] : List Mr); simp), show ([] : List Int).Pairwise _ from List.Pairwise.nil, by show 0 ≤ 8; decide⟩
theorem MlOk.tm (h : MlOk S) (t : Int) : MlOk (S.tm t) := ⟨(tmZ_bd h.now).2, h.last, fun r hr => by
  have := h.rep r hr
  exact ⟨this.n, this.st, this.inc, this.bd, this.si.1, Int.le_trans this.si.2 (tmZ_bd h.now).1⟩, h.ris, h.len⟩
theorem MlOk.put (h : MlOk S) (hr : MrOk S.now S.last r) : MlOk (S.put r) := ⟨h.now, h.last, fun x hx => by
  rcases putL_mem hx with ⟨rfl, _⟩ | ⟨hx, _⟩
  · exact hr
  · exact h.rep x hx, h.ris.put r, by show (putL S.L r).length ≤ 8; rw [putL_len]; exact h.len⟩
theorem MlOk.rm (h : MlOk S) (n : Int) : MlOk (S.rm n) := ⟨h.now, h.last, fun x hx => h.rep x (rmL_mem.1 hx).1, h.ris.rm n, Nat.le_trans (List.length_filter_le _ _) h.len⟩
theorem MlOk.lt (h : MlOk S) (hf : S.full = false) : S.L.length < 8 ∧ S.last < 9223372036854775807 := by
  unfold Ml.full at hf
  simp only [Bool.or_eq_false_iff, decide_eq_false_iff_not] at hf
  omega
theorem MlOk.more (h : MlOk S) (hf : S.full = false) : MlOk S.more := by
  obtain ⟨h1, h2⟩ := h.lt hf
  have hl := h.last
  have hn := h.now
  refine ⟨h.now, ⟨by show 0 ≤ S.last + 1; omega, by show S.last + 1 ≤ _; omega⟩, fun r hr => ?_, ?_, ?_⟩
  · rcases List.mem_append.1 hr with hr | hr
    · have := h.rep r hr
      exact ⟨⟨this.n.1, by show r.n ≤ S.last + 1; have := this.n.2; omega⟩, this.st, this.inc, this.bd, this.si⟩
    · rw [List.mem_singleton.1 hr]
      exact ⟨⟨by show 1 ≤ S.last + 1; omega, Int.le_refl _⟩, ⟨by show (1 : Int) ≤ 1; decide, by show (1 : Int) ≤ 4; decide⟩, ⟨Int.le_refl 0, by show (0 : Int) ≤ _; decide⟩, ⟨Int.le_refl 0, by show (0 : Int) ≤ _; decide⟩, ⟨hn.1, Int.le_refl _⟩⟩
  · show ((S.L ++ [S.new1]).map Mr.n).Pairwise (· < ·)
    rw [List.map_append, List.pairwise_append]
    refine ⟨h.ris, by simp, fun a ha b hb => ?_⟩
    obtain ⟨r, hr, rfl⟩ := List.mem_map.1 ha
    have e : b = S.last + 1 := by simpa [Ml.new1] using hb
    have := (h.rep r hr).n.2
    omega
  · show (S.L ++ [S.new1]).length ≤ 8
    rw [List.length_append]
    simp
    omega
theorem MlOk.addS (h : MlOk S) : MlOk S.addS := by
  unfold Ml.addS
  split
  · exact h
  · rename_i hf; exact h.more (by simpa using hf)
theorem MrOk.ent {T last : Int} (h : MrOk T last r) (hs : 1 ≤ s ∧ s ≤ 4) (hT : 0 ≤ T) : MrOk T last (r.ent T s) := by
  unfold Mr.ent
  split
  · exact h
  · exact ⟨h.n, hs, h.inc, h.bd, ⟨hT, Int.le_refl _⟩⟩
theorem Mr.ent_n (r : Mr) (T s : Int) : (r.ent T s).n = r.n := by unfold Mr.ent; split <;> rfl
theorem MrOk.ups {T last : Int} (h : MrOk T last r) (hT : 0 ≤ T) : MrOk T last (r.ups T) := by
  unfold Mr.ups
  split
  · exact h.ent (by decide) hT
  · exact h
theorem Mr.ups_n (r : Mr) (T : Int) : (r.ups T).n = r.n := by unfold Mr.ups; split; exact Mr.ent_n _ _ _; rfl
theorem Mr.ups_inc (r : Mr) (T : Int) : (r.ups T).inc = r.inc := by
  unfold Mr.ups Mr.ent
  split
  · split <;> rfl
  · rfl
theorem MrOk.beg {T last : Int} (h : MrOk T last r) (hi : isU i) : MrOk T last (r.beg i) := by
  unfold Mr.beg
  split
  · exact ⟨h.n, h.st, hi, ⟨Int.le_refl 0, by show (0 : Int) ≤ _; decide⟩, h.si⟩
  · exact ⟨h.n, h.st, hi, h.bd, h.si⟩
theorem Mr.beg_n (r : Mr) (i : Int) : (r.beg i).n = r.n := by unfold Mr.beg; split <;> rfl
theorem MlOk.upS (h : MlOk S) (n : Int) (hi : isU i) : MlOk (S.upS n i) := by
  cases hg : S.get n with
  | none => rw [(get_none (i := i) (v := 0) (wt := 0) (s := 0) hg).2.2.1]; exact h
  | some r =>
    rw [(get_up hg).2.2]
    split
    · exact h
    · exact h.put (((h.rep r (get_num hg).1).ups h.now.1).beg hi)
theorem MlOk.turnS (h : MlOk S) (n : Int) (hs : 1 ≤ s ∧ s ≤ 4) : MlOk (S.turnS n s) := by
  cases hg : S.get n with
  | none => rw [(get_none (i := 0) (v := 0) (wt := 0) (s := s) hg).2.2.2.2.1]; exact h
  | some r =>
    rw [(get_turn hg).2]
    split
    · exact h
    · exact h.put ((h.rep r (get_num hg).1).ent hs h.now.1)
theorem MlOk.rmS (h : MlOk S) (n wt : Int) : MlOk (S.rmS n wt) := by
  cases hg : S.get n with
  | none => rw [(get_none (i := 0) (v := 0) (wt := wt) (s := 0) hg).2.2.2.2.2.2.1]; exact h
  | some r =>
    rw [(get_rm hg).2]
    split
    · exact h
    · exact h.rm n
theorem MlOk.bindS (h : MlOk S) (n v : Int) : MlOk (S.bindS n v) := by
  cases hg : S.get n with
  | none => rw [(get_none (i := 0) (v := v) (wt := 0) (s := 0) hg).2.2.2.2.2.2.2.2.1]; exact h
  | some r =>
    rw [(get_bind hg).2]
    have hr := h.rep r (get_num hg).1
    split
    · exact h
    · rename_i hf
      have hb := hr.bd
      unfold Mr.far at hf
      simp only [decide_eq_true_eq, not_or, Int.not_lt] at hf
      exact h.put ⟨hr.n, hr.st, hr.inc, ⟨by show 0 ≤ r.bd + v; omega, by show r.bd + v ≤ _; omega⟩, hr.si⟩
end Go.Proofs.Ytlhhkgjolilpiaa
