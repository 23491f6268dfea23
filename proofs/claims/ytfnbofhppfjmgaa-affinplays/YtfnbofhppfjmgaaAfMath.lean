/-
  Lists of bindings: what goes, what is used, what is put.
-/
import Derived.Test.YtfnbofhppfjmgaaAfMap
namespace Go.Proofs.Ytfnbofhppfjmgaa
open Go.RowKit Go.Maps
set_option linter.unusedVariables false
set_option maxRecDepth 1000000

/-- The time behind a call. -/
def timeZ (T now : Int) : Int := if T < now ∧ now ≤ 1099511627776 then now else T
theorem timeZ_bd {T now : Int} (h : 0 ≤ T ∧ T ≤ 1099511627776) : T ≤ timeZ T now ∧ 0 ≤ timeZ T now ∧ timeZ T now ≤ 1099511627776 := by unfold timeZ; split <;> omega
/-- Those whose time is not over. -/
def endL (T : Int) (L : List Bd) : List Bd := L.filter fun b => decide (T < b.fin)
/-- Those of other replicas. -/
def forB (L : List Bd) (x : Int) : List Bd := L.filter fun b => decide (b.rep ≠ x)
/-- A session's binding lasts until f. -/
def useB (L : List Bd) (s f : Int) : List Bd := L.map fun b => if b.ses = s then ⟨b.ses, b.rep, f⟩ else b
/-- One binding put in the place of its session's. -/
def repB (L : List Bd) (n : Bd) : List Bd := L.map fun b => if b.ses = n.ses then n else b
theorem endL_all {T : Int} {L : List Bd} (h : ∀ b ∈ L, T < b.fin) : endL T L = L := List.filter_eq_self.2 fun b hb => by simpa using h b hb
theorem endL_mem {T : Int} {L : List Bd} {b : Bd} : b ∈ endL T L ↔ b ∈ L ∧ T < b.fin := by unfold endL; rw [List.mem_filter]; simp
theorem endL_sub {T : Int} {L : List Bd} : ∀ b ∈ endL T L, b ∈ L := fun b hb => (endL_mem.1 hb).1
theorem endL_len (T : Int) (L : List Bd) : (endL T L).length ≤ L.length := List.length_filter_le _ _
theorem useB_ses (L : List Bd) (s f : Int) : (useB L s f).map Bd.ses = L.map Bd.ses := by
  unfold useB
  rw [List.map_map]
  exact List.map_congr_left fun b _ => by simp only [Function.comp]; split <;> rfl
theorem repB_ses (L : List Bd) (n : Bd) : (repB L n).map Bd.ses = L.map Bd.ses := by
  unfold repB
  rw [List.map_map]
  exact List.map_congr_left fun b _ => by simp only [Function.comp]; split <;> simp_all
theorem useB_len (L : List Bd) (s f : Int) : (useB L s f).length = L.length := List.length_map _
theorem repB_len (L : List Bd) (n : Bd) : (repB L n).length = L.length := List.length_map _
theorem useB_nd {L : List Bd} (h : NdB L) (s f : Int) : NdB (useB L s f) := by unfold NdB; rw [useB_ses]; exact h
theorem repB_nd {L : List Bd} (h : NdB L) (n : Bd) : NdB (repB L n) := by unfold NdB; rw [repB_ses]; exact h
theorem useB_not {L : List Bd} {s : Int} (f : Int) (h : lk L s = none) : useB L s f = L := by
  unfold useB
  conv => rhs; rw [← List.map_id L]
  exact List.map_congr_left fun b hb => if_neg (lk_none.1 h b hb)
theorem useB_rep {L : List Bd} (hn : NdB L) {s r e : Int} (f : Int) (h : lk L s = some (r, e)) : repB L ⟨s, r, f⟩ = useB L s f := by
  unfold useB repB
  refine List.map_congr_left fun b hb => ?_
  split
  · rename_i e1
    have h1 := lk_mem hn hb
    rw [e1, h] at h1
    cases h1
    simp [e1]
  · rfl
theorem lk_rep (L : List Bd) (n : Bd) (y : Int) : lk (repB L n) y = if (lk L y).isSome ∧ y = n.ses then some (n.rep, n.fin) else lk L y := by
  induction L with
  | nil => simp [repB, lk]
  | cons b L ih =>
    unfold repB at ih ⊢
    simp only [List.map_cons, lk]
    by_cases e : b.ses = n.ses
    · rw [if_pos e]
      by_cases e2 : n.ses = y
      · simp [e2, e]
      · have e3 : ¬ b.ses = y := fun h => e2 (by rw [← e, h])
        rw [if_neg e2, ih]
        simp only [if_neg e3]
    · rw [if_neg e]
      by_cases e2 : b.ses = y
      · have : ¬ y = n.ses := fun h => e (by rw [e2, h])
        simp [e2, this]
      · rw [if_neg e2, ih]
        simp only [if_neg e2]
theorem lk_app (L : List Bd) (n : Bd) (y : Int) : lk (L ++ [n]) y = match lk L y with | some p => some p | none => if n.ses = y then some (n.rep, n.fin) else none := by
  induction L with
  | nil => simp [lk]
  | cons b L ih =>
    simp only [List.cons_append, lk]
    by_cases e : b.ses = y
    · simp [e]
    · simp only [if_neg e, ih]
theorem app_nd {L : List Bd} (h : NdB L) {n : Bd} (hn : lk L n.ses = none) : NdB (L ++ [n]) := by
  unfold NdB at h ⊢
  rw [List.map_append, List.nodup_append]
  refine ⟨h, by simp, fun a ha b hb => ?_⟩
  simp at hb
  subst hb
  obtain ⟨c, hc, rfl⟩ := List.mem_map.1 ha
  exact lk_none.1 hn c hc
/-- It ends sooner, or with a lesser session at the same time. -/
def ltB (a b : Bd) : Prop := a.fin < b.fin ∨ a.fin = b.fin ∧ a.ses < b.ses
instance (a b : Bd) : Decidable (ltB a b) := inferInstanceAs (Decidable (_ ∨ _))
/-- The one that goes. -/
def LstB (L : List Bd) (b : Bd) : Prop := b ∈ L ∧ ∀ c ∈ L, ¬ ltB c b
theorem LstB.one {L : List Bd} {a b : Bd} (ha : LstB L a) (hb : LstB L b) : a.ses = b.ses := by
  have h1 := ha.2 b hb.1
  have h2 := hb.2 a ha.1
  unfold ltB at h1 h2
  omega
/-- What is bound behind Bind. -/
def BindP (room : Nat) (L : List Bd) (n : Bd) (L' : List Bd) : Prop :=
  (lk L n.ses ≠ none ∧ L' = repB L n) ∨ (lk L n.ses = none ∧ L.length < room ∧ L' = L ++ [n]) ∨ (lk L n.ses = none ∧ L.length = room ∧ ∃ b, LstB L b ∧ L' = butB L b.ses ++ [n])
theorem BindP.one {room : Nat} {L : List Bd} {n : Bd} {A C : List Bd} (h : BindP room L n A) (k : BindP room L n C) : A = C := by
  rcases h with ⟨h1, rfl⟩ | ⟨h1, h2, rfl⟩ | ⟨h1, h2, b, hb, rfl⟩ <;> rcases k with ⟨k1, rfl⟩ | ⟨k1, k2, rfl⟩ | ⟨k1, k2, c, hc, rfl⟩
  · rfl
  · exact absurd k1 h1
  · exact absurd k1 h1
  · exact absurd h1 k1
  · rfl
  · omega
  · exact absurd h1 k1
  · omega
  · rw [hb.one hc]
/-- The bindings that are still to come, and those that stay. -/
theorem left_start {L : List Bd} (hn : NdB L) (p : Bd → Bool) : (L.filter fun b => (lk L b.ses).isSome || !p b) = L :=
  List.filter_eq_self.2 fun b hb => by rw [lk_mem hn hb]; rfl
theorem left_end {L : List Bd} (hu : ∀ b ∈ L, isU b.ses) {lf : Int → Bool} (hl : ∀ x, isU x → lf x = false) (p : Bd → Bool) : (L.filter fun b => lf b.ses || !p b) = L.filter fun b => !p b :=
  List.filter_congr fun b hb => by rw [hl _ (hu b hb)]; rfl
theorem left_stay {L : List Bd} (hn : NdB L) {b : Bd} (hb : b ∈ L) (lf : Int → Bool) {p : Bd → Bool} (hp : p b = false) : (L.filter fun c => (lf c.ses && decide (c.ses ≠ b.ses)) || !p c) = L.filter fun c => lf c.ses || !p c :=
  List.filter_congr fun c hc => by
    by_cases e : c.ses = b.ses
    · rw [ses_one hn hc hb e, hp]; simp
    · simp [e]
theorem left_go {L : List Bd} (hn : NdB L) {b : Bd} (hb : b ∈ L) (lf : Int → Bool) {p : Bd → Bool} (hp : p b = true) : (L.filter fun c => (lf c.ses && decide (c.ses ≠ b.ses)) || !p c) = butB (L.filter fun c => lf c.ses || !p c) b.ses := by
  unfold butB
  rw [List.filter_filter]
  refine List.filter_congr fun c hc => ?_
  by_cases e : c.ses = b.ses
  · rw [ses_one hn hc hb e, hp]; simp
  · simp [e]
/-- Of those that have come, the first to end. -/
def FsO (L : List Bd) (lf : Int → Bool) (s f : Int) : Prop :=
  ((∀ b ∈ L, lf b.ses = true) ∧ s = 0 ∧ f = 1103806595073) ∨ ∃ b ∈ L, lf b.ses = false ∧ s = b.ses ∧ f = b.fin ∧ ∀ c ∈ L, lf c.ses = false → ¬ ltB c b
theorem FsO.end {L : List Bd} (hu : ∀ b ∈ L, isU b.ses) {lf : Int → Bool} (hl : ∀ x, isU x → lf x = false) {s f : Int} (h : FsO L lf s f) (h0 : L ≠ []) : ∃ b, LstB L b ∧ s = b.ses := by
  rcases h with ⟨h1, _⟩ | ⟨b, hb, _, rfl, _, h2⟩
  · cases L with
    | nil => exact absurd rfl h0
    | cons c L =>
      have h3 := h1 c (by simp)
      rw [hl _ (hu c (by simp))] at h3
      cases h3
  · exact ⟨b, ⟨hb, fun c hc => h2 c hc (hl _ (hu c hc))⟩, rfl⟩
theorem FsO.bd {L : List Bd} (hu : ∀ b ∈ L, isU b.ses) (hf : ∀ b ∈ L, isI b.fin) {lf : Int → Bool} {s f : Int} (h : FsO L lf s f) : isU s ∧ isI f := by
  rcases h with ⟨_, rfl, rfl⟩ | ⟨b, hb, _, rfl, rfl, _⟩
  · exact ⟨⟨by omega, by omega⟩, by omega, by omega⟩
  · exact ⟨hu b hb, hf b hb⟩
theorem FsO.less {L : List Bd} (hn : NdB L) {lf : Int → Bool} {s f : Int} (h : FsO L lf s f) {b : Bd} (hb : b ∈ L) (hfin : b.fin < 1103806595073) (hlt : b.fin < f ∨ b.fin = f ∧ b.ses < s) : FsO L (fun x => lf x && decide (x ≠ b.ses)) b.ses b.fin := by
  refine .inr ⟨b, hb, by simp, rfl, rfl, fun c hc hlc => ?_⟩
  by_cases e : c.ses = b.ses
  · rw [ses_one hn hc hb e]; unfold ltB; omega
  · have hlc' : lf c.ses = false := by simpa [e] using hlc
    rcases h with ⟨h1, _⟩ | ⟨d, hd, _, rfl, rfl, h2⟩
    · rw [h1 c hc] at hlc'; cases hlc'
    · have := h2 c hc hlc'
      unfold ltB at this ⊢
      omega
theorem FsO.stay {L : List Bd} (hn : NdB L) {lf : Int → Bool} {s f : Int} (h : FsO L lf s f) {b : Bd} (hb : b ∈ L) (hl : lf b.ses = true) (hfin : b.fin < 1103806595073) (hlt : ¬ (b.fin < f ∨ b.fin = f ∧ b.ses < s)) : FsO L (fun x => lf x && decide (x ≠ b.ses)) s f := by
  rcases h with ⟨h1, rfl, rfl⟩ | ⟨d, hd, h3, rfl, rfl, h2⟩
  · omega
  · refine .inr ⟨d, hd, by simp [h3], rfl, rfl, fun c hc hlc => ?_⟩
    by_cases e : c.ses = b.ses
    · rw [ses_one hn hc hb e]; unfold ltB; omega
    · exact h2 c hc (by simpa [e] using hlc)
end Go.Proofs.Ytfnbofhppfjmgaa
