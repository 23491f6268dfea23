/-
  MemberEdges: its mathematics; goes; what stands in memory.
-/
import Derived.Test.YtlhhkgjolilpiaaMbNo
namespace Go.Proofs.Ytlhhkgjolilpiaa
open Go.RowKit
set_option linter.unusedVariables false
set_option maxRecDepth 1000000

/-- One state leads to another one. -/
def goesP (a b : Int) : Prop := (a = 1 ∧ (b = 2 ∨ b = 4 ∨ b = 3)) ∨ (a = 2 ∧ (b = 4 ∨ b = 3)) ∨ (a = 4 ∧ (b = 2 ∨ b = 3))
/-- What becomes of a replica in a call. -/
def EdA (rm : Bool) (n wt now e : Int) (L' : List Mr) (a : Mr) : Prop :=
  (gtL L' a.n = none → e = 0 ∧ rm = true ∧ a.n = n ∧ a.st = 3 ∧ ¬ (0 < a.bd ∧ now - a.si < wt)) ∧
  (∀ q, gtL L' a.n = some q → (e = 0 ∨ q = a) ∧ (a.st = q.st ∨ goesP a.st q.st) ∧ a.inc ≤ q.inc ∧ (a.n = n ∨ a = q) ∧ 0 ≤ q.bd)
variable {S : Ml} {r a : Mr} {rm : Bool} {n i v wt s now e t : Int} {L : List Mr}
theorem EdA.same (h : RisM L) (hok : ∀ a ∈ L, 0 ≤ a.bd) (ha : a ∈ L) : EdA rm n wt now e L a := by
  have hg := gtL_mem h ha
  refine ⟨fun h0 => ?_, fun q hq => ?_⟩
  · rw [hg] at h0; cases h0
  · rw [hg] at hq
    cases hq
    exact ⟨.inr rfl, .inl rfl, Int.le_refl _, .inr rfl, hok a ha⟩
theorem EdA.app (h : RisM L) (hok : ∀ a ∈ L, 0 ≤ a.bd) (ha : a ∈ L) (x : Mr) : EdA rm n wt now e (L ++ [x]) a := by
  have hg : gtL (L ++ [x]) a.n = some a := by
    have := gtL_mem h ha
    clear hok h
    induction L with
    | nil => simp at ha
    | cons y L ih =>
      by_cases e : y.n = a.n
      · simp only [gtL, if_pos e] at this
        simp only [List.cons_append, gtL, if_pos e]
        exact this
      · simp only [gtL, if_neg e] at this
        simp only [List.cons_append, gtL, if_neg e]
        rcases List.mem_cons.1 ha with h | h
        · exact absurd (by rw [h]) e
        · exact ih h this
  refine ⟨fun h0 => ?_, fun q hq => ?_⟩
  · rw [hg] at h0; cases h0
  · rw [hg] at hq
    cases hq
    exact ⟨.inr rfl, .inl rfl, Int.le_refl _, .inr rfl, hok a ha⟩
theorem EdA.put (h : RisM L) (hok : ∀ a ∈ L, 0 ≤ a.bd) (ha : a ∈ L) {r' : Mr} (hr : gtL L n = some r) (hn : r'.n = r.n) (h1 : r.st = r'.st ∨ goesP r.st r'.st) (h2 : r.inc ≤ r'.inc) (h3 : 0 ≤ r'.bd) : EdA rm n wt now 0 (putL L r') a := by
  have hrn := gtL_some hr
  have hg := gtL_mem h ha
  have hp := gtL_put (L := L) (r := r') a.n
  by_cases e : a.n = r'.n
  · rw [if_pos e, hg] at hp
    have har : a = r := h.one ha hrn.1 (e.trans hn)
    refine ⟨fun h0 => ?_, fun q hq => ?_⟩
    · rw [hp] at h0; cases h0
    · rw [hp] at hq
      cases hq
      rw [har]
      exact ⟨.inl rfl, h1, h2, .inl hrn.2, h3⟩
  · rw [if_neg e, hg] at hp
    refine ⟨fun h0 => ?_, fun q hq => ?_⟩
    · rw [hp] at h0; cases h0
    · rw [hp] at hq
      cases hq
      exact ⟨.inr rfl, .inl rfl, Int.le_refl _, .inr rfl, hok a ha⟩
theorem gtL_rm {L : List Mr} {m x : Int} : gtL (rmL L m) x = if x = m then none else gtL L x := by
  induction L with
  | nil => simp [rmL, gtL]
  | cons y L ih =>
    unfold rmL at ih ⊢
    by_cases e : y.n = m
    · rw [List.filter_cons_of_neg (by simp [e]), ih]
      by_cases e2 : x = m
      · rw [if_pos e2, if_pos e2]
      · rw [if_neg e2, if_neg e2]
        simp only [gtL]
        rw [if_neg (fun h => e2 (h.symm.trans e))]
    · rw [List.filter_cons_of_pos (by simp [e])]
      simp only [gtL]
      by_cases e3 : y.n = x
      · rw [if_pos e3, if_pos e3, if_neg (fun h => e (e3.trans h))]
      · rw [if_neg e3, if_neg e3, ih]
theorem EdA.gone (h : RisM L) (hok : ∀ a ∈ L, 0 ≤ a.bd) (ha : a ∈ L) (hr : gtL L n = some r) (h1 : r.st = 3) (h2 : ¬ (0 < r.bd ∧ now - r.si < wt)) : EdA true n wt now 0 (rmL L n) a := by
  have hrn := gtL_some hr
  have hg := gtL_mem h ha
  have hp := gtL_rm (L := L) (m := n) (x := a.n)
  by_cases e : a.n = n
  · rw [if_pos e] at hp
    have har : a = r := h.one ha hrn.1 (e.trans hrn.2.symm)
    refine ⟨fun _ => ⟨rfl, rfl, e, by rw [har]; exact h1, by rw [har]; exact h2⟩, fun q hq => ?_⟩
    rw [hp] at hq; cases hq
  · rw [if_neg e, hg] at hp
    refine ⟨fun h0 => ?_, fun q hq => ?_⟩
    · rw [hp] at h0; cases h0
    · rw [hp] at hq
      cases hq
      exact ⟨.inr rfl, .inl rfl, Int.le_refl _, .inr rfl, hok a ha⟩
theorem MlOk.bds (h : MlOk S) : ∀ a ∈ S.L, 0 ≤ a.bd := fun a ha => (h.rep a ha).bd.1
theorem ed_add (h : MlOk S) (t : Int) (ha : a ∈ S.L) : EdA rm n wt now (S.tm t).addE (S.tm t).addS.L a := by
  unfold Ml.addE Ml.addS
  split
  · exact EdA.same h.ris h.bds ha
  · exact EdA.app h.ris h.bds ha _
theorem ed_up (h : MlOk S) (t : Int) (ha : a ∈ S.L) (hi : isU i) : EdA rm n wt now ((S.tm t).upE n i) ((S.tm t).upS n i).L a := by
  have ok := h.tm t
  cases hg : (S.tm t).get n with
  | none =>
    obtain ⟨e0, _, e2, _⟩ := get_none (i := i) (v := 0) (wt := 0) (s := 0) hg
    rw [e0, e2]
    exact EdA.same h.ris h.bds ha
  | some r =>
    obtain ⟨e0, _, e2⟩ := get_up (i := i) hg
    rw [e0, e2]
    have hr := ok.rep r (get_num hg).1
    split
    · exact EdA.same h.ris h.bds ha
    · rename_i ho
      have ho2 : ¬ (i = 0 ∨ i < r.inc) := fun e => ho (decide_eq_true e)
      have hu := (hr.ups ok.now.1).beg hi
      refine EdA.put h.ris h.bds ha (r' := (r.ups (S.tm t).now).beg i) hg (by rw [Mr.beg_n, Mr.ups_n]) ?_ ?_ hu.bd.1
      · have hs : ((r.ups (S.tm t).now).beg i).st = (r.ups (S.tm t).now).st := by unfold Mr.beg; split <;> rfl
        rw [hs]
        unfold Mr.ups
        split
        · rename_i hst
          unfold Mr.ent
          split
          · exact .inl rfl
          · right
            rcases hst with hst | hst
            · exact .inl ⟨hst, .inl rfl⟩
            · exact .inr (.inr ⟨hst, .inl rfl⟩)
        · exact .inl rfl
      · have hs : ((r.ups (S.tm t).now).beg i).inc = i := by unfold Mr.beg; split <;> rfl
        rw [hs]
        omega
theorem ed_turn (h : MlOk S) (t : Int) (ha : a ∈ S.L) (hs : s = 4 ∨ s = 3) : EdA rm n wt now ((S.tm t).turnE n) ((S.tm t).turnS n s).L a := by
  have ok := h.tm t
  cases hg : (S.tm t).get n with
  | none =>
    obtain ⟨_, _, _, e0, e2, _⟩ := get_none (i := 0) (v := 0) (wt := 0) (s := s) hg
    rw [e0, e2]
    exact EdA.same h.ris h.bds ha
  | some r =>
    obtain ⟨e0, e2⟩ := get_turn (s := s) hg
    rw [e0, e2]
    have hr := ok.rep r (get_num hg).1
    have hst := hr.st
    split
    · exact EdA.same h.ris h.bds ha
    · rename_i h3
      have hu := hr.ent (s := s) (by omega) ok.now.1
      refine EdA.put h.ris h.bds ha (r' := r.ent (S.tm t).now s) hg (Mr.ent_n _ _ _) ?_ ?_ hu.bd.1
      · unfold Mr.ent
        split
        · exact .inl rfl
        · right
          show goesP r.st s
          unfold goesP
          omega
      · unfold Mr.ent
        split <;> exact Int.le_refl _
theorem ed_bind (h : MlOk S) (ha : a ∈ S.L) : EdA rm n wt now (S.bindE n v) (S.bindS n v).L a := by
  cases hg : S.get n with
  | none =>
    obtain ⟨_, _, _, _, _, _, _, e0, e2, _⟩ := get_none (i := 0) (v := v) (wt := 0) (s := 0) hg
    rw [e0, e2]
    exact EdA.same h.ris h.bds ha
  | some r =>
    obtain ⟨e0, e2⟩ := get_bind (v := v) hg
    rw [e0, e2]
    split
    · exact EdA.same h.ris h.bds ha
    · rename_i hf
      unfold Mr.far at hf
      simp only [decide_eq_true_eq, not_or, Int.not_lt] at hf
      exact EdA.put h.ris h.bds ha (r' := { r with bd := r.bd + v }) hg rfl (.inl rfl) (Int.le_refl _) (by show 0 ≤ r.bd + v; omega)
theorem tm_now (h0 : S.now ≤ now) (h1 : now ≤ 1099511627776) : (S.tm now).now = now := by
  show tmZ S.now now = now
  unfold tmZ
  split <;> omega
theorem ed_rm (h : MlOk S) (ha : a ∈ S.L) (h0 : S.now ≤ now) (h1 : now ≤ 1099511627776) : EdA true n wt now ((S.tm now).rmE n wt) ((S.tm now).rmS n wt).L a := by
  have hnow := tm_now h0 h1
  cases hg : (S.tm now).get n with
  | none =>
    obtain ⟨_, _, _, _, _, e0, e2, _⟩ := get_none (i := 0) (v := 0) (wt := wt) (s := 0) hg
    rw [e0, e2]
    exact EdA.same h.ris h.bds ha
  | some r =>
    obtain ⟨e0, e2⟩ := get_rm (wt := wt) hg
    rw [e0, e2]
    split
    · exact EdA.same h.ris h.bds ha
    · rename_i hf
      have hf2 : ¬ (r.st ≠ 3 ∨ 0 < r.bd ∧ (S.tm now).now - r.si < wt) := fun e => hf (decide_eq_true e)
      rw [hnow] at hf2
      exact EdA.gone h.ris h.bds ha hg (Classical.byContradiction fun e => hf2 (.inl e)) fun e => hf2 (.inr e)
/-- The time behind a call. -/
theorem put_now (S : Ml) (r : Mr) : (S.put r).now = S.now := rfl
theorem now_add (S : Ml) : S.addS.now = S.now := by unfold Ml.addS; split <;> rfl
theorem now_up (S : Ml) (n i : Int) : (S.upS n i).now = S.now := by unfold Ml.upS; split; rfl; split <;> rfl
theorem now_turn (S : Ml) (n s : Int) : (S.turnS n s).now = S.now := by unfold Ml.turnS; split; rfl; split <;> rfl
theorem now_rm (S : Ml) (n wt : Int) : (S.rmS n wt).now = S.now := by unfold Ml.rmS; split; rfl; split <;> rfl
theorem now_bind (S : Ml) (n v : Int) : (S.bindS n v).now = S.now := by unfold Ml.bindS; split; rfl; split <;> rfl
theorem goes_any {a b : Int} (h : goesP a b) (w : World) : Calls Try.prog 27 #[.int .i64 a, .int .i64 b] w fun e w' => e = .returned (.bool true) ∧ w' = w := by
  rcases h with ⟨rfl, rfl | rfl | rfl⟩ | ⟨rfl, rfl | rfl⟩ | ⟨rfl, rfl | rfl⟩
  all_goals
    go_enter Try.func27, Try.ntmps27
    go_wp2
    go_ret
    exact ⟨rfl, rfl⟩
end Go.Proofs.Ytlhhkgjolilpiaa
