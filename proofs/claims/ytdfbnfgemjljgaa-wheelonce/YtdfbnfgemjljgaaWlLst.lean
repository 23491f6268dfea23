/-
  The document's list of timers and the wheel's heap: what a heap's first one is of the list, what one more, and one less, make of the list.
-/
import Derived.Test.YtdfbnfgemjljgaaWlMap
import Derived.Test.YtdfbnfgemjljgaaWhOn
import Derived.Test.YtdfbnfgemjljgaaWhIf
namespace Go.Proofs.Ytdfbnfgemjljgaa
open Go.RowKit Go.Maps
set_option linter.unusedVariables false
set_option maxRecDepth 1000000

/-- It rises by times, of one time by numbers. -/
def SoT (L : List Tm) : Prop := L.Pairwise ltT
theorem SoT.due {L : List Tm} (h : SoT L) : (L.map Tm.due).Pairwise (· ≤ ·) := by
  unfold SoT at h
  rw [List.pairwise_map]
  exact h.imp fun {a b} hab => by unfold ltT at hab; omega
theorem SoT.nums {L : List Tm} {ms : List Qe} (hp : (ms.map Qe.tm).Perm L) (h : NuQ ms) : (L.map Tm.num).Nodup := by
  have := (hp.map Tm.num).nodup_iff.1 (by rw [List.map_map]; exact h)
  exact this
theorem SoT.sub {L L' : List Tm} (h : SoT L) (hs : L'.Sublist L) : SoT L' := h.sublist hs
theorem SoT.ins {L : List Tm} {x : Tm} (h : SoT L) (hx : ∀ t ∈ L, t.num < x.num) : SoT (insT x L) := by
  have he : L.takeWhile (dueB x.due) ++ L.dropWhile (dueB x.due) = L := List.takeWhile_append_dropWhile
  have h2 : SoT (L.takeWhile (dueB x.due) ++ L.dropWhile (dueB x.due)) := by rw [he]; exact h
  obtain ⟨p1, p2, p3⟩ := List.pairwise_append.1 h2
  refine List.pairwise_append.2 ⟨p1, List.pairwise_cons.2 ⟨fun y hy => ?_, p2⟩, fun a ha y hy => ?_⟩
  · have := dw_all h.due hy
    unfold ltT; omega
  · rcases List.mem_cons.1 hy with rfl | hy
    · have h1 : a.due ≤ y.due := by simpa [dueB] using tw_all ha
      have h3 := hx a (by rw [← he]; exact List.mem_append_left _ ha)
      unfold ltT; omega
    · exact p3 a ha y hy
theorem ins_prm (x : Tm) (L : List Tm) : (insT x L).Perm (x :: L) := by
  unfold insT
  refine List.perm_middle.trans ?_
  rw [List.takeWhile_append_dropWhile]
theorem ins_len (x : Tm) (L : List Tm) : (insT x L).length = L.length + 1 := by rw [(ins_prm x L).length_eq]; rfl
/-- The heap's first one is the list's. -/
theorem head_is {ms : List Qe} {L : List Tm} (hp : (ms.map Qe.tm).Perm L) (hs : SoT L) (hh : HeapQ ms ms.length) (h0 : 0 < ms.length) : ∃ R, L = (gq ms 0).tm :: R := by
  cases L with
  | nil => have := hp.length_eq; rw [List.length_map, List.length_nil] at this; omega
  | cons a R =>
    have hm : (gq ms 0).tm ∈ a :: R := hp.mem_iff.1 (List.mem_map.2 ⟨_, gq_mem h0, rfl⟩)
    rcases List.mem_cons.1 hm with e | hm
    · exact ⟨R, by rw [e]⟩
    · exfalso
      have h1 : ltT a (gq ms 0).tm := (List.pairwise_cons.1 hs).1 _ hm
      obtain ⟨q, hq, e⟩ := List.mem_map.1 (hp.mem_iff.2 (show a ∈ a :: R by simp))
      obtain ⟨i, hi, rfl⟩ := mem_gq hq
      have h2 := hh.least i hi
      unfold leQ ltQ at h2
      rw [e] at h2
      exact h2 h1
/-- One less of the heap is one less of the list. -/
theorem stp_perm {ms ns : List Qe} {q : Qe} {L : List Tm} (hp : (ms.map Qe.tm).Perm L) (hq : (q :: ns).Perm ms) (hn : (L.map Tm.num).Nodup) : (ns.map Qe.tm).Perm (stpT q.tm.num L) := by
  have h1 : (q.tm :: ns.map Qe.tm).Perm L := (hq.map Qe.tm).trans hp
  have hm : q.tm ∈ L := h1.mem_iff.1 (by simp)
  have h2 : L.Perm (q.tm :: stpT q.tm.num L) := by
    clear h1 hp hq
    induction L with
    | nil => simp at hm
    | cons a L ih =>
      rw [List.map_cons, List.nodup_cons] at hn
      by_cases e : a.num = q.tm.num
      · have : a = q.tm := by
          rcases List.mem_cons.1 hm with h | h
          · exact h.symm
          · exact absurd (List.mem_map.2 ⟨_, h, e.symm⟩) hn.1
        subst this
        unfold stpT
        rw [List.eraseP_cons_of_pos (by simp)]
      · unfold stpT at ih ⊢
        rw [List.eraseP_cons_of_neg (by simpa using e)]
        have hm' : q.tm ∈ L := by
          rcases List.mem_cons.1 hm with h | h
          · exact absurd (by rw [h]) e
          · exact h
        exact ((ih hn.2 hm').cons a).trans (List.Perm.swap _ _ _)
  exact (h1.trans h2).cons_inv
theorem stp_sub (n : Int) (L : List Tm) : (stpT n L).Sublist L := by unfold stpT; exact List.eraseP_sublist
theorem stp_len {n : Int} {L : List Tm} (h : n ∈ L.map Tm.num) : (stpT n L).length + 1 = L.length := by
  obtain ⟨t, ht, e⟩ := List.mem_map.1 h
  have h2 : L.any (fun t => decide (t.num = n)) = true := List.any_eq_true.2 ⟨t, ht, by simpa using e⟩
  unfold stpT
  rw [List.length_eraseP, if_pos h2]
  have := List.length_pos_of_mem ht
  omega
end Go.Proofs.Ytdfbnfgemjljgaa
