/-
  What WheelOnce keeps beside the wheel (a map of numbers and times), and what is true of both (OnS).
-/
import Derived.Test.YtdfbnfgemjljgaaWhMp
namespace Go.Proofs.Ytdfbnfgemjljgaa
open Go.RowKit Go.Maps
set_option linter.unusedVariables false
set_option maxRecDepth 1000000

/-- The wheel's timers L, the map's keys K and its times f. -/
structure OnS (last : Int) (L : List Tm) (K : List Int) (f : Int → Int) : Prop where
  nd : (L.map Tm.num).Nodup
  so : (L.map Tm.due).Pairwise (· ≤ ·)
  rs : ∀ t ∈ L, 1 ≤ t.num ∧ t.num ≤ last
  kl : ∀ x, x ∈ K ↔ x ∈ L.map Tm.num
  ff : ∀ t ∈ L, f t.num = t.due
  dz : ∀ t ∈ L, 0 ≤ t.due
theorem OnS.zero (f : Int → Int) : OnS 0 [] [] f := ⟨List.nodup_nil, List.Pairwise.nil, by simp, by simp, by simp, by simp⟩
section
variable {last T now : Int} {L : List Tm} {K : List Int} {f : Int → Int}
theorem nodup_le : ∀ (l m : List Int), l.Nodup → (∀ x ∈ l, x ∈ m) → l.length ≤ m.length
  | [], m, _, _ => by simp
  | x :: l, m, hnd, hs => by
    rw [List.nodup_cons] at hnd
    have hx : x ∈ m := hs x (by simp)
    have hl := List.length_erase_of_mem hx
    have hpos : 0 < m.length := List.length_pos_of_mem hx
    have := nodup_le l (m.erase x) hnd.2 (fun z hz => (List.mem_erase_of_ne (fun e : z = x => hnd.1 (by rw [← e]; exact hz))).2 (hs z (by simp [hz])))
    simp
    omega
/-- As many as the map has. -/
theorem OnS.len (h : OnS last L K f) (hk : K.Nodup) : K.length = L.length := by
  have h1 := nodup_le _ _ hk fun x hx => (h.kl x).1 hx
  have h2 := nodup_le _ _ h.nd fun x hx => (h.kl x).2 hx
  rw [List.length_map] at h1 h2
  omega
theorem OnS.new (h : OnS last L K f) : last + 1 ∉ K := fun hk => by
  obtain ⟨t, ht, e⟩ := List.mem_map.1 ((h.kl _).1 hk)
  have := (h.rs t ht).2
  omega
theorem tw_all {p : Tm → Bool} : ∀ {l : List Tm} {x : Tm}, x ∈ l.takeWhile p → p x = true
  | [], x, h => by simp at h
  | y :: ys, x, h => by
    rw [List.takeWhile_cons] at h
    split at h
    · rename_i hy
      rcases List.mem_cons.1 h with rfl | h
      · exact hy
      · exact tw_all h
    · simp at h
/-- Those behind the first that is not due are not due, where the times rise. -/
theorem dw_all {t : Int} : ∀ {l : List Tm} {x : Tm}, (l.map Tm.due).Pairwise (· ≤ ·) → x ∈ l.dropWhile (dueB t) → t < x.due
  | [], x, _, h => by simp at h
  | y :: ys, x, hp, h => by
    rw [List.map_cons, List.pairwise_cons] at hp
    rw [List.dropWhile_cons] at h
    split at h
    · exact dw_all hp.2 h
    · rename_i hy
      have hy : t < y.due := by simpa [dueB] using hy
      rcases List.mem_cons.1 h with rfl | h
      · exact hy
      · exact Int.lt_of_lt_of_le hy (hp.1 _ (List.mem_map.2 ⟨x, h, rfl⟩))
theorem ins_perm (x : Tm) (l : List Tm) : (insT x l).Perm (x :: l) := by
  unfold insT
  refine List.perm_middle.trans ?_
  rw [List.takeWhile_append_dropWhile]
theorem ins_so {x : Tm} {l : List Tm} (h : (l.map Tm.due).Pairwise (· ≤ ·)) : ((insT x l).map Tm.due).Pairwise (· ≤ ·) := by
  have h0 := h
  rw [← List.takeWhile_append_dropWhile (p := dueB x.due) (l := l), List.map_append, List.pairwise_append] at h
  unfold insT
  rw [List.map_append, List.map_cons, List.pairwise_append, List.pairwise_cons]
  refine ⟨h.1, ⟨fun d hd => ?_, h.2.1⟩, fun a ha b hb => ?_⟩
  · obtain ⟨t, ht, rfl⟩ := List.mem_map.1 hd
    exact Int.le_of_lt (dw_all h0 ht)
  · obtain ⟨t, ht, rfl⟩ := List.mem_map.1 ha
    have h1 := tw_all ht
    have h1 : t.due ≤ x.due := by simpa [dueB] using h1
    rcases List.mem_cons.1 hb with rfl | hb
    · exact h1
    · obtain ⟨u, hu, rfl⟩ := List.mem_map.1 hb
      exact Int.le_trans h1 (Int.le_of_lt (dw_all h0 hu))
/-- One is set. -/
theorem OnS.set (h : OnS last L K f) (hl : 0 ≤ last) (kind label d : Int) (hd : 0 ≤ d) : OnS (last + 1) (insT ⟨last + 1, kind, label, d⟩ L) (addK K (last + 1)) (upd f (last + 1) d) := by
  have hp := ins_perm ⟨last + 1, kind, label, d⟩ L
  have hm : ∀ t, t ∈ insT ⟨last + 1, kind, label, d⟩ L ↔ t = ⟨last + 1, kind, label, d⟩ ∨ t ∈ L := fun t => by rw [hp.mem_iff, List.mem_cons]
  have hno : last + 1 ∉ L.map Tm.num := fun e => h.new ((h.kl _).2 e)
  refine ⟨?_, ins_so h.so, fun t ht => ?_, fun x => ?_, fun t ht => ?_, fun t ht => ?_⟩
  · rw [(hp.map Tm.num).nodup_iff, List.map_cons, List.nodup_cons]
    exact ⟨hno, h.nd⟩
  · rcases (hm t).1 ht with rfl | ht
    · exact ⟨by show 1 ≤ last + 1; omega, Int.le_refl _⟩
    · have := h.rs t ht
      exact ⟨this.1, by omega⟩
  · rw [addK_mem, h.kl, (hp.map Tm.num).mem_iff, List.map_cons, List.mem_cons]
  · rcases (hm t).1 ht with rfl | ht
    · simp [upd]
    · have := (h.rs t ht).2
      unfold upd
      rw [if_neg (by omega), h.ff t ht]
  · rcases (hm t).1 ht with rfl | ht
    · exact hd
    · exact h.dz t ht
theorem OnS.sub {L' : List Tm} {K' : List Int} (h : OnS last L K f) (hs : L'.Sublist L) (hk : ∀ x, x ∈ K' ↔ x ∈ L'.map Tm.num) : OnS last L' K' f :=
  ⟨(hs.map Tm.num).nodup h.nd, h.so.sublist (hs.map Tm.due), fun t ht => h.rs t (hs.mem ht), hk, fun t ht => h.ff t (hs.mem ht), fun t ht => h.dz t (hs.mem ht)⟩
theorem stp_mem {n x : Int} : ∀ {l : List Tm}, (l.map Tm.num).Nodup → (x ∈ (stpT n l).map Tm.num ↔ x ∈ l.map Tm.num ∧ x ≠ n)
  | [], _ => by simp [stpT]
  | t :: l, h => by
    rw [List.map_cons, List.nodup_cons] at h
    have ih := stp_mem (n := n) (x := x) h.2
    unfold stpT at ih ⊢
    by_cases e : t.num = n
    · rw [List.eraseP_cons_of_pos (by simpa using e)]
      constructor
      · intro hx
        exact ⟨by simp only [List.map_cons, List.mem_cons]; exact .inr hx, fun e2 => h.1 (by rw [e, ← e2]; exact hx)⟩
      · rintro ⟨hx, hne⟩
        rw [List.map_cons, List.mem_cons] at hx
        rcases hx with rfl | hx
        · exact absurd e hne
        · exact hx
    · rw [List.eraseP_cons_of_neg (by simpa using e), List.map_cons, List.mem_cons, ih, List.map_cons, List.mem_cons]
      constructor
      · rintro (rfl | ⟨hx, hne⟩)
        · exact ⟨.inl rfl, e⟩
        · exact ⟨.inr hx, hne⟩
      · rintro ⟨rfl | hx, hne⟩
        · exact .inl rfl
        · exact .inr ⟨hx, hne⟩
/-- One is stopped. -/
theorem OnS.stop (h : OnS last L K f) (n : Int) : OnS last (stpT n L) (subK K n) f :=
  h.sub (List.eraseP_sublist) fun x => by rw [subK_mem, h.kl, stp_mem h.nd]
/-- The first one is told. -/
theorem OnS.pop {t : Tm} (h : OnS last (t :: L) K f) : OnS last L (subK K t.num) f :=
  h.sub (List.sublist_cons_self _ _) fun x => by
    have hn := h.nd
    rw [List.map_cons, List.nodup_cons] at hn
    rw [subK_mem, h.kl, List.map_cons, List.mem_cons]
    constructor
    · rintro ⟨rfl | hx, hne⟩
      · exact absurd rfl hne
      · exact hx
    · exact fun hx => ⟨.inr hx, fun e => hn.1 (by rw [← e]; exact hx)⟩
/-- What the statement asks of the one that is told. -/
theorem OnS.head {t : Tm} (h : OnS last (t :: L) K f) : t.num ∈ K ∧ f t.num = t.due ∧ ∀ u ∈ L, t.due ≤ u.due := by
  have hs := h.so
  rw [List.map_cons, List.pairwise_cons] at hs
  exact ⟨(h.kl _).2 (by simp), h.ff t (by simp), fun u hu => hs.1 _ (List.mem_map.2 ⟨u, hu, rfl⟩)⟩
/-- None that is due is left. -/
theorem OnS.left (h : OnS last L K f) (hl : ∀ t ∈ L, now < t.due) {x : Int} (hx : x ∈ K) : now < f x := by
  obtain ⟨t, ht, rfl⟩ := List.mem_map.1 ((h.kl _).1 hx)
  rw [h.ff t ht]
  exact hl t ht
end
end Go.Proofs.Ytdfbnfgemjljgaa
