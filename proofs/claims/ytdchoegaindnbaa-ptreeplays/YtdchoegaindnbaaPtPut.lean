/-
  Put: what its parts make of the marks.
-/
import Derived.Test.YtdchoegaindnbaaPtRoom
namespace Go.Proofs.Ytdchoegaindnbaa
open Go.RowKit Go.Maps Go.Shelf
set_option linter.unusedVariables false
set_option maxRecDepth 1000000

theorem butN_len {L : List Mk} (hn : (L.map Mk.nm).Nodup) {m : Mk} (hm : m ∈ L) : (butN L m.nm).length + 1 = L.length := by
  have h1 := but_len (zs := m.nm) hn
  rw [look_mem hn hm] at h1
  have := List.length_pos_of_mem hm
  simp at h1
  omega
theorem butS_len : ∀ {pre L : List Mk}, (L.map Mk.nm).Nodup → (pre.map Mk.nm).Nodup → (∀ m ∈ pre, m ∈ L) → (butS L pre).length + pre.length = L.length
  | [], L, _, _, _ => by simp [butS]
  | m :: r, L, hn, hp, hs => by
    have hm := hs m (by simp)
    have h1 := butN_len hn hm
    rw [List.map_cons, List.nodup_cons] at hp
    have h2 := butS_len (pre := r) (L := butN L m.nm) ((List.filter_sublist.map _).nodup hn) hp.2 (fun y hy => by
      unfold butN
      rw [List.mem_filter]
      exact ⟨hs y (by simp [hy]), by simp; exact fun e => hp.1 (List.mem_map.2 ⟨y, hy, e⟩)⟩)
    simp only [butS, List.length_cons]
    omega
theorem Mr.sub {L L' : List Mk} {T : Int} {n : Nat} (h : Mr L T n L') : ∀ m ∈ L', m ∈ L := by
  rcases h with ⟨_, rfl⟩ | ⟨R, _, _, rfl⟩
  · exact fun m hm => hm
  · exact fun m hm => ((butS_mem L _ m).1 hm).1
theorem Mr.len {L L' : List Mk} {T : Int} {n : Nat} (hn : (L.map Mk.nm).Nodup) (h : Mr L T n L') (hold : n ≤ (L.filter fun m => decide (m.used < T)).length) : L'.length + n = L.length := by
  rcases h with ⟨rfl, rfl⟩ | ⟨R, r1, r2, rfl⟩
  · rfl
  · have hRn : (R.map Mk.nm).Nodup := (r1.map _).nodup_iff.2 ((List.filter_sublist.map _).nodup hn)
    have h1 := butS_len (pre := R.take n) hn ((List.take_sublist n R).map Mk.nm |>.nodup hRn) (fun m hm => (List.mem_filter.1 (r1.mem_iff.1 (List.mem_of_mem_take hm))).1)
    rw [List.length_take, r1.length_eq, Nat.min_eq_left hold] at h1
    exact h1
theorem Mr.sublist {L L' : List Mk} {T : Int} {n : Nat} (h : Mr L T n L') : L'.Sublist L := by
  rcases h with ⟨_, rfl⟩ | ⟨R, _, _, rfl⟩
  · exact List.Sublist.refl _
  · exact butS_sub L _
/-- The new marks of a Put. -/
structure FrS (L : List Mk) (x : Int) (ts : List Int) (size K : Nat) (T : Int) (Fr : List Mk) : Prop where
  tks : Fr.map Mk.toks = (frJ L x ts size K).map (bgT ts size)
  rep : ∀ m ∈ Fr, m.rep = x
  used : ∀ m ∈ Fr, m.used = T
theorem bgT_len {ts : List Int} {size K j : Nat} (hK : K * size ≤ ts.length) (hj : j < K) : (bgT ts size j).length = (j + 1) * size := by
  unfold bgT
  rw [List.length_take]
  have : (j + 1) * size ≤ K * size := Nat.mul_le_mul_right size hj
  omega
theorem bgT_inj {ts : List Int} {size K i j : Nat} (hs : 1 ≤ size) (hK : K * size ≤ ts.length) (hi : i < K) (hj : j < K) (h : bgT ts size i = bgT ts size j) : i = j := by
  have := congrArg List.length h
  rw [bgT_len hK hi, bgT_len hK hj] at this
  have := Nat.eq_of_mul_eq_mul_right (by omega) this
  omega
theorem frJ_lt {L : List Mk} {x : Int} {ts : List Int} {size K j : Nat} (h : j ∈ frJ L x ts size K) : j < K ∧ hasM L x (bgT ts size j) = false := by
  unfold frJ at h
  rw [List.mem_filter, List.mem_range] at h
  exact ⟨h.1, by simpa using h.2⟩
theorem FrS.mem {L : List Mk} {x : Int} {ts : List Int} {size K : Nat} {T : Int} {Fr : List Mk} (h : FrS L x ts size K T Fr) {m : Mk} (hm : m ∈ Fr) : ∃ j, j < K ∧ hasM L x (bgT ts size j) = false ∧ m.toks = bgT ts size j := by
  have h1 : m.toks ∈ Fr.map Mk.toks := List.mem_map.2 ⟨m, hm, rfl⟩
  rw [h.tks] at h1
  obtain ⟨j, hj, e⟩ := List.mem_map.1 h1
  exact ⟨j, (frJ_lt hj).1, (frJ_lt hj).2, e.symm⟩
theorem FrS.len {L : List Mk} {x : Int} {ts : List Int} {size K : Nat} {T : Int} {Fr : List Mk} (h : FrS L x ts size K T Fr) : Fr.length = (frJ L x ts size K).length := by
  have := congrArg List.length h.tks
  simpa using this
theorem nodup_on {α β : Type} {f : α → β} : ∀ {l : List α}, l.Nodup → (∀ a ∈ l, ∀ b ∈ l, f a = f b → a = b) → (l.map f).Nodup
  | [], _, _ => List.nodup_nil
  | a :: l, hl, hf => by
    rw [List.nodup_cons] at hl
    rw [List.map_cons, List.nodup_cons]
    refine ⟨fun h => ?_, nodup_on hl.2 fun x hx y hy => hf x (by simp [hx]) y (by simp [hy])⟩
    obtain ⟨b, hb, e⟩ := List.mem_map.1 h
    exact hl.1 (hf b (by simp [hb]) a (by simp) e ▸ hb)
theorem frJ_nodup (L : List Mk) (x : Int) (ts : List Int) (size K : Nat) : (frJ L x ts size K).Nodup := List.filter_sublist.nodup List.nodup_range
theorem FrS.nodup {L : List Mk} {x : Int} {ts : List Int} {size K : Nat} {T : Int} {Fr : List Mk} (h : FrS L x ts size K T Fr) (hs : 1 ≤ size) (hK : K * size ≤ ts.length) (hx : isU x) (hi : isIs ts) : (Fr.map Mk.nm).Nodup := by
  have h1 : (Fr.map Mk.toks).Nodup := by
    rw [h.tks]
    exact nodup_on (frJ_nodup L x ts size K) fun a ha b hb e => bgT_inj hs hK (frJ_lt ha).1 (frJ_lt hb).1 e
  unfold List.Nodup at *
  rw [List.pairwise_map] at *
  refine h1.imp_of_mem fun {a b} ha hb hne e => hne ?_
  obtain ⟨i, _, _, e1⟩ := h.mem ha
  obtain ⟨j, _, _, e2⟩ := h.mem hb
  have ia : isIs a.toks := by rw [e1]; exact fun y hy => hi y (List.mem_of_mem_take hy)
  have ib : isIs b.toks := by rw [e2]; exact fun y hy => hi y (List.mem_of_mem_take hy)
  exact (nmZ_inj (by rw [h.rep a ha]; exact hx) (by rw [h.rep b hb]; exact hx) ia ib e).2
theorem useK_nm (L : List Mk) (x : Int) (ts : List Int) (size k : Nat) (T : Int) : (useK L x ts size k T).map Mk.nm = L.map Mk.nm := by
  unfold useK
  rw [List.map_map]
  exact List.map_congr_left fun m _ => nm_if _ m T
theorem useK_len (L : List Mk) (x : Int) (ts : List Int) (size k : Nat) (T : Int) : (useK L x ts size k T).length = L.length := by unfold useK; simp
theorem filt_two {α : Type} (p : α → Bool) : ∀ l : List α, (l.filter p).length + (l.filter fun a => !p a).length = l.length
  | [] => rfl
  | a :: l => by
    have := filt_two p l
    cases h : p a <;> simp [h] <;> omega
/-- There are as many old marks as must go. -/
theorem hold_ok {L : List Mk} (hn : (L.map Mk.nm).Nodup) {x : Int} {ts : List Int} {size K room : Nat} {T : Int} (hold : ∀ m ∈ L, m.used < T) (hK : K ≤ room) {c : Nat} (hc : c = (frJ L x ts size K).length) :
    L.length + c - room ≤ ((useK L x ts size K T).filter fun m => decide (m.used < T)).length := by
  have h1 : ((useK L x ts size K T).filter fun m => decide (m.used < T)).length = (L.filter fun m => !usd x ts size K m).length := by
    unfold useK
    rw [List.filter_map, List.length_map]
    congr 1
    apply List.filter_congr
    intro m hm
    have h2 := hold m hm
    cases hu : usd x ts size K m with
    | true => simp [hu, Mk.at]
    | false => simp [hu, h2]
  have h2 : (L.filter fun m => usd x ts size K m).length + (L.filter fun m => !usd x ts size K m).length = L.length := by
    exact filt_two _ L
  have h3 : (L.filter fun m => usd x ts size K m).length ≤ ((List.range K).filter fun j => hasM L x (bgT ts size j)).length := by
    have e1 : ((L.filter fun m => usd x ts size K m).map Mk.toks).length ≤ (((List.range K).filter fun j => hasM L x (bgT ts size j)).map (bgT ts size)).length := by
      refine List.Nodup.length_le_of_subset ?_ ?_
      · refine nodup_on (List.filter_sublist.nodup (hn.of_map _ fun a b hab e => hab (by rw [e]))) fun a ha b hb e => ?_
        rw [List.mem_filter] at ha hb
        have ra : a.rep = x := by have := ha.2; unfold usd at this; simp at this; exact this.1
        have rb : b.rep = x := by have := hb.2; unfold usd at this; simp at this; exact this.1
        exact nm_one hn ha.1 hb.1 (by unfold Mk.nm; rw [ra, rb, e])
      · intro y hy
        obtain ⟨m, hm, rfl⟩ := List.mem_map.1 hy
        rw [List.mem_filter] at hm
        have := hm.2
        unfold usd at this
        simp at this
        obtain ⟨e1, j, hj, e2⟩ := this
        refine List.mem_map.2 ⟨j, List.mem_filter.2 ⟨List.mem_range.2 hj, ?_⟩, e2.symm⟩
        unfold hasM
        rw [← e1, ← e2, show nmZ m.rep m.toks = m.nm from rfl, look_mem hn hm.1]
        rfl
    simpa using e1
  have h4 : ((List.range K).filter fun j => hasM L x (bgT ts size j)).length + c = K := by
    rw [hc]
    have := filt_two (fun j => hasM L x (bgT ts size j)) (List.range K)
    rw [List.length_range] at this
    unfold frJ
    omega
  rw [h1]
  omega
theorem UsI.tr {W W0 : World} {B room size M : Nat} {T : Int} {L : List Mk} {x : Int} {ts : List Int} {k : Nat} {v : Value} {Fr : List Mk} {W' : World} (h : TrAt W0 B room size M T L) (hu : UsI W B room size M T L x ts k v Fr W') : TrAt W' B room size M T (useK L x ts size k T) := by
  have tm := h.tm
  refine ⟨hu.obj, hu.map.uses _ fun m hm => ?_, fun m hm => ?_, h.rm, h.sz, h.tm, fun m hm => ?_, fun m hm => ?_, by rw [useK_len]; exact h.len⟩
  · have hok := hu.map.oks m hm
    refine ⟨nm_if _ m T, blk_if _ m T, ?_⟩
    split
    · exact ⟨hok.1, hok.2.1, hok.2.2.1, ⟨tm.1, by show T ≤ _; omega⟩⟩
    · exact hok
  · obtain ⟨y, hy, rfl⟩ := List.mem_map.1 hm
    exact hu.mks y hy
  · obtain ⟨y, hy, rfl⟩ := List.mem_map.1 hm
    have := h.old y hy
    split
    · exact Int.le_refl _
    · exact this
  · obtain ⟨y, hy, rfl⟩ := List.mem_map.1 hm
    have := h.short y hy
    rw [toks_if]
    exact this
end Go.Proofs.Ytdchoegaindnbaa
