/-
  How far a text is matched.
-/
import Derived.Test.YtdchoegaindnbaaPtSt
namespace Go.Proofs.Ytdchoegaindnbaa
open Go.RowKit Go.Maps Go.Shelf
set_option linter.unusedVariables false
set_option maxRecDepth 1000000

/-- The marks are whole blocks long. -/
def MuL (size : Nat) (L : List Mk) : Prop := ∀ m ∈ L, ∃ j, m.toks.length = (j + 1) * size
theorem MuL.use {size : Nat} {L : List Mk} (h : MuL size L) (ts : List Int) (T : Int) : MuL size (useL L ts T) := fun m hm => by
  obtain ⟨y, hy, rfl⟩ := List.mem_map.1 hm
  obtain ⟨j, hj⟩ := h y hy
  refine ⟨j, ?_⟩
  split <;> exact hj
theorem put_K {ts : List Int} {room size : Nat} : min ts.length (room * size) / size * size ≤ (ts.take (room * size)).length := by
  rw [List.length_take, Nat.min_comm]
  exact Nat.div_mul_le_self _ _
theorem MuL.put {size : Nat} {L L' : List Mk} (h : MuL size L) {x : Int} {ts : List Int} {room : Nat} {T : Int} {c : Nat} (hp : PutS L x ts room size T c L') : MuL size L' := fun m hm => by
  obtain ⟨L2, Fr, h1, h2, h3, rfl⟩ := hp
  rcases List.mem_append.1 hm with hm | hm
  · have h4 := h3.sub m hm
    obtain ⟨y, hy, rfl⟩ := List.mem_map.1 h4
    obtain ⟨j, hj⟩ := h y hy
    refine ⟨j, ?_⟩
    split <;> exact hj
  · have h5 : m.toks ∈ Fr.map Mk.toks := List.mem_map_of_mem hm
    rw [h1.tks] at h5
    obtain ⟨j, hj, e⟩ := List.mem_map.1 h5
    exact ⟨j, by rw [← e]; exact bgT_len put_K (frJ_lt hj).1⟩
/-- All beginnings of a text that was put are there. -/
theorem put_all {L L' : List Mk} (hn : (L.map Mk.nm).Nodup) (hok : ∀ m ∈ L, m.ok) {x : Int} {ts : List Int} (hx : isU x) (hi : isIs ts) {room size : Nat} {T : Int} {c : Nat} (h : PutS L x ts room size T c L') {j : Nat} (hj : j < min ts.length (room * size) / size) : ∃ m ∈ L', m.rep = x ∧ m.toks = bgT (ts.take (room * size)) size j ∧ m.used = T := by
  obtain ⟨L2, Fr, h1, h2, h3, rfl⟩ := h
  by_cases hh : hasM L x (bgT (ts.take (room * size)) size j) = true
  · obtain ⟨m, hm, e3, e4⟩ := (hasM_iff hok hx (fun y hy => hi y (List.mem_of_mem_take (List.mem_of_mem_take hy)))).1 hh
    have hu : usd x (ts.take (room * size)) size (min ts.length (room * size) / size) m = true := by
      unfold usd
      simp only [e3, decide_true, Bool.true_and, List.any_eq_true, List.mem_range]
      exact ⟨j, hj, decide_eq_true e4⟩
    have hm2 : m.at T ∈ useK L x (ts.take (room * size)) size (min ts.length (room * size) / size) T := List.mem_map.2 ⟨m, hm, by rw [if_pos hu]⟩
    refine ⟨m.at T, List.mem_append_left _ ?_, e3, e4, rfl⟩
    rcases h3 with ⟨_, e⟩ | ⟨R, r1, r2, e⟩
    · rw [e]; exact hm2
    · rw [e]
      refine (butS_mem _ _ _).2 ⟨hm2, fun y hy ne => ?_⟩
      have hy2 := List.mem_filter.1 (r1.mem_iff.1 (List.mem_of_mem_take hy))
      have hnd : ((useK L x (ts.take (room * size)) size (min ts.length (room * size) / size) T).map Mk.nm).Nodup := by rw [useK_nm]; exact hn
      have hyU : y.used < T := by simpa using hy2.2
      have hinj := nm_one hnd hm2 hy2.1 ne
      rw [← hinj] at hyU
      exact Int.lt_irrefl _ hyU
  · have hj2 : j ∈ frJ L x (ts.take (room * size)) size (min ts.length (room * size) / size) := List.mem_filter.2 ⟨List.mem_range.2 hj, by simpa using hh⟩
    have h5 : bgT (ts.take (room * size)) size j ∈ Fr.map Mk.toks := by rw [h1.tks]; exact List.mem_map_of_mem hj2
    obtain ⟨m, hm, e3⟩ := List.mem_map.1 h5
    exact ⟨m, List.mem_append_right _ hm, h1.rep m hm, e3, h1.used m hm⟩
/-- The longest of the first n beginnings that is there. -/
def far (L : List Mk) (x : Int) (ts : List Int) (size : Nat) : Nat → Nat
  | 0 => 0
  | n + 1 => if hasM L x (ts.take ((n + 1) * size)) then (n + 1) * size else far L x ts size n
theorem far_is {L : List Mk} {x : Int} {ts : List Int} {size : Nat} : ∀ n, far L x ts size n = 0 ∨ ∃ j, j < n ∧ far L x ts size n = (j + 1) * size ∧ hasM L x (ts.take ((j + 1) * size)) = true
  | 0 => .inl rfl
  | n + 1 => by
    unfold far
    split
    · rename_i h
      exact .inr ⟨n, by omega, rfl, h⟩
    · rcases far_is (L := L) (x := x) (ts := ts) (size := size) n with h | ⟨j, h1, h2, h3⟩
      · exact .inl h
      · exact .inr ⟨j, by omega, h2, h3⟩
theorem far_ge {L : List Mk} {x : Int} {ts : List Int} {size : Nat} : ∀ n j, j < n → hasM L x (ts.take ((j + 1) * size)) = true → (j + 1) * size ≤ far L x ts size n
  | 0, j, h, _ => by omega
  | n + 1, j, h, hh => by
    unfold far
    split
    · exact Nat.mul_le_mul_right _ (by omega)
    · rename_i h2
      have hjn : j ≠ n := fun e => h2 (by rw [← e]; exact hh)
      exact far_ge n j (by omega) hh
theorem far_eq {L : List Mk} (hok : ∀ m ∈ L, m.ok) {size : Nat} (hs : 1 ≤ size) (hm : MuL size L) {x : Int} {ts : List Int} (hx : isU x) (hi : isIs ts) {K : List Int} {f : Int → Int} (hl : LgP (L.filter fun m => decide (m.toks <+: ts)) K f) : f x = far L x ts size (ts.length / size) := by
  have hit : ∀ n, isIs (ts.take n) := fun n y hy => hi y (List.mem_of_mem_take hy)
  have h1 : f x ≤ far L x ts size (ts.length / size) := by
    rcases (hl x).2.1 with ⟨h, _⟩ | ⟨m, hmm, e1, e2⟩
    · omega
    · have hp : m.toks <+: ts := by simpa using (List.mem_filter.1 hmm).2
      have hmL := (List.mem_filter.1 hmm).1
      obtain ⟨j, hj⟩ := hm m hmL
      have e3 := List.prefix_iff_eq_take.1 hp
      rw [hj] at e3
      have hle : (j + 1) * size ≤ ts.length := by rw [← hj]; exact hp.length_le
      have hjN : j < ts.length / size := by
        rw [Nat.lt_iff_add_one_le, Nat.le_div_iff_mul_le (by omega)]
        exact hle
      have := far_ge (L := L) (x := x) (ts := ts) (size := size) _ j hjN ((hasM_iff hok hx (hit _)).2 ⟨m, hmL, e1, e3⟩)
      omega
  have h2 : (far L x ts size (ts.length / size) : Int) ≤ f x := by
    rcases far_is (L := L) (x := x) (ts := ts) (size := size) (ts.length / size) with h | ⟨j, hj, e, hh⟩
    · rw [h]; exact hl.nonneg x
    · obtain ⟨m, hmL, e1, e2⟩ := (hasM_iff hok hx (hit _)).1 hh
      have hle : (j + 1) * size ≤ ts.length := Nat.le_trans (Nat.mul_le_mul_right _ hj) (Nat.div_mul_le_self _ _)
      have h3 := (hl x).1 m (List.mem_filter.2 ⟨hmL, by rw [e2]; simpa using List.take_prefix _ _⟩) e1
      rw [e2, List.length_take, Nat.min_eq_left hle] at h3
      rw [e]
      exact h3
  omega
theorem far_pos {L L' : List Mk} (hn : (L.map Mk.nm).Nodup) (hok : ∀ m ∈ L, m.ok) (hok' : ∀ m ∈ L', m.ok) {x : Int} {ts : List Int} (hx : isU x) (hi : isIs ts) {room size : Nat} (hr : 1 ≤ room) (hs : 1 ≤ size) {T : Int} {c : Nat} (h : PutS L x ts room size T c L') (hl : size ≤ ts.length) : 0 < far L' x ts size (ts.length / size) := by
  have hrs : size ≤ room * size := Nat.le_mul_of_pos_left _ hr
  obtain ⟨m, hm, e1, e2, _⟩ := put_all hn hok hx hi h (j := 0) (Nat.div_pos (by omega) (by omega))
  have e3 : bgT (ts.take (room * size)) size 0 = ts.take ((0 + 1) * size) := by
    unfold bgT
    rw [List.take_take, Nat.min_eq_left (by simpa using hrs)]
  rw [e3] at e2
  have := far_ge (L := L') (x := x) (ts := ts) (size := size) (ts.length / size) 0 (Nat.div_pos hl (by omega)) ((hasM_iff hok' hx (fun y hy => hi y (List.mem_of_mem_take hy))).2 ⟨m, hm, e1, e2⟩)
  omega
end Go.Proofs.Ytdchoegaindnbaa
