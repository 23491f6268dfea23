/-
  Candidates and weights: the mark, what comes ahead of what, the stable order, each number once; what the order keeps.
-/
import Derived.Test.YtmhpgkkaolcncaaFrames
namespace Go.Proofs.Ytmhpgkkaolcncaa
open Go.RowKit
set_option linter.unusedVariables false
set_option maxRecDepth 1000000

/-- A candidate. -/
structure Cd where
  rep : Int
  load : Int
  known : Int
  bnd : Bool
  place : Int
  opn : Bool
/-- Weights. -/
structure Wt where
  kn : Int
  ld : Int
  bd : Int
  pl : Int
def inZ (n : Int) : Int := min (max n 0) 1048576
theorem inZ_0 (n : Int) : 0 ≤ inZ n := by unfold inZ; omega
theorem inZ_1 (n : Int) : inZ n ≤ 1048576 := by unfold inZ; omega
theorem inZ_le {a b : Int} (h : a ≤ b) : inZ a ≤ inZ b := by unfold inZ; omega
theorem inZ_mul (a b : Int) : 0 ≤ inZ a * inZ b ∧ inZ a * inZ b ≤ 1099511627776 :=
  ⟨Int.mul_nonneg (inZ_0 a) (inZ_0 b), Int.le_trans (Int.mul_le_mul (inZ_1 a) (inZ_1 b) (inZ_0 b) (by omega)) (by omega)⟩
def markZ (w : Wt) (c : Cd) : Int := inZ c.known * inZ w.kn + (if c.bnd = true then inZ w.bd else 0) - inZ c.load * inZ w.ld - inZ c.place * inZ w.pl
theorem markZ_bd (w : Wt) (c : Cd) : -2199023255552 ≤ markZ w c ∧ markZ w c ≤ 1099512676352 := by
  unfold markZ
  have h1 := inZ_mul c.known w.kn
  have h2 := inZ_mul c.load w.ld
  have h3 := inZ_mul c.place w.pl
  have h4 := inZ_0 w.bd
  have h5 := inZ_1 w.bd
  split <;> omega
/-- Does a candidate come ahead of another one, by what it is alone? -/
def bet (w : Wt) (a b : Cd) : Bool := if markZ w a ≠ markZ w b then decide (markZ w b < markZ w a) else if a.place ≠ b.place then decide (a.place < b.place) else decide (a.rep < b.rep)
theorem bet_iff {w : Wt} {a b : Cd} : bet w a b = true ↔ markZ w b < markZ w a ∨ (markZ w a = markZ w b ∧ (a.place < b.place ∨ (a.place = b.place ∧ a.rep < b.rep))) := by
  unfold bet
  split
  · rw [decide_eq_true_eq]; omega
  · split
    · rw [decide_eq_true_eq]; omega
    · rw [decide_eq_true_eq]; omega
theorem bet_iff' {w : Wt} {a b : Cd} : bet w a b = false ↔ ¬ (markZ w b < markZ w a ∨ (markZ w a = markZ w b ∧ (a.place < b.place ∨ (a.place = b.place ∧ a.rep < b.rep)))) := by
  rw [← bet_iff]; cases bet w a b <;> simp
theorem bet_self (w : Wt) (a : Cd) : bet w a a = false := by rw [bet_iff']; omega
theorem bet_trans {w : Wt} {a b c : Cd} (h1 : bet w a b = true) (h2 : bet w b c = true) : bet w a c = true := by rw [bet_iff] at *; omega
/-- Of like ones and so on. -/
theorem bet_neg {w : Wt} {a b c : Cd} (h1 : bet w a c = true) (h2 : bet w b c = false) : bet w a b = true := by rw [bet_iff] at *; rw [bet_iff'] at h2; omega
theorem bet_anti {w : Wt} {a b : Cd} (h : bet w a b = true) : bet w b a = false := by rw [bet_iff] at h; rw [bet_iff']; omega
theorem bet_like {w : Wt} {a b : Cd} (h1 : bet w a b = false) (h2 : bet w b a = false) : a.rep = b.rep := by rw [bet_iff'] at h1 h2; omega
def insC (w : Wt) (x : Cd) : List Cd → List Cd
  | [] => [x]
  | y :: ys => if bet w y x = true then y :: insC w x ys else x :: y :: ys
/-- The stable order. -/
def srtC (w : Wt) : List Cd → List Cd
  | [] => []
  | x :: xs => insC w x (srtC w xs)
theorem insC_perm (w : Wt) (x : Cd) : ∀ l, (insC w x l).Perm (x :: l)
  | [] => .refl _
  | y :: ys => by
    unfold insC
    split
    · exact ((insC_perm w x ys).cons y).trans (.swap x y ys)
    · exact .refl _
theorem srtC_perm (w : Wt) : ∀ l, (srtC w l).Perm l
  | [] => .refl _
  | x :: xs => (insC_perm w x _).trans ((srtC_perm w xs).cons x)
theorem insC_first {w : Wt} {x : Cd} : ∀ {l : List Cd}, (∀ y ∈ l, bet w y x = false) → insC w x l = x :: l
  | [], _ => rfl
  | y :: ys, h => by unfold insC; rw [h y (by simp)]; rfl
/-- Those that are not met and may be asked. -/
def leftC : List Bool → List Cd → List Cd
  | b :: bs, c :: l => if (!b && c.opn) = true then c :: leftC bs l else leftC bs l
  | _, _ => []
theorem leftC_none : ∀ (l : List Cd), leftC (List.replicate l.length false) l = l.filter Cd.opn
  | [] => rfl
  | c :: l => by
    rw [List.length_cons, List.replicate_succ]
    unfold leftC
    rw [leftC_none l, List.filter_cons]
    simp
theorem leftC_mem : ∀ {bs : List Bool} {l : List Cd} {c : Cd}, c ∈ leftC bs l → ∃ j, j < l.length ∧ mt bs j = false ∧ l[j]? = some c ∧ c.opn = true
  | b :: bs, d :: l, c, h => by
    unfold leftC at h
    split at h
    · rename_i hc
      rcases List.mem_cons.1 h with rfl | h
      · exact ⟨0, by simp, by simpa [mt] using (Bool.and_eq_true_iff.1 hc).1, rfl, (Bool.and_eq_true_iff.1 hc).2⟩
      · obtain ⟨j, h1, h2, h3, h4⟩ := leftC_mem h
        exact ⟨j + 1, by simpa using h1, by simpa [mt] using h2, by simpa using h3, h4⟩
    · obtain ⟨j, h1, h2, h3, h4⟩ := leftC_mem h
      exact ⟨j + 1, by simpa using h1, by simpa [mt] using h2, by simpa using h3, h4⟩
  | [], l, c, h => by simp [leftC] at h
  | b :: bs, [], c, h => by simp [leftC] at h
theorem leftC_nil : ∀ {bs : List Bool} {l : List Cd}, bs.length = l.length → (∀ j c, l[j]? = some c → mt bs j = false → c.opn = false) → leftC bs l = []
  | [], l, _, _ => by simp [leftC]
  | b :: bs, [], _, _ => by simp [leftC]
  | b :: bs, c :: l, h, k => by
    unfold leftC
    rw [if_neg, leftC_nil (by simpa using h) fun j d hd hm => k (j + 1) d (by simpa using hd) (by simpa [mt] using hm)]
    intro hc
    have h1 := (Bool.and_eq_true_iff.1 hc)
    have h2 := k 0 c rfl (by simpa [mt] using h1.1)
    rw [h1.2] at h2
    cases h2
/-- The best of those that are left is the first of their order. -/
theorem pickC {w : Wt} : ∀ {l : List Cd} {bs : List Bool} {i : Nat} {x : Cd}, bs.length = l.length → l[i]? = some x → mt bs i = false → x.opn = true → (∀ j y, j < i → l[j]? = some y → mt bs j = false → y.opn = true → bet w x y = true) → (∀ j y, i < j → l[j]? = some y → mt bs j = false → y.opn = true → bet w y x = false) →
    srtC w (leftC bs l) = x :: srtC w (leftC (bs.set i true) l)
  | [], bs, i, x, _, h, _, _, _, _ => by simp at h
  | c :: l, [], i, x, h, _, _, _, _, _ => by simp at h
  | c :: l, b :: bs, 0, x, hl, hx, hm, ho, h1, h2 => by
    obtain rfl : c = x := by simpa using hx
    have hb : b = false := by simpa [mt] using hm
    subst hb
    rw [List.set_cons_zero]
    unfold leftC
    rw [if_pos (by simp [ho]), if_neg (by simp)]
    show insC w c (srtC w (leftC bs l)) = _
    refine insC_first fun y hy => ?_
    obtain ⟨j, q1, q2, q3, q4⟩ := leftC_mem ((srtC_perm w _).mem_iff.1 hy)
    exact h2 (j + 1) y (by omega) (by simpa using q3) (by simpa [mt] using q2) q4
  | c :: l, b :: bs, i + 1, x, hl, hx, hm, ho, h1, h2 => by
    have ih := pickC (w := w) (l := l) (bs := bs) (i := i) (x := x) (by simpa using hl) (by simpa using hx) (by simpa [mt] using hm) ho (fun j y hj q1 q2 q3 => h1 (j + 1) y (by omega) (by simpa using q1) (by simpa [mt] using q2) q3) (fun j y hj q1 q2 q3 => h2 (j + 1) y (by omega) (by simpa using q1) (by simpa [mt] using q2) q3)
    rw [List.set_cons_succ]
    unfold leftC
    split
    · rename_i hc
      have hc' := Bool.and_eq_true_iff.1 hc
      show insC w c (srtC w (leftC bs l)) = x :: insC w c (srtC w (leftC (bs.set i true) l))
      rw [ih]
      have := h1 0 c (by omega) rfl (by simpa [mt] using hc'.1) hc'.2
      conv => lhs; unfold insC
      rw [if_pos this]
    · exact ih
/-- One more, if its number is not there yet. -/
def addC (out : List Cd) (c : Cd) : List Cd := if c.rep ∈ out.map Cd.rep then out else out ++ [c]
/-- The order. -/
def ordC (w : Wt) (l : List Cd) : List Cd := (srtC w (l.filter Cd.opn)).foldl addC []
theorem addC_new {out : List Cd} {c : Cd} (h : c.rep ∉ out.map Cd.rep) : addC out c = out ++ [c] := if_neg h
theorem addC_len (out : List Cd) (c : Cd) : (addC out c).length ≤ out.length + 1 := by unfold addC; split <;> simp
/-- Which one is asked. -/
def bestC (w : Wt) (l : List Cd) (limit : Int) (but : List Int) : Int × Bool :=
  match (ordC w (l.filter fun c => decide (c.rep ∉ but))).find? fun c => decide (c.load < limit) with
  | some c => (c.rep, true)
  | none => match ordC w (l.filter fun c => decide (c.rep ∉ but)) with
    | [] => (0, false)
    | c :: _ => (c.rep, true)

/-! ### Each number once -/
theorem addC_nodup {out : List Cd} {c : Cd} (h : (out.map Cd.rep).Nodup) : ((addC out c).map Cd.rep).Nodup := by
  unfold addC
  split
  · exact h
  · rename_i hn
    rw [List.map_append, List.nodup_append]
    refine ⟨h, by simp, ?_⟩
    intro a ha b hb
    simp at hb
    subst hb
    exact fun e => hn (e ▸ ha)
theorem fold_nodup : ∀ {l out : List Cd}, (out.map Cd.rep).Nodup → ((l.foldl addC out).map Cd.rep).Nodup
  | [], out, h => h
  | c :: l, out, h => fold_nodup (l := l) (addC_nodup h)
theorem addC_mem {out : List Cd} {c : Cd} (x : Int) : x ∈ (addC out c).map Cd.rep ↔ x ∈ out.map Cd.rep ∨ x = c.rep := by
  unfold addC
  split
  · rename_i h
    constructor
    · exact .inl
    · rintro (h' | rfl)
      · exact h'
      · exact h
  · simp
theorem fold_mem : ∀ {l out : List Cd} (x : Int), x ∈ (l.foldl addC out).map Cd.rep ↔ x ∈ out.map Cd.rep ∨ x ∈ l.map Cd.rep
  | [], out, x => by simp
  | c :: l, out, x => by
    rw [List.foldl_cons, fold_mem x, addC_mem x, List.map_cons, List.mem_cons]
    constructor
    · rintro ((h | h) | h)
      · exact .inl h
      · exact .inr (.inl h)
      · exact .inr (.inr h)
    · rintro (h | h | h)
      · exact .inl (.inl h)
      · exact .inl (.inr h)
      · exact .inr h
theorem fold_pre : ∀ {l out : List Cd}, ∃ r, l.foldl addC out = out ++ r
  | [], out => ⟨[], by simp⟩
  | c :: l, out => by
    obtain ⟨r, hr⟩ := fold_pre (l := l) (out := addC out c)
    rw [List.foldl_cons, hr]
    unfold addC
    split
    · exact ⟨r, rfl⟩
    · exact ⟨c :: r, by simp⟩
theorem fold_sub : ∀ {l out : List Cd} {c : Cd}, c ∈ l.foldl addC out → c ∈ out ∨ c ∈ l
  | [], out, c, h => .inl h
  | d :: l, out, c, h => by
    rcases fold_sub (l := l) h with h | h
    · unfold addC at h
      split at h
      · exact .inl h
      · rcases List.mem_append.1 h with h | h
        · exact .inl h
        · exact .inr (by simp at h; simp [h])
    · exact .inr (by simp [h])
theorem ordC_nodup (w : Wt) (l : List Cd) : ((ordC w l).map Cd.rep).Nodup := fold_nodup (by simp)
theorem ordC_mem (w : Wt) (l : List Cd) (x : Int) : x ∈ (ordC w l).map Cd.rep ↔ ∃ c ∈ l, c.opn = true ∧ c.rep = x := by
  unfold ordC
  rw [fold_mem]
  simp only [List.map_nil, List.not_mem_nil, false_or, List.mem_map]
  constructor
  · rintro ⟨c, hc, rfl⟩
    have := List.mem_filter.1 ((srtC_perm w _).mem_iff.1 hc)
    exact ⟨c, this.1, this.2, rfl⟩
  · rintro ⟨c, h1, h2, rfl⟩
    exact ⟨c, (srtC_perm w _).mem_iff.2 (List.mem_filter.2 ⟨h1, h2⟩), rfl⟩
theorem ordC_len (w : Wt) (l : List Cd) : (ordC w l).length ≤ l.length := by
  have h : ∀ (m out : List Cd), (m.foldl addC out).length ≤ out.length + m.length := by
    intro m
    induction m with
    | nil => intro out; simp
    | cons c m ih =>
      intro out
      have h1 := ih (addC out c)
      have h2 := addC_len out c
      rw [List.foldl_cons, List.length_cons]
      omega
  have h1 := h (srtC w (l.filter Cd.opn)) []
  have h2 := (srtC_perm w (l.filter Cd.opn)).length_eq
  have h3 := List.length_filter_le Cd.opn l
  unfold ordC
  simp only [List.length_nil] at h1
  omega
/-- As many, whatever the order of the list. -/
theorem ordC_back_len (w : Wt) (l : List Cd) : (ordC w l.reverse).length = (ordC w l).length := by
  have h : ((ordC w l.reverse).map Cd.rep).Perm ((ordC w l).map Cd.rep) := by
    rw [List.perm_ext_iff_of_nodup (ordC_nodup w _) (ordC_nodup w _)]
    intro x
    rw [ordC_mem, ordC_mem]
    simp
  have := h.length_eq
  simpa using this

/-! ### The order of the list plays no part, if numbers are unlike -/
theorem fold_all : ∀ {l out : List Cd}, ((out ++ l).map Cd.rep).Nodup → l.foldl addC out = out ++ l
  | [], out, _ => by simp
  | c :: l, out, h => by
    have hc : c.rep ∉ out.map Cd.rep := by
      intro hm
      rw [List.map_append, List.nodup_append] at h
      exact h.2.2 _ hm _ (by simp) rfl
    have e : addC out c = out ++ [c] := addC_new hc
    rw [List.foldl_cons, e, fold_all (l := l) (by simpa using h)]
    simp
theorem insC_sorted {w : Wt} {x : Cd} : ∀ {l : List Cd}, l.Pairwise (fun a b => bet w b a = false) → (insC w x l).Pairwise (fun a b => bet w b a = false)
  | [], _ => by simp [insC]
  | y :: ys, h => by
    rw [List.pairwise_cons] at h
    unfold insC
    split
    · rename_i hb
      rw [List.pairwise_cons]
      refine ⟨fun z hz => ?_, insC_sorted h.2⟩
      rcases List.mem_cons.1 ((insC_perm w x ys).mem_iff.1 hz) with rfl | hz
      · exact bet_anti hb
      · exact h.1 z hz
    · rename_i hb
      have hb' : bet w y x = false := by simpa using hb
      rw [List.pairwise_cons, List.pairwise_cons]
      refine ⟨fun z hz => ?_, h⟩
      rcases List.mem_cons.1 hz with rfl | hz
      · exact hb'
      · cases hzx : bet w z x with
        | false => rfl
        | true =>
          have := bet_neg hzx hb'
          rw [h.1 z hz] at this
          cases this
theorem srtC_sorted (w : Wt) : ∀ l, (srtC w l).Pairwise (fun a b => bet w b a = false)
  | [] => .nil
  | x :: xs => insC_sorted (srtC_sorted w xs)
theorem sorted_one {w : Wt} : ∀ {l m : List Cd}, l.Perm m → (l.map Cd.rep).Nodup → l.Pairwise (fun a b => bet w b a = false) → m.Pairwise (fun a b => bet w b a = false) → l = m
  | [], m, h, _, _, _ => by simpa using h.symm
  | a :: l, m, h, hn, h1, h2 => by
    cases m with
    | nil => simp at h
    | cons b m =>
      rw [List.pairwise_cons] at h1 h2
      have e : a = b := by
        have ha : a ∈ b :: m := h.mem_iff.1 (by simp)
        have hb : b ∈ a :: l := h.mem_iff.2 (by simp)
        rcases List.mem_cons.1 ha with e | ha
        · exact e
        · rcases List.mem_cons.1 hb with e | hb
          · exact e.symm
          · have q := bet_like (h1.1 b hb) (h2.1 a ha)
            rw [List.map_cons, List.nodup_cons] at hn
            exact absurd (List.mem_map.2 ⟨b, hb, q⟩) hn.1
      subst e
      have hp : l.Perm m := h.cons_inv
      rw [List.map_cons, List.nodup_cons] at hn
      rw [sorted_one hp hn.2 h1.2 h2.2]
theorem ordC_back {w : Wt} {l : List Cd} (h : (l.map Cd.rep).Nodup) : ordC w l.reverse = ordC w l := by
  unfold ordC
  congr 1
  have hp : (srtC w (l.reverse.filter Cd.opn)).Perm (srtC w (l.filter Cd.opn)) := (srtC_perm w _).trans (((List.reverse_perm l).filter _).trans (srtC_perm w _).symm)
  refine sorted_one hp ?_ (srtC_sorted w _) (srtC_sorted w _)
  rw [((srtC_perm w (l.reverse.filter Cd.opn)).map Cd.rep).nodup_iff]
  have h2 : (l.reverse.map Cd.rep).Nodup := by exact (((List.reverse_perm l).map Cd.rep).nodup_iff).2 h
  exact h2.sublist (List.filter_sublist.map _)

/-! ### More known, or less load, lets a candidate come no later -/
/-- What comes ahead of a candidate. -/
theorem srtC_split {w : Wt} {x : Cd} : ∀ {l : List Cd}, x ∈ l → (∀ y ∈ l, y = x ∨ y.rep ≠ x.rep) → (l.map Cd.rep).count x.rep = 1 → ∃ A B, srtC w l = A ++ x :: B ∧ ∀ y, y ∈ A ↔ y ∈ l ∧ bet w y x = true := by
  intro l hx hu hc
  have hp := srtC_perm w l
  obtain ⟨A, B, e⟩ := List.append_of_mem (hp.mem_iff.2 hx)
  have hs := srtC_sorted w l
  rw [e] at hs hp
  rw [List.pairwise_append] at hs
  have hcp : ((A ++ x :: B).map Cd.rep).count x.rep = 1 := by rw [(hp.map Cd.rep).count_eq]; exact hc
  have hA : ∀ y ∈ A, y.rep ≠ x.rep := by
    intro y hy e
    rw [List.map_append, List.map_cons, List.count_append, List.count_cons_self] at hcp
    have : 0 < (A.map Cd.rep).count x.rep := List.count_pos_iff.2 (List.mem_map.2 ⟨y, hy, e⟩)
    omega
  refine ⟨A, B, e, fun y => ⟨fun hy => ⟨hp.mem_iff.1 (by simp [hy]), ?_⟩, fun ⟨h1, h2⟩ => ?_⟩⟩
  · cases hb : bet w y x with
    | true => rfl
    | false => exact absurd (bet_like hb (hs.2.2 y hy x (by simp))) (hA y hy)
  · rcases List.mem_append.1 (hp.mem_iff.2 h1) with h | h
    · exact h
    · rcases List.mem_cons.1 h with rfl | h
      · rw [bet_self] at h2; cases h2
      · have := (List.pairwise_cons.1 hs.2.1).1 y h
        rw [this] at h2; cases h2
/-- The place of a number in a list. -/
def plZ : List Int → Int → Int
  | [], _ => -1
  | y :: l, x => if y = x then 0 else if plZ l x < 0 then -1 else plZ l x + 1
theorem plZ_no : ∀ {l : List Int} {x : Int}, x ∉ l → plZ l x = -1
  | [], x, _ => rfl
  | y :: l, x, h => by
    unfold plZ
    rw [if_neg (fun e => h (by simp [e])), plZ_no (l := l) (fun e => h (by simp [e])), if_pos (by omega)]
theorem plZ_at : ∀ {A B : List Int} {x : Int}, x ∉ A → plZ (A ++ x :: B) x = A.length
  | [], B, x, _ => by simp [plZ]
  | y :: A, B, x, h => by
    have := plZ_at (A := A) (B := B) (x := x) (fun e => h (by simp [e]))
    rw [List.cons_append]
    unfold plZ
    rw [if_neg (fun e => h (by simp [e])), this, if_neg (by omega)]
    simp
theorem ordC_place {w : Wt} {l : List Cd} {x : Cd} (hx : x ∈ l) (ho : x.opn = true) (hc : (l.map Cd.rep).count x.rep = 1) :
    ∃ A : List Cd, plZ ((ordC w l).map Cd.rep) x.rep = ((A.foldl addC []).length : Int) ∧ ∀ y, y ∈ A ↔ y ∈ l ∧ y.opn = true ∧ bet w y x = true := by
  have hxm : x ∈ l.filter Cd.opn := List.mem_filter.2 ⟨hx, ho⟩
  have hc1 : ((l.filter Cd.opn).map Cd.rep).count x.rep = 1 := by
    have h1 : ((l.filter Cd.opn).map Cd.rep).count x.rep ≤ (l.map Cd.rep).count x.rep := (List.filter_sublist.map Cd.rep).count_le _
    have h2 : 0 < ((l.filter Cd.opn).map Cd.rep).count x.rep := List.count_pos_iff.2 (List.mem_map.2 ⟨x, hxm, rfl⟩)
    omega
  obtain ⟨A, B, e, hA⟩ := srtC_split (w := w) hxm (fun y hy => by
    by_cases h : y.rep = x.rep
    · left
      obtain ⟨P, Q, e⟩ := List.append_of_mem hxm
      rw [e] at hy hc1
      rw [List.map_append, List.map_cons, List.count_append, List.count_cons_self] at hc1
      rcases List.mem_append.1 hy with hy | hy
      · have : 0 < (P.map Cd.rep).count x.rep := List.count_pos_iff.2 (List.mem_map.2 ⟨y, hy, h⟩)
        omega
      · rcases List.mem_cons.1 hy with hy | hy
        · exact hy
        · have : 0 < (Q.map Cd.rep).count x.rep := List.count_pos_iff.2 (List.mem_map.2 ⟨y, hy, h⟩)
          omega
    · exact .inr h) hc1
  refine ⟨A, ?_, fun y => by rw [hA, List.mem_filter, and_assoc]⟩
  have hn : x.rep ∉ A.map Cd.rep := by
    intro h
    have h1 : 0 < (A.map Cd.rep).count x.rep := List.count_pos_iff.2 h
    have h2 : ((A ++ x :: B).map Cd.rep).count x.rep = 1 := by rw [← e, ((srtC_perm w _).map Cd.rep).count_eq]; exact hc1
    rw [List.map_append, List.map_cons, List.count_append, List.count_cons_self] at h2
    omega
  have hn2 : x.rep ∉ (A.foldl addC []).map Cd.rep := by rw [fold_mem]; simpa using hn
  have e2 : addC (A.foldl addC []) x = A.foldl addC [] ++ [x] := addC_new hn2
  unfold ordC
  rw [e, List.foldl_append, List.foldl_cons, e2]
  obtain ⟨r, hr⟩ := fold_pre (l := B) (out := A.foldl addC [] ++ [x])
  rw [hr, List.append_assoc, List.map_append, List.singleton_append, List.map_cons, plZ_at hn2, List.length_map]
theorem nodup_sub_len : ∀ {l m : List Int}, l.Nodup → (∀ x ∈ l, x ∈ m) → l.length ≤ m.length
  | [], m, _, _ => by simp
  | a :: l, m, h, hs => by
    rw [List.nodup_cons] at h
    obtain ⟨P, Q, rfl⟩ := List.append_of_mem (hs a (by simp))
    have := nodup_sub_len (l := l) (m := P ++ Q) h.2 fun x hx => by
      have := hs x (by simp [hx])
      rcases List.mem_append.1 this with h' | h'
      · simp [h']
      · rcases List.mem_cons.1 h' with rfl | h'
        · exact absurd hx h.1
        · simp [h']
    simp at this ⊢
    omega
theorem mark_more {w : Wt} {c d : Cd} (hk : c.known ≤ d.known) (hl : d.load ≤ c.load) (hb : d.bnd = c.bnd) (hp : d.place = c.place) : markZ w c ≤ markZ w d := by
  unfold markZ
  rw [hb, hp]
  have h1 : inZ c.known * inZ w.kn ≤ inZ d.known * inZ w.kn := Int.mul_le_mul_of_nonneg_right (inZ_le hk) (inZ_0 _)
  have h2 : inZ d.load * inZ w.ld ≤ inZ c.load * inZ w.ld := Int.mul_le_mul_of_nonneg_right (inZ_le hl) (inZ_0 _)
  omega
/-- P19.3. -/
theorem ordC_less {w : Wt} {l : List Cd} {k : Nat} {c d : Cd} (hc : l[k]? = some c) (hu : ∀ i e, i ≠ k → l[i]? = some e → e.rep ≠ c.rep) (hk : c.known ≤ d.known) (hl : d.load ≤ c.load) (hb : d.bnd = c.bnd) (hp : d.place = c.place) (hr : d.rep = c.rep) (ho : d.opn = c.opn) (hopn : c.opn = true) :
    0 ≤ plZ ((ordC w l).map Cd.rep) c.rep ∧ 0 ≤ plZ ((ordC w (l.set k d)).map Cd.rep) c.rep ∧ plZ ((ordC w (l.set k d)).map Cd.rep) c.rep ≤ plZ ((ordC w l).map Cd.rep) c.rep := by
  have hkl : k < l.length := (List.getElem?_eq_some_iff.1 hc).1
  have split : ∀ (m : List Cd) (x : Cd), m[k]? = some x → (∀ i e, i ≠ k → m[i]? = some e → e.rep ≠ x.rep) → (m.map Cd.rep).count x.rep = 1 := by
    intro m x hx hu
    have hkm : k < m.length := (List.getElem?_eq_some_iff.1 hx).1
    have e : m = m.take k ++ x :: m.drop (k + 1) := by
      have := (List.getElem?_eq_some_iff.1 hx).2
      rw [← this, ← List.drop_eq_getElem_cons hkm, List.take_append_drop]
    have h1 : ((m.take k).map Cd.rep).count x.rep = 0 := by
      rw [List.count_eq_zero]
      intro h
      obtain ⟨y, hy, ey⟩ := List.mem_map.1 h
      obtain ⟨i, hi⟩ := List.mem_iff_getElem?.1 hy
      have hik : i < k := by
        rcases Nat.lt_or_ge i k with h | h
        · exact h
        · rw [List.getElem?_take_eq_none (by omega)] at hi; cases hi
      rw [List.getElem?_take_of_lt hik] at hi
      exact hu i y (by omega) hi ey
    have h2 : ((m.drop (k + 1)).map Cd.rep).count x.rep = 0 := by
      rw [List.count_eq_zero]
      intro h
      obtain ⟨y, hy, ey⟩ := List.mem_map.1 h
      obtain ⟨i, hi⟩ := List.mem_iff_getElem?.1 hy
      rw [List.getElem?_drop] at hi
      exact hu (k + 1 + i) y (by omega) hi ey
    rw [e, List.map_append, List.map_cons, List.count_append, List.count_cons_self, h1, h2]
  have hd : (l.set k d)[k]? = some d := by simp [hkl]
  have hu2 : ∀ i e, i ≠ k → (l.set k d)[i]? = some e → e.rep ≠ d.rep := by
    intro i e hi he
    rw [List.getElem?_set, if_neg (fun h => hi h.symm)] at he
    rw [hr]
    exact hu i e hi he
  obtain ⟨A, e1, hA⟩ := ordC_place (w := w) (List.mem_of_getElem? hc) hopn (split l c hc hu)
  obtain ⟨A2, e2, hA2⟩ := ordC_place (w := w) (List.mem_of_getElem? hd) (ho.trans hopn) (split _ d hd hu2)
  rw [hr] at e2
  rw [e1, e2]
  refine ⟨by omega, by omega, ?_⟩
  have key : ((A2.foldl addC []).map Cd.rep).length ≤ ((A.foldl addC []).map Cd.rep).length := by
    refine nodup_sub_len (fold_nodup (by simp)) fun x hx => ?_
    rw [fold_mem] at hx ⊢
    right
    simp only [List.map_nil, List.not_mem_nil, false_or] at hx
    obtain ⟨y, hy, rfl⟩ := List.mem_map.1 hx
    obtain ⟨h1, h2, h3⟩ := (hA2 y).1 hy
    refine List.mem_map.2 ⟨y, (hA y).2 ⟨?_, h2, ?_⟩, rfl⟩
    · obtain ⟨i, hi⟩ := List.mem_iff_getElem?.1 h1
      rw [List.getElem?_set] at hi
      split at hi
      · have : d = y := by simpa using hi
        subst this
        rw [bet_self] at h3; cases h3
      · exact List.mem_of_getElem? hi
    · have hm := mark_more (w := w) hk hl hb hp
      rw [bet_iff] at h3 ⊢
      omega
  simp only [List.length_map] at key
  omega
theorem ordC_shut {w : Wt} {l : List Cd} {k : Nat} {c : Cd} (hc : l[k]? = some c) (hu : ∀ i e, i ≠ k → l[i]? = some e → e.rep ≠ c.rep) (hopn : c.opn = false) : plZ ((ordC w l).map Cd.rep) c.rep = -1 := by
  refine plZ_no ?_
  rw [ordC_mem]
  rintro ⟨y, hy, h1, h2⟩
  obtain ⟨i, hi⟩ := List.mem_iff_getElem?.1 hy
  by_cases e : i = k
  · subst e
    rw [hc] at hi
    cases hi
    rw [hopn] at h1; cases h1
  · exact hu i y e hi h2
end Go.Proofs.Ytmhpgkkaolcncaa
