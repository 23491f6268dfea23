/-
  TMath: Mathematics of the greatest ones: what is kept of marks, one by one (TopSet); the places of the greatest (TopOf), of which there is one list alone.
  PgCons: Package page: contracts of first and New.
-/
import Derived.Test.YtjgggialnegddaaGreatPx09
import Derived.Test.YtjgggialnegddaaGreatPx10
import Derived.Deep.RegionWith
namespace Go.Proofs.YtjgggialnegddaaGreat
open Go.RowKit
set_option linter.unusedVariables false
set_option maxRecDepth 1000000

/-- The marks of the first k places. -/
def marksK (zs : List Int) : Nat → List Mk
  | 0 => []
  | k + 1 => marksK zs k ++ [((k : Int), wi (zs[k]?.getD 0))]
theorem marksK_len (zs : List Int) (k : Nat) : (marksK zs k).length = k := by
  induction k with
  | zero => rfl
  | succ k ih => simp [marksK, ih]
theorem marksK_mem {zs : List Int} {k : Nat} {m : Mk} : m ∈ marksK zs k ↔ ∃ i : Nat, i < k ∧ m = ((i : Int), wi (zs[i]?.getD 0)) := by
  induction k with
  | zero => simp [marksK]
  | succ k ih =>
    simp only [marksK, List.mem_append, List.mem_singleton, ih]
    constructor
    · rintro (⟨i, hi, rfl⟩ | rfl)
      · exact ⟨i, by omega, rfl⟩
      · exact ⟨k, by omega, rfl⟩
    · rintro ⟨i, hi, rfl⟩
      rcases (by omega : i < k ∨ i = k) with h | rfl
      · exact .inl ⟨i, h, rfl⟩
      · exact .inr rfl

/-- Of the marks ms the K greatest ones. -/
def TopSet (K : Nat) (ms ks : List Mk) : Prop := ∃ rest, (ks ++ rest).Perm ms ∧ ks.length = min K ms.length ∧ ∀ r ∈ rest, ∀ x ∈ ks, leM r x
theorem TopSet.none (K : Nat) : TopSet K [] [] := ⟨[], List.Perm.refl _, by simp, by simp⟩
theorem TopSet.push {K : Nat} {ms ks ns : List Mk} {x : Mk} (h : TopSet K ms ks) (hp : ns.Perm (ks ++ [x])) (hn : ns.length ≤ K) : TopSet K (ms ++ [x]) ns := by
  obtain ⟨rest, h1, h2, h3⟩ := h
  have l1 := h1.length_eq
  have l2 := hp.length_eq
  simp at l1 l2
  have hr : rest = [] := List.eq_nil_of_length_eq_zero (by omega)
  subst hr
  refine ⟨[], ?_, ?_, by simp⟩
  · rw [List.append_nil] at h1 ⊢
    exact hp.trans (h1.append_right [x])
  · simp; omega
theorem TopSet.pop {K : Nat} {ms ks ns ns' : List Mk} {x y : Mk} (h : TopSet K ms ks) (hp : ns.Perm (ks ++ [x])) (hn : K < ns.length) (hy : (y :: ns').Perm ns) (hle : ∀ z ∈ ns, leM y z) : TopSet K (ms ++ [x]) ns' := by
  obtain ⟨rest, h1, h2, h3⟩ := h
  have l1 := h1.length_eq
  have l2 := hp.length_eq
  have l3 := hy.length_eq
  simp at l1 l2 l3
  have hyx : (y :: ns').Perm (ks ++ [x]) := hy.trans hp
  refine ⟨y :: rest, ?_, ?_, ?_⟩
  · have p1 : (ns' ++ y :: rest).Perm ((y :: ns') ++ rest) := List.perm_middle
    have p2 : ((y :: ns') ++ rest).Perm ((ks ++ [x]) ++ rest) := hyx.append_right rest
    have p3 : ((ks ++ [x]) ++ rest).Perm ((ks ++ rest) ++ [x]) := by
      rw [List.append_assoc, List.append_assoc]
      exact (List.perm_append_comm).append_left ks
    exact p1.trans (p2.trans (p3.trans (h1.append_right [x])))
  · simp; omega
  · intro r hr e he
    have hen : e ∈ ns := hy.subset (List.mem_cons_of_mem _ he)
    rcases List.mem_cons.1 hr with rfl | hr
    · exact hle e hen
    · have hyk : y ∈ ks ++ [x] := hyx.subset (List.mem_cons_self)
      rcases List.mem_append.1 hyk with hk | hk
      · exact leM_trans (h3 r hr y hk) (hle e hen)
      · obtain rfl := List.mem_singleton.1 hk
        have p : (y :: ns').Perm (y :: ks) := hyx.trans (List.perm_append_singleton _ _)
        have hek : e ∈ ks := (List.Perm.cons_inv p).subset he
        exact h3 r hr e hek

/-- Marks from the greatest down. -/
def Falls (qs : List Mk) : Prop := qs.Pairwise fun a b => leM b a
theorem top_one : ∀ (qs qs' rest rest' : List Mk), (qs ++ rest).Perm (qs' ++ rest') → qs.length = qs'.length → Falls qs → Falls qs' → (∀ r ∈ rest, ∀ q ∈ qs, leM r q) → (∀ r ∈ rest', ∀ q ∈ qs', leM r q) → qs = qs' := by
  intro qs
  induction qs with
  | nil => intro qs' rest rest' _ hl _ _ _ _; exact (List.eq_nil_of_length_eq_zero hl.symm).symm
  | cons q qs ih =>
    intro qs' rest rest' hp hl hf hf' hr hr'
    cases qs' with
    | nil => simp at hl
    | cons q' qs' =>
      have top : ∀ {q : Mk} {qs rest : List Mk}, Falls (q :: qs) → (∀ r ∈ rest, ∀ x ∈ q :: qs, leM r x) → ∀ z ∈ (q :: qs) ++ rest, leM z q := by
        intro q qs rest h1 h2 z hz
        rcases List.mem_append.1 hz with h | h
        · rcases List.mem_cons.1 h with rfl | h
          · exact leM_refl _
          · exact (List.pairwise_cons.1 h1).1 z h
        · exact h2 z h q (List.mem_cons_self)
      have e : q = q' := leM_anti (top hf' hr' q (hp.subset (by simp))) (top hf hr q' (hp.symm.subset (by simp)))
      subst e
      have hp' : (qs ++ rest).Perm (qs' ++ rest') := List.Perm.cons_inv hp
      rw [ih qs' rest rest' hp' (by simpa using hl) (List.pairwise_cons.1 hf).2 (List.pairwise_cons.1 hf').2 (fun r h x hx => hr r h x (List.mem_cons_of_mem _ hx)) (fun r h x hx => hr' r h x (List.mem_cons_of_mem _ hx))]
/-- These are the places of the K greatest of the first n. -/
def TopOf (zs : List Int) (n K : Nat) (ps : List Int) : Prop :=
  ∃ qs rest : List Mk, ps = qs.map Prod.fst ∧ qs.length = K ∧ Falls qs ∧ (qs ++ rest).Perm (marksK zs n) ∧ ∀ r ∈ rest, ∀ q ∈ qs, leM r q
theorem TopOf.one {zs : List Int} {n K : Nat} {ps ps' : List Int} (h : TopOf zs n K ps) (h' : TopOf zs n K ps') : ps = ps' := by
  obtain ⟨qs, rest, rfl, hl, hf, hp, hr⟩ := h
  obtain ⟨qs', rest', rfl, hl', hf', hp', hr'⟩ := h'
  rw [top_one qs qs' rest rest' (hp.trans hp'.symm) (hl.trans hl'.symm) hf hf' hr hr']
theorem TopOf.len {zs : List Int} {n K : Nat} {ps : List Int} (h : TopOf zs n K ps) : ps.length = K := by
  obtain ⟨qs, rest, rfl, hl, _⟩ := h
  simpa using hl

/-- What is taken out of the heap, the last one first, and what is left. -/
structure Outs (ks qs ns : List Mk) : Prop where
  perm : (qs ++ ns).Perm ks
  falls : Falls qs
  le : ∀ q ∈ qs, ∀ n ∈ ns, leM q n
theorem Outs.start (ks : List Mk) : Outs ks [] ks := ⟨List.Perm.refl _, List.Pairwise.nil, by simp⟩
theorem Outs.next {ks qs ns ns' : List Mk} {x : Mk} (h : Outs ks qs ns) (hp : (x :: ns').Perm ns) (hle : ∀ y ∈ ns, leM x y) : Outs ks (x :: qs) ns' := by
  have hx : x ∈ ns := hp.subset (List.mem_cons_self)
  have hs : ∀ n ∈ ns', n ∈ ns := fun n hn => hp.subset (List.mem_cons_of_mem _ hn)
  refine ⟨?_, List.pairwise_cons.2 ⟨fun b hb => h.le b hb x hx, h.falls⟩, ?_⟩
  · have p1 : ((x :: qs) ++ ns').Perm (qs ++ x :: ns') := List.perm_middle.symm
    exact p1.trans ((hp.append_left qs).trans h.perm)
  · intro q hq n hn
    rcases List.mem_cons.1 hq with rfl | hq
    · exact hle n (hs n hn)
    · exact h.le q hq n (hs n hn)
theorem Outs.done {zs : List Int} {n K : Nat} {ks qs : List Mk} (h : Outs ks qs []) (hk : TopSet K (marksK zs n) ks) (hK : K ≤ n) : TopOf zs n K (qs.map Prod.fst) := by
  obtain ⟨rest, h1, h2, h3⟩ := hk
  have hp := h.perm
  rw [List.append_nil] at hp
  rw [marksK_len, Nat.min_eq_left hK] at h2
  refine ⟨qs, rest, rfl, hp.length_eq.trans h2, h.falls, (hp.append_right rest).trans h1, fun r hr q hq => h3 r hr q (hp.subset hq)⟩
theorem places_set (c : Nat) (x : Int) (us : List Int) : (List.replicate (c + 1) 0 ++ us).set c x = List.replicate c 0 ++ x :: us := by
  rw [List.set_append_left _ _ (by simp), List.replicate_succ', List.set_append_right _ _ (by simp)]
  simp
end Go.Proofs.YtjgggialnegddaaGreat
namespace Go.Proofs.YtjgggialnegddaaGreat
open Go.RowKit
set_option linter.unusedVariables false
set_option maxRecDepth 1000000

theorem make_intsF (w : World) (m : Nat) (hm : m ≤ 1001) : (Instr.makeSlice 154 (.int .i64 (m : Int)) (.int .i64 (m : Int))).run Tryz.prog w = .ok (.slice (some ⟨w.heap.size, 0, none⟩) m m) (w.alloc (.cells (madeCells #[.int .i64 0] m) 3)) := by
  obtain ⟨i0, hi, hz0, hz1, hz2⟩ := info_parts Tryz.info3
  have := run_make (P := Tryz.prog) w 154 3 i0 (.int .i64 0) Tryz.underlying154 hi hz0 .i64 .i64 (m : Int) (m : Int) (by omega) (Int.le_refl _) (by rw [hz2]; omega) (by omega)
  rw [this, hz1, Int.toNat_natCast, Nat.mul_one]
  rfl
theorem heap_upto (n : Nat) : HeapI (upto n) (upto n).length := by
  intro i h0 hi
  rw [upto_len] at hi
  unfold leI ltI gi
  rw [upto_at hi, upto_at (by omega)]
  omega
theorem rowK_upto (n : Nat) : rowK (fun i : Nat => (i : Int)) n = upto n := rfl
theorem pfirst_any (n : Nat) (w : World) (hn : n ≤ 256) : Calls Tryz.prog 104 #[.int .i64 n] w fun e w' => ∃ g, e = .returned (.slice (some ⟨g, 0, none⟩) n n) ∧ w.heap.size ≤ g ∧ OwnK 3 0 g n n (upto n) w' ∧ Below w.heap.size w w' := by
  have hmk := make_intsF w n (by omega)
  obtain ⟨w1, hw1⟩ : ∃ w1, w1 = w.alloc (.cells (madeCells #[.int .i64 0] n) 3) := ⟨_, rfl⟩
  rw [← hw1] at hmk
  obtain ⟨f, hf⟩ : ∃ f : Nat → Int, f = fun i : Nat => (i : Int) := ⟨_, rfl⟩
  have HO0 : Hid (OwnK 3 0 w.heap.size n n (rowK f 0 ++ List.replicate (n - 0) 0) w1) := by
    have := own_made 3 w n (by omega)
    unfold Hid
    rw [hw1]
    exact this.low (Nat.zero_le _)
  have HB0 : Hid (Below w.heap.size w w1) := by unfold Hid; rw [hw1]; exact (Below.refl _ _).alloc (Nat.le_refl _) _
  have HS : Hid (∀ k, k < n → (rowK f k ++ List.replicate (n - k) 0).set k (k : Int) = rowK f (k + 1) ++ List.replicate (n - (k + 1)) 0) := fun k hk => by
    have := rowK_set f hk
    rw [hf] at this ⊢
    exact this
  have HE : Hid (rowK f n ++ List.replicate (n - n) 0 = upto n) := by unfold Hid; rw [hf, rowK_upto]; simp
  clear hw1 hf
  go_enter Tryz.func104, Tryz.ntmps104
  go_wp2_with fail
  go_loopw [9] (fun i W => ∃ k : Nat, k ≤ n ∧ i = .int .i64 k ∧ Hid (OwnK 3 0 w.heap.size n n (rowK f k ++ List.replicate (n - k) 0) W) ∧ Hid (Below w.heap.size w W)) (fun i _ => n - (intOf i).toNat)
  case atStart => exact ⟨0, Nat.zero_le _, rfl, HO0, HB0⟩
  case round =>
  obtain ⟨k, hk, rfl, HO, HB⟩ := hrel
  rename World => wr
  by_cases hlt : k < n
  · have q1 : (k : Int) < (n : Int) := by omega
    have ck := HO.out.cell hlt
    have fk := HO.out.frozen k
    have HO2 : Hid (OwnK 3 0 w.heap.size n n (rowK f (k + 1) ++ List.replicate (n - (k + 1)) 0) (wr.setCell ⟨w.heap.size, k, none⟩ (.int .i64 (k : Int)))) := by unfold Hid; rw [← HS.out k hlt]; exact HO.out.set k k
    have HB2 : Hid (Below w.heap.size w (wr.setCell ⟨w.heap.size, k, none⟩ (.int .i64 (k : Int)))) := HB.out.setCell (Nat.le_refl _) _
    clear HO HB HS HE HO0 HB0 hmk
    go_wp2_with fail
    go_round
    case rel => exact ⟨k + 1, by omega, by go_num, HO2, HB2⟩
    case measure => simp [intOf]; omega
  · obtain rfl : k = n := by omega
    have HO2 : Hid (OwnK 3 0 w.heap.size k k (upto k) wr) := by unfold Hid; rw [← HE.out]; exact HO.out
    clear HO HS HE HO0 HB0 hmk
    go_wp2
    go_ret
    exact ⟨_, rfl, Nat.le_refl _, HO2.out, HB.out⟩
theorem pnew_no (n : Int) (w : World) (hn : n < 1 ∨ 256 < n) : Calls Tryz.prog 77 #[.int .i64 n] w fun e w' => e = .returned (.tuple #[.pointer none, .int .i64 1]) ∧ Below w.heap.size w w' := by
  by_cases h1 : n < 1
  · clear hn
    go_enter Tryz.func77, Tryz.ntmps77
    go_wp2
    go_ret2
    exact ⟨rfl, Below.refl _ _⟩
  · have h2 : 256 < n := by omega
    clear hn
    go_enter Tryz.func77, Tryz.ntmps77
    go_wp2
    go_ret2
    exact ⟨rfl, Below.refl _ _⟩
/-- Two rows, and the pool over them. -/
theorem pg_new {w W : World} {b g n : Nat} (h0 : 1 ≤ n) (h1 : n ≤ 256) (hb : OwnK 3 0 b n n (List.replicate n 0) W) (hg : OwnK 3 0 g n n (upto n) W) (hn : b ≠ g) (lb : w.heap.size ≤ b) (lg : w.heap.size ≤ g) (hW : Below w.heap.size w W) :
    PgAt (W.alloc (.cells #[.slice (some ⟨b, 0, none⟩) n n, .slice (some ⟨g, 0, none⟩) n n] 156)) (some ⟨W.heap.size, 0, none⟩) (List.replicate n 0) (at3 W.heap.size b g) ∧ (∀ k, at3 W.heap.size b g k → w.heap.size ≤ k) ∧ Below w.heap.size w (W.alloc (.cells #[.slice (some ⟨b, 0, none⟩) n n, .slice (some ⟨g, 0, none⟩) n n] 156)) := by
  have hB : Below W.heap.size W (W.alloc (.cells #[.slice (some ⟨b, 0, none⟩) n n, .slice (some ⟨g, 0, none⟩) n n] 156)) := (Below.refl _ _).alloc (Nat.le_refl _) _
  have b1 := hb.lt
  have g1 := hg.lt
  have s1 := hW.size
  have hP : PgB (W.alloc (.cells #[.slice (some ⟨b, 0, none⟩) n n, .slice (some ⟨g, 0, none⟩) n n] 156)) W.heap.size b g n (List.replicate n 0) (upto n) := by
    refine ⟨?_, hb.stays hB, ?_, by omega, by omega, hn, heap_upto n, free_new n⟩
    · rw [upto_len]; exact heap_alloc_new W _
    · rw [upto_len]; exact hg.stays hB
  refine ⟨hP.at (okp_new h0 h1), ?_, hW.trans (hB.mono s1)⟩
  rintro k (rfl | rfl | rfl) <;> omega
/-- What New leaves. -/
def NewG (w : World) (n B : Nat) (W : World) : Prop := ∃ F, PgAt W (some ⟨B, 0, none⟩) (List.replicate n 0) F ∧ (∀ k, F k → w.heap.size ≤ k) ∧ Below w.heap.size w W
theorem pg_newA {w w2 : World} {g n : Nat} (h0 : 1 ≤ n) (h1 : n ≤ 256) (lg : (w.alloc (.cells (madeCells #[.int .i64 0] n) 3)).drew.heap.size ≤ g) (hO : OwnK 3 0 g n n (upto n) w2)
    (hb : Below (w.alloc (.cells (madeCells #[.int .i64 0] n) 3)).drew.heap.size (w.alloc (.cells (madeCells #[.int .i64 0] n) 3)).drew w2) :
    NewG w n w2.heap.size (w2.alloc (.cells #[.slice (some ⟨w.heap.size, 0, none⟩) n n, .slice (some ⟨g, 0, none⟩) n n] 156)) := by
  have hM : OwnK 3 0 w.heap.size n n (List.replicate n 0) (w.alloc (.cells (madeCells #[.int .i64 0] n) 3)).drew := (own_made 3 w n (by omega)).low (Nat.zero_le _)
  have hS : (w.alloc (.cells (madeCells #[.int .i64 0] n) 3)).drew.heap.size = w.heap.size + 1 := World.size_alloc _ _
  have hB : Below w.heap.size w (w.alloc (.cells (madeCells #[.int .i64 0] n) 3)).drew := ((Below.refl _ _).alloc (Nat.le_refl _) _).drew
  obtain ⟨a1, a2, a3⟩ := pg_new h0 h1 (hM.stays hb) hO (by omega) (Nat.le_refl _) (by omega) (hB.trans (hb.mono hB.size))
  exact ⟨_, a1, a2, a3⟩
theorem pg_newB {w w2 : World} {g n : Nat} (h0 : 1 ≤ n) (h1 : n ≤ 256) (lg : w.drew.heap.size ≤ g) (hO : OwnK 3 0 g n n (upto n) w2) (hb : Below w.drew.heap.size w.drew w2) :
    NewG w n (w2.heap.size + 1) ((w2.alloc (.cells (madeCells #[.int .i64 0] n) 3)).alloc (.cells #[.slice (some ⟨w2.heap.size, 0, none⟩) n n, .slice (some ⟨g, 0, none⟩) n n] 156)) := by
  have hM : OwnK 3 0 w2.heap.size n n (List.replicate n 0) (w2.alloc (.cells (madeCells #[.int .i64 0] n) 3)) := (own_made 3 w2 n (by omega)).low (Nat.zero_le _)
  have hS : (w2.alloc (.cells (madeCells #[.int .i64 0] n) 3)).heap.size = w2.heap.size + 1 := World.size_alloc _ _
  have hB0 : Below w.heap.size w w2 := (Below.refl _ _).drew.trans hb
  have hB : Below w2.heap.size w2 (w2.alloc (.cells (madeCells #[.int .i64 0] n) 3)) := (Below.refl _ _).alloc (Nat.le_refl _) _
  have lt := hO.lt
  obtain ⟨a1, a2, a3⟩ := pg_new h0 h1 hM (hO.stays hB) (by omega) hB0.size lg (hB0.trans (hB.mono hB0.size))
  rw [hS] at a1 a2
  exact ⟨_, a1, a2, a3⟩
theorem pnew_yes (n : Nat) (w : World) (h0 : 1 ≤ n) (h1 : n ≤ 256) : Calls Tryz.prog 77 #[.int .i64 n] w fun e w' => ∃ g F, e = .returned (.tuple #[.pointer (some ⟨g, 0, none⟩), .int .i64 0]) ∧ PgAt w' (some ⟨g, 0, none⟩) (List.replicate n 0) F ∧ (∀ k, F k → w.heap.size ≤ k) ∧ Below w.heap.size w w' := by
  have q1 : ¬ (n : Int) < 1 := by omega
  have q2 : ¬ (256 : Int) < (n : Int) := by omega
  have hmk := fun (W : World) => make_intsI W n (by omega)
  have HF := hid fun (W : World) => pfirst_any n W h1
  go_enter Tryz.func77, Tryz.ntmps77
  go_wp2_with fail
  go_region_with (go_at_call 104; refine (HF.out _).mono ?_; rintro e w2 ⟨g, rfl, lg, hO, hb⟩; have HO := hid hO; have HB := hid hb; have LG := hid lg; clear hO hb lg)
  · go_wp2_with fail
    obtain ⟨F, a1, a2, a3⟩ := pg_newA h0 h1 LG.out HO.out HB.out
    clear hmk HF HO HB LG
    go_ret2
    exact ⟨_, F, rfl, a1, a2, a3⟩
  · go_wp2_with fail
    obtain ⟨F, a1, a2, a3⟩ := pg_newB h0 h1 LG.out HO.out HB.out
    clear hmk HF HO HB LG
    go_ret2
    exact ⟨_, F, rfl, a1, a2, a3⟩
end Go.Proofs.YtjgggialnegddaaGreat
