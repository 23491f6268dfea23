/-
  The program's ring and the document's side by side; short.
-/
import Derived.Test.YtaiojhigomdocaaRfAdd
import Derived.Test.YtaiojhigomdocaaRfPick
namespace Go.Proofs.Ytaiojhigomdocaa
open Go.RowKit Go.Maps Go.Shelf Go.Sort
set_option linter.unusedVariables false
set_option maxRecDepth 1000000

theorem short16_any (a : Option Addr) (n cap : Nat) (w : World) (h1 : n ≤ cap) (m1 : cap ≤ 9223372036854775807) :
    Calls Try.prog 11 #[.slice a n cap] w fun e w' => e = .returned (.slice a (min n 60) cap) ∧ w' = w := by
  obtain ⟨q, hq⟩ : ∃ q : Nat, min n 60 = q := ⟨_, rfl⟩
  have hq2 : min (n : Int) 60 = (q : Int) := by omega
  have hq3 : q ≤ cap := by omega
  rw [hq]
  clear hq
  go_enter Try.func11, Try.ntmps11
  go_wp2
  go_ret
  exact ⟨rfl, rfl⟩
/-- The document's nodes are the program's, rising. -/
def Lk (l L : List Int) : Prop := l.Pairwise (· < ·) ∧ L.Nodup ∧ (∀ y, y ∈ l ↔ y ∈ L) ∧ ∀ y ∈ L, isU y
theorem Lk.perm {l L : List Int} (h : Lk l L) : l.Perm L := (List.perm_ext_iff_of_nodup (rise_nodup h.1) h.2.1).2 h.2.2.1
theorem Lk.us {l L : List Int} (h : Lk l L) : ∀ y ∈ l, isU y := fun y hy => h.2.2.2 y ((h.2.2.1 y).1 hy)
theorem Lk.nil : Lk [] [] := ⟨List.Pairwise.nil, List.nodup_nil, fun y => by simp, fun y hy => by simp at hy⟩
theorem Lk.ris {l L : List Int} (h : Lk l L) : risL L = l := by
  have h1 : (risL L).Pairwise fun a b => a ≤ b := by
    have := List.pairwise_mergeSort (le := fun x y : Int => decide (x ≤ y)) (fun a b c h1 h2 => by simp at *; omega) (fun a b => by simp; omega) L
    exact this.imp fun {a b} h => by simpa using h
  have h2 : l.Pairwise fun a b => a ≤ b := h.1.imp fun {a b} h => by omega
  exact List.Perm.eq_of_pairwise (fun a b _ _ q1 q2 => by omega) h1 h2 ((List.mergeSort_perm L _).trans h.perm.symm)
theorem bndZ_perm {f : Int → Int} {fac : Int} {l L : List Int} (h : l.Perm L) : bndZ f fac l = bndZ f fac L := by
  unfold bndZ
  rw [h.length_eq, sumZ_perm h]
theorem tw_mem {l : List Int} {x y : Int} : y ∈ insL l x ↔ y = x ∨ y ∈ l := by
  unfold insL
  have h := List.takeWhile_append_dropWhile (p := fun y => decide (y < x)) (l := l)
  constructor
  · intro hy
    simp only [List.mem_append, List.mem_cons] at hy
    rcases hy with hy | rfl | hy
    · right; rw [← h]; exact List.mem_append.2 (.inl hy)
    · left; rfl
    · right; rw [← h]; exact List.mem_append.2 (.inr hy)
  · rintro (rfl | hy)
    · simp
    · rw [← h] at hy
      simp only [List.mem_append] at hy
      simp only [List.mem_append, List.mem_cons]
      rcases hy with hy | hy
      · exact .inl hy
      · exact .inr (.inr hy)
theorem ins_rise : ∀ {l : List Int} {x : Int}, l.Pairwise (· < ·) → x ∉ l → (insL l x).Pairwise (· < ·)
  | [], x, _, _ => by simp [insL]
  | y :: l, x, h, hx => by
    rw [List.pairwise_cons] at h
    by_cases hy : y < x
    · have e : insL (y :: l) x = y :: insL l x := by simp [insL, hy]
      rw [e, List.pairwise_cons]
      refine ⟨fun z hz => ?_, ins_rise h.2 fun hh => hx (by simp [hh])⟩
      rcases tw_mem.1 hz with rfl | hz
      · exact hy
      · exact h.1 z hz
    · have e : insL (y :: l) x = x :: y :: l := by simp [insL, hy]
      have hne : x ≠ y := fun e => hx (by simp [e])
      rw [e, List.pairwise_cons, List.pairwise_cons]
      refine ⟨fun z hz => ?_, h⟩
      rcases List.mem_cons.1 hz with rfl | hz
      · omega
      · have := h.1 z hz; omega
theorem Lk.add {l L : List Int} (h : Lk l L) {x : Int} (hx : isU x) : (radd L x).1 = (rfadd l x).1 ∧ Lk (rfadd l x).2 (radd L x).2 := by
  unfold radd rfadd
  rw [h.perm.length_eq]
  by_cases hin : x ∈ L
  · rw [if_pos hin, if_pos ((h.2.2.1 x).2 hin)]
    exact ⟨rfl, h⟩
  · have hin2 : x ∉ l := fun hh => hin ((h.2.2.1 x).1 hh)
    rw [if_neg hin, if_neg hin2]
    by_cases h64 : 64 ≤ L.length
    · rw [if_pos h64, if_pos h64]
      exact ⟨rfl, h⟩
    · rw [if_neg h64, if_neg h64]
      refine ⟨rfl, ins_rise h.1 hin2, List.nodup_cons.2 ⟨hin, h.2.1⟩, fun y => ?_, fun y hy => ?_⟩
      · rw [tw_mem, List.mem_cons, h.2.2.1 y]
      · rcases List.mem_cons.1 hy with rfl | hy
        · exact hx
        · exact h.2.2.2 y hy
theorem Lk.drop {l L : List Int} (h : Lk l L) (x : Int) : (rdrop L x).1 = (rfdrop l x).1 ∧ Lk (rfdrop l x).2 (rdrop L x).2 := by
  unfold rdrop rfdrop
  by_cases hin : x ∈ L
  · rw [if_pos hin, if_pos ((h.2.2.1 x).2 hin)]
    refine ⟨rfl, h.1.filter _, h.2.1.erase x, fun y => ?_, fun y hy => h.2.2.2 y (List.mem_of_mem_erase hy)⟩
    show y ∈ l.filter _ ↔ y ∈ L.erase x
    rw [h.2.1.mem_erase_iff, List.mem_filter, h.2.2.1 y]
    simp
    exact and_comm
  · rw [if_neg hin, if_neg (fun hh => hin ((h.2.2.1 x).1 hh))]
    exact ⟨rfl, h⟩
/-- Both rings and the loads in memory; beside them a block of the statement's. -/
structure PlR (lo : Nat) (w : World) (s : Int) (e B1 M1 B2 m : Nat) (f : Int → Int) (v : Value) (L : List Int) (P : List (Int × Int)) (u : Value) (l : List Int) (W : World) : Prop where
  one : RnAt W B1 s e M1 v L P
  two : RfAt W B2 s e u l
  ld : LdAt W m f
  far : ∀ k, rnF B1 M1 v k → rfF B2 u k → False
  m1 : ¬ rnF B1 M1 v m
  m2 : ¬ rfF B2 u m
  lo1 : ∀ k, rnF B1 M1 v k → lo ≤ k
  lo2 : ∀ k, rfF B2 u k → lo ≤ k
  lom : lo ≤ m
  bel : RowKit.Below lo w W
  lows : lo ≤ w.heap.size
theorem rn_new {W w' : World} {B M : Nat} {v v' : Value} (q3 : ∀ k, v'.ownBlock = some k → v.ownBlock = some k ∨ W.heap.size ≤ k) : ∀ k, rnF B M v' k → rnF B M v k ∨ W.heap.size ≤ k := by
  rintro k (rfl | rfl | hk)
  · exact .inl (.inl rfl)
  · exact .inl (.inr (.inl rfl))
  · exact (q3 k hk).imp (fun h => .inr (.inr h)) id
theorem rf_new {W w' : World} {B : Nat} {v v' : Value} (q3 : ∀ k, v'.ownBlock = some k → v.ownBlock = some k ∨ W.heap.size ≤ k) : ∀ k, rfF B v' k → rfF B v k ∨ W.heap.size ≤ k := by
  rintro k (rfl | hk)
  · exact .inl (.inl rfl)
  · exact (q3 k hk).imp (fun h => .inr h) id
/-- With a block of the statement's, whose second cell is x. -/
structure PlS (lo : Nat) (w : World) (s : Int) (e B1 M1 B2 m : Nat) (f : Int → Int) (v : Value) (L : List Int) (P : List (Int × Int)) (u : Value) (l : List Int) (sb : Nat) (x : Int) (W : World) : Prop where
  pl : PlR lo w s e B1 M1 B2 m f v L P u l W
  cel : W.cell? ⟨sb, 1, none⟩ = some (.int .u64 x)
  s1 : ¬ rnF B1 M1 v sb
  s2 : ¬ rfF B2 u sb
section
variable {lo : Nat} {w : World} {s : Int} {e B1 M1 B2 m : Nat} {f : Int → Int} {v : Value} {L : List Int} {P : List (Int × Int)} {u : Value} {l : List Int} {sb : Nat} {x : Int} {W w' : World}
theorem PlR.below (h : PlR lo w s e B1 M1 B2 m f v L P u l W) (hb : RowKit.Below W.heap.size W w') : PlR lo w s e B1 M1 B2 m f v L P u l w' :=
  ⟨h.one.below hb, h.two.below hb, h.ld.below hb, h.far, h.m1, h.m2, h.lo1, h.lo2, h.lom, h.bel.trans (hb.mono (Nat.le_trans h.lows h.bel.size)), h.lows⟩
theorem PlS.below (h : PlS lo w s e B1 M1 B2 m f v L P u l sb x W) (hb : RowKit.Below W.heap.size W w') : PlS lo w s e B1 M1 B2 m f v L P u l sb x w' :=
  ⟨h.pl.below hb, (hb.cell (World.block_lt_of_cell? _ _ h.cel)).trans h.cel, h.s1, h.s2⟩
theorem PlS.left (h : PlS lo w s e B1 M1 B2 m f v L P u l sb x W) {L' : List Int} (ho : RnO W B1 s e M1 v L' w') : ∃ v' P', PlS lo w s e B1 M1 B2 m f v' L' P' u l sb x w' := by
  have hsz : lo ≤ W.heap.size := Nat.le_trans h.pl.lows h.pl.bel.size
  obtain ⟨_, _, _, _, k3⟩ := ho.step h.pl.lo1 hsz
  obtain ⟨v', P', q1, q2, q3⟩ := ho
  have hlo := rn_new (w' := w') (B := B1) (M := M1) q3
  have hsb : sb < W.heap.size := World.block_lt_of_cell? _ _ h.cel
  refine ⟨v', P', ⟨q1, h.pl.two.fb q2 fun k hk hk1 => h.pl.far k hk1 hk, h.pl.ld.fb q2 h.pl.m1, fun k hk1 hk2 => ?_, fun hk => ?_, h.pl.m2, fun k hk => ?_, h.pl.lo2, h.pl.lom, h.pl.bel.trans k3, h.pl.lows⟩, q2.cell h.cel h.s1, fun hk => ?_, h.s2⟩
  · rcases hlo k hk1 with h' | h'
    · exact h.pl.far k h' hk2
    · have := h.pl.two.flt k hk2; omega
  · rcases hlo m hk with h' | h'
    · exact h.pl.m1 h'
    · have := h.pl.ld.lt; omega
  · rcases hlo k hk with h' | h'
    · exact h.pl.lo1 k h'
    · omega
  · rcases hlo sb hk with h' | h'
    · exact h.s1 h'
    · omega
theorem PlS.right (h : PlS lo w s e B1 M1 B2 m f v L P u l sb x W) {l' : List Int} (ho : RfO W B2 s e u l' w') : ∃ u', PlS lo w s e B1 M1 B2 m f v L P u' l' sb x w' := by
  have hsz : lo ≤ W.heap.size := Nat.le_trans h.pl.lows h.pl.bel.size
  obtain ⟨u', q1, q2, q3⟩ := ho
  have k3 : RowKit.Below lo W w' := q2.to h.pl.lo2 hsz
  have hlo := rf_new (w' := w') (B := B2) q3
  have hsb : sb < W.heap.size := World.block_lt_of_cell? _ _ h.cel
  refine ⟨u', ⟨h.pl.one.fb q2 fun k hk hk1 => h.pl.far k hk hk1, q1, h.pl.ld.fb q2 h.pl.m2, fun k hk1 hk2 => ?_, h.pl.m1, fun hk => ?_, h.pl.lo1, fun k hk => ?_, h.pl.lom, h.pl.bel.trans k3, h.pl.lows⟩, q2.cell h.cel h.s2, h.s1, fun hk => ?_⟩
  · rcases hlo k hk2 with h' | h'
    · exact h.pl.far k hk1 h'
    · have := h.pl.one.flt k hk1; omega
  · rcases hlo m hk with h' | h'
    · exact h.pl.m2 h'
    · have := h.pl.ld.lt; omega
  · rcases hlo k hk with h' | h'
    · exact h.pl.lo2 k h'
    · omega
  · rcases hlo sb hk with h' | h'
    · exact h.s2 h'
    · omega
/-- A new block of the statement's. -/
theorem PlR.step (h : PlR lo w s e B1 M1 B2 m f v L P u l W) {o : Obj} {c : Value} {T : TypeId} (ho : o = .cells #[c, .int .u64 x] T) : PlS lo w s e B1 M1 B2 m f v L P u l W.heap.size x (W.alloc o) := by
  refine ⟨h.below ((RowKit.Below.refl _ _).alloc (Nat.le_refl _) _), ?_, fun hk => ?_, fun hk => ?_⟩
  · rw [ho, cell_of_row _ _ _ _ _ _ (heap_alloc_new W _)]; rfl
  · have := h.one.flt _ hk; omega
  · have := h.two.flt _ hk; omega
end
end Go.Proofs.Ytaiojhigomdocaa
