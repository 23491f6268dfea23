/-
  A ring in memory (RnAt); New, Add, Nodes.
-/
import Derived.Test.YtaiojhigomdocaaRnSt
import Derived.Test.YtaiojhigomdocaaRnKeys2
namespace Go.Proofs.Ytaiojhigomdocaa
open Go.RowKit Go.Maps Go.Shelf Go.Sort
set_option linter.unusedVariables false
set_option maxRecDepth 1000000

/-- The ring in block B: its nodes L, its points P. -/
structure RnAt (W : World) (B : Nat) (s : Int) (e M : Nat) (v : Value) (L : List Int) (P : List (Int × Int)) : Prop where
  obj : RnB W B s e M v
  map : SmAt W M L
  row : PtAt 0 W v P
  seed : isU s
  each : 1 ≤ e ∧ e ≤ 64
  len : L.length ≤ 64
  perm : P.Perm (L.flatMap (ptsOf s e))
  srt : P.Pairwise fun x y => ¬ ptlt y x
/-- What a ring's calls turn. -/
def rnF (B M : Nat) (v : Value) (k : Nat) : Prop := k = B ∨ k = M ∨ v.ownBlock = some k
theorem flat_len {s : Int} {e : Nat} : ∀ L : List Int, (L.flatMap (ptsOf s e)).length = L.length * e
  | [] => by simp
  | x :: L => by rw [List.flatMap_cons, List.length_append, ptsOf_len, flat_len L, List.length_cons, Nat.succ_mul]; omega
theorem RnAt.plen {W : World} {B : Nat} {s : Int} {e M : Nat} {v : Value} {L : List Int} {P : List (Int × Int)} (h : RnAt W B s e M v L P) : P.length = L.length * e := by rw [h.perm.length_eq, flat_len]
theorem RnAt.pmax {W : World} {B : Nat} {s : Int} {e M : Nat} {v : Value} {L : List Int} {P : List (Int × Int)} (h : RnAt W B s e M v L P) : P.length ≤ 4096 := by
  rw [h.plen]
  exact Nat.mul_le_mul h.len h.each.2
theorem RnAt.mlt {W : World} {B : Nat} {s : Int} {e M : Nat} {v : Value} {L : List Int} {P : List (Int × Int)} (h : RnAt W B s e M v L P) : M < W.heap.size := h.map.lt
theorem RnAt.plt {W : World} {B : Nat} {s : Int} {e M : Nat} {v : Value} {L : List Int} {P : List (Int × Int)} (h : RnAt W B s e M v L P) {k : Nat} (hk : v.ownBlock = some k) : k < W.heap.size := by
  obtain ⟨cur, hc⟩ := h.row.blk hk
  exact lt_of_block hc
theorem RnAt.fb {F : Nat → Prop} {W W' : World} {B : Nat} {s : Int} {e M : Nat} {v : Value} {L : List Int} {P : List (Int × Int)} (h : RnAt W B s e M v L P) (hb : Fb F W W') (hF : ∀ k, rnF B M v k → ¬ F k) : RnAt W' B s e M v L P :=
  ⟨h.obj.same (hb.block _ h.obj.lt (hF _ (.inl rfl))), h.map.fb hb (hF _ (.inr (.inl rfl))), h.row.same fun b hb2 => hb.block b (h.plt hb2) (hF _ (.inr (.inr hb2))), h.seed, h.each, h.len, h.perm, h.srt⟩
theorem RnAt.below {W W' : World} {B : Nat} {s : Int} {e M : Nat} {v : Value} {L : List Int} {P : List (Int × Int)} (h : RnAt W B s e M v L P) (hb : Below W.heap.size W W') : RnAt W' B s e M v L P :=
  h.fb (F := fun _ => False) (Fb.of hb) fun _ _ hh => hh
theorem RnAt.mb {W : World} {B : Nat} {s : Int} {e M : Nat} {v : Value} {L : List Int} {P : List (Int × Int)} (h : RnAt W B s e M v L P) : B ≠ M := fun e => by
  obtain ⟨es, clock, hm⟩ := h.map.blk
  rw [← e, show W.heap[B]? = _ from h.obj] at hm
  cases hm
theorem RnAt.mp {W : World} {B : Nat} {s : Int} {e M : Nat} {v : Value} {L : List Int} {P : List (Int × Int)} (h : RnAt W B s e M v L P) : v.ownBlock ≠ some M := fun e => by
  obtain ⟨es, clock, hm⟩ := h.map.blk
  obtain ⟨cur, hc⟩ := h.row.blk e
  rw [hm] at hc
  cases hc
/-- Ahead of each other in the sort's words. -/
theorem srtP_srt (P : List (Int × Int)) : (srtP P).Pairwise fun x y => ¬ ptlt y x := by
  have tr : ∀ a b c : Int × Int, (!(ltOf cfZ) b a) = true → (!(ltOf cfZ) c b) = true → (!(ltOf cfZ) c a) = true := fun a b c h1 h2 => by
    simp only [Bool.not_eq_true'] at *
    exact swoPt.ntrans c b a h2 h1
  have tot : ∀ a b : Int × Int, ((!(ltOf cfZ) b a) || (!(ltOf cfZ) a b)) = true := fun a b => by
    simp only [Bool.or_eq_true, Bool.not_eq_true', lt_cf_no]
    unfold ptlt
    omega
  refine (List.pairwise_mergeSort tr tot P).imp fun {a b} h => ?_
  simp only [Bool.not_eq_true', lt_cf_no] at h
  exact h
theorem srtP_perm (P : List (Int × Int)) : (srtP P).Perm P := List.mergeSort_perm P _
theorem rnew_no (s p : Int) (W : World) (hp : p < 1 ∨ 64 < p) : Calls Try.prog 7 #[.int .u64 s, .int .i64 p] W fun r w' => r = .returned (.tuple #[.pointer none, .int .i64 1]) ∧ w' = W := by
  by_cases h1 : p < 1
  · clear hp
    go_enter Try.func7, Try.ntmps7
    go_wp2
    go_ret2
    exact ⟨rfl, rfl⟩
  · have h2 : 64 < p := by omega
    clear hp
    go_enter Try.func7, Try.ntmps7
    go_wp2
    go_ret2
    exact ⟨rfl, rfl⟩
theorem rnew_yes (s : Int) (e : Nat) (W : World) (hs : isU s) (he : 1 ≤ e ∧ e ≤ 64) : Calls Try.prog 7 #[.int .u64 s, .int .i64 e] W fun r w' => r = .returned (.tuple #[.pointer (some ⟨W.heap.size + 1, 0, none⟩), .int .i64 0]) ∧ Hid (RnAt w' (W.heap.size + 1) s e W.heap.size (.slice none 0 0) [] [] ∧ Below W.heap.size W w') := by
  have h1 : ¬ (e : Int) < 1 := by omega
  have h2 : ¬ (64 : Int) < (e : Int) := by omega
  have h3 : e < 65 := by omega
  have h4 : ¬ 64 < e := by omega
  have h5 : ¬ e = 0 := by omega
  have hm := @run_makeMap Try.prog
  have HX : Hid (RnAt ((W.alloc (.map #[] 0)).alloc (.cells #[.int .u64 s, .int .i64 e, .map (some W.heap.size), .slice none 0 0] 58)) (W.heap.size + 1) s e W.heap.size (.slice none 0 0) [] [] ∧ Below W.heap.size W ((W.alloc (.map #[] 0)).alloc (.cells #[.int .u64 s, .int .i64 e, .map (some W.heap.size), .slice none 0 0] 58))) := by
    refine ⟨⟨?_, (SmAt.new W).below ((Below.refl _ _).alloc (Nat.le_refl _) _), PtAt.nil _ _, hs, he, by simp, by simp, List.Pairwise.nil⟩, ((Below.refl _ _).alloc (Nat.le_refl _) _).alloc (by simp) _⟩
    have := heap_alloc_new (W.alloc (.map #[] 0)) (.cells #[.int .u64 s, .int .i64 e, .map (some W.heap.size), .slice none 0 0] 58)
    rwa [World.size_alloc] at this
  go_enter Try.func7, Try.ntmps7
  go_wp2
  go_ret2
  exact ⟨rfl, HX⟩
/-- Add's answer, and the nodes behind it. -/
def radd (L : List Int) (x : Int) : Int × List Int := if x ∈ L then (7, L) else if 64 ≤ L.length then (5, L) else (0, x :: L)
/-- A ring behind a call. -/
def RnO (W : World) (B : Nat) (s : Int) (e M : Nat) (v : Value) (L : List Int) (w' : World) : Prop :=
  ∃ v' P', RnAt w' B s e M v' L P' ∧ Fb (rnF B M v) W w' ∧ ∀ k, v'.ownBlock = some k → v.ownBlock = some k ∨ W.heap.size ≤ k
theorem RnAt.stay {W W' : World} {B : Nat} {s : Int} {e M : Nat} {v : Value} {L : List Int} {P : List (Int × Int)} (h : RnAt W B s e M v L P) (hb : Below W.heap.size W W') : RnO W B s e M v L W' := ⟨v, P, h.below hb, Fb.of hb, fun k hk => .inl hk⟩
set_option maxHeartbeats 4000000 in
theorem add_any {W : World} {B : Nat} {s : Int} {e M : Nat} {v : Value} {L : List Int} {P : List (Int × Int)} (h : RnAt W B s e M v L P) {x : Int} (hx : isU x) :
    Calls Try.prog 14 #[.pointer (some ⟨B, 0, none⟩), .int .u64 x] W fun r w' => r = .returned (.int .i64 (radd L x).1) ∧ Hid (RnO W B s e M v (radd L x).2 w') := by
  have hM := made_yes h.obj.cells.2.1 h.each.1
  have hH := has_any h.obj h.map hx
  obtain ⟨ZA, HZ⟩ : ∃ q, Hid (radd L x = q) := ⟨_, rfl⟩
  rw [HZ.out]
  by_cases hin : x ∈ L
  · obtain rfl : (7, L) = ZA := by rw [← HZ.out]; unfold radd; rw [if_pos hin]
    rw [decide_eq_true hin] at hH
    have HS := hid fun (w' : World) (hb : Below W.heap.size W w') => h.stay hb
    clear h HZ
    go_enter Try.func14, Try.ntmps14
    go_wp2_with fail
    refine hM.mono ?_
    rintro r w1 ⟨rfl, rfl⟩
    go_wp2_with fail
    refine hH.mono ?_
    rintro r w2 ⟨rfl, HB⟩
    go_wp2_with fail
    go_ret
    exact ⟨rfl, HS.out _ HB.out⟩
  · rw [decide_eq_false hin] at hH
    by_cases h64 : 64 ≤ L.length
    · obtain rfl : (5, L) = ZA := by rw [← HZ.out]; unfold radd; rw [if_neg hin, if_pos h64]
      have HS := hid fun (w' : World) (hb : Below W.heap.size W w') => h.stay hb
      have HK := hid fun (w' : World) (hb : Below W.heap.size W w') (ty : TypeId) => And.intro ((h.below hb).obj.cells.2.2.1) ((h.below hb).map.len ty)
      have g1 : (64 : Int) ≤ (L.length : Int) := by omega
      clear h HZ
      go_enter Try.func14, Try.ntmps14
      go_wp2_with fail
      refine hM.mono ?_
      rintro r w1 ⟨rfl, rfl⟩
      go_wp2_with fail
      refine hH.mono ?_
      rintro r w2 ⟨rfl, HB⟩
      have c2 := fun ty => (HK.out _ HB.out ty).1
      have c2' := c2 3
      have hl := fun ty => (HK.out _ HB.out ty).2
      clear c2
      go_wp2_with fail
      go_ret
      exact ⟨rfl, HS.out _ HB.out⟩
    · obtain rfl : (0, x :: L) = ZA := by rw [← HZ.out]; unfold radd; rw [if_neg hin, if_neg h64]
      have HK := hid fun (w' : World) (hb : Below W.heap.size W w') => h.below hb
      have g1 : ¬ (64 : Int) ≤ (L.length : Int) := by omega
      have hl64 : L.length < 64 := by omega
      have H := hid h
      clear h HZ
      go_enter Try.func14, Try.ntmps14
      go_wp2_with fail
      refine hM.mono ?_
      rintro r w1 ⟨rfl, rfl⟩
      go_wp2_with fail
      refine hH.mono ?_
      rintro r w2 ⟨rfl, HB⟩
      have h2 := HK.out _ HB.out
      have c2 := h2.obj.cells.2.2.1
      have hl := fun ty => h2.map.len ty
      obtain ⟨w3, hst, hsm, hfb⟩ := h2.map.store (by omega) hx hin
      have HL := hid (lay_any (h2.obj.same (hfb.block B h2.obj.lt h2.mb)) (h2.row.same fun b hb => hfb.block b (h2.plt hb) fun e => h2.mp (by rw [hb, show b = M from e])) h2.each.2 (by have := h2.pmax; omega) x)
      have HF : Hid (∀ w4, (∃ v', LyI w3 B s e M v (srtP (P ++ ptsOf s e x)) v' w4) → RnO w1 B s e M v (x :: L) w4) := by
        rintro w4 ⟨v', k1, k2, k3, k4⟩
        have hb := HB.out
        refine ⟨v', srtP (P ++ ptsOf s e x), ⟨k1, hsm.fb k3 fun hh => ?_, k2, h2.seed, h2.each, by simp; omega, ?_, srtP_srt _⟩, ?_, fun k hk => ?_⟩
        · rcases hh with hh | hh
          · exact h2.mb hh.symm
          · exact h2.mp hh
        · refine (srtP_perm _).trans ?_
          rw [List.flatMap_cons]
          exact (List.perm_append_comm).trans ((h2.perm).append_left _)
        · refine ((Fb.of (F := rnF B M v) hb).trans hfb fun k hk => .inl (.inr (.inl hk))).trans k3 fun k hk => ?_
          rcases hk with hk | hk
          · exact .inl (.inl hk)
          · exact .inl (.inr (.inr hk))
        · rcases k4 k hk with h | h
          · exact .inl h
          · exact .inr (by have := hb.size; have := hfb.size; omega)
      clear h2 hsm hfb
      go_wp2_with fail
      refine HL.out.mono ?_
      rintro r w4 ⟨rfl, H4⟩
      have HE := hid (HF.out _ H4.out)
      clear HL HF H4
      go_wp2_with fail
      go_ret
      exact ⟨rfl, HE⟩
set_option maxHeartbeats 2000000 in
theorem nodes_any {W : World} {B : Nat} {s : Int} {e M : Nat} {v : Value} {L : List Int} {P : List (Int × Int)} (h : RnAt W B s e M v L P) :
    Calls Try.prog 19 #[.pointer (some ⟨B, 0, none⟩)] W fun r w' => ∃ u : Value, r = .returned u ∧ Hid (w'.ownsRow W.heap.size 22 1 u L.length ((risL L).map (Value.int .u64)) ∧ Below W.heap.size W w') := by
  have hM := made_yes h.obj.cells.2.1 h.each.1
  have c2 := h.obj.cells.2.2.1
  have hb : Below W.heap.size W (W.alloc (.cells #[.map (some M)] 55)) := (Below.refl _ _).alloc (Nat.le_refl _) _
  have hS := usorted W.heap.size M L (by have := h.len; omega) (W.alloc (.cells #[.map (some M)] 55)) (by simp) (by rw [cell_of_row _ _ _ _ _ _ (heap_alloc_new W _)]; rfl) (h.map.below hb)
  have HF : Hid (∀ (u : Value) (w' : World), w'.ownsRow (W.alloc (.cells #[.map (some M)] 55)).heap.size 22 1 u L.length ((risL L).map (Value.int .u64)) ∧ Below (W.alloc (.cells #[.map (some M)] 55)).heap.size (W.alloc (.cells #[.map (some M)] 55)) w' → w'.ownsRow W.heap.size 22 1 u L.length ((risL L).map (Value.int .u64)) ∧ Below W.heap.size W w') := by
    rintro u w' ⟨h1, h2⟩
    refine ⟨⟨h1.1, h1.2.imp id ?_⟩, hb.trans (h2.mono hb.size)⟩
    rintro ⟨g, cap, cur, q1, q2, q3⟩
    exact ⟨g, cap, cur, q1, by simp at q2; omega, q3⟩
  clear h hb
  go_enter Try.func19, Try.ntmps19
  go_wp2_with fail
  refine hM.mono ?_
  rintro r w1 ⟨rfl, rfl⟩
  go_wp2_with (first | (go_at_call 31; refine hS.mono ?_; rintro r w2 ⟨u, rfl, H2⟩) | go_in)
  go_ret
  exact ⟨u, rfl, HF.out _ _ H2.out⟩
end Go.Proofs.Ytaiojhigomdocaa
