/-
  Contracts: rand.shuffle (with the method that it is handed) and rand.Perm: permL, in memory of the call's own.
-/
import Derived.Test.YtfnbkmhhiflkjaaPerms
namespace Go.Proofs.Ytfnbkmhhiflkjaa
open Go.RowKit
set_option linter.unusedVariables false
set_option maxRecDepth 1000000

theorem change_int (base g m cap : Nat) (i j : Int) (xs : List Int) (w : World) (h : OwnI base g m cap xs w) (i0 : 0 ≤ i) (hi : i < m) (j0 : 0 ≤ j) (hj : j < m) (hm : m ≤ 4096) :
    Calls Try.prog 28 #[.slice (some ⟨g, 0, none⟩) m cap, .int .i64 i, .int .i64 j] w fun e w' => e = .returned (.tuple #[]) ∧ OwnI base g m cap (swapL xs i.toNat j.toNat) w' ∧ Below base w w' := by
  obtain ⟨I, rfl⟩ := Int.eq_ofNat_of_zero_le i0
  obtain ⟨J, rfl⟩ := Int.eq_ofNat_of_zero_le j0
  exact change_any base g m cap I J xs w h (by omega) (by omega) hm
theorem fin_step (s : Int) {c : Int} (h : 0 < c) (xs : List Int) : finL s c.toNat xs = finL s (c - 1).toNat (swapL xs c.toNat (belowZ s c (c + 1)).toNat) := by
  obtain ⟨k, rfl⟩ : ∃ k : Nat, c = ((k + 1 : Nat) : Int) := ⟨(c - 1).toNat, by omega⟩
  rw [show (((k + 1 : Nat) : Int)).toNat = k + 1 by omega, show (((k + 1 : Nat) : Int) - 1).toNat = k by omega]
  rfl

set_option maxHeartbeats 1000000 in
theorem shuffle_any (s : Int) (base g m cap : Nat) (xs : List Int) (w : World) (h : OwnI base g m cap xs w) (hm : m ≤ 4096) :
    Calls Try.prog 27 #[.int .u64 s, .slice (some ⟨g, 0, none⟩) m cap, .func (.func 28) #[] #[]] w fun e w' => e = .returned (.tuple #[]) ∧ OwnI base g m cap (finL s (m - 1) xs) w' ∧ Below base w w' := by
  have HO := hid h
  clear h
  go_enter Try.func27, Try.ntmps27
  go_wp2_with fail
  go_loopw [6] (fun i wr => ∃ (c : Int) (ys : List Int), -1 ≤ c ∧ c < m ∧ i = .int .i64 c ∧ Hid (OwnI base g m cap ys wr) ∧ Hid (Below base w wr) ∧ Hid (finL s c.toNat ys = finL s (m - 1) xs)) (fun i _ => (intOf i).toNat)
  case atStart => exact ⟨(m : Int) - 1, xs, by omega, by omega, by go_num, HO, Below.refl _ _, by unfold Hid; congr 1; omega⟩
  case round =>
    obtain ⟨c, ys, c0, c1, rfl, HY, HW, HF⟩ := hrel
    clear HO
    by_cases hlt : 0 < c
    · have hB := below_any s c (c + 1) wr (by omega) (by omega)
      obtain ⟨b0, b1⟩ := below_bd s c (m := c + 1) (by omega)
      have HS := hid ((fin_step s hlt ys).symm.trans HF.out)
      generalize belowZ s c (c + 1) = b at *
      have hC := change_int base g m cap c b ys wr HY.out (by omega) (by omega) (by omega) (by omega) hm
      go_wp2_with fail
      refine hB.mono ?_
      rintro e w' ⟨rfl, rfl⟩
      go_wp2_with fail
      refine hC.mono ?_
      rintro e w2 ⟨rfl, h2, hb2⟩
      have H2 := hid h2
      have HB2 := hid (HW.out.trans hb2)
      clear h2 hb2 hB hC
      go_wp2_with fail
      go_round
      case rel => exact ⟨c - 1, _, by omega, by omega, by go_num, H2, HB2, HS⟩
      case measure => simp [intOf]; omega
    · have HE : Hid (OwnI base g m cap (finL s (m - 1) xs) wr) := by
        unfold Hid
        rw [← HF.out, show c.toNat = 0 by omega]
        exact HY.out
      go_wp2
      go_end0
      exact ⟨rfl, HE.out, HW.out⟩

/-- What n as a number of places is. -/
def Places (n : Int) (m : Nat) : Prop := (n ≤ 0 ∧ m = 0) ∨ (0 < n ∧ n < 4096 ∧ n = m) ∨ (4096 ≤ n ∧ m = 4096)
theorem places_any (n : Int) : ∃ m, Places n m ∧ m ≤ 4096 := by
  rcases (by omega : n ≤ 0 ∨ (0 < n ∧ n < 4096) ∨ 4096 ≤ n) with h | h | h
  · exact ⟨0, .inl ⟨h, rfl⟩, by omega⟩
  · exact ⟨n.toNat, .inr (.inl ⟨h.1, h.2, by omega⟩), by omega⟩
  · exact ⟨4096, .inr (.inr ⟨h, rfl⟩), by omega⟩
theorem perm_rest (s : Int) (m : Nat) (w w' : World) (h : OwnI w.heap.size w.heap.size m m (idxL m) w') (hb : Below w.heap.size w w') (hm : m ≤ 4096) :
    Calls Try.prog 27 #[.int .u64 s, .slice (some ⟨w.heap.size, 0, none⟩) m m, .func (.func 28) #[] #[]] w' fun e w2 => e = .returned (.tuple #[]) ∧ OwnI w.heap.size w.heap.size m m (permL s m) w2 ∧ Below w.heap.size w w2 :=
  (shuffle_any s _ _ m m _ w' h hm).mono fun e w2 ⟨h1, h2, h3⟩ => ⟨h1, h2, hb.trans h3⟩
theorem perm_any (s n : Int) (m : Nat) (w : World) (hp : Places n m) :
    Calls Try.prog 18 #[.int .u64 s, .int .i64 n] w fun e w' => e = .returned (.slice (some ⟨w.heap.size, 0, none⟩) m m) ∧ OwnI w.heap.size w.heap.size m m (permL s m) w' ∧ Below w.heap.size w w' := by
  rcases hp with ⟨h, rfl⟩ | ⟨h, h1, rfl⟩ | ⟨h, rfl⟩
  · have hI := inorder_zero n w h
    go_enter Try.func18, Try.ntmps18
    go_wp2_with fail
    refine hI.mono ?_
    rintro e w' ⟨rfl, h2, hb⟩
    have hP := perm_rest s _ w w' h2 hb (by omega)
    clear h2 hb hI
    go_wp2_with fail
    refine hP.mono ?_
    rintro e w2 ⟨rfl, h2, hb⟩
    have H2 := hid h2
    have HB := hid hb
    clear h2 hb hP
    go_wp2
    go_ret
    exact ⟨rfl, H2.out, HB.out⟩
  · have hI := inorder_pos m w (by omega) (by omega)
    go_enter Try.func18, Try.ntmps18
    go_wp2_with fail
    refine hI.mono ?_
    rintro e w' ⟨rfl, h2, hb⟩
    have hP := perm_rest s _ w w' h2 hb (by omega)
    clear h2 hb hI
    go_wp2_with fail
    refine hP.mono ?_
    rintro e w2 ⟨rfl, h2, hb⟩
    have H2 := hid h2
    have HB := hid hb
    clear h2 hb hP
    go_wp2
    go_ret
    exact ⟨rfl, H2.out, HB.out⟩
  · have hI : Calls Try.prog 26 #[.int .i64 4096] w fun e w' => e = .returned (.slice (some ⟨w.heap.size, 0, none⟩) 4096 4096) ∧ OwnI w.heap.size w.heap.size 4096 4096 (idxL 4096) w' ∧ Below w.heap.size w w' := inorder_pos 4096 w (by omega) (by omega)
    rcases (by omega : 4096 < n ∨ n = 4096) with h' | rfl
    · clear h
      go_enter Try.func18, Try.ntmps18
      go_wp2_with fail
      refine hI.mono ?_
      rintro e w' ⟨rfl, h2, hb⟩
      have hP := perm_rest s _ w w' h2 hb (by omega)
      clear h2 hb hI
      go_wp2_with fail
      refine hP.mono ?_
      rintro e w2 ⟨rfl, h2, hb⟩
      have H2 := hid h2
      have HB := hid hb
      clear h2 hb hP
      go_wp2
      go_ret
      exact ⟨rfl, H2.out, HB.out⟩
    · clear h
      go_enter Try.func18, Try.ntmps18
      go_wp2_with fail
      refine hI.mono ?_
      rintro e w' ⟨rfl, h2, hb⟩
      have hP := perm_rest s _ w w' h2 hb (by omega)
      clear h2 hb hI
      go_wp2_with fail
      refine hP.mono ?_
      rintro e w2 ⟨rfl, h2, hb⟩
      have H2 := hid h2
      have HB := hid hb
      clear h2 hb hP
      go_wp2
      go_ret
      exact ⟨rfl, H2.out, HB.out⟩
end Go.Proofs.Ytfnbkmhhiflkjaa
