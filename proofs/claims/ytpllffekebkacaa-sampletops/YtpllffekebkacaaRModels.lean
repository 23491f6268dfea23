/-
  Contracts of the document's model: row, Token, Place, Rows.
-/
import Derived.Test.YtpllffekebkacaaRowsI
namespace Go.Proofs.Ytpllffekebkacaa
open Go.RowKit
set_option linter.unusedVariables false
set_option maxRecDepth 1000000

/-- The call hands back a row of its own. -/
def GivesO (w : World) (n : Nat) (xs : List Int) (e : Ending) (w' : World) : Prop := ∃ v, e = .returned v ∧ w'.ownsRow w.heap.size 2 1 v n (xs.map (Value.int .i64)) ∧ Below w.heap.size w w'
theorem GivesO.gives {w w' : World} {n : Nat} {xs : List Int} {e : Ending} (h : GivesO w n xs e w') : Gives w n xs e w' := by
  obtain ⟨v, rfl, h1, h2⟩ := h
  exact gives_own h1 h2
theorem own_base {base base' e size n : Nat} {v : Value} {xs : List Value} {w : World} (h : w.ownsRow base e size v n xs) (hb : base' ≤ base) : w.ownsRow base' e size v n xs := by
  refine ⟨h.1, ?_⟩
  rcases h.2 with h' | ⟨g', c, cur, hv, hB, rest⟩
  · exact .inl h'
  · exact .inr ⟨g', c, cur, hv, Nat.le_trans hb hB, rest⟩

set_option maxHeartbeats 1000000 in
theorem rrow_any (s v l tt h t r : Int) (D : Nat) (w : World) (t0 : 0 ≤ t) (t1 : t ≤ 1000) (r0 : 0 ≤ r) (r1 : r ≤ 1000) (hD : D ≤ 16) :
    Calls Try.prog 73 #[.agg (CfV ⟨s, v, D, l, tt, h⟩), .int .i64 t, .int .i64 r] w fun e w' => GivesO w D (rowK (fun k => weightZ s t r k) D) e w' := by
  obtain ⟨i0, hi, hz0, hz1, hz2⟩ := info_parts Try.info2
  obtain ⟨f, hf⟩ : ∃ f : Nat → Int, f = fun (k : Nat) => weightZ s t r k := ⟨_, rfl⟩
  rw [← hf]
  have HC : Hid (∀ (k : Nat) (W : World), k < D → Calls Try.prog 88 #[.int .u64 s, .int .i64 t, .int .i64 r, .int .i64 k] W fun e w' => e = .returned (.int .i64 (f k)) ∧ Below W.heap.size W w') := by
    intro k W hk
    rw [hf]
    exact rweight_any s t r k W t0 t1 r0 r1 (by omega) (by omega)
  have HK := hid fun (W : World) (hb : Below (w.heap.size + 1) (w.alloc (.cells (CfV ⟨s, v, D, l, tt, h⟩) 32)) W) => Cf_cells ((hb.block w.heap.size (by omega)).trans (heap_alloc_new w _))
  have HB0 : Hid (∀ W, Below (w.heap.size + 1) (w.alloc (.cells (CfV ⟨s, v, D, l, tt, h⟩) 32)) W → w.heap.size + 1 ≤ W.heap.size ∧ Below w.heap.size w W) := fun W hb =>
    ⟨by have := hb.size; simpa using this, ((Below.refl _ _).alloc (Nat.le_refl _) _).trans (hb.mono (by omega))⟩
  clear hf
  unfold CfV at HK HB0 ⊢
  simp only at HK HB0 ⊢
  go_enter Try.func73, Try.ntmps73
  go_wp2_with fail
  go_loopw [7, 8] (fun u i W => ∃ k : Nat, k ≤ D ∧ i = .int .i64 k ∧ Hid (W.ownsRow (w.heap.size + 1) 2 1 u k ((rowK f k).map (Value.int .i64))) ∧ Hid (Below (w.heap.size + 1) (w.alloc (.cells #[.int .u64 s, .int .i64 v, .int .i64 D, .int .i64 l, .int .i64 tt, .int .i64 h] 32)) W)) (fun _ i _ => D - (intOf i).toNat)
  case atStart => exact ⟨0, Nat.zero_le _, rfl, World.ownsRow_nil _ _ _ _, Below.refl _ _⟩
  case round =>
    obtain ⟨k, hk, rfl, HO, HW⟩ := hrel
    obtain ⟨c0, c1, c2, c3, c4, c5⟩ := HK.out wr HW.out
    by_cases hlt : k < D
    · have hC := HC.out k wr hlt
      have q1 : (k : Int) < (D : Int) := by omega
      have HE := hid (rowK_snoc f k)
      clear HC HK
      generalize f k = x at *
      generalize rowK f k = us at *
      go_wp2_with fail
      refine hC.mono ?_
      rintro e w2 ⟨rfl, hb2⟩
      have HO2 := hid (own_below HO.out hb2)
      have HW2 := hid (HW.out.trans (hb2.mono (HB0.out _ HW.out).1))
      have HS : Hid (w.heap.size + 1 ≤ w2.heap.size) := (HB0.out _ HW2.out).1
      clear hb2 hC c0 c1 c2 c3 c4 c5 HO HW
      go_wp2_with (at_builtin; refine append_any _ rfl (.tmp 15) (.tmp 22) 22 rfl (w.heap.size + 1) 2 i0 (.int .i64 0) 8 Try.underlying22 hi hz0 hz1 hz2 rfl .i64 _ k us rfl (HO2.out.alloc _) _ 1 1 [x] rfl (Reads.one _ _ _) (by omega) (by omega) (Nat.le_trans HS.out (by simp)) ?_; intro v' w3 hO3 hb3)
      have HB3 := hid ((HW2.out.alloc HS.out _).trans hb3)
      have HO3 : Hid (w3.ownsRow (w.heap.size + 1) 2 1 v' (k + 1) ((rowK f (k + 1)).map (Value.int .i64))) := by rw [← HE.out]; exact hO3
      clear hO3 hb3 HE HO2 HW2 HS
      go_wp2_with fail
      go_round
      case rel => exact ⟨k + 1, by omega, by go_num, HO3, HB3⟩
      case measure => simp [intOf]; omega
    · obtain rfl : k = D := by omega
      clear HC HK
      go_wp2
      go_ret
      exact ⟨_, rfl, own_base HO.out (by omega), (HB0.out _ HW.out).2⟩

theorem rtoken_no (c : Cf) (t : Int) (w : World) (hb : t < 0 ∨ c.vocab ≤ t) :
    Calls Try.prog 41 #[.agg (CfV c), .int .i64 t] w fun e w' => e = .returned (.slice none 0 0) ∧ Below w.heap.size w w' := by
  obtain ⟨s, v, d, l, tt, h⟩ := c
  unfold CfV
  simp only at hb ⊢
  have HB : Hid (Below w.heap.size w (w.alloc (.cells #[.int .u64 s, .int .i64 v, .int .i64 d, .int .i64 l, .int .i64 tt, .int .i64 h] 32))) := (Below.refl _ _).alloc (Nat.le_refl _) _
  by_cases h1 : t < 0
  · clear hb
    go_enter Try.func41, Try.ntmps41
    go_wp2
    go_ret
    exact ⟨rfl, HB.out⟩
  · have h2 : v ≤ t := by omega
    clear hb
    go_enter Try.func41, Try.ntmps41
    go_wp2
    go_ret
    exact ⟨rfl, HB.out⟩
theorem rtoken_yes (s v l tt h t : Int) (D : Nat) (w : World) (t0 : 0 ≤ t) (t1 : t < v) (v1 : v ≤ 64) (hD : D ≤ 16) :
    Calls Try.prog 41 #[.agg (CfV ⟨s, v, D, l, tt, h⟩), .int .i64 t] w fun e w' => GivesO w D (rowK (fun k => weightZ s 0 t k) D) e w' := by
  have hC := rrow_any s v l tt h 0 t D (w.alloc (.cells (CfV ⟨s, v, D, l, tt, h⟩) 32)) (by omega) (by omega) t0 (by omega) hD
  have HB : Hid (Below w.heap.size w (w.alloc (.cells (CfV ⟨s, v, D, l, tt, h⟩) 32))) := (Below.refl _ _).alloc (Nat.le_refl _) _
  generalize rowK (fun k => weightZ s 0 t k) D = row at *
  unfold CfV at *
  simp only at hC HB ⊢
  go_enter Try.func41, Try.ntmps41
  go_wp2_with fail
  refine hC.mono ?_
  rintro e w1 ⟨v', rfl, hO, hb⟩
  have HO := hid (own_base hO HB.out.size)
  have HB1 := hid (HB.out.trans (hb.mono HB.out.size))
  clear hO hb hC HB
  go_wp2
  go_ret
  exact ⟨_, rfl, HO.out, HB1.out⟩
theorem ownK_of {base n : Nat} {v : Value} {xs : List Int} {w : World} (h : w.ownsRow base 2 1 v n (xs.map (Value.int .i64))) (hn : 1 ≤ n) : ∃ g c, v = .slice (some ⟨g, 0, none⟩) n c ∧ OwnK 2 base g n c xs w := by
  rcases id h.2 with ⟨rfl, rfl⟩ | ⟨g, cap, cur, rfl, rest⟩
  · omega
  · exact ⟨g, cap, rfl, h⟩
end Go.Proofs.Ytpllffekebkacaa
