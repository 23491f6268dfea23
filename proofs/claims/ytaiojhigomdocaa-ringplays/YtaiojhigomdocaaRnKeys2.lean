/-
  slices.Sort at uint64 whole; slices.Sorted(maps.Keys(m)): a new row, the numbers rising.
-/
import Derived.Test.YtaiojhigomdocaaRnKeys
namespace Go.Proofs.Ytaiojhigomdocaa
open Go.RowKit Go.Maps Go.Shelf
set_option linter.unusedVariables false
set_option maxRecDepth 1000000

theorem ulen (n : Nat) (hn : n ≤ 100000) (W : World) : Calls Try.prog 54 #[.int .u64 n] W fun e w' => e = .returned (.int .i64 (Sort.bitsLen n : Nat)) ∧ w' = W := by
  have h := Any.bits_Len Try.bitsLen (n : Int) W (by omega) (by omega)
  rw [Int.toNat_natCast, bitLen_eq _ (by omega)] at h
  exact h
theorem usort {b N cap : Nat} {d : Array Int} {w W : World} (h : So w b N d W) (hc : N ≤ cap) (hm : N ≤ 100000) :
    Calls Try.prog 45 #[.slice (some ⟨b, 0, none⟩) N cap] W fun e w' => e = .returned (.tuple #[]) ∧ Hid (So w b N (Sort.sort Sort.ltInt d) w') := by
  obtain ⟨l, Hl⟩ : ∃ l, Hid (Sort.bitsLen N = l) := ⟨_, rfl⟩
  have hl : l ≤ 1000 := by
    rw [← Hl.out]
    exact Nat.le_trans ((Sort.bitsLen_le_iff N 64).2 (by omega)) (by omega)
  have hL := fun W : World => ulen N (by omega) W
  rw [Hl.out] at hL
  have HP := hid fun (W : World) (h : So w b N d W) => updq hc hm N 0 N l d W (by omega) (by omega) (Nat.le_refl _) hl h
  have HE : Hid (Sort.pdq Sort.ltInt d 0 N l true true = Sort.sort Sort.ltInt d) := by
    unfold Hid Sort.sort
    rw [h.1, Hl.out]
  have hwu : IntKind.u64.wrap (N : Int) = (N : Int) := by rw [IntKind.wrap_u64]; omega
  have HS := hid h
  clear h
  go_enter Try.func45, Try.ntmps45
  go_wp2_with fail
  refine (hL _).mono ?_
  rintro e w1 ⟨rfl, rfl⟩
  have hp := HP.out _ HS.out
  clear HP HS hL
  go_wp2_with fail
  refine hp.mono ?_
  rintro e w2 ⟨rfl, H2⟩
  clear hp
  rw [HE.out] at H2
  go_wp2_with fail
  go_end0
  exact ⟨rfl, H2⟩
theorem uins_nil (W : World) : Calls Try.prog 70 #[.slice none 0 0, .int .i64 0, .int .i64 0] W fun e w' => e = .returned (.tuple #[]) ∧ w' = W := by
  go_enter Try.func70, Try.ntmps70
  go_wp2_with fail
  go_loopw [6] (fun i W' => i = .int .i64 1 ∧ W' = W) (fun _ _ => 0)
  case atStart => exact ⟨rfl, rfl⟩
  case round =>
  obtain ⟨rfl, rfl⟩ := hrel
  go_wp2
  go_end0
  exact ⟨rfl, rfl⟩
theorem updq_nil (l : Nat) (W : World) : Calls Try.prog 58 #[.slice none 0 0, .int .i64 0, .int .i64 0, .int .i64 l] W fun e w' => e = .returned (.tuple #[]) ∧ w' = W := by
  have hI := uins_nil W
  go_enter Try.func58, Try.ntmps58
  go_wp2_with fail
  go_loopw [1, 2, 3, 8, 9] (fun s1 s2 s3 s8 s9 W' => s1 = .int .i64 0 ∧ s2 = .int .i64 0 ∧ s3 = .int .i64 l ∧ s8 = .bool true ∧ s9 = .bool true ∧ W' = W) (fun _ _ _ _ _ _ => 0)
  case atStart => exact ⟨rfl, rfl, rfl, rfl, rfl, rfl⟩
  case round =>
  obtain ⟨rfl, rfl, rfl, rfl, rfl, rfl⟩ := hrel
  go_wp2_with fail
  refine hI.mono ?_
  rintro e w1 ⟨rfl, rfl⟩
  go_wp2_with fail
  (try simp only [Exit.inBlock, Exit.then])
  refine bodyPost_ret (results_none rfl _ _ _) rfl ?_
  exact ⟨rfl, rfl⟩
theorem usort_nil (W : World) : Calls Try.prog 45 #[.slice none 0 0] W fun e w' => e = .returned (.tuple #[]) ∧ w' = W := by
  have hL := ulen 0 (by omega) W
  have hP := updq_nil (Sort.bitsLen 0) W
  generalize Sort.bitsLen 0 = l at *
  go_enter Try.func45, Try.ntmps45
  go_wp2_with fail
  refine hL.mono ?_
  rintro e w1 ⟨rfl, rfl⟩
  go_wp2_with fail
  refine hP.mono ?_
  rintro e w2 ⟨rfl, rfl⟩
  go_wp2_with fail
  go_end0
  exact ⟨rfl, rfl⟩
/-- Numbers, rising. -/
def risL (L : List Int) : List Int := L.mergeSort fun x y => decide (x ≤ y)
theorem risL_of {L ss : List Int} (h : ss.Perm L) : (Sort.sort Sort.ltInt ss.toArray).toList = risL L := by
  rw [Sort.sortInt ss]
  unfold risL
  have tr : ∀ a b c : Int, decide (a ≤ b) = true → decide (b ≤ c) = true → decide (a ≤ c) = true := fun a b c h1 h2 => by simp only [decide_eq_true_eq] at *; omega
  have tot : ∀ a b : Int, (decide (a ≤ b) || decide (b ≤ a)) = true := fun a b => by simp only [Bool.or_eq_true, decide_eq_true_eq]; omega
  refine List.Perm.eq_of_pairwise (le := fun a b => decide (a ≤ b) = true) (fun a b _ _ h1 h2 => ?_) (List.pairwise_mergeSort tr tot _) (List.pairwise_mergeSort tr tot _) (((List.mergeSort_perm ss _).trans h).trans (List.mergeSort_perm L _).symm)
  simp only [decide_eq_true_eq] at h1 h2
  omega
theorem Ra.of_row {W : World} {g : Nat} {cur : Array Value} {ss : List Int} (hb : W.heap[g]? = some (.cells cur 22 (0, 0))) (ht : cur.toList.take ss.length = ss.map (Value.int .u64)) : Ra W g ss.toArray := by
  refine ⟨cur, hb, fun i hi => ?_⟩
  have hi' : i < ss.length := by simpa using hi
  have h1 : (cur.toList.take ss.length)[i]? = (ss.map (Value.int .u64))[i]? := by rw [ht]
  rw [List.getElem?_take_of_lt hi', Array.getElem?_toList] at h1
  rw [h1]
  simp [hi']
theorem Ra.to_row {W : World} {g : Nat} {cur : Array Value} {d : Array Int} (h : Ra W g d) (hb : W.heap[g]? = some (.cells cur 22 (0, 0))) : cur.toList.take d.size = d.toList.map (Value.int .u64) := by
  obtain ⟨cur', h1, h2⟩ := h
  rw [hb] at h1
  cases h1
  apply List.ext_getElem?
  intro j
  by_cases hj : j < d.size
  · rw [List.getElem?_take_of_lt hj, Array.getElem?_toList, h2 j hj]
    simp [hj]
  · rw [List.getElem?_take_eq_none (by omega), List.getElem?_eq_none (by simp; omega)]
set_option maxHeartbeats 2000000 in
theorem ucoll (Bm b : Nat) (L : List Int) (hlen : L.length ≤ 100000) (w : World) (hBm : Bm < w.heap.size) (hm : w.cell? ⟨Bm, 0, none⟩ = some (.map (some b))) (hS : SmAt w b L) :
    Calls Try.prog 44 #[.func (.func 46) #[] #[.pointer (some ⟨Bm, 0, none⟩)]] w fun e W' => ∃ (v : Value) (ss : List Int), e = .returned v ∧ Hid (ss.Perm L ∧ W'.ownsRow w.heap.size 22 1 v ss.length (ss.map (Value.int .u64)) ∧ (v = .slice none 0 0 ↔ ss = []) ∧ Below w.heap.size w W') := by
  have cS := (callsIn_wide (n := 6)).1 (uappseq Fence.wide 6 trivial trivial rfl (by omega) Bm b L hlen w hBm hm hS)
  clear hm hS
  go_enter Try.func44, Try.ntmps44
  go_wp2_with fail
  refine cS.mono ?_
  rintro e w' ⟨v, ss, rfl, h1, h2, h3, h4⟩
  have H := hid (And.intro h1 (And.intro h2 (And.intro h3 h4)))
  clear cS h1 h2 h3 h4
  go_wp2
  go_ret
  exact ⟨v, ss, rfl, H⟩
set_option maxHeartbeats 2000000 in
/-- slices.Sorted(maps.Keys(m)): capacities: an append never doubles beyond what the law says. -/
theorem usorted (Bm b : Nat) (L : List Int) (hlen : L.length ≤ 1000) (w : World) (hBm : Bm < w.heap.size) (hm : w.cell? ⟨Bm, 0, none⟩ = some (.map (some b))) (hS : SmAt w b L) :
    Calls Try.prog 31 #[.func (.func 46) #[] #[.pointer (some ⟨Bm, 0, none⟩)]] w fun e W' => ∃ v : Value, e = .returned v ∧ Hid (W'.ownsRow w.heap.size 22 1 v L.length ((risL L).map (Value.int .u64)) ∧ Below w.heap.size w W') := by
  have cC := ucoll Bm b L (by omega) w hBm hm hS
  clear hm hS
  go_enter Try.func31, Try.ntmps31
  go_wp2_with fail
  refine cC.mono ?_
  rintro e w1 ⟨v, ss, rfl, HC⟩
  obtain ⟨hp, hrow, hnil, hb⟩ := HC.out
  clear cC HC
  rcases id hrow.2 with ⟨hv, h0⟩ | ⟨g, cap, cur, hv, hB, hg, h1, h2, h3, h4⟩
  · subst hv
    obtain rfl : ss = [] := hnil.1 rfl
    obtain rfl : L = [] := by simpa using hp.symm.eq_nil
    have hI := usort_nil w1
    have HB := hid hb
    clear hrow hb hp hnil
    go_wp2_with fail
    refine hI.mono ?_
    rintro e w2 ⟨rfl, rfl⟩
    go_wp2_with fail
    go_ret
    exact ⟨.slice none 0 0, rfl, by simpa [risL] using World.ownsRow_nil w2 w.heap.size 22 1, HB.out⟩
  · subst hv
    have HL := hid hp.length_eq
    have hS0 : So w1 g ss.length ss.toArray w1 := by
      have := So.start (Ra.of_row hg (by simpa using h4))
      simpa using this
    have hI := usort hS0 h1 (by have := HL.out; omega)
    have HX : Hid (∀ w2, So w1 g ss.length (Sort.sort Sort.ltInt ss.toArray) w2 → w2.ownsRow w.heap.size 22 1 (.slice (some ⟨g, 0, none⟩) ss.length cap) L.length ((risL L).map (Value.int .u64)) ∧ Below w.heap.size w w2) := by
      intro w2 h
      have hl := HL.out
      have hsz : (Sort.sort Sort.ltInt ss.toArray).size = ss.length := h.1
      obtain ⟨cur2, hg2, _⟩ := id h.2.1
      have ht := h.2.1.to_row hg2
      rw [risL_of hp, hsz] at ht
      refine ⟨⟨by rw [List.length_map, ← risL_of hp, Array.length_toList, hsz]; omega, .inr ⟨g, cap, cur2, by rw [hl], hB, hg2, by omega, h2, by rw [h.2.2.2 cur2 cur hg2 hg]; exact h3, by rw [Nat.mul_one, ← hl]; exact ht⟩⟩, hb.trans (h.2.2.1.to (fun x hx => by rw [show x = g from hx]; exact hB) hb.size)⟩
    clear hrow hb hp hnil hS0 hg h3 h4 HL
    go_wp2_with fail
    refine hI.mono ?_
    rintro e w2 ⟨rfl, H2⟩
    clear hI
    go_wp2_with fail
    go_ret
    exact ⟨.slice (some ⟨g, 0, none⟩) ss.length cap, rfl, HX.out _ H2.out⟩
end Go.Proofs.Ytaiojhigomdocaa
