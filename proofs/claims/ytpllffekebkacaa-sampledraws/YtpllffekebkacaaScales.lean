/-
  Contracts: Scale, Relu, and what stands on madeOf alone.
-/
import Derived.Test.YtpllffekebkacaaMades
namespace Go.Proofs.Ytpllffekebkacaa
open Go.RowKit
set_option linter.unusedVariables false
set_option maxRecDepth 1000000

theorem norm1_any (n b : Int) (B : Nat) (w : World) (hB : w.heap[B]? = some (.cells #[.int .i64 b] 2 (0, 0))) :
    Calls Try.prog 65 #[.int .i64 n, .pointer (some ⟨B, 0, none⟩)] w fun e w' => e = .returned (.int .i64 (divZ n b)) ∧ w' = w := by
  have cs := cell_of_one hB
  clear hB
  go_enter Try.func65, Try.ntmps65
  go_wp2_with fail
  refine (div_any _ _ _).mono ?_
  rintro e w' ⟨rfl, rfl⟩
  go_wp2
  go_ret
  exact ⟨rfl, rfl⟩
theorem soft3_any (n b : Int) (B : Nat) (w : World) (hB : w.heap[B]? = some (.cells #[.int .i64 b] 2 (0, 0))) :
    Calls Try.prog 81 #[.int .i64 n, .pointer (some ⟨B, 0, none⟩)] w fun e w' => e = .returned (.int .i64 (divZ n b)) ∧ w' = w := by
  have cs := cell_of_one hB
  clear hB
  go_enter Try.func81, Try.ntmps81
  go_wp2_with fail
  refine (div_any _ _ _).mono ?_
  rintro e w' ⟨rfl, rfl⟩
  go_wp2
  go_ret
  exact ⟨rfl, rfl⟩
theorem soft1_any (n b : Int) (b0 : -2147483648 ≤ b) (b1 : b ≤ 2147483647) (B : Nat) (w : World) (hB : w.heap[B]? = some (.cells #[.int .i64 b] 2 (0, 0))) :
    Calls Try.prog 78 #[.int .i64 n, .pointer (some ⟨B, 0, none⟩)] w fun e w' => e = .returned (.int .i64 (expZ (addZ n (-b)))) ∧ w' = w := by
  have cs := cell_of_one hB
  clear hB
  go_enter Try.func78, Try.ntmps78
  go_wp2_with fail
  refine (add_any _ _ _).mono ?_
  rintro e w' ⟨rfl, rfl⟩
  go_wp2_with fail
  refine (exp_any _ _).mono ?_
  rintro e w' ⟨rfl, rfl⟩
  go_wp2
  go_ret
  exact ⟨rfl, rfl⟩
theorem soft2_any (k : Nat) (p s : Int) (B : Nat) (w : World) (hB : w.heap[B]? = some (.cells #[.int .i64 s] 2 (0, 0))) :
    Calls Try.prog 80 #[.int .i64 k, .int .i64 p, .pointer (some ⟨B, 0, none⟩)] w fun e w' => e = .returned (.tuple #[]) ∧ w'.heap[B]? = some (.cells #[.int .i64 (addZ s p)] 2 (0, 0)) ∧ But [B] w w' := by
  have cs := cell_of_one hB
  have fs := free_of_one hB
  have HO := hid (one_setCell (u := .int .i64 (addZ s p)) hB)
  clear hB
  go_enter Try.func80, Try.ntmps80
  go_wp2_with fail
  refine (add_any _ _ _).mono ?_
  rintro e w' ⟨rfl, rfl⟩
  go_wp2
  go_end0
  exact ⟨rfl, HO.out, ((But.refl _ _).set (p := ⟨B, 0, none⟩) (List.mem_singleton.2 rfl) _)⟩

/-- The greatest of the first k, within the bounds; 0 of none. -/
def greatK (zs : List Int) : Nat → Int
  | 0 => 0
  | k + 1 => if k = 0 ∨ greatK zs k < wi (zs[k]?.getD 0) then wi (zs[k]?.getD 0) else greatK zs k
theorem greatK_bd (zs : List Int) (k : Nat) : -2147483648 ≤ greatK zs k ∧ greatK zs k ≤ 2147483647 := by
  induction k with
  | zero => simp [greatK]
  | succ k ih => unfold greatK; split; exact ⟨wi_0 _, wi_1 _⟩; exact ih
theorem great1_any (k : Nat) (n s : Int) (hk : k ≤ 1000) (B : Nat) (w : World) (hB : w.heap[B]? = some (.cells #[.int .i64 s] 2 (0, 0))) :
    Calls Try.prog 91 #[.int .i64 k, .int .i64 n, .pointer (some ⟨B, 0, none⟩)] w fun e w' => e = .returned (.tuple #[]) ∧ w'.heap[B]? = some (.cells #[.int .i64 (if k = 0 ∨ s < wi n then wi n else s)] 2 (0, 0)) ∧ But [B] w w' := by
  have cs := cell_of_one hB
  have fs := free_of_one hB
  by_cases h0 : k = 0
  · rw [if_pos (.inl h0)]
    have HO := hid (one_setCell (u := .int .i64 (wi n)) hB)
    clear hB
    subst h0
    go_enter Try.func91, Try.ntmps91
    go_wp2_with fail
    refine (within_any _ _).mono ?_
    rintro e w' ⟨rfl, rfl⟩
    go_wp2
    go_end0
    exact ⟨rfl, HO.out, ((But.refl _ _).set (p := ⟨B, 0, none⟩) (List.mem_singleton.2 rfl) _)⟩
  · by_cases h1 : s < wi n
    · rw [if_pos (.inr h1)]
      have HO := hid (one_setCell (u := .int .i64 (wi n)) hB)
      clear hB
      go_enter Try.func91, Try.ntmps91
      go_wp2_with fail
      refine (within_any _ _).mono ?_
      rintro e w' ⟨rfl, rfl⟩
      go_wp2
      go_end0
      exact ⟨rfl, HO.out, ((But.refl _ _).set (p := ⟨B, 0, none⟩) (List.mem_singleton.2 rfl) _)⟩
    · rw [if_neg (by omega)]
      have HO := hid hB
      have h2 : ¬ (k : Int) = 0 := by omega
      have h3 : wi n ≤ s := by omega
      have h4 : ((k : Int) == 0) = false := by simpa using h0
      clear hB h0 h1
      go_enter Try.func91, Try.ntmps91
      go_wp2_with fail
      refine (within_any _ _).mono ?_
      rintro e w' ⟨rfl, rfl⟩
      go_wp2
      go_end0
      exact ⟨rfl, HO.out, But.refl _ _⟩
theorem greatest_any (a : Option Addr) (len cap : Nat) (zs : List Int) (w : World) (ha : Reads .i64 w a len cap zs) (hlen : len ≤ 1000) :
    Calls Try.prog 77 #[.slice a len cap] w fun e w' => e = .returned (.int .i64 (greatK zs len)) ∧ Below w.heap.size w w' := by
  have hn := SumAt.new w 0
  have HE : Hid (Calls Try.prog 43 #[.slice a len cap, .func (.func 91) #[] #[.pointer (some ⟨w.heap.size, 0, none⟩)]] (w.alloc (.cells #[.int .i64 0] 2)) fun e w' => e = .returned (.tuple #[]) ∧ SumAt w w.heap.size (greatK zs len) w') := by
    refine each_any 91 _ a len cap zs _ hlen (fun k W => SumAt w w.heap.size (greatK zs k) W) (enters_of Try.func91 (by kernel_rfl) rfl) (fun k wr h => ha.below h.2) hn ?_
    intro k wr hk hi
    exact (great1_any k _ _ (by omega) w.heap.size wr hi.1).mono fun e w' ⟨h1, h2, h3⟩ => ⟨h1, h2, hi.2.trans (h3.to one_le hi.2.size)⟩
  clear hn ha
  go_enter Try.func77, Try.ntmps77
  go_wp2_with fail
  refine HE.out.mono ?_
  rintro e w' ⟨rfl, hS⟩
  have cs := cell_of_one hS.1
  have HS := hid hS.2
  clear HE hS
  go_wp2
  go_ret
  exact ⟨rfl, HS.out⟩

end Go.Proofs.Ytpllffekebkacaa
