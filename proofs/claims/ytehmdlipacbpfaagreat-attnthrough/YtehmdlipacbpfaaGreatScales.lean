/-
  Contracts: Scale, Relu, and what stands on madeOf alone.
-/
import Derived.Test.YtehmdlipacbpfaaGreatMades
namespace Go.Proofs.YtehmdlipacbpfaaGreat
open Go.RowKit
set_option linter.unusedVariables false
set_option maxRecDepth 1000000

theorem relu1_any (n : Int) (w : World) :
    Calls Tryz.prog 98 #[.int .i64 n] w fun e w' => e = .returned (.int .i64 (max (wi n) 0)) ∧ w' = w := by
  rcases Int.lt_or_le (wi n) 0 with h | h
  · have HE : Hid (0 = max (wi n) 0) := by unfold Hid; omega
    go_enter Tryz.func98, Tryz.ntmps98
    go_wp2_with fail
    refine (within_any _ _).mono ?_
    rintro e w' ⟨rfl, rfl⟩
    go_wp2
    go_ret
    exact ⟨ret_int HE.out, rfl⟩
  · have HE : Hid (wi n = max (wi n) 0) := by unfold Hid; omega
    go_enter Tryz.func98, Tryz.ntmps98
    go_wp2_with fail
    refine (within_any _ _).mono ?_
    rintro e w' ⟨rfl, rfl⟩
    go_wp2
    go_ret
    exact ⟨ret_int HE.out, rfl⟩
theorem norm1_any (n b : Int) (B : Nat) (w : World) (hB : w.heap[B]? = some (.cells #[.int .i64 b] 2 (0, 0))) :
    Calls Tryz.prog 59 #[.int .i64 n, .pointer (some ⟨B, 0, none⟩)] w fun e w' => e = .returned (.int .i64 (divZ n b)) ∧ w' = w := by
  have cs := cell_of_one hB
  clear hB
  go_enter Tryz.func59, Tryz.ntmps59
  go_wp2_with fail
  refine (div_any _ _ _).mono ?_
  rintro e w' ⟨rfl, rfl⟩
  go_wp2
  go_ret
  exact ⟨rfl, rfl⟩
theorem soft3_any (n b : Int) (B : Nat) (w : World) (hB : w.heap[B]? = some (.cells #[.int .i64 b] 2 (0, 0))) :
    Calls Tryz.prog 68 #[.int .i64 n, .pointer (some ⟨B, 0, none⟩)] w fun e w' => e = .returned (.int .i64 (divZ n b)) ∧ w' = w := by
  have cs := cell_of_one hB
  clear hB
  go_enter Tryz.func68, Tryz.ntmps68
  go_wp2_with fail
  refine (div_any _ _ _).mono ?_
  rintro e w' ⟨rfl, rfl⟩
  go_wp2
  go_ret
  exact ⟨rfl, rfl⟩
theorem soft1_any (n b : Int) (b0 : -2147483648 ≤ b) (b1 : b ≤ 2147483647) (B : Nat) (w : World) (hB : w.heap[B]? = some (.cells #[.int .i64 b] 2 (0, 0))) :
    Calls Tryz.prog 64 #[.int .i64 n, .pointer (some ⟨B, 0, none⟩)] w fun e w' => e = .returned (.int .i64 (expZ (addZ n (-b)))) ∧ w' = w := by
  have cs := cell_of_one hB
  clear hB
  go_enter Tryz.func64, Tryz.ntmps64
  go_wp2_with fail
  refine (add_any _ _ _).mono ?_
  rintro e w' ⟨rfl, rfl⟩
  go_wp2_with fail
  refine (exp_any _ _).mono ?_
  rintro e w' ⟨rfl, rfl⟩
  go_wp2
  go_ret
  exact ⟨rfl, rfl⟩
theorem soft2_any (k : Nat) (p s : Int) (B : Nat) (w : World) (hB : w.heap[B]? = some (.cells #[.int .i64 s] 2 (0, 0))) :
    Calls Tryz.prog 67 #[.int .i64 k, .int .i64 p, .pointer (some ⟨B, 0, none⟩)] w fun e w' => e = .returned (.tuple #[]) ∧ w'.heap[B]? = some (.cells #[.int .i64 (addZ s p)] 2 (0, 0)) ∧ But [B] w w' := by
  have cs := cell_of_one hB
  have fs := free_of_one hB
  have HO := hid (one_setCell (u := .int .i64 (addZ s p)) hB)
  clear hB
  go_enter Tryz.func67, Tryz.ntmps67
  go_wp2_with fail
  refine (add_any _ _ _).mono ?_
  rintro e w' ⟨rfl, rfl⟩
  go_wp2
  go_end0
  exact ⟨rfl, HO.out, ((But.refl _ _).set (p := ⟨B, 0, none⟩) (List.mem_singleton.2 rfl) _)⟩

/-- The greatest of the first k, within the bounds; 0 of none. -/
def greatK (zs : List Int) : Nat → Int
  | 0 => 0
  | k + 1 => if k = 0 ∨ greatK zs k < wi (zs[k]?.getD 0) then wi (zs[k]?.getD 0) else greatK zs k
theorem greatK_bd (zs : List Int) (k : Nat) : -2147483648 ≤ greatK zs k ∧ greatK zs k ≤ 2147483647 := by
  induction k with
  | zero => simp [greatK]
  | succ k ih => unfold greatK; split; exact ⟨wi_0 _, wi_1 _⟩; exact ih
theorem great1_any (k : Nat) (n s : Int) (hk : k ≤ 1000) (B : Nat) (w : World) (hB : w.heap[B]? = some (.cells #[.int .i64 s] 2 (0, 0))) :
    Calls Tryz.prog 95 #[.int .i64 k, .int .i64 n, .pointer (some ⟨B, 0, none⟩)] w fun e w' => e = .returned (.tuple #[]) ∧ w'.heap[B]? = some (.cells #[.int .i64 (if k = 0 ∨ s < wi n then wi n else s)] 2 (0, 0)) ∧ But [B] w w' := by
  have cs := cell_of_one hB
  have fs := free_of_one hB
  by_cases h0 : k = 0
  · rw [if_pos (.inl h0)]
    have HO := hid (one_setCell (u := .int .i64 (wi n)) hB)
    clear hB
    subst h0
    go_enter Tryz.func95, Tryz.ntmps95
    go_wp2_with fail
    refine (within_any _ _).mono ?_
    rintro e w' ⟨rfl, rfl⟩
    go_wp2
    go_end0
    exact ⟨rfl, HO.out, ((But.refl _ _).set (p := ⟨B, 0, none⟩) (List.mem_singleton.2 rfl) _)⟩
  · by_cases h1 : s < wi n
    · rw [if_pos (.inr h1)]
      have HO := hid (one_setCell (u := .int .i64 (wi n)) hB)
      clear hB
      go_enter Tryz.func95, Tryz.ntmps95
      go_wp2_with fail
      refine (within_any _ _).mono ?_
      rintro e w' ⟨rfl, rfl⟩
      go_wp2
      go_end0
      exact ⟨rfl, HO.out, ((But.refl _ _).set (p := ⟨B, 0, none⟩) (List.mem_singleton.2 rfl) _)⟩
    · rw [if_neg (by omega)]
      have HO := hid hB
      have h2 : ¬ (k : Int) = 0 := by omega
      have h3 : wi n ≤ s := by omega
      have h4 : ((k : Int) == 0) = false := by simpa using h0
      clear hB h0 h1
      go_enter Tryz.func95, Tryz.ntmps95
      go_wp2_with fail
      refine (within_any _ _).mono ?_
      rintro e w' ⟨rfl, rfl⟩
      go_wp2
      go_end0
      exact ⟨rfl, HO.out, But.refl _ _⟩
theorem greatest_any (a : Option Addr) (len cap : Nat) (zs : List Int) (w : World) (ha : Reads .i64 w a len cap zs) (hlen : len ≤ 1000) :
    Calls Tryz.prog 63 #[.slice a len cap] w fun e w' => e = .returned (.int .i64 (greatK zs len)) ∧ Below w.heap.size w w' := by
  have hn := SumAt.new w 0
  have HE : Hid (Calls Tryz.prog 66 #[.slice a len cap, .func (.func 95) #[] #[.pointer (some ⟨w.heap.size, 0, none⟩)]] (w.alloc (.cells #[.int .i64 0] 2)) fun e w' => e = .returned (.tuple #[]) ∧ SumAt w w.heap.size (greatK zs len) w') := by
    refine each_any 95 _ a len cap zs _ hlen (fun k W => SumAt w w.heap.size (greatK zs k) W) (enters_of Tryz.func95 (by kernel_rfl) rfl) (fun k wr h => ha.below h.2) hn ?_
    intro k wr hk hi
    exact (great1_any k _ _ (by omega) w.heap.size wr hi.1).mono fun e w' ⟨h1, h2, h3⟩ => ⟨h1, h2, hi.2.trans (h3.to one_le hi.2.size)⟩
  clear hn ha
  go_enter Tryz.func63, Tryz.ntmps63
  go_wp2_with fail
  refine HE.out.mono ?_
  rintro e w' ⟨rfl, hS⟩
  have cs := cell_of_one hS.1
  have HS := hid hS.2
  clear HE hS
  go_wp2
  go_ret
  exact ⟨rfl, HS.out⟩

theorem relu_any (a : Option Addr) (len cap : Nat) (zs : List Int) (w : World) (ha : Reads .i64 w a len cap zs) (hlen : len ≤ 1000) :
    Calls Tryz.prog 73 #[.slice a len cap] w fun e w' => Made w len (zs.map (fun n => max (wi n) 0)) e w' := by
  have HE := hid (madeof_any 98 #[] (enters_of Tryz.func98 (by kernel_rfl) rfl) a len cap zs _ ha hlen (fun n => max (wi n) 0) fun x wr hb => (relu1_any x wr).mono fun e w' ⟨h1, h2⟩ => ⟨h1, by rw [h2]; exact Below.refl _ _⟩)
  clear ha
  go_enter Tryz.func73, Tryz.ntmps73
  go_wp2_with fail
  refine HE.out.mono ?_
  rintro e w' ⟨g, rfl, hO, hb⟩
  have HO := hid hO
  have HB := hid hb
  clear hO hb HE
  go_wp2
  go_ret
  exact ⟨_, _, rfl, HO.out, HB.out⟩
end Go.Proofs.YtehmdlipacbpfaaGreat
