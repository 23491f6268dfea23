/-
  Contracts of the document's vectors: cut, both, Dot, Add, Scale, Relu.
-/
import Derived.Test.YtpllffekebkacaaSofts
import Derived.Test.YtpllffekebkacaaRNums
namespace Go.Proofs.Ytpllffekebkacaa
open Go.RowKit
set_option linter.unusedVariables false
set_option maxRecDepth 1000000

theorem rcut_any (a : Option Addr) (len cap : Nat) (xs : List Int) (w : World) (ha : Reads .i64 w a len cap xs) (hlen : len ≤ 1000) :
    Calls Try.prog 48 #[.slice a len cap] w fun e w' => e = .returned (.slice a len cap) ∧ w' = w := by
  have r := ha.room
  have m := ha.most
  cases a with
  | none =>
    obtain ⟨rfl, rfl⟩ := ha.bare rfl
    clear ha
    go_enter Try.func48, Try.ntmps48
    go_wp2
    go_ret
    exact ⟨rfl, rfl⟩
  | some ad =>
    clear ha
    go_enter Try.func48, Try.ntmps48
    go_wp2
    go_ret
    exact ⟨rfl, rfl⟩
theorem rboth_any (a b : Option Addr) (la ca lb cb m : Nat) (xs ys : List Int) (w : World) (ha : Reads .i64 w a la ca xs) (hb : Reads .i64 w b lb cb ys) (hla : la ≤ 1000) (hlb : lb ≤ 1000) (hm : min la lb = m) :
    Calls Try.prog 72 #[.slice a la ca, .slice b lb cb] w fun e w' => e = .returned (.int .i64 m) ∧ w' = w := by
  have h1 := rcut_any a la ca xs w ha hla
  have h2 := rcut_any b lb cb ys w hb hlb
  clear ha hb
  rcases Nat.lt_or_ge lb la with hl | hl
  · obtain rfl : lb = m := by omega
    clear hm
    go_enter Try.func72, Try.ntmps72
    go_wp2_with fail
    refine h1.mono ?_
    rintro e w' ⟨rfl, rfl⟩
    go_wp2_with fail
    refine h2.mono ?_
    rintro e w' ⟨rfl, rfl⟩
    go_wp2
    go_ret
    exact ⟨rfl, rfl⟩
  · obtain rfl : la = m := by omega
    clear hm
    go_enter Try.func72, Try.ntmps72
    go_wp2_with fail
    refine h1.mono ?_
    rintro e w' ⟨rfl, rfl⟩
    go_wp2_with fail
    refine h2.mono ?_
    rintro e w' ⟨rfl, rfl⟩
    go_wp2
    go_ret
    exact ⟨rfl, rfl⟩

set_option maxHeartbeats 1000000 in
theorem rvdot_any (a b : Option Addr) (la ca lb cb : Nat) (xs ys : List Int) (w : World) (ha : Reads .i64 w a la ca xs) (hb : Reads .i64 w b lb cb ys) (hla : la ≤ 1000) (hlb : lb ≤ 1000) :
    Calls Try.prog 40 #[.slice a la ca, .slice b lb cb] w fun e w' => e = .returned (.int .i64 (dotK xs ys (min la lb))) ∧ Below w.heap.size w w' := by
  obtain ⟨m, hm⟩ : ∃ m, min la lb = m := ⟨_, rfl⟩
  have hma : m ≤ la := by omega
  have hmb : m ≤ lb := by omega
  have HBo := hid fun W (h : Below w.heap.size w W) => rboth_any a b la ca lb cb m xs ys W (ha.below h) (hb.below h) hla hlb hm
  rw [hm]
  have HA := hid ha
  have HB := hid hb
  clear ha hb hm
  go_enter Try.func40, Try.ntmps40
  go_wp2_with fail
  go_loopw [5, 6] (fun n i W => ∃ k : Nat, k ≤ m ∧ n = .int .i64 (dotK xs ys k) ∧ i = .int .i64 k ∧ Hid (Below w.heap.size w W)) (fun _ i _ => m - (intOf i).toNat)
  case atStart => exact ⟨0, Nat.zero_le _, rfl, rfl, Below.refl _ _⟩
  case round =>
    obtain ⟨k, hk, rfl, rfl, HW⟩ := hrel
    have hBo := HBo.out wr HW.out
    by_cases hlt : k < m
    · obtain ⟨b1, o1, rfl, c1⟩ := (HA.out.below HW.out).cell k (by omega)
      obtain ⟨b2, o2, rfl, c2⟩ := (HB.out.below HW.out).cell k (by omega)
      have r1 := HA.out.room
      have r2 := HB.out.room
      have m1 := HA.out.most
      have m2 := HB.out.most
      have q1 : (k : Int) < (la : Int) := by omega
      have q2 : (k : Int) < (lb : Int) := by omega
      have q3 : k < la := by omega
      have q4 : k < lb := by omega
      have HE : Hid (addZ (dotK xs ys k) (mulZ (xs[k]?.getD 0) (ys[k]?.getD 0)) = dotK xs ys (k + 1)) := rfl
      clear HA HB HBo
      generalize xs[k]?.getD 0 = x at *
      generalize ys[k]?.getD 0 = y at *
      generalize dotK xs ys k = s at *
      go_wp2_with fail
      refine hBo.mono ?_
      rintro e w' ⟨rfl, rfl⟩
      clear hBo
      go_wp2_with fail
      go_region_held3 (fun W : World => W.cell? ⟨b1, o1 + k, none⟩ = some (.int .i64 x) ∧ W.cell? ⟨b2, o2 + k, none⟩ = some (.int .i64 y)) (first | exact ⟨c1, c2⟩ | assumption) (first | (go_at_call 29; refine (rmul_any _ _ _).mono ?_; rintro e w' ⟨rfl, rfl⟩) | (go_at_call 32; refine (radd_any _ _ _).mono ?_; rintro e w' ⟨rfl, rfl⟩))
      go_wp2_with fail
      go_round
      case rel => exact ⟨k + 1, by omega, by rw [HE.out], by go_num, HW.out.drew⟩
      case measure => simp [intOf]; omega
    · obtain rfl : k = m := by omega
      clear HA HB HBo
      go_wp2_with fail
      refine hBo.mono ?_
      rintro e w' ⟨rfl, rfl⟩
      clear hBo
      go_wp2
      go_ret
      exact ⟨rfl, HW.out⟩

/-- The call hands back a row of its own. -/
def OwnG (w : World) (n : Nat) (xs : List Int) (e : Ending) (w' : World) : Prop := ∃ v, e = .returned v ∧ w'.ownsRow w.heap.size 2 1 v n (xs.map (Value.int .i64)) ∧ Below w.heap.size w w'
theorem OwnG.gives {w w' : World} {n : Nat} {xs : List Int} {e : Ending} (h : OwnG w n xs e w') : Gives w n xs e w' := by
  obtain ⟨v, rfl, h1, h2⟩ := h
  exact gives_own h1 h2
end Go.Proofs.Ytpllffekebkacaa
