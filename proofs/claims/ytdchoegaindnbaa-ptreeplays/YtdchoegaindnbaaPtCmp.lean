/-
  The marks' order: cmp.Compare, cmp.Or, slices.Compare, mark.compare.
-/
import Derived.Test.YtdchoegaindnbaaPtTok
import Derived.Deep.RegionHeld3
namespace Go.Proofs.Ytdchoegaindnbaa
open Go.RowKit
set_option linter.unusedVariables false
set_option maxRecDepth 1000000

def cmpZ (x y : Int) : Int := if x < y then -1 else if y < x then 1 else 0
/-- Two texts, by the first token that differs. -/
def cmpL : List Int → List Int → Int
  | [], [] => 0
  | [], _ :: _ => -1
  | _ :: _, [] => 1
  | x :: xs, y :: ys => if cmpZ x y ≠ 0 then cmpZ x y else cmpL xs ys
/-- The first of three that is not 0. -/
def or3 (a b c : Int) : Int := if a ≠ 0 then a else if b ≠ 0 then b else c
/-- The marks' order. -/
def cmpM (a b : Mk) : Int :=
  if or3 (cmpZ a.used b.used) (cmpZ b.toks.length a.toks.length) (cmpZ a.rep b.rep) ≠ 0 then or3 (cmpZ a.used b.used) (cmpZ b.toks.length a.toks.length) (cmpZ a.rep b.rep) else cmpL a.toks b.toks
theorem nan_u (x : Int) (w : World) : Calls Try.prog 56 #[.int .u64 x] w fun e w' => e = .returned (.bool false) ∧ w = w' := by
  go_enter Try.func56, Try.ntmps56
  go_wp2
  go_ret
  exact ⟨rfl, rfl⟩
theorem cmp_u (x y : Int) (W : World) : Calls Try.prog 49 #[.int .u64 x, .int .u64 y] W fun e w' => e = .returned (.int .i64 (cmpZ x y)) ∧ W = w' := by
  have hN := fun (x : Int) (W : World) => nan_u x W
  obtain ⟨r, Hr⟩ : ∃ r, Hid (cmpZ x y = r) := ⟨_, rfl⟩
  rw [Hr.out]
  by_cases h1 : x < y
  · obtain rfl : -1 = r := by rw [← Hr.out]; unfold cmpZ; rw [if_pos h1]
    clear Hr
    go_enter Try.func49, Try.ntmps49
    go_wp2_with (go_at_call 56; refine (hN _ _).mono ?_; rintro e w' ⟨rfl, rfl⟩)
    go_ret
    exact ⟨rfl, rfl⟩
  · by_cases h2 : y < x
    · obtain rfl : 1 = r := by rw [← Hr.out]; unfold cmpZ; rw [if_neg h1, if_pos h2]
      clear Hr
      go_enter Try.func49, Try.ntmps49
      go_wp2_with (go_at_call 56; refine (hN _ _).mono ?_; rintro e w' ⟨rfl, rfl⟩)
      go_ret
      exact ⟨rfl, rfl⟩
    · obtain rfl : 0 = r := by rw [← Hr.out]; unfold cmpZ; rw [if_neg h1, if_neg h2]
      clear Hr
      go_enter Try.func49, Try.ntmps49
      go_wp2_with (go_at_call 56; refine (hN _ _).mono ?_; rintro e w' ⟨rfl, rfl⟩)
      go_ret
      exact ⟨rfl, rfl⟩
theorem nan_i (x : Int) (w : World) : Calls Try.prog 57 #[.int .i64 x] w fun e w' => e = .returned (.bool false) ∧ w = w' := by
  go_enter Try.func57, Try.ntmps57
  go_wp2
  go_ret
  exact ⟨rfl, rfl⟩
theorem cmp_i (x y : Int) (W : World) : Calls Try.prog 50 #[.int .i64 x, .int .i64 y] W fun e w' => e = .returned (.int .i64 (cmpZ x y)) ∧ W = w' := by
  have hN := fun (x : Int) (W : World) => nan_i x W
  obtain ⟨r, Hr⟩ : ∃ r, Hid (cmpZ x y = r) := ⟨_, rfl⟩
  rw [Hr.out]
  by_cases h1 : x < y
  · obtain rfl : -1 = r := by rw [← Hr.out]; unfold cmpZ; rw [if_pos h1]
    clear Hr
    go_enter Try.func50, Try.ntmps50
    go_wp2_with (go_at_call 57; refine (hN _ _).mono ?_; rintro e w' ⟨rfl, rfl⟩)
    go_ret
    exact ⟨rfl, rfl⟩
  · by_cases h2 : y < x
    · obtain rfl : 1 = r := by rw [← Hr.out]; unfold cmpZ; rw [if_neg h1, if_pos h2]
      clear Hr
      go_enter Try.func50, Try.ntmps50
      go_wp2_with (go_at_call 57; refine (hN _ _).mono ?_; rintro e w' ⟨rfl, rfl⟩)
      go_ret
      exact ⟨rfl, rfl⟩
    · obtain rfl : 0 = r := by rw [← Hr.out]; unfold cmpZ; rw [if_neg h1, if_neg h2]
      clear Hr
      go_enter Try.func50, Try.ntmps50
      go_wp2_with (go_at_call 57; refine (hN _ _).mono ?_; rintro e w' ⟨rfl, rfl⟩)
      go_ret
      exact ⟨rfl, rfl⟩
theorem nan_l (x : Int) (w : World) : Calls Try.prog 71 #[.int .i64 x] w fun e w' => e = .returned (.bool false) ∧ w = w' := by
  go_enter Try.func71, Try.ntmps71
  go_wp2
  go_ret
  exact ⟨rfl, rfl⟩
theorem cmp_l (x y : Int) (W : World) : Calls Try.prog 58 #[.int .i64 x, .int .i64 y] W fun e w' => e = .returned (.int .i64 (cmpZ x y)) ∧ W = w' := by
  have hN := fun (x : Int) (W : World) => nan_l x W
  obtain ⟨r, Hr⟩ : ∃ r, Hid (cmpZ x y = r) := ⟨_, rfl⟩
  rw [Hr.out]
  by_cases h1 : x < y
  · obtain rfl : -1 = r := by rw [← Hr.out]; unfold cmpZ; rw [if_pos h1]
    clear Hr
    go_enter Try.func58, Try.ntmps58
    go_wp2_with (go_at_call 71; refine (hN _ _).mono ?_; rintro e w' ⟨rfl, rfl⟩)
    go_ret
    exact ⟨rfl, rfl⟩
  · by_cases h2 : y < x
    · obtain rfl : 1 = r := by rw [← Hr.out]; unfold cmpZ; rw [if_neg h1, if_pos h2]
      clear Hr
      go_enter Try.func58, Try.ntmps58
      go_wp2_with (go_at_call 71; refine (hN _ _).mono ?_; rintro e w' ⟨rfl, rfl⟩)
      go_ret
      exact ⟨rfl, rfl⟩
    · obtain rfl : 0 = r := by rw [← Hr.out]; unfold cmpZ; rw [if_neg h1, if_neg h2]
      clear Hr
      go_enter Try.func58, Try.ntmps58
      go_wp2_with (go_at_call 71; refine (hN _ _).mono ?_; rintro e w' ⟨rfl, rfl⟩)
      go_ret
      exact ⟨rfl, rfl⟩
set_option maxHeartbeats 2000000 in
theorem or_any {g : Nat} {a b c : Int} {W : World} (h0 : W.cell? ⟨g, 0, none⟩ = some (.int .i64 a)) (h1 : W.cell? ⟨g, 1, none⟩ = some (.int .i64 b)) (h2 : W.cell? ⟨g, 2, none⟩ = some (.int .i64 c)) :
    Calls Try.prog 48 #[.slice (some ⟨g, 0, none⟩) 3 3] W fun e w' => e = .returned (.int .i64 (or3 a b c)) ∧ W = w' := by
  obtain ⟨r, Hr⟩ : ∃ r, Hid (or3 a b c = r) := ⟨_, rfl⟩
  rw [Hr.out]
  go_enter Try.func48, Try.ntmps48
  go_wp2_with fail
  go_loopw [8] (fun z W' => ∃ k : Nat, k ≤ 3 ∧ z = .int .i64 k ∧ W' = W ∧ Hid (0 < k → a = 0) ∧ Hid (1 < k → b = 0) ∧ Hid (2 < k → c = 0)) (fun z _ => 3 - (intOf z).toNat)
  case atStart => exact ⟨0, by omega, rfl, rfl, fun h => by omega, fun h => by omega, fun h => by omega⟩
  case round =>
  obtain ⟨k, hk, rfl, rfl, Ha, Hb, Hc⟩ := hrel
  obtain rfl | rfl | rfl | rfl : k = 0 ∨ k = 1 ∨ k = 2 ∨ k = 3 := by omega
  · by_cases e : a = 0
    · have HE := hid e
      subst e
      go_wp2
      go_round
      case rel => exact ⟨1, by omega, by first | rfl | trivial, by first | rfl | trivial, by first | exact fun _ => HE.out | exact fun _ => trivial, fun h => by omega, fun h => by omega⟩
      case measure => simp [intOf]
    · have HE : Hid (a = r) := by
        have := Hr.out
        unfold or3 at this
        rw [if_pos e] at this
        exact this
      go_wp2
      go_ret
      exact ⟨by rw [← HE.out]; rfl, rfl⟩
  · have ha := Ha.out (by omega)
    by_cases e : b = 0
    · have HE := hid e
      have HA := hid ha
      subst e
      clear ha
      go_wp2
      go_round
      case rel => exact ⟨2, by omega, by first | rfl | trivial, by first | rfl | trivial, fun _ => HA.out, by first | exact fun _ => HE.out | exact fun _ => trivial, fun h => by omega⟩
      case measure => simp [intOf]
    · have HE : Hid (b = r) := by
        have := Hr.out
        unfold or3 at this
        rw [ha] at this
        simp [e] at this
        exact this
      clear ha
      go_wp2
      go_ret
      exact ⟨by rw [← HE.out]; rfl, rfl⟩
  · have ha := Ha.out (by omega)
    have hb := Hb.out (by omega)
    by_cases e : c = 0
    · have HE := hid e
      have HA := hid ha
      have HB := hid hb
      subst e
      clear ha hb
      go_wp2
      go_round
      case rel => exact ⟨3, by omega, by first | rfl | trivial, by first | rfl | trivial, fun _ => HA.out, fun _ => HB.out, by first | exact fun _ => HE.out | exact fun _ => trivial⟩
      case measure => simp [intOf]
    · have HE : Hid (c = r) := by
        have := Hr.out
        unfold or3 at this
        rw [ha, hb] at this
        simp at this
        exact this
      clear ha hb
      go_wp2
      go_ret
      exact ⟨by rw [← HE.out]; rfl, rfl⟩
  · have HE : Hid (0 = r) := by
      have := Hr.out
      unfold or3 at this
      rw [Ha.out (by omega), Hb.out (by omega), Hc.out (by omega)] at this
      simp at this
      exact this
    go_wp2
    go_ret
    exact ⟨by rw [← HE.out]; rfl, rfl⟩
theorem cmpL_drop (xs ys : List Int) (k : Nat) (h1 : k < xs.length) (h2 : k < ys.length) : cmpL (xs.drop k) (ys.drop k) = if cmpZ (xs[k]?.getD 0) (ys[k]?.getD 0) ≠ 0 then cmpZ (xs[k]?.getD 0) (ys[k]?.getD 0) else cmpL (xs.drop (k + 1)) (ys.drop (k + 1)) := by
  rw [List.drop_eq_getElem_cons h1, List.drop_eq_getElem_cons h2]
  simp only [cmpL, List.getElem?_eq_getElem h1, List.getElem?_eq_getElem h2, Option.getD_some]
theorem cmpL_left (xs ys : List Int) (k : Nat) (h1 : k < xs.length) (h2 : ys.length ≤ k) : cmpL (xs.drop k) (ys.drop k) = 1 := by
  rw [List.drop_eq_getElem_cons h1, List.drop_eq_nil_of_le h2]
  rfl
theorem cmpL_end (xs ys : List Int) (k : Nat) (h1 : xs.length = k) : cmpL (xs.drop k) (ys.drop k) = if xs.length < ys.length then -1 else 0 := by
  rw [List.drop_eq_nil_of_le (by omega)]
  by_cases h : k < ys.length
  · rw [List.drop_eq_getElem_cons h, if_pos (by omega)]
    rfl
  · rw [List.drop_eq_nil_of_le (by omega), if_neg (by omega)]
    rfl
set_option maxHeartbeats 2000000 in
theorem scompare {W : World} {a b : Option Addr} {la ca lb cb : Nat} {xs ys : List Int} (ha : Reads .i64 W a la ca xs) (hb : Reads .i64 W b lb cb ys) (hla : la ≤ 1000) (hlb : lb ≤ 1000) :
    Calls Try.prog 51 #[.slice a la ca, .slice b lb cb] W fun e w' => e = .returned (.int .i64 (cmpL xs ys)) ∧ w' = W := by
  have HA := hid ha
  have HB := hid hb
  have HC := hid fun (x y : Int) => cmp_l x y W
  clear ha hb
  go_enter Try.func51, Try.ntmps51
  go_wp2_with fail
  go_loopw [11] (fun z W' => ∃ k : Nat, k ≤ la ∧ k ≤ lb ∧ z = .int .i64 k ∧ W' = W ∧ Hid (cmpL xs ys = cmpL (xs.drop k) (ys.drop k))) (fun z _ => la - (intOf z).toNat)
  case atStart => exact ⟨0, by omega, by omega, rfl, rfl, by simp [Hid]⟩
  case round =>
  obtain ⟨k, hk, hk2, rfl, rfl, HE⟩ := hrel
  by_cases hlt : k < la
  · by_cases hlt2 : k < lb
    · have HS := hid (HE.out.trans (cmpL_drop xs ys k (by rw [HA.out.size]; exact hlt) (by rw [HB.out.size]; exact hlt2)))
      obtain ⟨b1, o1, rfl, c1⟩ := HA.out.cell k hlt
      obtain ⟨b2, o2, rfl, c2⟩ := HB.out.cell k hlt2
      have hC := HC.out (xs[k]?.getD 0) (ys[k]?.getD 0)
      have r1 := HA.out.room
      have r2 := HB.out.room
      have m1 := HA.out.most
      have m2 := HB.out.most
      generalize xs[k]?.getD 0 = x at *
      generalize ys[k]?.getD 0 = y at *
      generalize cmpZ x y = c at *
      by_cases e : c = 0
      · have HN : Hid (cmpL xs ys = cmpL (xs.drop (k + 1)) (ys.drop (k + 1))) := by unfold Hid; have := HS.out; rw [e] at this; simpa using this
        subst e
        clear HS HE HA HB HC
        go_wp2_with fail
        refine hC.mono ?_
        rintro r w1 ⟨rfl, rfl⟩
        clear hC
        go_wp2_with fail
        go_round
        case rel => exact ⟨k + 1, by omega, by omega, by go_num, by first | rfl | trivial, HN⟩
        case measure => simp [intOf]; omega
      · have HN : Hid (cmpL xs ys = c) := by have := HS.out; rw [if_pos e] at this; exact this
        clear HS HE HA HB HC
        go_wp2_with fail
        refine hC.mono ?_
        rintro r w1 ⟨rfl, rfl⟩
        clear hC
        go_wp2_with fail
        go_ret
        exact ⟨by rw [HN.out]; rfl, rfl⟩
    · have HN : Hid (cmpL xs ys = 1) := HE.out.trans (cmpL_left xs ys k (by rw [HA.out.size]; exact hlt) (by rw [HB.out.size]; omega))
      obtain ⟨b1, o1, rfl, c1⟩ := HA.out.cell k hlt
      have r1 := HA.out.room
      have m1 := HA.out.most
      generalize xs[k]?.getD 0 = x at *
      clear HE HA HB HC
      go_wp2_with fail
      go_ret
      exact ⟨by rw [HN.out]; rfl, rfl⟩
  · have hkl : k = la := by omega
    have HN : Hid (cmpL xs ys = if la < lb then -1 else 0) := by
      have := HE.out.trans (cmpL_end xs ys k (by rw [HA.out.size]; omega))
      rw [HA.out.size, HB.out.size] at this
      exact this
    subst hkl
    clear HE HA HB HC
    by_cases hab : k < lb
    · have HM : Hid (cmpL xs ys = -1) := by rw [HN.out, if_pos hab]; rfl
      go_wp2_with fail
      go_ret
      exact ⟨by rw [HM.out]; rfl, rfl⟩
    · have HM : Hid (cmpL xs ys = 0) := by rw [HN.out, if_neg hab]; rfl
      go_wp2_with fail
      go_ret
      exact ⟨by rw [HM.out]; rfl, rfl⟩
end Go.Proofs.Ytdchoegaindnbaa
