/-
  Package scale: Want, Set, Bounds, Now.
-/
import Derived.Test.YtkkkabgljppilaaScOp
namespace Go.Proofs.Ytkkkabgljppilaa
open Go.RowKit
set_option linter.unusedVariables false
set_option maxRecDepth 1000000
variable {b : Nat} {w w' : World} {P : Pk}

theorem swant_any (h : PkAt w b P) (ok : PkOk P) (load : Int) : Calls Try.prog 18 #[.pointer (some ⟨b, 0, none⟩), .int .i64 load] w fun e w' => e = .returned (.int .i64 (P.want load)) ∧ w' = w := by
  have hM := smade_yes h ok
  have HH := hid fun k hk => shold_any h ok k load hk
  have c0 := h.cs.mn
  have c1 := h.cs.mx
  obtain ⟨q1, q2, q3, q4⟩ := ok.bd
  obtain ⟨M, hMx⟩ : ∃ M : Nat, P.mx = (M : Int) := ⟨P.mx.toNat, by omega⟩
  have hM8 : M ≤ 8 := by omega
  have HIT := hid fun (k : Int) h0 hm hk h1 h2 => Pk.want_hit (P := P) ok (load := load) (k := k) h0 hm hk h1 h2
  have HMI := hid fun (k : Int) h0 hm hk h1 => Pk.want_miss (P := P) ok (load := load) (k := k) h0 hm hk h1
  have HEN := hid (Pk.want_end (P := P) (load := load))
  have hst : (0 : Int) ≤ mx2 (nd P.pr load) P.mn := by
    have := nd_bd ok.pr.1 load
    unfold mx2
    split <;> omega
  rw [hMx] at c1 HIT HMI HEN
  have HM := hid hMx
  clear h ok hMx
  generalize mx2 (nd P.pr load) P.mn = g at *
  go_enter Try.func18, Try.ntmps18
  go_wp2_with fail
  refine hM.mono ?_
  rintro e w1 ⟨rfl, rfl⟩
  clear hM
  go_wp2_with fail
  go_loopw [14] (fun z W' => ∃ k : Nat, k ≤ M ∧ z = .int .i64 k ∧ W' = w1 ∧ (k : Int) ≤ g) (fun z _ => M - (intOf z).toNat)
  case atStart => exact ⟨0, by omega, rfl, rfl, hst⟩
  case round =>
  obtain ⟨k, hk, rfl, hW, hkg⟩ := hrel
  rename World => wr
  subst hW
  by_cases hlt : k < M
  · have g1 : (k : Int) < (M : Int) := by omega
    by_cases hmn : P.mn ≤ (k : Int)
    · have hC := HH.out (k : Int) ⟨by omega, by omega⟩
      by_cases hld : load ≤ (k : Int) * P.pr
      · rw [decide_eq_true hld] at hC
        have e := HIT.out (k : Int) (by omega) g1 hkg hmn hld
        have HE := hid e
        clear HH HIT HMI HEN hst e hld
        go_wp2_with fail
        refine hC.mono ?_
        rintro e w2 ⟨rfl, rfl⟩
        clear hC
        go_wp2_with fail
        go_ret
        exact ⟨by rw [HE.out]; rfl, rfl⟩
      · rw [decide_eq_false hld] at hC
        have e := HMI.out (k : Int) (by omega) g1 hkg (fun h => hld h.2)
        clear HH HIT HMI HEN hst hld
        go_wp2_with fail
        refine hC.mono ?_
        rintro e w2 ⟨rfl, rfl⟩
        clear hC
        go_wp2_with fail
        go_round
        case rel => exact ⟨k + 1, by omega, by go_num, trivial, by push_cast; exact e⟩
        case measure => simp [intOf]; omega
    · have g2 : (k : Int) < P.mn := by omega
      have e := HMI.out (k : Int) (by omega) g1 hkg (fun h => hmn h.1)
      clear HH HIT HMI HEN hst hmn
      go_wp2_with fail
      go_round
      case rel => exact ⟨k + 1, by omega, by go_num, trivial, by push_cast; exact e⟩
      case measure => simp [intOf]; omega
  · obtain rfl : k = M := by omega
    have e := HEN.out hkg
    have HE := hid e
    clear HH HIT HMI HEN hst HM e
    go_wp2_with fail
    go_ret
    exact ⟨by rw [HE.out]; rfl, rfl⟩
theorem sset_any (h : PkAt w b P) (ok : PkOk P) (x y : Int) : Calls Try.prog 13 #[.pointer (some ⟨b, 0, none⟩), .int .i64 x, .int .i64 y] w fun e w' => e = .returned (.int .i64 (if Bnd x y then 0 else 1)) ∧ Hid (PkAt w' b (P.put x y) ∧ Tn b w w') := by
  have hM := smade_yes h ok
  have hB := smb_any x y w
  have c0 := h.cs.mn
  have c1 := h.cs.mx
  have f0 := h.frozen 0
  have f1 := h.frozen 1
  unfold Pk.put
  by_cases hb : Bnd x y
  · rw [if_pos hb, if_pos hb]
    rw [decide_eq_true hb] at hB
    have HX : Hid (PkAt ((w.setCell ⟨b, 0, none⟩ (.int .i64 x)).setCell ⟨b, 1, none⟩ (.int .i64 y)) b { P with mn := x, mx := y } ∧ Tn b w ((w.setCell ⟨b, 0, none⟩ (.int .i64 x)).setCell ⟨b, 1, none⟩ (.int .i64 y))) := ⟨(h.set (P' := { P with mn := x }) rfl).set rfl, ((Tn.refl b w).set _ _).set _ _⟩
    clear h ok hb
    go_enter Try.func13, Try.ntmps13
    go_wp2_with fail
    refine hM.mono ?_
    rintro e w1 ⟨rfl, rfl⟩
    go_wp2_with fail
    refine hB.mono ?_
    rintro e w2 ⟨rfl, rfl⟩
    clear hM hB
    go_wp2_with fail
    go_ret
    exact ⟨rfl, HX⟩
  · rw [if_neg hb, if_neg hb]
    rw [decide_eq_false hb] at hB
    have HX := hid (And.intro h (Tn.refl b w))
    clear h ok hb
    go_enter Try.func13, Try.ntmps13
    go_wp2_with fail
    refine hM.mono ?_
    rintro e w1 ⟨rfl, rfl⟩
    go_wp2_with fail
    refine hB.mono ?_
    rintro e w2 ⟨rfl, rfl⟩
    clear hM hB
    go_wp2_with fail
    go_ret
    exact ⟨rfl, HX⟩
theorem sbounds_any (h : PkAt w b P) (ok : PkOk P) : Calls Try.prog 17 #[.pointer (some ⟨b, 0, none⟩)] w fun e w' => e = .returned (.tuple #[.int .i64 P.mn, .int .i64 P.mx]) ∧ ∃ m, w' = w.drewN m := by
  have hM := smade_yes h ok
  have d0 := fun n : Nat => (h.drewN n).cs.mn
  have d1 := fun n : Nat => (h.drewN n).cs.mx
  clear h ok
  go_enter Try.func17, Try.ntmps17
  go_wp2_with fail
  refine hM.mono ?_
  rintro e w1 ⟨rfl, rfl⟩
  clear hM
  go_wp2_with fail
  go_quiet (fail)
  go_wp2_with fail
  go_ret2
  exact ⟨rfl, _, rfl⟩
theorem snow_any (h : PkAt w b P) (ok : PkOk P) : Calls Try.prog 20 #[.pointer (some ⟨b, 0, none⟩)] w fun e w' => e = .returned (.int .i64 P.now) ∧ w' = w := by
  have hM := smade_yes h ok
  have c6 := h.cs.now
  clear h ok
  go_enter Try.func20, Try.ntmps20
  go_wp2_with fail
  refine hM.mono ?_
  rintro e w1 ⟨rfl, rfl⟩
  go_wp2_with fail
  go_ret
  exact ⟨rfl, rfl⟩
end Go.Proofs.Ytkkkabgljppilaa
