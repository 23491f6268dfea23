/-
  Contract: the document's Top hands back the places of the greatest (TopOf).
-/
import Derived.Test.YtpllffekebkacaaRTMath
import Derived.Test.YtpllffekebkacaaRVecs2
import Derived.Test.YtpllffekebkacaaTops
import Derived.Deep.QuietTactic
import Derived.BigQuiet
namespace Go.Proofs.Ytpllffekebkacaa
open Go.RowKit
set_option linter.unusedVariables false
set_option maxRecDepth 1000000

/-- What stands in memory between the rounds of the outer loop. -/
structure SelAt (w : World) (zs : List Int) (len : Nat) (u : Value) (bs : List Bool) (qs : List Mk) (W : World) : Prop where
  old : Below w.heap.size w W
  sel : Sel zs len bs qs
  met : OwnB w.heap.size len bs W
  out : W.ownsRow (w.heap.size + 1) 3 1 u qs.length ((qs.map Prod.fst).map (Value.int .i64))
  size : w.heap.size < W.heap.size

/-- One number in a new block behind a store. -/
theorem Reads.one_set {k : IntKind} (w : World) (p : Addr) (v : Value) (x : Int) (t : TypeId) : Reads k ((w.setCell p v).alloc (.cells #[.int k x] t)) (some ⟨w.heap.size, 0, none⟩) 1 1 [x] := by
  have h := Reads.one (k := k) (w.setCell p v) x t
  have e : (w.setCell p v).heap.size = w.heap.size := by simp [World.setCell]
  rw [e] at h
  exact h
theorem SelAt.drew {w : World} {zs : List Int} {len : Nat} {u : Value} {bs : List Bool} {qs : List Mk} {W : World} (h : SelAt w zs len u bs qs W) : SelAt w zs len u bs qs W.drew := ⟨h.old.drew, h.sel, h.met, h.out, h.size⟩
theorem SelAt.drewN {w : World} {zs : List Int} {len : Nat} {u : Value} {bs : List Bool} {qs : List Mk} {W : World} (h : SelAt w zs len u bs qs W) (n : Nat) : SelAt w zs len u bs qs (W.drewN n) := ⟨h.old.trans ⟨rfl, rfl, rfl, Nat.le_refl _, fun _ _ => rfl⟩, h.sel, h.met, h.out, h.size⟩
/-- What the document's Top hands back. -/
def TopGives (w : World) (zs : List Int) (len K : Nat) (e : Ending) (w' : World) : Prop := ∃ ad c ps, e = .returned (.slice ad K c) ∧ Reads .i64 w' ad K c ps ∧ TopOf zs len K ps ∧ Below w.heap.size w w'

set_option maxHeartbeats 4000000 in
theorem rvtop_any (a : Option Addr) (len cap K : Nat) (k : Int) (zs : List Int) (w : World) (ha : Reads .i64 w a len cap zs) (hlen : len ≤ 1000) (hk : Kof k len K) (hK : K ≤ len) :
    Calls Try.prog 19 #[.slice a len cap, .int .i64 k] w fun e w' => TopGives w zs len K e w' := by
  obtain ⟨i0, hi, hz0, hz1, hz2⟩ := info_parts Try.info3
  have hC := rcut_any a len cap zs w ha hlen
  have HA := hid ha
  have hmk : ∀ W : World, (Instr.makeSlice 69 (.int .i64 (len : Int)) (.int .i64 (len : Int))).run Try.prog W = .ok (.slice (some ⟨W.heap.size, 0, none⟩) len len) (W.alloc (.cells (madeCells #[.bool false] len) 4)) := fun W => make_bools W len (by omega)
  have HS0 : Hid (SelAt w zs len (.slice none 0 0) (List.replicate len false) [] (w.alloc (.cells (madeCells #[.bool false] len) 4))) :=
    ⟨(Below.refl _ _).alloc (Nat.le_refl _) _, Sel.start zs len, own_bools w len (by omega), World.ownsRow_nil _ _ _ _, by simp⟩
  have HM : ∀ j : Nat, j < K → (j : Int) < k ∧ (j : Int) < (len : Int) := by unfold Kof at hk; intro j hj; omega
  have HX : ¬ (K : Int) < k ∨ ((K : Int) < k ∧ ¬ (K : Int) < (len : Int)) := by unfold Kof at hk; omega
  have r1 := ha.room
  have m1 := ha.most
  clear ha hk
  go_enter Try.func19, Try.ntmps19
  go_wp2_with fail
  refine hC.mono ?_
  rintro e w' ⟨rfl, rfl⟩
  clear hC
  rename World => w
  go_wp2_with fail
  clear hmk
  go_loopw [5, 7] (fun u i W => ∃ (j : Nat) (bs : List Bool) (qs : List Mk), j ≤ K ∧ i = .int .i64 j ∧ Hid (qs.length = j) ∧ Hid (SelAt w zs len u bs qs W)) (fun _ i _ => K - (intOf i).toNat)
  case atStart => exact ⟨0, _, [], Nat.zero_le _, rfl, rfl, HS0⟩
  case round =>
    obtain ⟨j, bs, qs, hj, rfl, HQ, HS⟩ := hrel
    clear HS0
    rename World => wr
    by_cases hlt : j < K
    · obtain ⟨l1, l2⟩ := HM j hlt
      clear HX HM
      go_wp2_with fail
      go_loopw [8, 9] (fun b i W => ∃ (n : Nat) (bb : Int), n ≤ len ∧ b = .int .i64 bb ∧ i = .int .i64 n ∧ Hid (BestAt zs bs n bb) ∧ Hid (SelAt w zs len u5 bs qs W)) (fun _ i _ => len - (intOf i).toNat)
      case atStart => exact ⟨0, -1, Nat.zero_le _, rfl, rfl, BestAt.start _ _, HS⟩
      case round =>
        obtain ⟨n, bb, hn, rfl, rfl, HBe, HSn⟩ := hrel
        clear HS
        rename World => wn
        by_cases hnl : n < len
        · obtain ⟨b1, o1, rfl, c1⟩ := (HA.out.below HSn.out.old).cell n hnl
          have cm := HSn.out.met.cell hnl
          have q1 : (n : Int) < (len : Int) := by omega
          cases hmt : mt bs n with
          | true =>
            rw [hmt] at cm
            have HBn : Hid (BestAt zs bs (n + 1) bb) := HBe.out.met hmt
            clear HBe hmt HA
            go_wp2_with fail
            go_quiet (fail)
            go_wp2_with fail
            go_round
            case rel => exact ⟨n + 1, bb, by omega, rfl, by go_num, HBn, HSn.out.drewN _⟩
            case measure => simp [intOf]; omega
          | false =>
            rw [hmt] at cm
            rcases HBe.out with ⟨hb1, hall⟩ | ⟨B, hb1, hBn, hmB, hge⟩
            · subst hb1
              have HBn : Hid (BestAt zs bs (n + 1) n) := HBe.out.first hmt
              clear HBe hmt HA hall
              go_wp2_with fail
              go_quiet ((go_at_call 49; exact Calls.quiet_of_same (rwithin_any _ _)))
              go_wp2_with fail
              go_round
              case rel => exact ⟨n + 1, n, by omega, rfl, by go_num, HBn, HSn.out.drewN _⟩
              case measure => simp [intOf]; omega
            · subst hb1
              have c2 := (HA.out.below HSn.out.old).at (i := B) (by omega)
              have g0 : ¬ (B : Int) < 0 := by omega
              have g1 : decide ((B : Int) < 0) = false := decide_eq_false g0
              have q2 : (B : Int) < (len : Int) := by omega
              have q3 : B < len := by omega
              by_cases hg : wi (zs[B]?.getD 0) < wi (zs[n]?.getD 0)
              · have HBn : Hid (BestAt zs bs (n + 1) n) := HBe.out.more hmt hg
                clear HBe hmt HA hge hmB
                generalize zs[B]?.getD 0 = y at *
                generalize zs[n]?.getD 0 = x at *
                go_wp2_with fail
                go_quiet ((go_at_call 49; exact Calls.quiet_of_same (rwithin_any _ _)))
                go_wp2_with fail
                go_round
                case rel => exact ⟨n + 1, n, by omega, rfl, by go_num, HBn, HSn.out.drewN _⟩
                case measure => simp [intOf]; omega
              · have HBn : Hid (BestAt zs bs (n + 1) B) := HBe.out.less hg
                clear HBe hmt HA hge hmB
                generalize zs[B]?.getD 0 = y at *
                generalize zs[n]?.getD 0 = x at *
                go_wp2_with fail
                go_quiet ((go_at_call 49; exact Calls.quiet_of_same (rwithin_any _ _)))
                go_wp2_with fail
                go_round
                case rel => exact ⟨n + 1, B, by omega, rfl, by go_num, HBn, HSn.out.drewN _⟩
                case measure => simp [intOf]; omega
        · obtain rfl : n = len := by omega
          obtain ⟨B, hb1, hBn, hmB, hge⟩ := HSn.out.sel.best (by rw [HQ.out]; omega) HBe.out
          subst hb1
          have cm := HSn.out.met.cell hBn
          have fm := HSn.out.met.frozen B
          have q2 : (B : Int) < (n : Int) := by omega
          have HB1 : Hid (Below w.heap.size w (wn.setCell ⟨w.heap.size, B, none⟩ (.bool true))) := HSn.out.old.setCell (Nat.le_refl _) _
          have HO1 : Hid ((wn.setCell ⟨w.heap.size, B, none⟩ (.bool true)).ownsRow (w.heap.size + 1) 3 1 u5 qs.length ((qs.map Prod.fst).map (Value.int .i64))) := ownsRow_setCell_below HSn.out.out (by show w.heap.size < w.heap.size + 1; omega) _
          have HM1 : Hid (OwnB w.heap.size n (bs.set B true) (wn.setCell ⟨w.heap.size, B, none⟩ (.bool true))) := HSn.out.met.set B true
          have HSel : Hid (Sel zs n (bs.set B true) (qs ++ [mkP zs B])) := HSn.out.sel.step hBn hmB hge
          have HZ : Hid (w.heap.size + 1 ≤ (wn.setCell ⟨w.heap.size, B, none⟩ (.bool true)).heap.size) := by have := HSn.out.size; unfold Hid; simp [World.setCell]; omega
          have hql : qs.length ≤ 1000 := by have := HQ.out; omega
          clear HBe hge hmB HA HSn
          go_wp2_with (at_builtin; refine append_any _ rfl (.tmp 58) (.tmp 60) 42 rfl (w.heap.size + 1) 3 i0 (.int .i64 0) 8 Try.underlying42 hi hz0 hz1 hz2 rfl .i64 _ qs.length (qs.map Prod.fst) rfl (HO1.out.alloc _) _ 1 1 [(B : Int)] rfl (Reads.one_set _ _ _ _ _) (by omega) (by omega) (Nat.le_trans HZ.out (by simp)) ?_; intro v' w3 hO3 hb3)
          have hb4 : Below (w.heap.size + 1) (wn.setCell ⟨w.heap.size, B, none⟩ (.bool true)) w3 := ((Below.refl _ _).alloc HZ.out _).trans hb3
          have HN : Hid (SelAt w zs n v' (bs.set B true) (qs ++ [mkP zs B]) w3) := by
            refine ⟨HB1.out.trans (hb4.mono (by omega)), HSel.out, HM1.out.below hb4 (by omega), ?_, Nat.lt_of_lt_of_le (Nat.lt_of_succ_le HZ.out) hb4.size⟩
            rw [List.length_append, List.map_append]
            exact hO3
          have HQ2 : Hid ((qs ++ [mkP zs B]).length = j + 1) := by unfold Hid; rw [List.length_append, HQ.out]; rfl
          clear hO3 hb3 hb4 HB1 HO1 HM1 HSel HZ
          go_round
          case rel => exact ⟨j + 1, _, _, by omega, by go_num, HQ2, HN⟩
          case measure => simp [intOf]; omega
    · obtain rfl : j = K := by omega
      clear HM
      have HE : Hid (∃ ad c, u5 = .slice ad j c ∧ Reads .i64 wr ad j c (qs.map Prod.fst) ∧ TopOf zs len j (qs.map Prod.fst) ∧ Below w.heap.size w wr) := by
        obtain ⟨ad, c, e, hr⟩ := Reads.own (k := .i64) HS.out.out
        have hd := HS.out.sel.done
        rw [HQ.out] at e hr hd
        exact ⟨ad, c, e, hr, hd, HS.out.old⟩
      obtain ⟨ad, c, rfl, hr, hd, hb⟩ := HE.out
      have HR := hid hr
      have HD := hid hd
      have HB := hid hb
      clear hr hd hb HE HS HA
      rcases HX with hx | ⟨hx, hy⟩
      · go_wp2
        go_ret
        exact ⟨_, _, _, rfl, HR.out, HD.out, HB.out⟩
      · go_wp2
        go_ret
        exact ⟨_, _, _, rfl, HR.out, HD.out, HB.out⟩
end Go.Proofs.Ytpllffekebkacaa
