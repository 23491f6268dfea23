/-
  The document's list: Lost, Drain, Up, Bind, Live.
-/
import Derived.Test.YtlhhkgjolilpiaaMbRf
namespace Go.Proofs.Ytlhhkgjolilpiaa
open Go.RowKit Go.Maps
set_option linter.unusedVariables false
set_option maxRecDepth 1000000
variable {B : Nat} {W W' w w' : World} {d i g n cap : Nat} {v v' : Value} {S S' : Ml} {r r' : Mr} {x t s : Int}

theorem Rd.of (h : RmAt B W d v S) (ok : MlOk S) (hi : i < S.L.length) : ∃ g n cap, v = .slice (some ⟨g, 0, none⟩) n cap ∧ Rd B W W d g n cap S i (atM S.L i) ∧ n ≤ cap ∧ cap ≤ 9223372036854775807 ∧ n ≤ 8 ∧ i < n := by
  obtain ⟨g, c, cur, hv, _⟩ := h.row.isSome hi
  obtain ⟨a, cap, hv2, h1, h2, _⟩ := h.row.isSl
  rw [hv] at hv2
  cases hv2
  refine ⟨g, _, c, hv, Rd.init (by rw [← hv]; exact h) ok.ris hi rfl, h1, h2, ok.len, hi⟩
/-- A call's two parts. -/
theorem RmO.rd {w w1 W : World} {v : Value} {S S1 : Ml} {g n cap i : Nat} {r : Mr} (h : RmO B w d (.slice (some ⟨g, 0, none⟩) n cap) S1 (.slice (some ⟨g, 0, none⟩) n cap) w1) (k : Rd B w1 W d g n cap S1 i r) : ∃ v', RmO B w d (.slice (some ⟨g, 0, none⟩) n cap) (S1.put r) v' W := ⟨_, h.trans k.o⟩
set_option maxHeartbeats 4000000 in
theorem rlost_any (h : RmAt B w d v S) (ok : MlOk S) (t x : Int) : Calls Try.prog 11 #[.pointer (some ⟨d, 0, none⟩), .int .i64 t, .int .u64 x] w fun e w' => e = .returned (.int .i64 ((S.tm t).turnE x)) ∧ Hid (∃ v', RmO B w d v ((S.tm t).turnS x 4) v' w') := by
  have hL := rlater_any h t
  have ok1 := ok.tm t
  clear h ok
  generalize S.tm t = S1 at *
  have HP := hid fun (w1 : World) (h1 : RmAt B w1 d v S1) => rplace_any h1 ok1.ris ok1.len x
  have HOk := hid ok1
  clear ok1
  go_enter Try.func11, Try.ntmps11
  go_wp2_with fail
  refine hL.mono ?_
  rintro e w1 ⟨rfl, H1⟩
  have hP := HP.out _ H1.out.at'
  clear hL HP
  go_wp2_with fail
  refine hP.mono ?_
  rintro e w2 ⟨pz, rfl, HPz, rfl⟩
  clear hP
  rcases HPz.out with ⟨i, rfl, hi, hg⟩ | ⟨rfl, hg⟩
  · obtain ⟨e1, e2⟩ := get_turn (s := 4) hg
    obtain ⟨g, n, cap, rfl, hR, hcap, hmax, hn8, hin⟩ := Rd.of H1.out.at' HOk.out hi
    have HE := hid e1
    have HS := hid e2
    have c1 := hR.cs.2.1
    have c2 := hR.box.row
    have q1 : (i : Int) < (n : Int) := by omega
    have q2 : ¬ (i : Int) < 0 := by omega
    have hE := renter_any hR hn8 ⟨hcap, hmax⟩ 4
    have HR := hid hR
    clear HPz hi hg e1 e2 HOk hR
    by_cases h3 : (atM S1.L i).st = 3
    · rw [if_pos h3] at HE HS
      rw [h3] at c1
      have HF : Hid (∃ v', RmO B w d (.slice (some ⟨g, 0, none⟩) n cap) S1 v' w2) := ⟨_, H1.out⟩
      clear h3 hE H1 HR
      go_wp2
      go_ret
      exact ⟨by rw [HE.out]; rfl, by rw [HS.out]; exact HF⟩
    · rw [if_neg h3] at HE HS
      have d1 : ((atM S1.L i).st == 3) = false := by simp [h3]
      have d2 : ((atM S1.L i).st != 3) = true := by simp [h3]
      clear h3
      generalize hst : (atM S1.L i).st = st at c1 d1 d2
      clear hst
      go_wp2_with fail
      refine hE.mono ?_
      rintro e w3 ⟨rfl, H3⟩
      have HF := hid (H1.out.rd (v := .slice none 0 0) (S := S1) H3.out)
      clear hE H3 H1 HR c1 c2
      go_wp2
      go_ret
      exact ⟨by rw [HE.out]; rfl, by rw [HS.out]; exact HF⟩
  · obtain ⟨_, _, _, e1, e2, _⟩ := get_none (i := 0) (v := 0) (wt := 0) (s := 4) hg
    have HE := hid e1
    have HS := hid e2
    have HF : Hid (∃ v', RmO B w d v S1 v' w2) := ⟨_, H1.out⟩
    clear HPz hg e1 e2 HOk H1
    go_wp2
    go_ret
    exact ⟨by rw [HE.out]; rfl, by rw [HS.out]; exact HF⟩
set_option maxHeartbeats 4000000 in
theorem rdrain_any (h : RmAt B w d v S) (ok : MlOk S) (t x : Int) : Calls Try.prog 13 #[.pointer (some ⟨d, 0, none⟩), .int .i64 t, .int .u64 x] w fun e w' => e = .returned (.int .i64 ((S.tm t).turnE x)) ∧ Hid (∃ v', RmO B w d v ((S.tm t).turnS x 3) v' w') := by
  have hL := rlater_any h t
  have ok1 := ok.tm t
  clear h ok
  generalize S.tm t = S1 at *
  have HP := hid fun (w1 : World) (h1 : RmAt B w1 d v S1) => rplace_any h1 ok1.ris ok1.len x
  have HOk := hid ok1
  clear ok1
  go_enter Try.func13, Try.ntmps13
  go_wp2_with fail
  refine hL.mono ?_
  rintro e w1 ⟨rfl, H1⟩
  have hP := HP.out _ H1.out.at'
  clear hL HP
  go_wp2_with fail
  refine hP.mono ?_
  rintro e w2 ⟨pz, rfl, HPz, rfl⟩
  clear hP
  rcases HPz.out with ⟨i, rfl, hi, hg⟩ | ⟨rfl, hg⟩
  · obtain ⟨e1, e2⟩ := get_turn (s := 3) hg
    obtain ⟨g, n, cap, rfl, hR, hcap, hmax, hn8, hin⟩ := Rd.of H1.out.at' HOk.out hi
    have HE := hid e1
    have HS := hid e2
    have c1 := hR.cs.2.1
    have c2 := hR.box.row
    have q1 : (i : Int) < (n : Int) := by omega
    have q2 : ¬ (i : Int) < 0 := by omega
    have hE := renter_any hR hn8 ⟨hcap, hmax⟩ 3
    have HR := hid hR
    clear HPz hi hg e1 e2 HOk hR
    by_cases h3 : (atM S1.L i).st = 3
    · rw [if_pos h3] at HE HS
      rw [h3] at c1
      have HF : Hid (∃ v', RmO B w d (.slice (some ⟨g, 0, none⟩) n cap) S1 v' w2) := ⟨_, H1.out⟩
      clear h3 hE H1 HR
      go_wp2
      go_ret
      exact ⟨by rw [HE.out]; rfl, by rw [HS.out]; exact HF⟩
    · rw [if_neg h3] at HE HS
      have d1 : ((atM S1.L i).st == 3) = false := by simp [h3]
      have d2 : ((atM S1.L i).st != 3) = true := by simp [h3]
      clear h3
      generalize hst : (atM S1.L i).st = st at c1 d1 d2
      clear hst
      go_wp2_with fail
      refine hE.mono ?_
      rintro e w3 ⟨rfl, H3⟩
      have HF := hid (H1.out.rd (v := .slice none 0 0) (S := S1) H3.out)
      clear hE H3 H1 HR c1 c2
      go_wp2
      go_ret
      exact ⟨by rw [HE.out]; rfl, by rw [HS.out]; exact HF⟩
  · obtain ⟨_, _, _, e1, e2, _⟩ := get_none (i := 0) (v := 0) (wt := 0) (s := 3) hg
    have HE := hid e1
    have HS := hid e2
    have HF : Hid (∃ v', RmO B w d v S1 v' w2) := ⟨_, H1.out⟩
    clear HPz hg e1 e2 HOk H1
    go_wp2
    go_ret
    exact ⟨by rw [HE.out]; rfl, by rw [HS.out]; exact HF⟩
theorem rfar_any {r : Mr} (hb : 0 ≤ r.bd ∧ r.bd ≤ 1048576) (x : Int) : r.far x = true ↔ (x < -1048576 ∨ (¬ x < -1048576 ∧ 1048576 < x) ∨ (¬ x < -1048576 ∧ ¬ 1048576 < x ∧ r.bd + x < 0) ∨ (¬ x < -1048576 ∧ ¬ 1048576 < x ∧ ¬ r.bd + x < 0 ∧ 1048576 < r.bd + x)) := by
  unfold Mr.far
  rw [decide_eq_true_eq]
  omega
set_option maxHeartbeats 4000000 in
theorem rbind_any (h : RmAt B w d v S) (ok : MlOk S) (x z : Int) : Calls Try.prog 17 #[.pointer (some ⟨d, 0, none⟩), .int .u64 x, .int .i64 z] w fun e w' => e = .returned (.int .i64 (S.bindE x z)) ∧ Hid (∃ v', RmO B w d v (S.bindS x z) v' w') := by
  have hP := rplace_any h ok.ris ok.len x
  have HH := hid h
  have HOk := hid ok
  clear ok h
  go_enter Try.func17, Try.ntmps17
  go_wp2_with fail
  refine hP.mono ?_
  rintro e w2 ⟨pz, rfl, HPz, rfl⟩
  clear hP
  rcases HPz.out with ⟨i, rfl, hi, hg⟩ | ⟨rfl, hg⟩
  · obtain ⟨e1, e2⟩ := get_bind (v := z) hg
    obtain ⟨g, n, cap, rfl, hR, hcap, hmax, hn8, hin⟩ := Rd.of HH.out HOk.out hi
    have HE := hid e1
    have HS := hid e2
    have hbd := (HOk.out.rep _ (mk_mem hi)).bd
    have hfar := rfar_any hbd z
    have c3 := hR.cs.2.2.2.1
    have c2 := hR.box.row
    have f3 := hR.fz (i * 5 + 3)
    have q1 : (i : Int) < (n : Int) := by omega
    have q2 : ¬ (i : Int) < 0 := by omega
    have HG := hid hR.o
    have HG2 := hid (hR.set (r' := { atM S.L i with bd := (atM S.L i).bd + z }) (j := 3) (u := .int .i64 ((atM S.L i).bd + z)) (by decide) rfl rfl).o
    have HF : Hid (∃ v', RmO B w2 d (.slice (some ⟨g, 0, none⟩) n cap) S v' w2) := ⟨_, RmO.refl HH.out⟩
    clear HPz hi hg e1 e2 HOk hR HH
    by_cases h0 : (atM S.L i).far z = true
    · rw [if_pos h0] at HE HS
      have hd := hfar.1 h0
      clear hfar h0 HG HG2
      generalize hst : (atM S.L i).bd = rb at c3 hbd hd
      clear hst
      rcases hd with k1 | ⟨k1, k2⟩ | ⟨k1, k2, k3⟩ | ⟨k1, k2, k3, k4⟩
      · have d1 : decide (z < -1048576) = true := decide_eq_true k1
        clear k1 hbd
        go_wp2
        go_ret
        exact ⟨by rw [HE.out]; rfl, by rw [HS.out]; exact HF⟩
      · have d1 : decide (z < -1048576) = false := decide_eq_false k1
        have d2 : decide (1048576 < z) = true := decide_eq_true k2
        clear k1 k2 hbd
        go_wp2
        go_ret
        exact ⟨by rw [HE.out]; rfl, by rw [HS.out]; exact HF⟩
      · have d1 : decide (z < -1048576) = false := decide_eq_false k1
        have d2 : decide (1048576 < z) = false := decide_eq_false k2
        have v1 : IntKind.i64.wrap (rb + z) = rb + z := by rw [IntKind.wrap_i64]; omega
        have v2 : wrap64 (rb + z) = rb + z := by unfold wrap64; omega
        have d3 : decide (rb + z < 0) = true := decide_eq_true k3
        clear k1 k2 k3 hbd
        go_wp2
        go_ret
        exact ⟨by rw [HE.out]; rfl, by rw [HS.out]; exact HF⟩
      · have d1 : decide (z < -1048576) = false := decide_eq_false k1
        have d2 : decide (1048576 < z) = false := decide_eq_false k2
        have v1 : IntKind.i64.wrap (rb + z) = rb + z := by rw [IntKind.wrap_i64]; omega
        have v2 : wrap64 (rb + z) = rb + z := by unfold wrap64; omega
        have d3 : decide (rb + z < 0) = false := decide_eq_false k3
        have d4 : decide (1048576 < rb + z) = true := decide_eq_true k4
        clear k1 k2 k3 k4 hbd
        go_wp2
        go_ret
        exact ⟨by rw [HE.out]; rfl, by rw [HS.out]; exact HF⟩
    · rw [if_neg h0] at HE HS
      have hd : ¬ z < -1048576 ∧ ¬ 1048576 < z ∧ ¬ (atM S.L i).bd + z < 0 ∧ ¬ 1048576 < (atM S.L i).bd + z := by
        have := _root_.mt hfar.2 h0
        omega
      have HX : Hid (∃ v', RmO B w2 d (.slice (some ⟨g, 0, none⟩) n cap) (S.bindS x z) v' (w2.setCell ⟨g, i * 5 + 3, none⟩ (.int .i64 ((atM S.L i).bd + z)))) := by rw [HS.out]; exact ⟨_, HG2.out⟩
      clear hfar h0 HG HG2 HF HS
      generalize hst : (atM S.L i).bd = rb at c3 hbd hd HX
      clear hst
      obtain ⟨k1, k2, k3, k4⟩ := hd
      have d1 : decide (z < -1048576) = false := decide_eq_false k1
      have d2 : decide (1048576 < z) = false := decide_eq_false k2
      have v1 : IntKind.i64.wrap (rb + z) = rb + z := by rw [IntKind.wrap_i64]; omega
      have v2 : wrap64 (rb + z) = rb + z := by unfold wrap64; omega
      have d3 : decide (rb + z < 0) = false := decide_eq_false k3
      have d4 : decide (1048576 < rb + z) = false := decide_eq_false k4
      clear k1 k2 k3 k4 hbd
      go_wp2
      go_ret
      exact ⟨by rw [HE.out]; rfl, HX⟩
  · obtain ⟨_, _, _, _, _, _, _, e1, e2, _⟩ := get_none (i := 0) (v := z) (wt := 0) (s := 0) hg
    have HE := hid e1
    have HS := hid e2
    have HF : Hid (∃ v', RmO B w2 d v S v' w2) := ⟨_, RmO.refl HH.out⟩
    clear HPz hg e1 e2 HOk HH
    go_wp2
    go_ret
    exact ⟨by rw [HE.out]; rfl, by rw [HS.out]; exact HF⟩
theorem liveL_take {L : List Mr} {k : Nat} (h : k < L.length) : liveL (L.take (k + 1)) = liveL (L.take k) + (if (atM L k).st ≠ 3 then 1 else 0) := by
  rw [take_mk h]
  unfold liveL
  rw [List.filter_append, List.length_append]
  by_cases h3 : (atM L k).st = 3 <;> simp [h3]
theorem rlive_any (h : RmAt B w d v S) (hlen : S.L.length ≤ 8) : Calls Try.prog 23 #[.pointer (some ⟨d, 0, none⟩)] w fun e w' => e = .returned (.int .i64 (liveL S.L)) ∧ w' = w := by
  obtain ⟨av, cv, rfl, rv, mv, nv⟩ := h.row.isSl
  have HH := hid h
  have c3 := h.cs.row
  clear h
  have HL : Hid (∀ k, k < S.L.length → liveL (S.L.take (k + 1)) = liveL (S.L.take k) + (if (atM S.L k).st ≠ 3 then 1 else 0)) := fun k hk => liveL_take hk
  have HLe : Hid (∀ k, liveL (S.L.take k) ≤ k) := fun k => Nat.le_trans (List.length_filter_le _ _) (List.length_take_le _ _)
  have HE : Hid (liveL (S.L.take S.L.length) = liveL S.L) := by unfold Hid; rw [List.take_length]
  obtain ⟨n, hN⟩ : ∃ n, S.L.length = n := ⟨_, rfl⟩
  have HNn := hid hN
  rw [hN] at rv HH hlen c3 HL HE
  clear nv hN
  go_enter Try.func23, Try.ntmps23
  go_wp2_with fail
  go_loopw [3, 4] (fun c i W => ∃ k : Nat, k ≤ n ∧ i = .int .i64 k ∧ c = .int .i64 (liveL (S.L.take k) : Nat) ∧ Hid (W = w)) (fun _ i _ => n - (intOf i).toNat)
  case atStart => exact ⟨0, Nat.zero_le _, rfl, rfl, rfl⟩
  case round =>
  obtain ⟨k, hk, rfl, rfl, HW⟩ := hrel
  rename World => wr
  have hW := HW.out
  subst hW
  have hle := HLe.out k
  by_cases hlt : k < n
  · obtain ⟨g, cap', cur, hv, hg, _⟩ := HH.out.row.isSome (k := k) (by rw [HNn.out]; exact hlt)
    have hav : av = some ⟨g, 0, none⟩ := by cases hv; rfl
    subst hav
    have ca := (HH.out.row.at (k := k) (by rw [HNn.out]; exact hlt)).2.1
    have q1 : (k : Int) < (n : Int) := by omega
    have hS := HL.out k hlt
    by_cases he : (atM S.L k).st = 3
    · rw [if_neg (fun e => e he)] at hS
      have HS := hid hS
      rw [he] at ca
      clear he HL HE HH hv hg cur hS
      go_wp2_with fail
      go_round
      case rel => exact ⟨k + 1, by omega, by go_num, by rw [HS.out]; rfl, trivial⟩
      case measure => simp [intOf]; omega
    · rw [if_pos he] at hS
      have HS := hid hS
      have d1 : ((atM S.L k).st == 3) = false := by simp [he]
      have d2 : ((atM S.L k).st != 3) = true := by simp [he]
      clear he HL HE HH hv hg cur hS
      generalize (atM S.L k).st = y at *
      generalize hl2 : liveL (S.L.take k) = l2 at *
      have HL2 := hid hl2
      clear hl2
      have v1 : IntKind.i64.wrap ((l2 : Int) + 1) = (l2 : Int) + 1 := by rw [IntKind.wrap_i64]; omega
      go_wp2_with fail
      go_round
      case rel => exact ⟨k + 1, by omega, by go_num, by rw [HS.out]; rfl, trivial⟩
      case measure => simp [intOf]; omega
  · obtain rfl : k = n := by omega
    clear HL HH
    go_wp2
    go_ret
    exact ⟨by rw [← HE.out]; rfl, rfl⟩
end Go.Proofs.Ytlhhkgjolilpiaa
