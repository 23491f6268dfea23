/-
  The document's list: Up.
-/
import Derived.Test.YtlhhkgjolilpiaaMbRg
namespace Go.Proofs.Ytlhhkgjolilpiaa
open Go.RowKit Go.Maps
set_option linter.unusedVariables false
set_option maxRecDepth 1000000
variable {B : Nat} {W W' w w' : World} {d i g n cap : Nat} {v v' : Value} {S S' : Ml} {r r' : Mr} {x t s z : Int}

/-- What is behind the state's turn: the incarnation, and, begun anew, nothing bound. -/
theorem beg_any (r : Mr) (z : Int) : (r.inc = 0 ∧ r.anew z = false ∧ r.beg z = { r with inc := z }) ∨ (r.inc ≠ 0 ∧ r.inc = z ∧ r.anew z = false ∧ r.beg z = { r with inc := z }) ∨ (r.inc ≠ 0 ∧ r.inc ≠ z ∧ r.anew z = true ∧ r.beg z = { r with inc := z, bd := 0 }) := by
  by_cases h0 : r.inc = 0
  · have e : r.anew z = false := by unfold Mr.anew; simp [h0]
    exact .inl ⟨h0, e, by unfold Mr.beg; rw [e, if_neg (by decide)]⟩
  · by_cases h1 : r.inc = z
    · have e : r.anew z = false := by unfold Mr.anew; simp [h1]
      exact .inr (.inl ⟨h0, h1, e, by unfold Mr.beg; rw [e, if_neg (by decide)]⟩)
    · have e : r.anew z = true := by unfold Mr.anew; simp [h0]; exact fun e => h1 e.symm
      exact .inr (.inr ⟨h0, h1, e, by unfold Mr.beg; rw [e, if_pos rfl]⟩)
theorem ups_any (r : Mr) (T : Int) : (r.st = 1 ∧ r.ups T = r.ent T 2) ∨ (r.st ≠ 1 ∧ r.st = 4 ∧ r.ups T = r.ent T 2) ∨ (r.st ≠ 1 ∧ r.st ≠ 4 ∧ r.ups T = r) := by
  unfold Mr.ups
  by_cases k1 : r.st = 1
  · exact .inl ⟨k1, if_pos (.inl k1)⟩
  · by_cases k4 : r.st = 4
    · exact .inr (.inl ⟨k1, k4, if_pos (.inr k4)⟩)
    · exact .inr (.inr ⟨k1, k4, if_neg (fun e => e.elim k1 k4)⟩)
theorem Rd.one (h : Rd B w W d g n cap S i r) (z : Int) : Rd B w (W.setCell ⟨g, i * 5 + 2, none⟩ (.int .u64 z)) d g n cap S i { r with inc := z } := h.set (j := 2) (by decide) rfl rfl
theorem Rd.two (h : Rd B w W d g n cap S i r) (z : Int) : Rd B w ((W.setCell ⟨g, i * 5 + 2, none⟩ (.int .u64 z)).setCell ⟨g, i * 5 + 3, none⟩ (.int .i64 0)) d g n cap S i { r with inc := z, bd := 0 } := (h.one z).set (r' := { r with inc := z, bd := 0 }) (j := 3) (by decide) rfl rfl
set_option maxHeartbeats 16000000 in
theorem rup_any (h : RmAt B w d v S) (ok : MlOk S) (t x z : Int) : Calls Try.prog 19 #[.pointer (some ⟨d, 0, none⟩), .int .i64 t, .int .u64 x, .int .u64 z] w fun e w' => e = .returned (.tuple #[.bool ((S.tm t).upB x z), .int .i64 ((S.tm t).upE x z)]) ∧ Hid (∃ v', RmO B w d v ((S.tm t).upS x z) v' w') := by
  have hL := rlater_any h t
  have ok1 := ok.tm t
  clear h ok
  generalize S.tm t = S1 at *
  have HP := hid fun (w1 : World) (h1 : RmAt B w1 d v S1) => rplace_any h1 ok1.ris ok1.len x
  have HOk := hid ok1
  clear ok1
  go_enter Try.func19, Try.ntmps19
  go_wp2_with fail
  refine hL.mono ?_
  rintro e w1 ⟨rfl, H1⟩
  have hP := HP.out _ H1.out.at'
  clear hL HP
  go_wp2_with fail
  refine hP.mono ?_
  rintro e w2 ⟨pz, rfl, HPz, rfl⟩
  clear hP
  rcases HPz.out with ⟨i, rfl, hi, hg⟩ | ⟨rfl, hg⟩
  · obtain ⟨e1, e2, e3⟩ := get_up (i := z) hg
    obtain ⟨g, n, cap, rfl, hR, hcap, hmax, hn8, hin⟩ := Rd.of H1.out.at' HOk.out hi
    rw [old_any] at e1 e2 e3
    have hu := ups_any (atM S1.L i) S1.now
    have hi2 := Mr.ups_inc (atM S1.L i) S1.now
    have han : ((atM S1.L i).ups S1.now).anew z = (atM S1.L i).anew z := by unfold Mr.anew; rw [hi2]
    rw [← han] at e2
    have c1 := hR.cs.2.1
    have ci := hR.cs.2.2.1
    have c2 := hR.box.row
    rw [← hi2] at ci e1 e2 e3
    have q1 : (i : Int) < (n : Int) := by omega
    have q2 : ¬ (i : Int) < 0 := by omega
    have hE := renter_any hR hn8 ⟨hcap, hmax⟩ 2
    have HR := hid hR
    clear HPz hi hg hR HOk han hi2
    have HF : Hid (∃ v', RmO B w d (.slice (some ⟨g, 0, none⟩) n cap) S1 v' w2) := ⟨_, H1.out⟩
    have HZ : Hid (∀ (W : World) (q : Mr), Rd B w2 W d g n cap S1 i q → ∃ v', RmO B w d (.slice (some ⟨g, 0, none⟩) n cap) (S1.put q) v' W) := fun W q hq => ⟨_, H1.out.trans hq.o⟩
    by_cases h0 : z = 0
    · rw [decide_eq_true h0, Bool.true_or] at e1 e2 e3
      have HE := hid e1
      have HS := hid e2
      have HT := hid e3
      subst h0
      clear e1 e2 e3 hE HZ HR H1 hu
      generalize hst : ((atM S1.L i).ups S1.now).inc = ri at ci
      clear hst
      go_wp2
      go_ret2
      exact ⟨by rw [HE.out, HS.out]; rfl, by rw [HT.out]; exact HF⟩
    rw [decide_eq_false h0, Bool.false_or] at e1 e2 e3
    have d0 : (z == 0) = false := by simp [h0]
    by_cases h1 : z < ((atM S1.L i).ups S1.now).inc
    · rw [decide_eq_true h1] at e1 e2 e3
      have d1 : decide (z < ((atM S1.L i).ups S1.now).inc) = true := decide_eq_true h1
      have HE := hid e1
      have HS := hid e2
      have HT := hid e3
      clear e1 e2 e3 hE HZ HR H1 hu h0 h1
      generalize hst : ((atM S1.L i).ups S1.now).inc = ri at ci d1
      clear hst
      go_wp2
      go_ret2
      exact ⟨by rw [HE.out, HS.out]; rfl, by rw [HT.out]; exact HF⟩
    rw [decide_eq_false h1, if_neg (by decide)] at e1 e2 e3
    have d1 : decide (z < ((atM S1.L i).ups S1.now).inc) = false := decide_eq_false h1
    have HE := hid e1
    have HS := hid e2
    have HT := hid e3
    clear e1 e2 e3 h0 h1 HF
    rcases hu with ⟨k1, ku⟩ | ⟨k1, k4, ku⟩ | ⟨k1, k4, ku⟩
    · rw [ku] at ci d1 HS HT
      generalize hr2 : (atM S1.L i).ent S1.now 2 = r2 at *
      clear hr2 ku
      rw [k1] at c1
      clear k1
      rcases beg_any r2 z with ⟨b0, b1, b2⟩ | ⟨b0, b1, b2, b3⟩ | ⟨b0, b1, b2, b3⟩
      · rw [b1] at HS
        rw [b2] at HT
        rw [b0] at ci d1
        have HB := hid b0
        have z0 : ((0 : Int) != 0) = false := rfl
        clear b0 b1 b2
        go_wp2_with fail
        refine hE.mono ?_
        rintro e w3 ⟨rfl, H3⟩
        clear hE c1 ci d0 d1 c2 HR H1
        have U1 := H3.out.one z
        have k2 := H3.out.box.row
        have ki := H3.out.cs.2.2.1
        rw [HB.out] at ki
        have f2 := H3.out.fz (i * 5 + 2)
        have X1 := hid (HZ.out _ _ U1)
        clear H3 U1 HZ HB
        go_wp2_with fail
        go_ret2
        exact ⟨by rw [HE.out, HS.out]; rfl, by rw [HT.out]; exact X1.out⟩
      · rw [b2] at HS
        rw [b3] at HT
        have z0 : (r2.inc != 0) = true := by simp [b0]
        have z1 : (r2.inc == 0) = false := by simp [b0]
        rw [b1] at ci d1 z0 z1
        have HB := hid b1
        have z2 : (z != z) = false := by simp
        clear b0 b1 b2 b3
        go_wp2_with fail
        refine hE.mono ?_
        rintro e w3 ⟨rfl, H3⟩
        clear hE c1 ci d0 d1 c2 HR H1
        have U1 := H3.out.one z
        have k2 := H3.out.box.row
        have ki := H3.out.cs.2.2.1
        rw [HB.out] at ki
        have f2 := H3.out.fz (i * 5 + 2)
        have X1 := hid (HZ.out _ _ U1)
        clear H3 U1 HZ HB
        go_wp2_with fail
        go_ret2
        exact ⟨by rw [HE.out, HS.out]; rfl, by rw [HT.out]; exact X1.out⟩
      · rw [b2] at HS
        rw [b3] at HT
        have z0 : (r2.inc != 0) = true := by simp [b0]
        have z1 : (r2.inc == 0) = false := by simp [b0]
        have z2 : (r2.inc != z) = true := by simp [b1]
        have z3 : (r2.inc == z) = false := by simp [b1]
        generalize hri : r2.inc = ri at ci d1 z0 z1 z2 z3
        have HB := hid hri
        clear b0 b1 b2 b3 hri
        go_wp2_with fail
        refine hE.mono ?_
        rintro e w3 ⟨rfl, H3⟩
        clear hE c1 ci d0 d1 c2 HR H1
        have U1 := H3.out.one z
        have k2 := H3.out.box.row
        have ki := H3.out.cs.2.2.1
        rw [HB.out] at ki
        have f2 := H3.out.fz (i * 5 + 2)
        have U2 := H3.out.two z
        have k2' := U1.box.row
        have k3 := U1.cs.2.2.2.1
        have f3 := U1.fz (i * 5 + 3)
        have X2 := hid (HZ.out _ _ U2)
        simp only at k3
        clear H3 U1 U2 HZ HB
        generalize hst : r2.bd = rb at k3
        clear hst
        go_wp2_with fail
        go_ret2
        exact ⟨by rw [HE.out, HS.out]; rfl, by rw [HT.out]; exact X2.out⟩
    · rw [ku] at ci d1 HS HT
      generalize hr2 : (atM S1.L i).ent S1.now 2 = r2 at *
      clear hr2 ku
      rw [k4] at c1
      clear k1 k4
      rcases beg_any r2 z with ⟨b0, b1, b2⟩ | ⟨b0, b1, b2, b3⟩ | ⟨b0, b1, b2, b3⟩
      · rw [b1] at HS
        rw [b2] at HT
        rw [b0] at ci d1
        have HB := hid b0
        have z0 : ((0 : Int) != 0) = false := rfl
        clear b0 b1 b2
        go_wp2_with fail
        refine hE.mono ?_
        rintro e w3 ⟨rfl, H3⟩
        clear hE c1 ci d0 d1 c2 HR H1
        have U1 := H3.out.one z
        have k2 := H3.out.box.row
        have ki := H3.out.cs.2.2.1
        rw [HB.out] at ki
        have f2 := H3.out.fz (i * 5 + 2)
        have X1 := hid (HZ.out _ _ U1)
        clear H3 U1 HZ HB
        go_wp2_with fail
        go_ret2
        exact ⟨by rw [HE.out, HS.out]; rfl, by rw [HT.out]; exact X1.out⟩
      · rw [b2] at HS
        rw [b3] at HT
        have z0 : (r2.inc != 0) = true := by simp [b0]
        have z1 : (r2.inc == 0) = false := by simp [b0]
        rw [b1] at ci d1 z0 z1
        have HB := hid b1
        have z2 : (z != z) = false := by simp
        clear b0 b1 b2 b3
        go_wp2_with fail
        refine hE.mono ?_
        rintro e w3 ⟨rfl, H3⟩
        clear hE c1 ci d0 d1 c2 HR H1
        have U1 := H3.out.one z
        have k2 := H3.out.box.row
        have ki := H3.out.cs.2.2.1
        rw [HB.out] at ki
        have f2 := H3.out.fz (i * 5 + 2)
        have X1 := hid (HZ.out _ _ U1)
        clear H3 U1 HZ HB
        go_wp2_with fail
        go_ret2
        exact ⟨by rw [HE.out, HS.out]; rfl, by rw [HT.out]; exact X1.out⟩
      · rw [b2] at HS
        rw [b3] at HT
        have z0 : (r2.inc != 0) = true := by simp [b0]
        have z1 : (r2.inc == 0) = false := by simp [b0]
        have z2 : (r2.inc != z) = true := by simp [b1]
        have z3 : (r2.inc == z) = false := by simp [b1]
        generalize hri : r2.inc = ri at ci d1 z0 z1 z2 z3
        have HB := hid hri
        clear b0 b1 b2 b3 hri
        go_wp2_with fail
        refine hE.mono ?_
        rintro e w3 ⟨rfl, H3⟩
        clear hE c1 ci d0 d1 c2 HR H1
        have U1 := H3.out.one z
        have k2 := H3.out.box.row
        have ki := H3.out.cs.2.2.1
        rw [HB.out] at ki
        have f2 := H3.out.fz (i * 5 + 2)
        have U2 := H3.out.two z
        have k2' := U1.box.row
        have k3 := U1.cs.2.2.2.1
        have f3 := U1.fz (i * 5 + 3)
        have X2 := hid (HZ.out _ _ U2)
        simp only at k3
        clear H3 U1 U2 HZ HB
        generalize hst : r2.bd = rb at k3
        clear hst
        go_wp2_with fail
        go_ret2
        exact ⟨by rw [HE.out, HS.out]; rfl, by rw [HT.out]; exact X2.out⟩
    · rw [ku] at ci d1 HS HT
      have y1 : ((atM S1.L i).st == 1) = false := by simp [k1]
      have y4 : ((atM S1.L i).st == 4) = false := by simp [k4]
      clear ku k1 k4 hE
      generalize hr2 : atM S1.L i = r2 at *
      clear hr2
      generalize hst : r2.st = st at c1 y1 y4
      clear hst
      rcases beg_any r2 z with ⟨b0, b1, b2⟩ | ⟨b0, b1, b2, b3⟩ | ⟨b0, b1, b2, b3⟩
      · rw [b1] at HS
        rw [b2] at HT
        rw [b0] at ci d1
        have z0 : ((0 : Int) != 0) = false := rfl
        clear b0 b1 b2
        have U1 := HR.out.one z
        have f2 := HR.out.fz (i * 5 + 2)
        have X1 := hid (HZ.out _ _ U1)
        clear HR U1 HZ H1
        go_wp2_with fail
        go_ret2
        exact ⟨by rw [HE.out, HS.out]; rfl, by rw [HT.out]; exact X1.out⟩
      · rw [b2] at HS
        rw [b3] at HT
        have z0 : (r2.inc != 0) = true := by simp [b0]
        have z1 : (r2.inc == 0) = false := by simp [b0]
        rw [b1] at ci d1 z0 z1
        have z2 : (z != z) = false := by simp
        clear b0 b1 b2 b3
        have U1 := HR.out.one z
        have f2 := HR.out.fz (i * 5 + 2)
        have X1 := hid (HZ.out _ _ U1)
        clear HR U1 HZ H1
        go_wp2_with fail
        go_ret2
        exact ⟨by rw [HE.out, HS.out]; rfl, by rw [HT.out]; exact X1.out⟩
      · rw [b2] at HS
        rw [b3] at HT
        have z0 : (r2.inc != 0) = true := by simp [b0]
        have z1 : (r2.inc == 0) = false := by simp [b0]
        have z2 : (r2.inc != z) = true := by simp [b1]
        have z3 : (r2.inc == z) = false := by simp [b1]
        generalize hri : r2.inc = ri at ci d1 z0 z1 z2 z3
        clear b0 b1 b2 b3 hri
        have U1 := HR.out.one z
        have f2 := HR.out.fz (i * 5 + 2)
        have U2 := HR.out.two z
        have k2' := U1.box.row
        have k3 := U1.cs.2.2.2.1
        have f3 := U1.fz (i * 5 + 3)
        have X2 := hid (HZ.out _ _ U2)
        simp only at k3
        clear HR U1 U2 HZ H1
        generalize hst : r2.bd = rb at k3
        clear hst
        go_wp2_with fail
        go_ret2
        exact ⟨by rw [HE.out, HS.out]; rfl, by rw [HT.out]; exact X2.out⟩
  · obtain ⟨e0, e1, e2, _⟩ := get_none (i := z) (v := 0) (wt := 0) (s := 0) hg
    have HE := hid e0
    have HS := hid e1
    have HT := hid e2
    have HF : Hid (∃ v', RmO B w d v S1 v' w2) := ⟨_, H1.out⟩
    clear HPz hg e0 e1 e2 HOk H1
    go_wp2
    go_ret2
    exact ⟨by rw [HE.out, HS.out]; rfl, by rw [HT.out]; exact HF⟩
end Go.Proofs.Ytlhhkgjolilpiaa
