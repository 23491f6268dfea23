/-
  Package scale: mayUp, mayDown, spares, up, down.
-/
import Derived.Test.YtkkkabgljppilaaScPr
import Derived.Deep.DeepCutAuto
import Derived.Deep.CutBlock
namespace Go.Proofs.Ytkkkabgljppilaa
open Go.RowKit
set_option linter.unusedVariables false
set_option maxRecDepth 1000000
variable {b : Nat} {w w' : World} {P : Pk}

theorem below_drew (w : World) : Below w.heap.size w w.drew := (Below.refl _ _).drew
theorem smayup_any (h : PkAt w b P) (ok : PkOk P) : Calls Try.prog 28 #[.pointer (some ⟨b, 0, none⟩)] w fun e w' => e = .returned (.bool P.agU) ∧ Hid (Below w.heap.size w w') := by
  have HA := hid fun W => sago_any P.up P.now P.uw ok.up ok.now W
  rw [show agZ P.up P.now P.uw = P.agU from rfl] at HA
  have HG := hid (PkAt.below h (below_drew w))
  have HB := hid (below_drew w)
  clear h ok
  generalize P.agU = r at *
  go_enter Try.func28, Try.ntmps28
  go_wp2_with fail
  have d1 := HG.out.cs.uw
  have d2 := HG.out.cs.now
  have d3 := HG.out.cs.ue
  have d4 := HG.out.cs.ua
  go_region_held3 (fun W : World => W.cell? ⟨b, 4, none⟩ = some (.int .i64 P.uw) ∧ W.cell? ⟨b, 6, none⟩ = some (.int .i64 P.now) ∧ W.cell? ⟨b, 7, none⟩ = some (.bool (ev P.up)) ∧ W.cell? ⟨b, 8, none⟩ = some (.int .i64 (ea P.up)))
    (refine And.intro ?_ (And.intro ?_ (And.intro ?_ ?_)) <;> with_reducible assumption)
    (first | (go_at_call 34; (with_reducible refine (HA.out _).mono ?_); rintro e w1 ⟨rfl, hb⟩; have HX := hid (HB.out.trans (hb.out.mono HB.out.size)); have HG1 := hid (HG.out.below hb.out); have e1 := HG1.out.cs.uw; have e2 := HG1.out.cs.now; have e3 := HG1.out.cs.ue; have e4 := HG1.out.cs.ua; clear d1 d2 d3 d4 HA HG HB hb HG1) | fail)
  all_goals
    go_wp2_with fail
    go_ret
    exact ⟨rfl, HX⟩
theorem smaydn_any (h : PkAt w b P) (ok : PkOk P) : Calls Try.prog 30 #[.pointer (some ⟨b, 0, none⟩)] w fun e w' => e = .returned (.bool P.agD) ∧ Hid (Below w.heap.size w w') := by
  have HA := hid fun W => sago_any P.ls P.now P.dw (Pk.ls_bd ok) ok.now W
  rw [show agZ P.ls P.now P.dw = P.agD from rfl] at HA
  have HG := hid (PkAt.below h (below_drew w))
  have HB := hid (below_drew w)
  clear h ok
  generalize P.agD = r at *
  go_enter Try.func30, Try.ntmps30
  go_wp2_with fail
  have d1 := HG.out.cs.dw
  have d2 := HG.out.cs.now
  have d3 := HG.out.cs.se
  have d4 := HG.out.cs.sa
  go_region_held3 (fun W : World => W.cell? ⟨b, 5, none⟩ = some (.int .i64 P.dw) ∧ W.cell? ⟨b, 6, none⟩ = some (.int .i64 P.now) ∧ W.cell? ⟨b, 9, none⟩ = some (.bool (ev P.ls)) ∧ W.cell? ⟨b, 10, none⟩ = some (.int .i64 (ea P.ls)))
    (refine And.intro ?_ (And.intro ?_ (And.intro ?_ ?_)) <;> with_reducible assumption)
    (first | (go_at_call 34; (with_reducible refine (HA.out _).mono ?_); rintro e w1 ⟨rfl, hb⟩; have HX := hid (HB.out.trans (hb.out.mono HB.out.size)); have HG1 := hid (HG.out.below hb.out); have e1 := HG1.out.cs.dw; have e2 := HG1.out.cs.now; have e3 := HG1.out.cs.se; have e4 := HG1.out.cs.sa; clear d1 d2 d3 d4 HA HG HB hb HG1) | fail)
  all_goals
    go_wp2_with fail
    go_ret
    exact ⟨rfl, HX⟩
theorem sspares_any (h : PkAt w b P) (ok : PkOk P) {l : Int} (h1 : 1 ≤ l) (h8 : l ≤ 8) (load : Int) : Calls Try.prog 29 #[.pointer (some ⟨b, 0, none⟩), .int .i64 l, .int .i64 load] w fun e w' => e = .returned (.bool (P.spr l load)) ∧ ∃ m, w' = w.drewN m := by
  obtain ⟨⟨q1, q2⟩, q3, q4⟩ := Pk.rm_bd ok h1 h8
  have hs := ok.sl
  have d2 := fun n : Nat => (h.drewN n).cs.pr
  have d3 := fun n : Nat => (h.drewN n).cs.sl
  have a1 : IntKind.i64.wrap (l - 1) = l - 1 := by rw [IntKind.wrap_i64]; omega
  have a2 : IntKind.i64.wrap ((l - 1) * P.pr) = (l - 1) * P.pr := by rw [IntKind.wrap_i64]; omega
  have a3 : IntKind.i64.wrap (100 - P.sl) = 100 - P.sl := by rw [IntKind.wrap_i64]; omega
  have e : (l - 1) * P.pr * (100 - P.sl) = P.rm l := rfl
  have a4 : IntKind.i64.wrap ((l - 1) * P.pr * (100 - P.sl)) = P.rm l := by rw [e, IntKind.wrap_i64]; omega
  have e5 : (P.rm l).tdiv 100 = (P.rm l) / 100 := Int.tdiv_eq_ediv_of_nonneg q3
  have a5 : IntKind.i64.wrap ((P.rm l).tdiv 100) = (P.rm l).tdiv 100 := by rw [e5, IntKind.wrap_i64]; omega
  have b5 : IntKind.i64.wrap ((P.rm l) / 100) = (P.rm l).tdiv 100 := by rw [← e5]; exact a5
  have hd := Pk.spr_quo ok h1 h8 load
  obtain ⟨z, hz⟩ : ∃ z, (P.rm l).tdiv 100 = z := ⟨_, rfl⟩
  rw [hz] at hd a5 b5
  clear h ok e q1 q2 q3 q4 hs e5
  generalize P.spr l load = r at *
  go_enter Try.func29, Try.ntmps29
  go_wp2_with fail
  go_quiet (fail)
  go_wp2_with fail
  go_ret
  exact ⟨rfl, _, rfl⟩
theorem sdown_any (h : PkAt w b P) (ok : PkOk P) : Calls Try.prog 26 #[.pointer (some ⟨b, 0, none⟩)] w fun e w' => e = .returned (.int .i64 (-1)) ∧ Hid (PkAt w' b (P.went (-1)) ∧ Tn b w w') := by
  have c6 := h.cs.now
  have c9 := h.cs.se
  have c10 := h.cs.sa
  have f9 := h.frozen 9
  have f10 := h.frozen 10
  have hn := ok.now
  have hl := Pk.ls_dn ok
  have HX : Hid (PkAt ((w.setCell ⟨b, 9, none⟩ (.bool true)).setCell ⟨b, 10, none⟩ (.int .i64 P.now)) b (P.went (-1)) ∧ Tn b w ((w.setCell ⟨b, 9, none⟩ (.bool true)).setCell ⟨b, 10, none⟩ (.int .i64 P.now))) := by
    refine ⟨?_, ((Tn.refl b w).set _ _).set _ _⟩
    have g1 := row_set (k := 9) (u := .bool true) h
    have g2 := row_set (k := 10) (u := .int .i64 P.now) g1
    have e : P.went (-1) = { P with dn := P.now } := rfl
    rw [e]
    unfold PkAt
    rw [g2]
    unfold PkC
    rw [hl, ev_now hn.1, ea_now hn.1]
    rfl
  clear h ok hn hl
  go_enter Try.func26, Try.ntmps26
  go_wp2_with fail
  go_ret
  exact ⟨rfl, HX⟩
theorem sup_any (h : PkAt w b P) (ok : PkOk P) : Calls Try.prog 27 #[.pointer (some ⟨b, 0, none⟩)] w fun e w' => e = .returned (.int .i64 1) ∧ Hid (PkAt w' b (P.went 1) ∧ Tn b w w') := by
  have hn := ok.now
  have hl := Pk.ls_up ok
  obtain ⟨W1, hW1⟩ : ∃ W1, (w.setCell ⟨b, 7, none⟩ (.bool true)).setCell ⟨b, 8, none⟩ (.int .i64 P.now) = W1 := ⟨_, rfl⟩
  have g1 := row_set (k := 7) (u := .bool true) h
  have g2 := row_set (k := 8) (u := .int .i64 P.now) g1
  rw [hW1] at g2
  have g3 := row_set (k := 9) (u := .bool true) g2
  have g4 := row_set (k := 10) (u := .int .i64 P.now) g3
  have t1 : Tn b w W1 := by rw [← hW1]; exact ((Tn.refl b w).set _ _).set _ _
  have HX : Hid (PkAt ((W1.setCell ⟨b, 9, none⟩ (.bool true)).setCell ⟨b, 10, none⟩ (.int .i64 P.now)) b (P.went 1) ∧ Tn b w ((W1.setCell ⟨b, 9, none⟩ (.bool true)).setCell ⟨b, 10, none⟩ (.int .i64 P.now))) := by
    refine ⟨?_, (t1.set _ _).set _ _⟩
    have e : P.went 1 = { P with up := P.now } := rfl
    rw [e]
    unfold PkAt
    rw [g4]
    unfold PkC
    rw [hl, ev_now hn.1, ea_now hn.1]
    rfl
  have c6 := h.cs.now
  have c7 := h.cs.ue
  have c8 := h.cs.ua
  have f7 := h.frozen 7
  have f8 := h.frozen 8
  have d7 : W1.cell? ⟨b, 7, none⟩ = some (.bool true) := by rw [cell_of_row _ _ _ _ _ _ g2]; rfl
  have d8 : W1.cell? ⟨b, 8, none⟩ = some (.int .i64 P.now) := by rw [cell_of_row _ _ _ _ _ _ g2]; rfl
  have d9 : W1.cell? ⟨b, 9, none⟩ = some (.bool (ev P.ls)) := by rw [cell_of_row _ _ _ _ _ _ g2]; rfl
  have d10 : W1.cell? ⟨b, 10, none⟩ = some (.int .i64 (ea P.ls)) := by rw [cell_of_row _ _ _ _ _ _ g2]; rfl
  have k9 : W1.frozen? ⟨b, 9, none⟩ = false := frozen_of_row _ _ 9 _ _ g2
  have k10 : W1.frozen? ⟨b, 10, none⟩ = false := frozen_of_row _ _ 10 _ _ g2
  clear h ok hn hl g1 g2 g3 g4 t1
  go_enter Try.func27, Try.ntmps27
  go_upto_region 2 with fail
  try rw [hW1]
  clear hW1 c6 c7 c8 f7 f8
  go_wp2_with fail
  go_ret
  exact ⟨rfl, HX⟩
end Go.Proofs.Ytkkkabgljppilaa
