/-
  Package scale: Step, New.
-/
import Derived.Test.YtkkkabgljppilaaScWt
namespace Go.Proofs.Ytkkkabgljppilaa
open Go.RowKit
set_option linter.unusedVariables false
set_option maxRecDepth 1000000
variable {b : Nat} {w w' : World} {P : Pk}

theorem bmax_lv (live : Int) (W : World) : (Builtin.max_ #[3, 3] 3 #[.int .i64 live, .int .i64 0]).run Try.prog W = .ok (.int .i64 (lv live)) W := bmax_i live 0 W
/-- It lies there, only this block has turned since. -/
def At (b : Nat) (P : Pk) (w W : World) : Prop := PkAt W b P ∧ Tn b w W
theorem At.below {W W' : World} (h : At b P w W) (hb : Below W.heap.size W W') : At b P w W' := ⟨h.1.below hb, h.2.below hb⟩
theorem At.to {W W' : World} {Q : Pk} (h : At b P w W) (H : PkAt W' b Q ∧ Tn b W W') : PkAt W' b Q ∧ Tn b w W' := ⟨H.1, h.2.trans H.2⟩
set_option maxHeartbeats 8000000 in
theorem sstep_any (h : PkAt w b P) (ok : PkOk P) (t live load : Int) : Calls Try.prog 15 #[.pointer (some ⟨b, 0, none⟩), .int .i64 t, .int .i64 live, .int .i64 load] w fun e w' => e = .returned (.int .i64 (P.stp t live load)) ∧ Hid (PkAt w' b (P.stpd t live load) ∧ Tn b w w') := by
  have hM := smade_yes h ok
  have hG := sgo_any h t
  have okq := ok.tm t
  unfold Pk.stp Pk.stpd
  clear h ok
  generalize P.tm t = Q at *
  have hm := fun W : World => bmax_lv live W
  have HW := hid fun (W : World) (h : PkAt W b Q) => swant_any h okq load
  have HU := hid fun (W : World) (h : PkAt W b Q) => smayup_any h okq
  have HD := hid fun (W : World) (h : PkAt W b Q) => smaydn_any h okq
  have HS := hid fun (W : World) (h : PkAt W b Q) h1 h8 => sspares_any h okq (l := lv live) h1 h8 load
  have Hup := hid fun (W : World) (h : PkAt W b Q) => sup_any h okq
  have Hdn := hid fun (W : World) (h : PkAt W b Q) => sdown_any h okq
  have hb := Pk.want_bd okq load
  have hbd := okq.bd
  have ed : Q.dir live load = (if Q.mx < lv live then -1 else if lv live < Q.mn then 1 else if lv live < Q.want load ∧ Q.agU = true then 1 else if Q.want load < lv live ∧ Q.spr (lv live) load = true ∧ Q.agD = true then -1 else 0) := rfl
  clear okq
  obtain ⟨l, hl⟩ : ∃ l, lv live = l := ⟨_, rfl⟩
  rw [hl] at hm HS ed
  clear hl
  obtain ⟨u, hu⟩ : ∃ u, Q.agU = u := ⟨_, rfl⟩
  obtain ⟨v, hv⟩ : ∃ v, Q.agD = v := ⟨_, rfl⟩
  obtain ⟨s, hs⟩ : ∃ s, Q.spr l load = s := ⟨_, rfl⟩
  rw [hu] at HU ed
  rw [hv] at HD ed
  rw [hs] at HS ed
  generalize Q.want load = n at *
  clear hu hv hs
  by_cases k1 : Q.mx < l
  · skip
    have hd : Q.dir live load = (-1) := ed.trans (by rw [if_pos k1])
    clear ed
    rw [hd]
    clear hd
    clear HW HU HD HS Hup
    go_enter Try.func15, Try.ntmps15
    go_wp2_with fail
    refine hM.mono ?_
    rintro e w1 ⟨rfl, rfl⟩
    clear hM
    go_wp2_with fail
    refine hG.mono ?_
    rintro e w2 ⟨rfl, H2⟩
    have HA : Hid (At b Q w1 w2) := H2
    have c0 := HA.out.1.cs.mn
    have c1 := HA.out.1.cs.mx
    clear hG H2
    go_wp2_with fail
    refine (Hdn.out _ HA.out.1).mono ?_
    rintro e w4 ⟨rfl, H4⟩
    have HX := hid (HA.out.to H4.out)
    clear H4 HA c0 c1
    go_wp2_with fail
    go_ret
    exact ⟨rfl, HX⟩
  by_cases k2 : l < Q.mn
  · skip
    have hd : Q.dir live load = 1 := ed.trans (by rw [if_neg k1, if_pos k2])
    clear ed
    rw [hd]
    clear hd
    clear HW HU HD HS Hdn
    go_enter Try.func15, Try.ntmps15
    go_wp2_with fail
    refine hM.mono ?_
    rintro e w1 ⟨rfl, rfl⟩
    clear hM
    go_wp2_with fail
    refine hG.mono ?_
    rintro e w2 ⟨rfl, H2⟩
    have HA : Hid (At b Q w1 w2) := H2
    have c0 := HA.out.1.cs.mn
    have c1 := HA.out.1.cs.mx
    clear hG H2
    go_wp2_with fail
    refine (Hup.out _ HA.out.1).mono ?_
    rintro e w4 ⟨rfl, H4⟩
    have HX := hid (HA.out.to H4.out)
    clear H4 HA c0 c1
    go_wp2_with fail
    go_ret
    exact ⟨rfl, HX⟩
  by_cases k3 : l < n
  · have k4 : ¬ n < l := by omega
    cases u with
    | true =>
      have hd : Q.dir live load = 1 := ed.trans (by rw [if_neg k1, if_neg k2, if_pos ⟨k3, rfl⟩])
      clear ed
      rw [hd]
      clear hd
      clear HD HS Hdn
      go_enter Try.func15, Try.ntmps15
      go_wp2_with fail
      refine hM.mono ?_
      rintro e w1 ⟨rfl, rfl⟩
      clear hM
      go_wp2_with fail
      refine hG.mono ?_
      rintro e w2 ⟨rfl, H2⟩
      have HA : Hid (At b Q w1 w2) := H2
      have c0 := HA.out.1.cs.mn
      have c1 := HA.out.1.cs.mx
      clear hG H2
      go_wp2_with fail
      refine (HW.out _ HA.out.1).mono ?_
      rintro e w3 ⟨rfl, rfl⟩
      go_wp2_with fail
      refine (HU.out _ HA.out.1).mono ?_
      rintro e w3 ⟨rfl, hx⟩
      replace HA := hid (HA.out.below hx.out)
      clear hx c0 c1
      have c0 := HA.out.1.cs.mn
      have c1 := HA.out.1.cs.mx
      go_wp2_with fail
      refine (Hup.out _ HA.out.1).mono ?_
      rintro e w4 ⟨rfl, H4⟩
      have HX := hid (HA.out.to H4.out)
      clear H4 HA c0 c1
      go_wp2_with fail
      go_ret
      exact ⟨rfl, HX⟩
    | false =>
      have hd : Q.dir live load = 0 := ed.trans (by rw [if_neg k1, if_neg k2, if_neg (fun h => absurd h.2 (by decide)), if_neg (fun h => k4 h.1)])
      clear ed
      rw [hd]
      rw [show Q.went 0 = Q from rfl]
      clear hd
      clear HD HS Hdn Hup
      go_enter Try.func15, Try.ntmps15
      go_wp2_with fail
      refine hM.mono ?_
      rintro e w1 ⟨rfl, rfl⟩
      clear hM
      go_wp2_with fail
      refine hG.mono ?_
      rintro e w2 ⟨rfl, H2⟩
      have HA : Hid (At b Q w1 w2) := H2
      have c0 := HA.out.1.cs.mn
      have c1 := HA.out.1.cs.mx
      clear hG H2
      go_wp2_with fail
      refine (HW.out _ HA.out.1).mono ?_
      rintro e w3 ⟨rfl, rfl⟩
      go_wp2_with fail
      refine (HU.out _ HA.out.1).mono ?_
      rintro e w3 ⟨rfl, hx⟩
      replace HA := hid (HA.out.below hx.out)
      clear hx c0 c1
      have c0 := HA.out.1.cs.mn
      have c1 := HA.out.1.cs.mx
      go_wp2_with fail
      refine (HW.out _ HA.out.1).mono ?_
      rintro e w3 ⟨rfl, rfl⟩
      go_wp2_with fail
      have HX : Hid (PkAt _ b Q ∧ Tn b w1 _) := HA
      clear HA c0 c1
      go_ret
      exact ⟨rfl, HX⟩
  by_cases k4 : n < l
  · have z1 : 1 ≤ l := by obtain ⟨b1, b2, b3, b4⟩ := hbd; omega
    have z8 : l ≤ 8 := by obtain ⟨b1, b2, b3, b4⟩ := hbd; omega
    cases s with
    | false =>
      have hd : Q.dir live load = 0 := ed.trans (by rw [if_neg k1, if_neg k2, if_neg (fun h => k3 h.1), if_neg (fun h => absurd h.2.1 (by decide))])
      clear ed
      rw [hd]
      rw [show Q.went 0 = Q from rfl]
      clear hd
      clear HD HU Hdn Hup
      go_enter Try.func15, Try.ntmps15
      go_wp2_with fail
      refine hM.mono ?_
      rintro e w1 ⟨rfl, rfl⟩
      clear hM
      go_wp2_with fail
      refine hG.mono ?_
      rintro e w2 ⟨rfl, H2⟩
      have HA : Hid (At b Q w1 w2) := H2
      have c0 := HA.out.1.cs.mn
      have c1 := HA.out.1.cs.mx
      clear hG H2
      go_wp2_with fail
      refine (HW.out _ HA.out.1).mono ?_
      rintro e w3 ⟨rfl, rfl⟩
      go_wp2_with fail
      refine (HW.out _ HA.out.1).mono ?_
      rintro e w3 ⟨rfl, rfl⟩
      go_wp2_with fail
      refine (HS.out _ HA.out.1 z1 z8).mono ?_
      rintro e w3 ⟨rfl, m, rfl⟩
      replace HA := hid (HA.out.below (show Below _ _ (World.drewN _ m) from ⟨rfl, rfl, rfl, Nat.le_refl _, fun _ _ => rfl⟩))
      clear c0 c1
      have c0 := HA.out.1.cs.mn
      have c1 := HA.out.1.cs.mx
      go_wp2_with fail
      have HX : Hid (PkAt _ b Q ∧ Tn b w1 _) := HA
      clear HA c0 c1
      go_ret
      exact ⟨rfl, HX⟩
    | true =>
      cases v with
      | false =>
        have hd : Q.dir live load = 0 := ed.trans (by rw [if_neg k1, if_neg k2, if_neg (fun h => k3 h.1), if_neg (fun h => absurd h.2.2 (by decide))])
        clear ed
        rw [hd]
        rw [show Q.went 0 = Q from rfl]
        clear hd
        clear HU Hdn Hup
        go_enter Try.func15, Try.ntmps15
        go_wp2_with fail
        refine hM.mono ?_
        rintro e w1 ⟨rfl, rfl⟩
        clear hM
        go_wp2_with fail
        refine hG.mono ?_
        rintro e w2 ⟨rfl, H2⟩
        have HA : Hid (At b Q w1 w2) := H2
        have c0 := HA.out.1.cs.mn
        have c1 := HA.out.1.cs.mx
        clear hG H2
        go_wp2_with fail
        refine (HW.out _ HA.out.1).mono ?_
        rintro e w3 ⟨rfl, rfl⟩
        go_wp2_with fail
        refine (HW.out _ HA.out.1).mono ?_
        rintro e w3 ⟨rfl, rfl⟩
        go_wp2_with fail
        refine (HS.out _ HA.out.1 z1 z8).mono ?_
        rintro e w3 ⟨rfl, m, rfl⟩
        replace HA := hid (HA.out.below (show Below _ _ (World.drewN _ m) from ⟨rfl, rfl, rfl, Nat.le_refl _, fun _ _ => rfl⟩))
        clear c0 c1
        have c0 := HA.out.1.cs.mn
        have c1 := HA.out.1.cs.mx
        go_wp2_with fail
        refine (HD.out _ HA.out.1).mono ?_
        rintro e w3 ⟨rfl, hx⟩
        replace HA := hid (HA.out.below hx.out)
        clear hx c0 c1
        have c0 := HA.out.1.cs.mn
        have c1 := HA.out.1.cs.mx
        go_wp2_with fail
        have HX : Hid (PkAt _ b Q ∧ Tn b w1 _) := HA
        clear HA c0 c1
        go_ret
        exact ⟨rfl, HX⟩
      | true =>
        have hd : Q.dir live load = (-1) := ed.trans (by rw [if_neg k1, if_neg k2, if_neg (fun h => k3 h.1), if_pos ⟨k4, rfl, rfl⟩])
        clear ed
        rw [hd]
        clear hd
        clear HU Hup
        go_enter Try.func15, Try.ntmps15
        go_wp2_with fail
        refine hM.mono ?_
        rintro e w1 ⟨rfl, rfl⟩
        clear hM
        go_wp2_with fail
        refine hG.mono ?_
        rintro e w2 ⟨rfl, H2⟩
        have HA : Hid (At b Q w1 w2) := H2
        have c0 := HA.out.1.cs.mn
        have c1 := HA.out.1.cs.mx
        clear hG H2
        go_wp2_with fail
        refine (HW.out _ HA.out.1).mono ?_
        rintro e w3 ⟨rfl, rfl⟩
        go_wp2_with fail
        refine (HW.out _ HA.out.1).mono ?_
        rintro e w3 ⟨rfl, rfl⟩
        go_wp2_with fail
        refine (HS.out _ HA.out.1 z1 z8).mono ?_
        rintro e w3 ⟨rfl, m, rfl⟩
        replace HA := hid (HA.out.below (show Below _ _ (World.drewN _ m) from ⟨rfl, rfl, rfl, Nat.le_refl _, fun _ _ => rfl⟩))
        clear c0 c1
        have c0 := HA.out.1.cs.mn
        have c1 := HA.out.1.cs.mx
        go_wp2_with fail
        refine (HD.out _ HA.out.1).mono ?_
        rintro e w3 ⟨rfl, hx⟩
        replace HA := hid (HA.out.below hx.out)
        clear hx c0 c1
        have c0 := HA.out.1.cs.mn
        have c1 := HA.out.1.cs.mx
        go_wp2_with fail
        refine (Hdn.out _ HA.out.1).mono ?_
        rintro e w4 ⟨rfl, H4⟩
        have HX := hid (HA.out.to H4.out)
        clear H4 HA c0 c1
        go_wp2_with fail
        go_ret
        exact ⟨rfl, HX⟩
  · skip
    have hd : Q.dir live load = 0 := ed.trans (by rw [if_neg k1, if_neg k2, if_neg (fun h => k3 h.1), if_neg (fun h => k4 h.1)])
    clear ed
    rw [hd]
    rw [show Q.went 0 = Q from rfl]
    clear hd
    clear HU HD HS Hdn Hup
    go_enter Try.func15, Try.ntmps15
    go_wp2_with fail
    refine hM.mono ?_
    rintro e w1 ⟨rfl, rfl⟩
    clear hM
    go_wp2_with fail
    refine hG.mono ?_
    rintro e w2 ⟨rfl, H2⟩
    have HA : Hid (At b Q w1 w2) := H2
    have c0 := HA.out.1.cs.mn
    have c1 := HA.out.1.cs.mx
    clear hG H2
    go_wp2_with fail
    refine (HW.out _ HA.out.1).mono ?_
    rintro e w3 ⟨rfl, rfl⟩
    go_wp2_with fail
    refine (HW.out _ HA.out.1).mono ?_
    rintro e w3 ⟨rfl, rfl⟩
    go_wp2_with fail
    have HX : Hid (PkAt _ b Q ∧ Tn b w1 _) := HA
    clear HA c0 c1
    go_ret
    exact ⟨rfl, HX⟩
/-! ### New -/
theorem snew_yes {s : Sg} (h : s.Is) (w : World) : Calls Try.prog 7 #[.agg (SgV s)] w fun e w' => ∃ b, e = .returned (.tuple #[.pointer (some ⟨b, 0, none⟩), .int .i64 0]) ∧ Hid (PkAt w' b (Pk.new s) ∧ Below w.heap.size w w' ∧ w.heap.size ≤ b) := by
  obtain ⟨W0, hW0⟩ : ∃ W0, W0 = w.alloc (.cells (SgV s) 29) := ⟨_, rfl⟩
  have hb0 : Below w.heap.size w W0 := by rw [hW0]; exact (Below.refl _ _).alloc (Nat.le_refl _) _
  have hv0 : W0.heap[w.heap.size]? = some (.cells (SgV s) 29 (0, 0)) := by rw [hW0]; exact heap_alloc_new w _
  have HM := smay_any s W0
  rw [decide_eq_true h] at HM
  have HK : Hid (∀ W : World, Below W0.heap.size W0 W → W.heap[w.heap.size]? = some (.cells (SgV s) 29 (0, 0)) ∧ Below w.heap.size w W) := fun W hb => ⟨block_bel hv0 hb, hb0.trans (hb.mono hb0.size)⟩
  have c0 : W0.cell? ⟨w.heap.size, 0, none⟩ = some (.int .i64 s.mn) := by rw [cell_of_row _ _ _ _ _ _ hv0]; rfl
  have c1 : W0.cell? ⟨w.heap.size, 1, none⟩ = some (.int .i64 s.mx) := by rw [cell_of_row _ _ _ _ _ _ hv0]; rfl
  have c2 : W0.cell? ⟨w.heap.size, 2, none⟩ = some (.int .i64 s.pr) := by rw [cell_of_row _ _ _ _ _ _ hv0]; rfl
  have c3 : W0.cell? ⟨w.heap.size, 3, none⟩ = some (.int .i64 s.sl) := by rw [cell_of_row _ _ _ _ _ _ hv0]; rfl
  have c4 : W0.cell? ⟨w.heap.size, 4, none⟩ = some (.int .i64 s.uw) := by rw [cell_of_row _ _ _ _ _ _ hv0]; rfl
  have c5 : W0.cell? ⟨w.heap.size, 5, none⟩ = some (.int .i64 s.dw) := by rw [cell_of_row _ _ _ _ _ _ hv0]; rfl
  unfold SgV at hW0 HM ⊢
  obtain ⟨q, hq⟩ : ∃ q, w.heap.size = q := ⟨_, rfl⟩
  have HQ := hid hq
  rw [hq] at c0 c1 c2 c3 c4 c5
  clear hb0 hv0 hq h
  go_enter Try.func7, Try.ntmps7
  go_wp2_with fail
  try rw [← hW0]
  try rw [HQ.out]
  refine HM.mono ?_
  rintro e w1 ⟨rfl, hb⟩
  obtain ⟨k1, k2⟩ := HK.out _ hb.out
  rw [HQ.out] at k1
  have d0 : w1.cell? ⟨q, 0, none⟩ = some (.int .i64 s.mn) := by rw [cell_of_row _ _ _ _ _ _ k1]; rfl
  have d1 : w1.cell? ⟨q, 1, none⟩ = some (.int .i64 s.mx) := by rw [cell_of_row _ _ _ _ _ _ k1]; rfl
  have d2 : w1.cell? ⟨q, 2, none⟩ = some (.int .i64 s.pr) := by rw [cell_of_row _ _ _ _ _ _ k1]; rfl
  have d3 : w1.cell? ⟨q, 3, none⟩ = some (.int .i64 s.sl) := by rw [cell_of_row _ _ _ _ _ _ k1]; rfl
  have d4 : w1.cell? ⟨q, 4, none⟩ = some (.int .i64 s.uw) := by rw [cell_of_row _ _ _ _ _ _ k1]; rfl
  have d5 : w1.cell? ⟨q, 5, none⟩ = some (.int .i64 s.dw) := by rw [cell_of_row _ _ _ _ _ _ k1]; rfl
  have hs := k2.size
  have HE : Hid (PkAt (w1.alloc (.cells #[.int .i64 s.mn, .int .i64 s.mx, .int .i64 s.pr, .int .i64 s.sl, .int .i64 s.uw, .int .i64 s.dw, .int .i64 0, .bool false, .int .i64 0, .bool false, .int .i64 0] 51)) w1.heap.size (Pk.new s) ∧ Below w.heap.size w (w1.alloc (.cells #[.int .i64 s.mn, .int .i64 s.mx, .int .i64 s.pr, .int .i64 s.sl, .int .i64 s.uw, .int .i64 s.dw, .int .i64 0, .bool false, .int .i64 0, .bool false, .int .i64 0] 51)) ∧ w.heap.size ≤ w1.heap.size) := ⟨heap_alloc_new w1 _, k2.alloc hs _, hs⟩
  clear k1 k2 hb c0 c1 c2 c3 c4 c5 HK HM hW0 hs
  go_wp2_with fail
  go_ret2
  exact ⟨_, rfl, HE⟩
theorem snew_no {s : Sg} (h : ¬ s.Is) (w : World) : Calls Try.prog 7 #[.agg (SgV s)] w fun e w' => e = .returned (.tuple #[.pointer none, .int .i64 1]) ∧ Hid (Below w.heap.size w w') := by
  obtain ⟨W0, hW0⟩ : ∃ W0, W0 = w.alloc (.cells (SgV s) 29) := ⟨_, rfl⟩
  have hb0 : Below w.heap.size w W0 := by rw [hW0]; exact (Below.refl _ _).alloc (Nat.le_refl _) _
  have hv0 : W0.heap[w.heap.size]? = some (.cells (SgV s) 29 (0, 0)) := by rw [hW0]; exact heap_alloc_new w _
  have HM := smay_any s W0
  rw [decide_eq_false h] at HM
  have HK : Hid (∀ W : World, Below W0.heap.size W0 W → Below w.heap.size w W) := fun W hb => hb0.trans (hb.mono hb0.size)
  have c0 : W0.cell? ⟨w.heap.size, 0, none⟩ = some (.int .i64 s.mn) := by rw [cell_of_row _ _ _ _ _ _ hv0]; rfl
  have c1 : W0.cell? ⟨w.heap.size, 1, none⟩ = some (.int .i64 s.mx) := by rw [cell_of_row _ _ _ _ _ _ hv0]; rfl
  have c2 : W0.cell? ⟨w.heap.size, 2, none⟩ = some (.int .i64 s.pr) := by rw [cell_of_row _ _ _ _ _ _ hv0]; rfl
  have c3 : W0.cell? ⟨w.heap.size, 3, none⟩ = some (.int .i64 s.sl) := by rw [cell_of_row _ _ _ _ _ _ hv0]; rfl
  have c4 : W0.cell? ⟨w.heap.size, 4, none⟩ = some (.int .i64 s.uw) := by rw [cell_of_row _ _ _ _ _ _ hv0]; rfl
  have c5 : W0.cell? ⟨w.heap.size, 5, none⟩ = some (.int .i64 s.dw) := by rw [cell_of_row _ _ _ _ _ _ hv0]; rfl
  unfold SgV at hW0 HM ⊢
  clear hb0 hv0 h
  go_enter Try.func7, Try.ntmps7
  go_wp2_with fail
  try rw [← hW0]
  refine HM.mono ?_
  rintro e w1 ⟨rfl, hb⟩
  have HE := hid (HK.out _ hb.out)
  clear hb HK HM hW0 c0 c1 c2 c3 c4 c5
  go_wp2_with fail
  go_ret2
  exact ⟨rfl, HE⟩
end Go.Proofs.Ytkkkabgljppilaa
