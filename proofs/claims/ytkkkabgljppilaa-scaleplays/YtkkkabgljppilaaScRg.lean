/-
  The document's scaler: Step.
-/
import Derived.Test.YtkkkabgljppilaaScRf
namespace Go.Proofs.Ytkkkabgljppilaa
open Go.RowKit
set_option linter.unusedVariables false
set_option maxRecDepth 1000000
variable {b : Nat} {w w' : World} {P : Pk}

theorem bmax_ld (load : Int) (W : World) : (Builtin.max_ #[3, 3] 3 #[.int .i64 load, .int .i64 0]).run Try.prog W = .ok (.int .i64 (mx2 load 0)) W := bmax_i load 0 W
theorem bmin_ld (load : Int) (W : World) : (Builtin.min_ #[3, 3] 3 #[.int .i64 (mx2 load 0), .int .i64 1099511627776]).run Try.prog W = .ok (.int .i64 (ldc load)) W := bmin_i (mx2 load 0) 1099511627776 W
/-- It lies there, only this block has turned since. -/
def Rt (b : Nat) (P : Pk) (w W : World) : Prop := RkAt W b P ∧ Tn b w W
theorem Rt.drewN {W : World} (h : Rt b P w W) (n : Nat) : Rt b P w (W.drewN n) := ⟨h.1.drewN n, h.2.drewN n⟩
theorem Rt.set {W : World} {k : Nat} {u : Value} {P' : Pk} (h : Rt b P w W) (e : (RkC P).setIfInBounds k u = RkC P') : RkAt (W.setCell ⟨b, k, none⟩ u) b P' ∧ Tn b w (W.setCell ⟨b, k, none⟩ u) := ⟨h.1.set e, h.2.set _ _⟩
set_option maxHeartbeats 16000000 in
theorem rstep_any (h : RkAt w b P) (ok : PkOk P) (t live load : Int) : Calls Try.prog 16 #[.pointer (some ⟨b, 0, none⟩), .int .i64 t, .int .i64 live, .int .i64 load] w fun e w' => e = .returned (.int .i64 (P.stp t live load)) ∧ Hid (RkAt w' b (P.stpd t live load) ∧ Tn b w w') := by
  have c6 := h.cs.now
  have f6 := h.frozen 6
  have okq := ok.tm t
  obtain ⟨Q, hQ⟩ : ∃ Q, P.tm t = Q := ⟨_, rfl⟩
  unfold Pk.stp Pk.stpd
  rw [hQ] at okq ⊢
  have HT : Hid (if P.now < t ∧ t ≤ 1099511627776 then Rt b Q w (w.setCell ⟨b, 6, none⟩ (.int .i64 t)) else Rt b Q w w) := by
    unfold Hid
    by_cases hc : P.now < t ∧ t ≤ 1099511627776
    · rw [if_pos hc]
      have et : tmZ P.now t = t := if_pos hc
      exact ⟨h.set (by rw [← hQ]; unfold Pk.tm; rw [et]; rfl), (Tn.refl b w).set _ _⟩
    · rw [if_neg hc]
      have et : tmZ P.now t = P.now := if_neg hc
      exact ⟨by rw [← hQ]; unfold Pk.tm; rw [et]; exact h, Tn.refl b w⟩
  clear h ok hQ
  have hm := fun W : World => bmax_lv live W
  have hx := fun W : World => bmax_ld load W
  have hi := fun W : World => bmin_ld load W
  have hmx := fun W : World => bmax_i64 Q.up Q.dn W
  rw [show mx2 Q.up Q.dn = Q.ls from rfl] at hmx
  have HW := hid fun (W : World) (h : Rt b Q w W) => rwant_any h.1 okq (ldc load)
  rw [Pk.want_ldc okq] at HW
  have HU := hid fun (W : World) (h : Rt b Q w W) => rago_any h.1 okq.now okq.up Q.uw
  have HD := hid fun (W : World) (h : Rt b Q w W) => rago_any h.1 okq.now (Pk.ls_bd okq) Q.dw
  rw [show agZ Q.up Q.now Q.uw = Q.agU from rfl] at HU
  rw [show agZ Q.ls Q.now Q.dw = Q.agD from rfl] at HD
  have hb := Pk.want_bd okq load
  have hbd := okq.bd
  have ed : Q.dir live load = (if Q.mx < lv live then -1 else if lv live < Q.mn then 1 else if lv live < Q.want load ∧ Q.agU = true then 1 else if Q.want load < lv live ∧ Q.spr (lv live) load = true ∧ Q.agD = true then -1 else 0) := rfl
  have hlb := ldc_bd load
  have HSP := hid fun h1 h8 => Pk.spr_ldc okq (l := lv live) h1 h8 load
  have HRM := hid fun h1 h8 => Pk.rm_bd okq (l := lv live) h1 h8
  have hsl := okq.sl
  have HRE := hid fun l : Int => (show (l - 1) * Q.pr * (100 - Q.sl) = Q.rm l from rfl)
  clear okq
  obtain ⟨l, hl⟩ : ∃ l, lv live = l := ⟨_, rfl⟩
  obtain ⟨c, hc⟩ : ∃ c, ldc load = c := ⟨_, rfl⟩
  obtain ⟨ll, hll⟩ : ∃ ll, mx2 load 0 = ll := ⟨_, rfl⟩
  rw [hl] at hm ed HSP HRM
  rw [hc] at hi HW hlb HSP
  rw [hll] at hx hi
  clear hl hc hll
  obtain ⟨u, hu⟩ : ∃ u, Q.agU = u := ⟨_, rfl⟩
  obtain ⟨v, hv⟩ : ∃ v, Q.agD = v := ⟨_, rfl⟩
  obtain ⟨s, hs⟩ : ∃ s, Q.spr l load = s := ⟨_, rfl⟩
  rw [hu] at HU ed
  rw [hv] at HD ed
  rw [hs] at HSP ed
  obtain ⟨n, hn⟩ : ∃ n, Q.want load = n := ⟨_, rfl⟩
  rw [hn] at HW ed hb
  obtain ⟨ls, hls⟩ : ∃ ls, Q.ls = ls := ⟨_, rfl⟩
  rw [hls] at HD hmx
  clear hu hv hs hn hls

  by_cases t1 : P.now < t
  · by_cases t2 : t ≤ 1099511627776
    · obtain ⟨W1, hW1⟩ : ∃ W1, w.setCell ⟨b, 6, none⟩ (.int .i64 t) = W1 := ⟨_, rfl⟩
      have HG : Hid (Rt b Q w W1) := by have := HT.out; rw [if_pos ⟨t1, t2⟩, hW1] at this; exact this
      clear HT
      by_cases k1 : Q.mx < l
      · have hd : Q.dir live load = (-1) := ed.trans (by rw [if_pos k1])
        rw [hd]
        clear hd ed
        go_enter Try.func16, Try.ntmps16
        go_wp2_with fail
        (try rw [hW1]); clear hW1
        refine (HW.out _ HG.out).mono ?_
        rintro e w2 ⟨rfl, m, rfl⟩
        have HG2 := hid (HG.out.drewN m)
        generalize World.drewN _ m = W2 at *
        clear HG HW c6 f6
        have c0 := HG2.out.1.cs.mn
        have c1 := HG2.out.1.cs.mx
        have c6 := HG2.out.1.cs.now
        have c7 := HG2.out.1.cs.up
        have c8 := HG2.out.1.cs.dn
        have f7 := HG2.out.1.frozen 7
        have f8 := HG2.out.1.frozen 8
        have d0 := fun n : Nat => (HG2.out.drewN n).1.cs.mn
        have d1 := fun n : Nat => (HG2.out.drewN n).1.cs.mx
        have d2 := fun n : Nat => (HG2.out.drewN n).1.cs.pr
        have d3 := fun n : Nat => (HG2.out.drewN n).1.cs.sl
        have d4 := fun n : Nat => (HG2.out.drewN n).1.cs.uw
        have d5 := fun n : Nat => (HG2.out.drewN n).1.cs.dw
        have d6 := fun n : Nat => (HG2.out.drewN n).1.cs.now
        have d7 := fun n : Nat => (HG2.out.drewN n).1.cs.up
        have d8 := fun n : Nat => (HG2.out.drewN n).1.cs.dn
        have HU2 := hid fun n : Nat => HU.out _ (HG2.out.drewN n)
        have HD2 := hid fun n : Nat => HD.out _ (HG2.out.drewN n)
        clear HU HD
        go_wp2_with fail
        go_ret
        first | exact ⟨rfl, HG2.out.set (P' := Q.went (-1)) rfl⟩ | exact ⟨rfl, (HG2.out.drewN _).set (P' := Q.went (-1)) rfl⟩ | exact ⟨rfl, ((HG2.out.drewN _).drewN _).set (P' := Q.went (-1)) rfl⟩
      have j1 : l ≤ Q.mx := by omega
      by_cases k2 : l < Q.mn
      · have hd : Q.dir live load = 1 := ed.trans (by rw [if_neg k1, if_pos k2])
        rw [hd]
        clear hd ed k1
        go_enter Try.func16, Try.ntmps16
        go_wp2_with fail
        (try rw [hW1]); clear hW1
        refine (HW.out _ HG.out).mono ?_
        rintro e w2 ⟨rfl, m, rfl⟩
        have HG2 := hid (HG.out.drewN m)
        generalize World.drewN _ m = W2 at *
        clear HG HW c6 f6
        have c0 := HG2.out.1.cs.mn
        have c1 := HG2.out.1.cs.mx
        have c6 := HG2.out.1.cs.now
        have c7 := HG2.out.1.cs.up
        have c8 := HG2.out.1.cs.dn
        have f7 := HG2.out.1.frozen 7
        have f8 := HG2.out.1.frozen 8
        have d0 := fun n : Nat => (HG2.out.drewN n).1.cs.mn
        have d1 := fun n : Nat => (HG2.out.drewN n).1.cs.mx
        have d2 := fun n : Nat => (HG2.out.drewN n).1.cs.pr
        have d3 := fun n : Nat => (HG2.out.drewN n).1.cs.sl
        have d4 := fun n : Nat => (HG2.out.drewN n).1.cs.uw
        have d5 := fun n : Nat => (HG2.out.drewN n).1.cs.dw
        have d6 := fun n : Nat => (HG2.out.drewN n).1.cs.now
        have d7 := fun n : Nat => (HG2.out.drewN n).1.cs.up
        have d8 := fun n : Nat => (HG2.out.drewN n).1.cs.dn
        have HU2 := hid fun n : Nat => HU.out _ (HG2.out.drewN n)
        have HD2 := hid fun n : Nat => HD.out _ (HG2.out.drewN n)
        clear HU HD
        go_wp2_with fail
        go_ret
        first | exact ⟨rfl, HG2.out.set (P' := Q.went 1) rfl⟩ | exact ⟨rfl, (HG2.out.drewN _).set (P' := Q.went 1) rfl⟩ | exact ⟨rfl, ((HG2.out.drewN _).drewN _).set (P' := Q.went 1) rfl⟩
      have j2 : Q.mn ≤ l := by omega
      by_cases k3 : l < n
      · have k4 : ¬ n < l := by omega
        have b3 : decide (l < n) = true := decide_eq_true k3
        have b4 : decide (n < l) = false := decide_eq_false k4
        cases u with
        | true =>
          have hd : Q.dir live load = 1 := ed.trans (by rw [if_neg k1, if_neg k2, if_pos ⟨k3, rfl⟩])
          rw [hd]
          clear hd ed k1 k2 k3 k4
          go_enter Try.func16, Try.ntmps16
          go_wp2_with fail
          (try rw [hW1]); clear hW1
          refine (HW.out _ HG.out).mono ?_
          rintro e w2 ⟨rfl, m, rfl⟩
          have HG2 := hid (HG.out.drewN m)
          generalize World.drewN _ m = W2 at *
          clear HG HW c6 f6
          have c0 := HG2.out.1.cs.mn
          have c1 := HG2.out.1.cs.mx
          have c6 := HG2.out.1.cs.now
          have c7 := HG2.out.1.cs.up
          have c8 := HG2.out.1.cs.dn
          have f7 := HG2.out.1.frozen 7
          have f8 := HG2.out.1.frozen 8
          have d0 := fun n : Nat => (HG2.out.drewN n).1.cs.mn
          have d1 := fun n : Nat => (HG2.out.drewN n).1.cs.mx
          have d2 := fun n : Nat => (HG2.out.drewN n).1.cs.pr
          have d3 := fun n : Nat => (HG2.out.drewN n).1.cs.sl
          have d4 := fun n : Nat => (HG2.out.drewN n).1.cs.uw
          have d5 := fun n : Nat => (HG2.out.drewN n).1.cs.dw
          have d6 := fun n : Nat => (HG2.out.drewN n).1.cs.now
          have d7 := fun n : Nat => (HG2.out.drewN n).1.cs.up
          have d8 := fun n : Nat => (HG2.out.drewN n).1.cs.dn
          have HU2 := hid fun n : Nat => HU.out _ (HG2.out.drewN n)
          have HD2 := hid fun n : Nat => HD.out _ (HG2.out.drewN n)
          clear HU HD
          go_wp2_with fail
          go_quiet (first | (go_at_call 31; first | exact Calls.quiet_of_same (HU2.out _) | exact (HD2.out _).mono (fun _ _ h => ⟨h.1, _, h.2⟩)))
          go_wp2_with fail
          go_ret
          first | exact ⟨rfl, HG2.out.set (P' := Q.went 1) rfl⟩ | exact ⟨rfl, (HG2.out.drewN _).set (P' := Q.went 1) rfl⟩ | exact ⟨rfl, ((HG2.out.drewN _).drewN _).set (P' := Q.went 1) rfl⟩
        | false =>
          have hd : Q.dir live load = 0 := ed.trans (by rw [if_neg k1, if_neg k2, if_neg (fun h => absurd h.2 (by decide)), if_neg (fun h => k4 h.1)])
          rw [hd, show Q.went 0 = Q from rfl]
          clear hd ed k1 k2 k3 k4
          go_enter Try.func16, Try.ntmps16
          go_wp2_with fail
          (try rw [hW1]); clear hW1
          refine (HW.out _ HG.out).mono ?_
          rintro e w2 ⟨rfl, m, rfl⟩
          have HG2 := hid (HG.out.drewN m)
          generalize World.drewN _ m = W2 at *
          clear HG HW c6 f6
          have c0 := HG2.out.1.cs.mn
          have c1 := HG2.out.1.cs.mx
          have c6 := HG2.out.1.cs.now
          have c7 := HG2.out.1.cs.up
          have c8 := HG2.out.1.cs.dn
          have f7 := HG2.out.1.frozen 7
          have f8 := HG2.out.1.frozen 8
          have d0 := fun n : Nat => (HG2.out.drewN n).1.cs.mn
          have d1 := fun n : Nat => (HG2.out.drewN n).1.cs.mx
          have d2 := fun n : Nat => (HG2.out.drewN n).1.cs.pr
          have d3 := fun n : Nat => (HG2.out.drewN n).1.cs.sl
          have d4 := fun n : Nat => (HG2.out.drewN n).1.cs.uw
          have d5 := fun n : Nat => (HG2.out.drewN n).1.cs.dw
          have d6 := fun n : Nat => (HG2.out.drewN n).1.cs.now
          have d7 := fun n : Nat => (HG2.out.drewN n).1.cs.up
          have d8 := fun n : Nat => (HG2.out.drewN n).1.cs.dn
          have HU2 := hid fun n : Nat => HU.out _ (HG2.out.drewN n)
          have HD2 := hid fun n : Nat => HD.out _ (HG2.out.drewN n)
          clear HU HD
          go_wp2_with fail
          go_quiet (first | (go_at_call 31; first | exact Calls.quiet_of_same (HU2.out _) | exact (HD2.out _).mono (fun _ _ h => ⟨h.1, _, h.2⟩)))
          go_wp2_with fail
          go_quiet (first | (go_at_call 31; first | exact Calls.quiet_of_same (HU2.out _) | exact (HD2.out _).mono (fun _ _ h => ⟨h.1, _, h.2⟩)))
          go_wp2_with fail
          go_ret
          first | exact ⟨rfl, HG2.out⟩ | exact ⟨rfl, HG2.out.drewN _⟩ | exact ⟨rfl, (HG2.out.drewN _).drewN _⟩
      have b3 : decide (l < n) = false := decide_eq_false k3
      by_cases k4 : n < l
      · have z1 : 1 ≤ l := by obtain ⟨b1, b2, b3, b4⟩ := hbd; omega
        have z8 : l ≤ 8 := by obtain ⟨b1, b2, b3, b4⟩ := hbd; omega
        have b4 : decide (n < l) = true := decide_eq_true k4
        have b5 : decide (Q.mn < l) = true := decide_eq_true (by omega)
        have b6 := HSP.out z1 z8
        obtain ⟨⟨q1, q2⟩, q3, q4⟩ := HRM.out z1 z8
        have a0 : IntKind.i64.wrap (100 * c) = 100 * c := by rw [IntKind.wrap_i64]; omega
        have a1 : IntKind.i64.wrap (l - 1) = l - 1 := by rw [IntKind.wrap_i64]; omega
        have a2 : IntKind.i64.wrap ((l - 1) * Q.pr) = (l - 1) * Q.pr := by rw [IntKind.wrap_i64]; omega
        have a3 : IntKind.i64.wrap (100 - Q.sl) = 100 - Q.sl := by rw [IntKind.wrap_i64]; omega
        have a4 : IntKind.i64.wrap ((l - 1) * Q.pr * (100 - Q.sl)) = Q.rm l := by rw [HRE.out l, IntKind.wrap_i64]; omega
        clear q1 q2 q3 q4
        cases s with
        | false =>
          have hd : Q.dir live load = 0 := ed.trans (by rw [if_neg k1, if_neg k2, if_neg (fun h => k3 h.1), if_neg (fun h => absurd h.2.1 (by decide))])
          rw [hd, show Q.went 0 = Q from rfl]
          clear hd ed k1 k2 k3 k4 z1 z8
          go_enter Try.func16, Try.ntmps16
          go_wp2_with fail
          (try rw [hW1]); clear hW1
          refine (HW.out _ HG.out).mono ?_
          rintro e w2 ⟨rfl, m, rfl⟩
          have HG2 := hid (HG.out.drewN m)
          generalize World.drewN _ m = W2 at *
          clear HG HW c6 f6
          have c0 := HG2.out.1.cs.mn
          have c1 := HG2.out.1.cs.mx
          have c6 := HG2.out.1.cs.now
          have c7 := HG2.out.1.cs.up
          have c8 := HG2.out.1.cs.dn
          have f7 := HG2.out.1.frozen 7
          have f8 := HG2.out.1.frozen 8
          have d0 := fun n : Nat => (HG2.out.drewN n).1.cs.mn
          have d1 := fun n : Nat => (HG2.out.drewN n).1.cs.mx
          have d2 := fun n : Nat => (HG2.out.drewN n).1.cs.pr
          have d3 := fun n : Nat => (HG2.out.drewN n).1.cs.sl
          have d4 := fun n : Nat => (HG2.out.drewN n).1.cs.uw
          have d5 := fun n : Nat => (HG2.out.drewN n).1.cs.dw
          have d6 := fun n : Nat => (HG2.out.drewN n).1.cs.now
          have d7 := fun n : Nat => (HG2.out.drewN n).1.cs.up
          have d8 := fun n : Nat => (HG2.out.drewN n).1.cs.dn
          have HU2 := hid fun n : Nat => HU.out _ (HG2.out.drewN n)
          have HD2 := hid fun n : Nat => HD.out _ (HG2.out.drewN n)
          clear HU HD
          go_wp2_with fail
          go_quiet (first | (go_at_call 31; first | exact Calls.quiet_of_same (HU2.out _) | exact (HD2.out _).mono (fun _ _ h => ⟨h.1, _, h.2⟩)))
          go_wp2_with fail
          go_quiet (first | (go_at_call 31; first | exact Calls.quiet_of_same (HU2.out _) | exact (HD2.out _).mono (fun _ _ h => ⟨h.1, _, h.2⟩)))
          go_wp2_with fail
          go_ret
          first | exact ⟨rfl, HG2.out⟩ | exact ⟨rfl, HG2.out.drewN _⟩ | exact ⟨rfl, (HG2.out.drewN _).drewN _⟩
        | true =>
          cases v with
          | true =>
            have hd : Q.dir live load = (-1) := ed.trans (by rw [if_neg k1, if_neg k2, if_neg (fun h => k3 h.1), if_pos ⟨k4, rfl, rfl⟩])
            rw [hd]
            clear hd ed k1 k2 k3 k4 z1 z8
            go_enter Try.func16, Try.ntmps16
            go_wp2_with fail
            (try rw [hW1]); clear hW1
            refine (HW.out _ HG.out).mono ?_
            rintro e w2 ⟨rfl, m, rfl⟩
            have HG2 := hid (HG.out.drewN m)
            generalize World.drewN _ m = W2 at *
            clear HG HW c6 f6
            have c0 := HG2.out.1.cs.mn
            have c1 := HG2.out.1.cs.mx
            have c6 := HG2.out.1.cs.now
            have c7 := HG2.out.1.cs.up
            have c8 := HG2.out.1.cs.dn
            have f7 := HG2.out.1.frozen 7
            have f8 := HG2.out.1.frozen 8
            have d0 := fun n : Nat => (HG2.out.drewN n).1.cs.mn
            have d1 := fun n : Nat => (HG2.out.drewN n).1.cs.mx
            have d2 := fun n : Nat => (HG2.out.drewN n).1.cs.pr
            have d3 := fun n : Nat => (HG2.out.drewN n).1.cs.sl
            have d4 := fun n : Nat => (HG2.out.drewN n).1.cs.uw
            have d5 := fun n : Nat => (HG2.out.drewN n).1.cs.dw
            have d6 := fun n : Nat => (HG2.out.drewN n).1.cs.now
            have d7 := fun n : Nat => (HG2.out.drewN n).1.cs.up
            have d8 := fun n : Nat => (HG2.out.drewN n).1.cs.dn
            have HU2 := hid fun n : Nat => HU.out _ (HG2.out.drewN n)
            have HD2 := hid fun n : Nat => HD.out _ (HG2.out.drewN n)
            clear HU HD
            go_wp2_with fail
            go_quiet (first | (go_at_call 31; first | exact Calls.quiet_of_same (HU2.out _) | exact (HD2.out _).mono (fun _ _ h => ⟨h.1, _, h.2⟩)))
            go_wp2_with fail
            go_quiet (first | (go_at_call 31; first | exact Calls.quiet_of_same (HU2.out _) | exact (HD2.out _).mono (fun _ _ h => ⟨h.1, _, h.2⟩)))
            go_wp2_with fail
            go_ret
            first | exact ⟨rfl, HG2.out.set (P' := Q.went (-1)) rfl⟩ | exact ⟨rfl, (HG2.out.drewN _).set (P' := Q.went (-1)) rfl⟩ | exact ⟨rfl, ((HG2.out.drewN _).drewN _).set (P' := Q.went (-1)) rfl⟩
          | false =>
            have hd : Q.dir live load = 0 := ed.trans (by rw [if_neg k1, if_neg k2, if_neg (fun h => k3 h.1), if_neg (fun h => absurd h.2.2 (by decide))])
            rw [hd, show Q.went 0 = Q from rfl]
            clear hd ed k1 k2 k3 k4 z1 z8
            go_enter Try.func16, Try.ntmps16
            go_wp2_with fail
            (try rw [hW1]); clear hW1
            refine (HW.out _ HG.out).mono ?_
            rintro e w2 ⟨rfl, m, rfl⟩
            have HG2 := hid (HG.out.drewN m)
            generalize World.drewN _ m = W2 at *
            clear HG HW c6 f6
            have c0 := HG2.out.1.cs.mn
            have c1 := HG2.out.1.cs.mx
            have c6 := HG2.out.1.cs.now
            have c7 := HG2.out.1.cs.up
            have c8 := HG2.out.1.cs.dn
            have f7 := HG2.out.1.frozen 7
            have f8 := HG2.out.1.frozen 8
            have d0 := fun n : Nat => (HG2.out.drewN n).1.cs.mn
            have d1 := fun n : Nat => (HG2.out.drewN n).1.cs.mx
            have d2 := fun n : Nat => (HG2.out.drewN n).1.cs.pr
            have d3 := fun n : Nat => (HG2.out.drewN n).1.cs.sl
            have d4 := fun n : Nat => (HG2.out.drewN n).1.cs.uw
            have d5 := fun n : Nat => (HG2.out.drewN n).1.cs.dw
            have d6 := fun n : Nat => (HG2.out.drewN n).1.cs.now
            have d7 := fun n : Nat => (HG2.out.drewN n).1.cs.up
            have d8 := fun n : Nat => (HG2.out.drewN n).1.cs.dn
            have HU2 := hid fun n : Nat => HU.out _ (HG2.out.drewN n)
            have HD2 := hid fun n : Nat => HD.out _ (HG2.out.drewN n)
            clear HU HD
            go_wp2_with fail
            go_quiet (first | (go_at_call 31; first | exact Calls.quiet_of_same (HU2.out _) | exact (HD2.out _).mono (fun _ _ h => ⟨h.1, _, h.2⟩)))
            go_wp2_with fail
            go_quiet (first | (go_at_call 31; first | exact Calls.quiet_of_same (HU2.out _) | exact (HD2.out _).mono (fun _ _ h => ⟨h.1, _, h.2⟩)))
            go_wp2_with fail
            go_ret
            first | exact ⟨rfl, HG2.out⟩ | exact ⟨rfl, HG2.out.drewN _⟩ | exact ⟨rfl, (HG2.out.drewN _).drewN _⟩
      · have hd : Q.dir live load = 0 := ed.trans (by rw [if_neg k1, if_neg k2, if_neg (fun h => k3 h.1), if_neg (fun h => k4 h.1)])
        have b4 : decide (n < l) = false := decide_eq_false k4
        rw [hd, show Q.went 0 = Q from rfl]
        clear hd ed k1 k2 k3 k4
        go_enter Try.func16, Try.ntmps16
        go_wp2_with fail
        (try rw [hW1]); clear hW1
        refine (HW.out _ HG.out).mono ?_
        rintro e w2 ⟨rfl, m, rfl⟩
        have HG2 := hid (HG.out.drewN m)
        generalize World.drewN _ m = W2 at *
        clear HG HW c6 f6
        have c0 := HG2.out.1.cs.mn
        have c1 := HG2.out.1.cs.mx
        have c6 := HG2.out.1.cs.now
        have c7 := HG2.out.1.cs.up
        have c8 := HG2.out.1.cs.dn
        have f7 := HG2.out.1.frozen 7
        have f8 := HG2.out.1.frozen 8
        have d0 := fun n : Nat => (HG2.out.drewN n).1.cs.mn
        have d1 := fun n : Nat => (HG2.out.drewN n).1.cs.mx
        have d2 := fun n : Nat => (HG2.out.drewN n).1.cs.pr
        have d3 := fun n : Nat => (HG2.out.drewN n).1.cs.sl
        have d4 := fun n : Nat => (HG2.out.drewN n).1.cs.uw
        have d5 := fun n : Nat => (HG2.out.drewN n).1.cs.dw
        have d6 := fun n : Nat => (HG2.out.drewN n).1.cs.now
        have d7 := fun n : Nat => (HG2.out.drewN n).1.cs.up
        have d8 := fun n : Nat => (HG2.out.drewN n).1.cs.dn
        have HU2 := hid fun n : Nat => HU.out _ (HG2.out.drewN n)
        have HD2 := hid fun n : Nat => HD.out _ (HG2.out.drewN n)
        clear HU HD
        go_wp2_with fail
        go_quiet (first | (go_at_call 31; first | exact Calls.quiet_of_same (HU2.out _) | exact (HD2.out _).mono (fun _ _ h => ⟨h.1, _, h.2⟩)))
        go_wp2_with fail
        go_quiet (first | (go_at_call 31; first | exact Calls.quiet_of_same (HU2.out _) | exact (HD2.out _).mono (fun _ _ h => ⟨h.1, _, h.2⟩)))
        go_wp2_with fail
        go_ret
        first | exact ⟨rfl, HG2.out⟩ | exact ⟨rfl, HG2.out.drewN _⟩ | exact ⟨rfl, (HG2.out.drewN _).drewN _⟩
    · have HG : Hid (Rt b Q w w) := by have := HT.out; rw [if_neg (by omega)] at this; exact this
      have t3 : 1099511627776 < t := by omega
      clear HT t2
      by_cases k1 : Q.mx < l
      · have hd : Q.dir live load = (-1) := ed.trans (by rw [if_pos k1])
        rw [hd]
        clear hd ed
        go_enter Try.func16, Try.ntmps16
        go_wp2_with fail
        refine (HW.out _ HG.out).mono ?_
        rintro e w2 ⟨rfl, m, rfl⟩
        have HG2 := hid (HG.out.drewN m)
        generalize World.drewN _ m = W2 at *
        clear HG HW c6 f6
        have c0 := HG2.out.1.cs.mn
        have c1 := HG2.out.1.cs.mx
        have c6 := HG2.out.1.cs.now
        have c7 := HG2.out.1.cs.up
        have c8 := HG2.out.1.cs.dn
        have f7 := HG2.out.1.frozen 7
        have f8 := HG2.out.1.frozen 8
        have d0 := fun n : Nat => (HG2.out.drewN n).1.cs.mn
        have d1 := fun n : Nat => (HG2.out.drewN n).1.cs.mx
        have d2 := fun n : Nat => (HG2.out.drewN n).1.cs.pr
        have d3 := fun n : Nat => (HG2.out.drewN n).1.cs.sl
        have d4 := fun n : Nat => (HG2.out.drewN n).1.cs.uw
        have d5 := fun n : Nat => (HG2.out.drewN n).1.cs.dw
        have d6 := fun n : Nat => (HG2.out.drewN n).1.cs.now
        have d7 := fun n : Nat => (HG2.out.drewN n).1.cs.up
        have d8 := fun n : Nat => (HG2.out.drewN n).1.cs.dn
        have HU2 := hid fun n : Nat => HU.out _ (HG2.out.drewN n)
        have HD2 := hid fun n : Nat => HD.out _ (HG2.out.drewN n)
        clear HU HD
        go_wp2_with fail
        go_ret
        first | exact ⟨rfl, HG2.out.set (P' := Q.went (-1)) rfl⟩ | exact ⟨rfl, (HG2.out.drewN _).set (P' := Q.went (-1)) rfl⟩ | exact ⟨rfl, ((HG2.out.drewN _).drewN _).set (P' := Q.went (-1)) rfl⟩
      have j1 : l ≤ Q.mx := by omega
      by_cases k2 : l < Q.mn
      · have hd : Q.dir live load = 1 := ed.trans (by rw [if_neg k1, if_pos k2])
        rw [hd]
        clear hd ed k1
        go_enter Try.func16, Try.ntmps16
        go_wp2_with fail
        refine (HW.out _ HG.out).mono ?_
        rintro e w2 ⟨rfl, m, rfl⟩
        have HG2 := hid (HG.out.drewN m)
        generalize World.drewN _ m = W2 at *
        clear HG HW c6 f6
        have c0 := HG2.out.1.cs.mn
        have c1 := HG2.out.1.cs.mx
        have c6 := HG2.out.1.cs.now
        have c7 := HG2.out.1.cs.up
        have c8 := HG2.out.1.cs.dn
        have f7 := HG2.out.1.frozen 7
        have f8 := HG2.out.1.frozen 8
        have d0 := fun n : Nat => (HG2.out.drewN n).1.cs.mn
        have d1 := fun n : Nat => (HG2.out.drewN n).1.cs.mx
        have d2 := fun n : Nat => (HG2.out.drewN n).1.cs.pr
        have d3 := fun n : Nat => (HG2.out.drewN n).1.cs.sl
        have d4 := fun n : Nat => (HG2.out.drewN n).1.cs.uw
        have d5 := fun n : Nat => (HG2.out.drewN n).1.cs.dw
        have d6 := fun n : Nat => (HG2.out.drewN n).1.cs.now
        have d7 := fun n : Nat => (HG2.out.drewN n).1.cs.up
        have d8 := fun n : Nat => (HG2.out.drewN n).1.cs.dn
        have HU2 := hid fun n : Nat => HU.out _ (HG2.out.drewN n)
        have HD2 := hid fun n : Nat => HD.out _ (HG2.out.drewN n)
        clear HU HD
        go_wp2_with fail
        go_ret
        first | exact ⟨rfl, HG2.out.set (P' := Q.went 1) rfl⟩ | exact ⟨rfl, (HG2.out.drewN _).set (P' := Q.went 1) rfl⟩ | exact ⟨rfl, ((HG2.out.drewN _).drewN _).set (P' := Q.went 1) rfl⟩
      have j2 : Q.mn ≤ l := by omega
      by_cases k3 : l < n
      · have k4 : ¬ n < l := by omega
        have b3 : decide (l < n) = true := decide_eq_true k3
        have b4 : decide (n < l) = false := decide_eq_false k4
        cases u with
        | true =>
          have hd : Q.dir live load = 1 := ed.trans (by rw [if_neg k1, if_neg k2, if_pos ⟨k3, rfl⟩])
          rw [hd]
          clear hd ed k1 k2 k3 k4
          go_enter Try.func16, Try.ntmps16
          go_wp2_with fail
          refine (HW.out _ HG.out).mono ?_
          rintro e w2 ⟨rfl, m, rfl⟩
          have HG2 := hid (HG.out.drewN m)
          generalize World.drewN _ m = W2 at *
          clear HG HW c6 f6
          have c0 := HG2.out.1.cs.mn
          have c1 := HG2.out.1.cs.mx
          have c6 := HG2.out.1.cs.now
          have c7 := HG2.out.1.cs.up
          have c8 := HG2.out.1.cs.dn
          have f7 := HG2.out.1.frozen 7
          have f8 := HG2.out.1.frozen 8
          have d0 := fun n : Nat => (HG2.out.drewN n).1.cs.mn
          have d1 := fun n : Nat => (HG2.out.drewN n).1.cs.mx
          have d2 := fun n : Nat => (HG2.out.drewN n).1.cs.pr
          have d3 := fun n : Nat => (HG2.out.drewN n).1.cs.sl
          have d4 := fun n : Nat => (HG2.out.drewN n).1.cs.uw
          have d5 := fun n : Nat => (HG2.out.drewN n).1.cs.dw
          have d6 := fun n : Nat => (HG2.out.drewN n).1.cs.now
          have d7 := fun n : Nat => (HG2.out.drewN n).1.cs.up
          have d8 := fun n : Nat => (HG2.out.drewN n).1.cs.dn
          have HU2 := hid fun n : Nat => HU.out _ (HG2.out.drewN n)
          have HD2 := hid fun n : Nat => HD.out _ (HG2.out.drewN n)
          clear HU HD
          go_wp2_with fail
          go_quiet (first | (go_at_call 31; first | exact Calls.quiet_of_same (HU2.out _) | exact (HD2.out _).mono (fun _ _ h => ⟨h.1, _, h.2⟩)))
          go_wp2_with fail
          go_ret
          first | exact ⟨rfl, HG2.out.set (P' := Q.went 1) rfl⟩ | exact ⟨rfl, (HG2.out.drewN _).set (P' := Q.went 1) rfl⟩ | exact ⟨rfl, ((HG2.out.drewN _).drewN _).set (P' := Q.went 1) rfl⟩
        | false =>
          have hd : Q.dir live load = 0 := ed.trans (by rw [if_neg k1, if_neg k2, if_neg (fun h => absurd h.2 (by decide)), if_neg (fun h => k4 h.1)])
          rw [hd, show Q.went 0 = Q from rfl]
          clear hd ed k1 k2 k3 k4
          go_enter Try.func16, Try.ntmps16
          go_wp2_with fail
          refine (HW.out _ HG.out).mono ?_
          rintro e w2 ⟨rfl, m, rfl⟩
          have HG2 := hid (HG.out.drewN m)
          generalize World.drewN _ m = W2 at *
          clear HG HW c6 f6
          have c0 := HG2.out.1.cs.mn
          have c1 := HG2.out.1.cs.mx
          have c6 := HG2.out.1.cs.now
          have c7 := HG2.out.1.cs.up
          have c8 := HG2.out.1.cs.dn
          have f7 := HG2.out.1.frozen 7
          have f8 := HG2.out.1.frozen 8
          have d0 := fun n : Nat => (HG2.out.drewN n).1.cs.mn
          have d1 := fun n : Nat => (HG2.out.drewN n).1.cs.mx
          have d2 := fun n : Nat => (HG2.out.drewN n).1.cs.pr
          have d3 := fun n : Nat => (HG2.out.drewN n).1.cs.sl
          have d4 := fun n : Nat => (HG2.out.drewN n).1.cs.uw
          have d5 := fun n : Nat => (HG2.out.drewN n).1.cs.dw
          have d6 := fun n : Nat => (HG2.out.drewN n).1.cs.now
          have d7 := fun n : Nat => (HG2.out.drewN n).1.cs.up
          have d8 := fun n : Nat => (HG2.out.drewN n).1.cs.dn
          have HU2 := hid fun n : Nat => HU.out _ (HG2.out.drewN n)
          have HD2 := hid fun n : Nat => HD.out _ (HG2.out.drewN n)
          clear HU HD
          go_wp2_with fail
          go_quiet (first | (go_at_call 31; first | exact Calls.quiet_of_same (HU2.out _) | exact (HD2.out _).mono (fun _ _ h => ⟨h.1, _, h.2⟩)))
          go_wp2_with fail
          go_quiet (first | (go_at_call 31; first | exact Calls.quiet_of_same (HU2.out _) | exact (HD2.out _).mono (fun _ _ h => ⟨h.1, _, h.2⟩)))
          go_wp2_with fail
          go_ret
          first | exact ⟨rfl, HG2.out⟩ | exact ⟨rfl, HG2.out.drewN _⟩ | exact ⟨rfl, (HG2.out.drewN _).drewN _⟩
      have b3 : decide (l < n) = false := decide_eq_false k3
      by_cases k4 : n < l
      · have z1 : 1 ≤ l := by obtain ⟨b1, b2, b3, b4⟩ := hbd; omega
        have z8 : l ≤ 8 := by obtain ⟨b1, b2, b3, b4⟩ := hbd; omega
        have b4 : decide (n < l) = true := decide_eq_true k4
        have b5 : decide (Q.mn < l) = true := decide_eq_true (by omega)
        have b6 := HSP.out z1 z8
        obtain ⟨⟨q1, q2⟩, q3, q4⟩ := HRM.out z1 z8
        have a0 : IntKind.i64.wrap (100 * c) = 100 * c := by rw [IntKind.wrap_i64]; omega
        have a1 : IntKind.i64.wrap (l - 1) = l - 1 := by rw [IntKind.wrap_i64]; omega
        have a2 : IntKind.i64.wrap ((l - 1) * Q.pr) = (l - 1) * Q.pr := by rw [IntKind.wrap_i64]; omega
        have a3 : IntKind.i64.wrap (100 - Q.sl) = 100 - Q.sl := by rw [IntKind.wrap_i64]; omega
        have a4 : IntKind.i64.wrap ((l - 1) * Q.pr * (100 - Q.sl)) = Q.rm l := by rw [HRE.out l, IntKind.wrap_i64]; omega
        clear q1 q2 q3 q4
        cases s with
        | false =>
          have hd : Q.dir live load = 0 := ed.trans (by rw [if_neg k1, if_neg k2, if_neg (fun h => k3 h.1), if_neg (fun h => absurd h.2.1 (by decide))])
          rw [hd, show Q.went 0 = Q from rfl]
          clear hd ed k1 k2 k3 k4 z1 z8
          go_enter Try.func16, Try.ntmps16
          go_wp2_with fail
          refine (HW.out _ HG.out).mono ?_
          rintro e w2 ⟨rfl, m, rfl⟩
          have HG2 := hid (HG.out.drewN m)
          generalize World.drewN _ m = W2 at *
          clear HG HW c6 f6
          have c0 := HG2.out.1.cs.mn
          have c1 := HG2.out.1.cs.mx
          have c6 := HG2.out.1.cs.now
          have c7 := HG2.out.1.cs.up
          have c8 := HG2.out.1.cs.dn
          have f7 := HG2.out.1.frozen 7
          have f8 := HG2.out.1.frozen 8
          have d0 := fun n : Nat => (HG2.out.drewN n).1.cs.mn
          have d1 := fun n : Nat => (HG2.out.drewN n).1.cs.mx
          have d2 := fun n : Nat => (HG2.out.drewN n).1.cs.pr
          have d3 := fun n : Nat => (HG2.out.drewN n).1.cs.sl
          have d4 := fun n : Nat => (HG2.out.drewN n).1.cs.uw
          have d5 := fun n : Nat => (HG2.out.drewN n).1.cs.dw
          have d6 := fun n : Nat => (HG2.out.drewN n).1.cs.now
          have d7 := fun n : Nat => (HG2.out.drewN n).1.cs.up
          have d8 := fun n : Nat => (HG2.out.drewN n).1.cs.dn
          have HU2 := hid fun n : Nat => HU.out _ (HG2.out.drewN n)
          have HD2 := hid fun n : Nat => HD.out _ (HG2.out.drewN n)
          clear HU HD
          go_wp2_with fail
          go_quiet (first | (go_at_call 31; first | exact Calls.quiet_of_same (HU2.out _) | exact (HD2.out _).mono (fun _ _ h => ⟨h.1, _, h.2⟩)))
          go_wp2_with fail
          go_quiet (first | (go_at_call 31; first | exact Calls.quiet_of_same (HU2.out _) | exact (HD2.out _).mono (fun _ _ h => ⟨h.1, _, h.2⟩)))
          go_wp2_with fail
          go_ret
          first | exact ⟨rfl, HG2.out⟩ | exact ⟨rfl, HG2.out.drewN _⟩ | exact ⟨rfl, (HG2.out.drewN _).drewN _⟩
        | true =>
          cases v with
          | true =>
            have hd : Q.dir live load = (-1) := ed.trans (by rw [if_neg k1, if_neg k2, if_neg (fun h => k3 h.1), if_pos ⟨k4, rfl, rfl⟩])
            rw [hd]
            clear hd ed k1 k2 k3 k4 z1 z8
            go_enter Try.func16, Try.ntmps16
            go_wp2_with fail
            refine (HW.out _ HG.out).mono ?_
            rintro e w2 ⟨rfl, m, rfl⟩
            have HG2 := hid (HG.out.drewN m)
            generalize World.drewN _ m = W2 at *
            clear HG HW c6 f6
            have c0 := HG2.out.1.cs.mn
            have c1 := HG2.out.1.cs.mx
            have c6 := HG2.out.1.cs.now
            have c7 := HG2.out.1.cs.up
            have c8 := HG2.out.1.cs.dn
            have f7 := HG2.out.1.frozen 7
            have f8 := HG2.out.1.frozen 8
            have d0 := fun n : Nat => (HG2.out.drewN n).1.cs.mn
            have d1 := fun n : Nat => (HG2.out.drewN n).1.cs.mx
            have d2 := fun n : Nat => (HG2.out.drewN n).1.cs.pr
            have d3 := fun n : Nat => (HG2.out.drewN n).1.cs.sl
            have d4 := fun n : Nat => (HG2.out.drewN n).1.cs.uw
            have d5 := fun n : Nat => (HG2.out.drewN n).1.cs.dw
            have d6 := fun n : Nat => (HG2.out.drewN n).1.cs.now
            have d7 := fun n : Nat => (HG2.out.drewN n).1.cs.up
            have d8 := fun n : Nat => (HG2.out.drewN n).1.cs.dn
            have HU2 := hid fun n : Nat => HU.out _ (HG2.out.drewN n)
            have HD2 := hid fun n : Nat => HD.out _ (HG2.out.drewN n)
            clear HU HD
            go_wp2_with fail
            go_quiet (first | (go_at_call 31; first | exact Calls.quiet_of_same (HU2.out _) | exact (HD2.out _).mono (fun _ _ h => ⟨h.1, _, h.2⟩)))
            go_wp2_with fail
            go_quiet (first | (go_at_call 31; first | exact Calls.quiet_of_same (HU2.out _) | exact (HD2.out _).mono (fun _ _ h => ⟨h.1, _, h.2⟩)))
            go_wp2_with fail
            go_ret
            first | exact ⟨rfl, HG2.out.set (P' := Q.went (-1)) rfl⟩ | exact ⟨rfl, (HG2.out.drewN _).set (P' := Q.went (-1)) rfl⟩ | exact ⟨rfl, ((HG2.out.drewN _).drewN _).set (P' := Q.went (-1)) rfl⟩
          | false =>
            have hd : Q.dir live load = 0 := ed.trans (by rw [if_neg k1, if_neg k2, if_neg (fun h => k3 h.1), if_neg (fun h => absurd h.2.2 (by decide))])
            rw [hd, show Q.went 0 = Q from rfl]
            clear hd ed k1 k2 k3 k4 z1 z8
            go_enter Try.func16, Try.ntmps16
            go_wp2_with fail
            refine (HW.out _ HG.out).mono ?_
            rintro e w2 ⟨rfl, m, rfl⟩
            have HG2 := hid (HG.out.drewN m)
            generalize World.drewN _ m = W2 at *
            clear HG HW c6 f6
            have c0 := HG2.out.1.cs.mn
            have c1 := HG2.out.1.cs.mx
            have c6 := HG2.out.1.cs.now
            have c7 := HG2.out.1.cs.up
            have c8 := HG2.out.1.cs.dn
            have f7 := HG2.out.1.frozen 7
            have f8 := HG2.out.1.frozen 8
            have d0 := fun n : Nat => (HG2.out.drewN n).1.cs.mn
            have d1 := fun n : Nat => (HG2.out.drewN n).1.cs.mx
            have d2 := fun n : Nat => (HG2.out.drewN n).1.cs.pr
            have d3 := fun n : Nat => (HG2.out.drewN n).1.cs.sl
            have d4 := fun n : Nat => (HG2.out.drewN n).1.cs.uw
            have d5 := fun n : Nat => (HG2.out.drewN n).1.cs.dw
            have d6 := fun n : Nat => (HG2.out.drewN n).1.cs.now
            have d7 := fun n : Nat => (HG2.out.drewN n).1.cs.up
            have d8 := fun n : Nat => (HG2.out.drewN n).1.cs.dn
            have HU2 := hid fun n : Nat => HU.out _ (HG2.out.drewN n)
            have HD2 := hid fun n : Nat => HD.out _ (HG2.out.drewN n)
            clear HU HD
            go_wp2_with fail
            go_quiet (first | (go_at_call 31; first | exact Calls.quiet_of_same (HU2.out _) | exact (HD2.out _).mono (fun _ _ h => ⟨h.1, _, h.2⟩)))
            go_wp2_with fail
            go_quiet (first | (go_at_call 31; first | exact Calls.quiet_of_same (HU2.out _) | exact (HD2.out _).mono (fun _ _ h => ⟨h.1, _, h.2⟩)))
            go_wp2_with fail
            go_ret
            first | exact ⟨rfl, HG2.out⟩ | exact ⟨rfl, HG2.out.drewN _⟩ | exact ⟨rfl, (HG2.out.drewN _).drewN _⟩
      · have hd : Q.dir live load = 0 := ed.trans (by rw [if_neg k1, if_neg k2, if_neg (fun h => k3 h.1), if_neg (fun h => k4 h.1)])
        have b4 : decide (n < l) = false := decide_eq_false k4
        rw [hd, show Q.went 0 = Q from rfl]
        clear hd ed k1 k2 k3 k4
        go_enter Try.func16, Try.ntmps16
        go_wp2_with fail
        refine (HW.out _ HG.out).mono ?_
        rintro e w2 ⟨rfl, m, rfl⟩
        have HG2 := hid (HG.out.drewN m)
        generalize World.drewN _ m = W2 at *
        clear HG HW c6 f6
        have c0 := HG2.out.1.cs.mn
        have c1 := HG2.out.1.cs.mx
        have c6 := HG2.out.1.cs.now
        have c7 := HG2.out.1.cs.up
        have c8 := HG2.out.1.cs.dn
        have f7 := HG2.out.1.frozen 7
        have f8 := HG2.out.1.frozen 8
        have d0 := fun n : Nat => (HG2.out.drewN n).1.cs.mn
        have d1 := fun n : Nat => (HG2.out.drewN n).1.cs.mx
        have d2 := fun n : Nat => (HG2.out.drewN n).1.cs.pr
        have d3 := fun n : Nat => (HG2.out.drewN n).1.cs.sl
        have d4 := fun n : Nat => (HG2.out.drewN n).1.cs.uw
        have d5 := fun n : Nat => (HG2.out.drewN n).1.cs.dw
        have d6 := fun n : Nat => (HG2.out.drewN n).1.cs.now
        have d7 := fun n : Nat => (HG2.out.drewN n).1.cs.up
        have d8 := fun n : Nat => (HG2.out.drewN n).1.cs.dn
        have HU2 := hid fun n : Nat => HU.out _ (HG2.out.drewN n)
        have HD2 := hid fun n : Nat => HD.out _ (HG2.out.drewN n)
        clear HU HD
        go_wp2_with fail
        go_quiet (first | (go_at_call 31; first | exact Calls.quiet_of_same (HU2.out _) | exact (HD2.out _).mono (fun _ _ h => ⟨h.1, _, h.2⟩)))
        go_wp2_with fail
        go_quiet (first | (go_at_call 31; first | exact Calls.quiet_of_same (HU2.out _) | exact (HD2.out _).mono (fun _ _ h => ⟨h.1, _, h.2⟩)))
        go_wp2_with fail
        go_ret
        first | exact ⟨rfl, HG2.out⟩ | exact ⟨rfl, HG2.out.drewN _⟩ | exact ⟨rfl, (HG2.out.drewN _).drewN _⟩
  · have HG : Hid (Rt b Q w w) := by have := HT.out; rw [if_neg (by omega)] at this; exact this
    have t3 : t ≤ P.now := by omega
    clear HT t1
    by_cases k1 : Q.mx < l
    · have hd : Q.dir live load = (-1) := ed.trans (by rw [if_pos k1])
      rw [hd]
      clear hd ed
      go_enter Try.func16, Try.ntmps16
      go_wp2_with fail
      refine (HW.out _ HG.out).mono ?_
      rintro e w2 ⟨rfl, m, rfl⟩
      have HG2 := hid (HG.out.drewN m)
      generalize World.drewN _ m = W2 at *
      clear HG HW c6 f6
      have c0 := HG2.out.1.cs.mn
      have c1 := HG2.out.1.cs.mx
      have c6 := HG2.out.1.cs.now
      have c7 := HG2.out.1.cs.up
      have c8 := HG2.out.1.cs.dn
      have f7 := HG2.out.1.frozen 7
      have f8 := HG2.out.1.frozen 8
      have d0 := fun n : Nat => (HG2.out.drewN n).1.cs.mn
      have d1 := fun n : Nat => (HG2.out.drewN n).1.cs.mx
      have d2 := fun n : Nat => (HG2.out.drewN n).1.cs.pr
      have d3 := fun n : Nat => (HG2.out.drewN n).1.cs.sl
      have d4 := fun n : Nat => (HG2.out.drewN n).1.cs.uw
      have d5 := fun n : Nat => (HG2.out.drewN n).1.cs.dw
      have d6 := fun n : Nat => (HG2.out.drewN n).1.cs.now
      have d7 := fun n : Nat => (HG2.out.drewN n).1.cs.up
      have d8 := fun n : Nat => (HG2.out.drewN n).1.cs.dn
      have HU2 := hid fun n : Nat => HU.out _ (HG2.out.drewN n)
      have HD2 := hid fun n : Nat => HD.out _ (HG2.out.drewN n)
      clear HU HD
      go_wp2_with fail
      go_ret
      first | exact ⟨rfl, HG2.out.set (P' := Q.went (-1)) rfl⟩ | exact ⟨rfl, (HG2.out.drewN _).set (P' := Q.went (-1)) rfl⟩ | exact ⟨rfl, ((HG2.out.drewN _).drewN _).set (P' := Q.went (-1)) rfl⟩
    have j1 : l ≤ Q.mx := by omega
    by_cases k2 : l < Q.mn
    · have hd : Q.dir live load = 1 := ed.trans (by rw [if_neg k1, if_pos k2])
      rw [hd]
      clear hd ed k1
      go_enter Try.func16, Try.ntmps16
      go_wp2_with fail
      refine (HW.out _ HG.out).mono ?_
      rintro e w2 ⟨rfl, m, rfl⟩
      have HG2 := hid (HG.out.drewN m)
      generalize World.drewN _ m = W2 at *
      clear HG HW c6 f6
      have c0 := HG2.out.1.cs.mn
      have c1 := HG2.out.1.cs.mx
      have c6 := HG2.out.1.cs.now
      have c7 := HG2.out.1.cs.up
      have c8 := HG2.out.1.cs.dn
      have f7 := HG2.out.1.frozen 7
      have f8 := HG2.out.1.frozen 8
      have d0 := fun n : Nat => (HG2.out.drewN n).1.cs.mn
      have d1 := fun n : Nat => (HG2.out.drewN n).1.cs.mx
      have d2 := fun n : Nat => (HG2.out.drewN n).1.cs.pr
      have d3 := fun n : Nat => (HG2.out.drewN n).1.cs.sl
      have d4 := fun n : Nat => (HG2.out.drewN n).1.cs.uw
      have d5 := fun n : Nat => (HG2.out.drewN n).1.cs.dw
      have d6 := fun n : Nat => (HG2.out.drewN n).1.cs.now
      have d7 := fun n : Nat => (HG2.out.drewN n).1.cs.up
      have d8 := fun n : Nat => (HG2.out.drewN n).1.cs.dn
      have HU2 := hid fun n : Nat => HU.out _ (HG2.out.drewN n)
      have HD2 := hid fun n : Nat => HD.out _ (HG2.out.drewN n)
      clear HU HD
      go_wp2_with fail
      go_ret
      first | exact ⟨rfl, HG2.out.set (P' := Q.went 1) rfl⟩ | exact ⟨rfl, (HG2.out.drewN _).set (P' := Q.went 1) rfl⟩ | exact ⟨rfl, ((HG2.out.drewN _).drewN _).set (P' := Q.went 1) rfl⟩
    have j2 : Q.mn ≤ l := by omega
    by_cases k3 : l < n
    · have k4 : ¬ n < l := by omega
      have b3 : decide (l < n) = true := decide_eq_true k3
      have b4 : decide (n < l) = false := decide_eq_false k4
      cases u with
      | true =>
        have hd : Q.dir live load = 1 := ed.trans (by rw [if_neg k1, if_neg k2, if_pos ⟨k3, rfl⟩])
        rw [hd]
        clear hd ed k1 k2 k3 k4
        go_enter Try.func16, Try.ntmps16
        go_wp2_with fail
        refine (HW.out _ HG.out).mono ?_
        rintro e w2 ⟨rfl, m, rfl⟩
        have HG2 := hid (HG.out.drewN m)
        generalize World.drewN _ m = W2 at *
        clear HG HW c6 f6
        have c0 := HG2.out.1.cs.mn
        have c1 := HG2.out.1.cs.mx
        have c6 := HG2.out.1.cs.now
        have c7 := HG2.out.1.cs.up
        have c8 := HG2.out.1.cs.dn
        have f7 := HG2.out.1.frozen 7
        have f8 := HG2.out.1.frozen 8
        have d0 := fun n : Nat => (HG2.out.drewN n).1.cs.mn
        have d1 := fun n : Nat => (HG2.out.drewN n).1.cs.mx
        have d2 := fun n : Nat => (HG2.out.drewN n).1.cs.pr
        have d3 := fun n : Nat => (HG2.out.drewN n).1.cs.sl
        have d4 := fun n : Nat => (HG2.out.drewN n).1.cs.uw
        have d5 := fun n : Nat => (HG2.out.drewN n).1.cs.dw
        have d6 := fun n : Nat => (HG2.out.drewN n).1.cs.now
        have d7 := fun n : Nat => (HG2.out.drewN n).1.cs.up
        have d8 := fun n : Nat => (HG2.out.drewN n).1.cs.dn
        have HU2 := hid fun n : Nat => HU.out _ (HG2.out.drewN n)
        have HD2 := hid fun n : Nat => HD.out _ (HG2.out.drewN n)
        clear HU HD
        go_wp2_with fail
        go_quiet (first | (go_at_call 31; first | exact Calls.quiet_of_same (HU2.out _) | exact (HD2.out _).mono (fun _ _ h => ⟨h.1, _, h.2⟩)))
        go_wp2_with fail
        go_ret
        first | exact ⟨rfl, HG2.out.set (P' := Q.went 1) rfl⟩ | exact ⟨rfl, (HG2.out.drewN _).set (P' := Q.went 1) rfl⟩ | exact ⟨rfl, ((HG2.out.drewN _).drewN _).set (P' := Q.went 1) rfl⟩
      | false =>
        have hd : Q.dir live load = 0 := ed.trans (by rw [if_neg k1, if_neg k2, if_neg (fun h => absurd h.2 (by decide)), if_neg (fun h => k4 h.1)])
        rw [hd, show Q.went 0 = Q from rfl]
        clear hd ed k1 k2 k3 k4
        go_enter Try.func16, Try.ntmps16
        go_wp2_with fail
        refine (HW.out _ HG.out).mono ?_
        rintro e w2 ⟨rfl, m, rfl⟩
        have HG2 := hid (HG.out.drewN m)
        generalize World.drewN _ m = W2 at *
        clear HG HW c6 f6
        have c0 := HG2.out.1.cs.mn
        have c1 := HG2.out.1.cs.mx
        have c6 := HG2.out.1.cs.now
        have c7 := HG2.out.1.cs.up
        have c8 := HG2.out.1.cs.dn
        have f7 := HG2.out.1.frozen 7
        have f8 := HG2.out.1.frozen 8
        have d0 := fun n : Nat => (HG2.out.drewN n).1.cs.mn
        have d1 := fun n : Nat => (HG2.out.drewN n).1.cs.mx
        have d2 := fun n : Nat => (HG2.out.drewN n).1.cs.pr
        have d3 := fun n : Nat => (HG2.out.drewN n).1.cs.sl
        have d4 := fun n : Nat => (HG2.out.drewN n).1.cs.uw
        have d5 := fun n : Nat => (HG2.out.drewN n).1.cs.dw
        have d6 := fun n : Nat => (HG2.out.drewN n).1.cs.now
        have d7 := fun n : Nat => (HG2.out.drewN n).1.cs.up
        have d8 := fun n : Nat => (HG2.out.drewN n).1.cs.dn
        have HU2 := hid fun n : Nat => HU.out _ (HG2.out.drewN n)
        have HD2 := hid fun n : Nat => HD.out _ (HG2.out.drewN n)
        clear HU HD
        go_wp2_with fail
        go_quiet (first | (go_at_call 31; first | exact Calls.quiet_of_same (HU2.out _) | exact (HD2.out _).mono (fun _ _ h => ⟨h.1, _, h.2⟩)))
        go_wp2_with fail
        go_quiet (first | (go_at_call 31; first | exact Calls.quiet_of_same (HU2.out _) | exact (HD2.out _).mono (fun _ _ h => ⟨h.1, _, h.2⟩)))
        go_wp2_with fail
        go_ret
        first | exact ⟨rfl, HG2.out⟩ | exact ⟨rfl, HG2.out.drewN _⟩ | exact ⟨rfl, (HG2.out.drewN _).drewN _⟩
    have b3 : decide (l < n) = false := decide_eq_false k3
    by_cases k4 : n < l
    · have z1 : 1 ≤ l := by obtain ⟨b1, b2, b3, b4⟩ := hbd; omega
      have z8 : l ≤ 8 := by obtain ⟨b1, b2, b3, b4⟩ := hbd; omega
      have b4 : decide (n < l) = true := decide_eq_true k4
      have b5 : decide (Q.mn < l) = true := decide_eq_true (by omega)
      have b6 := HSP.out z1 z8
      obtain ⟨⟨q1, q2⟩, q3, q4⟩ := HRM.out z1 z8
      have a0 : IntKind.i64.wrap (100 * c) = 100 * c := by rw [IntKind.wrap_i64]; omega
      have a1 : IntKind.i64.wrap (l - 1) = l - 1 := by rw [IntKind.wrap_i64]; omega
      have a2 : IntKind.i64.wrap ((l - 1) * Q.pr) = (l - 1) * Q.pr := by rw [IntKind.wrap_i64]; omega
      have a3 : IntKind.i64.wrap (100 - Q.sl) = 100 - Q.sl := by rw [IntKind.wrap_i64]; omega
      have a4 : IntKind.i64.wrap ((l - 1) * Q.pr * (100 - Q.sl)) = Q.rm l := by rw [HRE.out l, IntKind.wrap_i64]; omega
      clear q1 q2 q3 q4
      cases s with
      | false =>
        have hd : Q.dir live load = 0 := ed.trans (by rw [if_neg k1, if_neg k2, if_neg (fun h => k3 h.1), if_neg (fun h => absurd h.2.1 (by decide))])
        rw [hd, show Q.went 0 = Q from rfl]
        clear hd ed k1 k2 k3 k4 z1 z8
        go_enter Try.func16, Try.ntmps16
        go_wp2_with fail
        refine (HW.out _ HG.out).mono ?_
        rintro e w2 ⟨rfl, m, rfl⟩
        have HG2 := hid (HG.out.drewN m)
        generalize World.drewN _ m = W2 at *
        clear HG HW c6 f6
        have c0 := HG2.out.1.cs.mn
        have c1 := HG2.out.1.cs.mx
        have c6 := HG2.out.1.cs.now
        have c7 := HG2.out.1.cs.up
        have c8 := HG2.out.1.cs.dn
        have f7 := HG2.out.1.frozen 7
        have f8 := HG2.out.1.frozen 8
        have d0 := fun n : Nat => (HG2.out.drewN n).1.cs.mn
        have d1 := fun n : Nat => (HG2.out.drewN n).1.cs.mx
        have d2 := fun n : Nat => (HG2.out.drewN n).1.cs.pr
        have d3 := fun n : Nat => (HG2.out.drewN n).1.cs.sl
        have d4 := fun n : Nat => (HG2.out.drewN n).1.cs.uw
        have d5 := fun n : Nat => (HG2.out.drewN n).1.cs.dw
        have d6 := fun n : Nat => (HG2.out.drewN n).1.cs.now
        have d7 := fun n : Nat => (HG2.out.drewN n).1.cs.up
        have d8 := fun n : Nat => (HG2.out.drewN n).1.cs.dn
        have HU2 := hid fun n : Nat => HU.out _ (HG2.out.drewN n)
        have HD2 := hid fun n : Nat => HD.out _ (HG2.out.drewN n)
        clear HU HD
        go_wp2_with fail
        go_quiet (first | (go_at_call 31; first | exact Calls.quiet_of_same (HU2.out _) | exact (HD2.out _).mono (fun _ _ h => ⟨h.1, _, h.2⟩)))
        go_wp2_with fail
        go_quiet (first | (go_at_call 31; first | exact Calls.quiet_of_same (HU2.out _) | exact (HD2.out _).mono (fun _ _ h => ⟨h.1, _, h.2⟩)))
        go_wp2_with fail
        go_ret
        first | exact ⟨rfl, HG2.out⟩ | exact ⟨rfl, HG2.out.drewN _⟩ | exact ⟨rfl, (HG2.out.drewN _).drewN _⟩
      | true =>
        cases v with
        | true =>
          have hd : Q.dir live load = (-1) := ed.trans (by rw [if_neg k1, if_neg k2, if_neg (fun h => k3 h.1), if_pos ⟨k4, rfl, rfl⟩])
          rw [hd]
          clear hd ed k1 k2 k3 k4 z1 z8
          go_enter Try.func16, Try.ntmps16
          go_wp2_with fail
          refine (HW.out _ HG.out).mono ?_
          rintro e w2 ⟨rfl, m, rfl⟩
          have HG2 := hid (HG.out.drewN m)
          generalize World.drewN _ m = W2 at *
          clear HG HW c6 f6
          have c0 := HG2.out.1.cs.mn
          have c1 := HG2.out.1.cs.mx
          have c6 := HG2.out.1.cs.now
          have c7 := HG2.out.1.cs.up
          have c8 := HG2.out.1.cs.dn
          have f7 := HG2.out.1.frozen 7
          have f8 := HG2.out.1.frozen 8
          have d0 := fun n : Nat => (HG2.out.drewN n).1.cs.mn
          have d1 := fun n : Nat => (HG2.out.drewN n).1.cs.mx
          have d2 := fun n : Nat => (HG2.out.drewN n).1.cs.pr
          have d3 := fun n : Nat => (HG2.out.drewN n).1.cs.sl
          have d4 := fun n : Nat => (HG2.out.drewN n).1.cs.uw
          have d5 := fun n : Nat => (HG2.out.drewN n).1.cs.dw
          have d6 := fun n : Nat => (HG2.out.drewN n).1.cs.now
          have d7 := fun n : Nat => (HG2.out.drewN n).1.cs.up
          have d8 := fun n : Nat => (HG2.out.drewN n).1.cs.dn
          have HU2 := hid fun n : Nat => HU.out _ (HG2.out.drewN n)
          have HD2 := hid fun n : Nat => HD.out _ (HG2.out.drewN n)
          clear HU HD
          go_wp2_with fail
          go_quiet (first | (go_at_call 31; first | exact Calls.quiet_of_same (HU2.out _) | exact (HD2.out _).mono (fun _ _ h => ⟨h.1, _, h.2⟩)))
          go_wp2_with fail
          go_quiet (first | (go_at_call 31; first | exact Calls.quiet_of_same (HU2.out _) | exact (HD2.out _).mono (fun _ _ h => ⟨h.1, _, h.2⟩)))
          go_wp2_with fail
          go_ret
          first | exact ⟨rfl, HG2.out.set (P' := Q.went (-1)) rfl⟩ | exact ⟨rfl, (HG2.out.drewN _).set (P' := Q.went (-1)) rfl⟩ | exact ⟨rfl, ((HG2.out.drewN _).drewN _).set (P' := Q.went (-1)) rfl⟩
        | false =>
          have hd : Q.dir live load = 0 := ed.trans (by rw [if_neg k1, if_neg k2, if_neg (fun h => k3 h.1), if_neg (fun h => absurd h.2.2 (by decide))])
          rw [hd, show Q.went 0 = Q from rfl]
          clear hd ed k1 k2 k3 k4 z1 z8
          go_enter Try.func16, Try.ntmps16
          go_wp2_with fail
          refine (HW.out _ HG.out).mono ?_
          rintro e w2 ⟨rfl, m, rfl⟩
          have HG2 := hid (HG.out.drewN m)
          generalize World.drewN _ m = W2 at *
          clear HG HW c6 f6
          have c0 := HG2.out.1.cs.mn
          have c1 := HG2.out.1.cs.mx
          have c6 := HG2.out.1.cs.now
          have c7 := HG2.out.1.cs.up
          have c8 := HG2.out.1.cs.dn
          have f7 := HG2.out.1.frozen 7
          have f8 := HG2.out.1.frozen 8
          have d0 := fun n : Nat => (HG2.out.drewN n).1.cs.mn
          have d1 := fun n : Nat => (HG2.out.drewN n).1.cs.mx
          have d2 := fun n : Nat => (HG2.out.drewN n).1.cs.pr
          have d3 := fun n : Nat => (HG2.out.drewN n).1.cs.sl
          have d4 := fun n : Nat => (HG2.out.drewN n).1.cs.uw
          have d5 := fun n : Nat => (HG2.out.drewN n).1.cs.dw
          have d6 := fun n : Nat => (HG2.out.drewN n).1.cs.now
          have d7 := fun n : Nat => (HG2.out.drewN n).1.cs.up
          have d8 := fun n : Nat => (HG2.out.drewN n).1.cs.dn
          have HU2 := hid fun n : Nat => HU.out _ (HG2.out.drewN n)
          have HD2 := hid fun n : Nat => HD.out _ (HG2.out.drewN n)
          clear HU HD
          go_wp2_with fail
          go_quiet (first | (go_at_call 31; first | exact Calls.quiet_of_same (HU2.out _) | exact (HD2.out _).mono (fun _ _ h => ⟨h.1, _, h.2⟩)))
          go_wp2_with fail
          go_quiet (first | (go_at_call 31; first | exact Calls.quiet_of_same (HU2.out _) | exact (HD2.out _).mono (fun _ _ h => ⟨h.1, _, h.2⟩)))
          go_wp2_with fail
          go_ret
          first | exact ⟨rfl, HG2.out⟩ | exact ⟨rfl, HG2.out.drewN _⟩ | exact ⟨rfl, (HG2.out.drewN _).drewN _⟩
    · have hd : Q.dir live load = 0 := ed.trans (by rw [if_neg k1, if_neg k2, if_neg (fun h => k3 h.1), if_neg (fun h => k4 h.1)])
      have b4 : decide (n < l) = false := decide_eq_false k4
      rw [hd, show Q.went 0 = Q from rfl]
      clear hd ed k1 k2 k3 k4
      go_enter Try.func16, Try.ntmps16
      go_wp2_with fail
      refine (HW.out _ HG.out).mono ?_
      rintro e w2 ⟨rfl, m, rfl⟩
      have HG2 := hid (HG.out.drewN m)
      generalize World.drewN _ m = W2 at *
      clear HG HW c6 f6
      have c0 := HG2.out.1.cs.mn
      have c1 := HG2.out.1.cs.mx
      have c6 := HG2.out.1.cs.now
      have c7 := HG2.out.1.cs.up
      have c8 := HG2.out.1.cs.dn
      have f7 := HG2.out.1.frozen 7
      have f8 := HG2.out.1.frozen 8
      have d0 := fun n : Nat => (HG2.out.drewN n).1.cs.mn
      have d1 := fun n : Nat => (HG2.out.drewN n).1.cs.mx
      have d2 := fun n : Nat => (HG2.out.drewN n).1.cs.pr
      have d3 := fun n : Nat => (HG2.out.drewN n).1.cs.sl
      have d4 := fun n : Nat => (HG2.out.drewN n).1.cs.uw
      have d5 := fun n : Nat => (HG2.out.drewN n).1.cs.dw
      have d6 := fun n : Nat => (HG2.out.drewN n).1.cs.now
      have d7 := fun n : Nat => (HG2.out.drewN n).1.cs.up
      have d8 := fun n : Nat => (HG2.out.drewN n).1.cs.dn
      have HU2 := hid fun n : Nat => HU.out _ (HG2.out.drewN n)
      have HD2 := hid fun n : Nat => HD.out _ (HG2.out.drewN n)
      clear HU HD
      go_wp2_with fail
      go_quiet (first | (go_at_call 31; first | exact Calls.quiet_of_same (HU2.out _) | exact (HD2.out _).mono (fun _ _ h => ⟨h.1, _, h.2⟩)))
      go_wp2_with fail
      go_quiet (first | (go_at_call 31; first | exact Calls.quiet_of_same (HU2.out _) | exact (HD2.out _).mono (fun _ _ h => ⟨h.1, _, h.2⟩)))
      go_wp2_with fail
      go_ret
      first | exact ⟨rfl, HG2.out⟩ | exact ⟨rfl, HG2.out.drewN _⟩ | exact ⟨rfl, (HG2.out.drewN _).drewN _⟩
end Go.Proofs.Ytkkkabgljppilaa
