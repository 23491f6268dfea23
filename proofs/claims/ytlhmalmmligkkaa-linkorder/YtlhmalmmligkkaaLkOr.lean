/-
  LinkOrder.
-/
import Derived.Test.YtlhmalmmligkkaaLkAl
import Derived.Deep.RegionHeld3
namespace Go.Proofs.Ytlhmalmmligkkaa
open Go.RowKit
set_option linter.unusedVariables false
set_option linter.unusedSimpArgs false
set_option maxRecDepth 1000000

/-- So many were sent, so many came. -/
structure OrJ (w : World) (b : Nat) (Z : List (List Int)) (k t : Nat) (W : World) : Prop where
  lo : ∃ S, Lo w.heap.size W b S ∧ S.room = 256 ∧ S.ms = (Z.take k).drop t
  bel : Below w.heap.size w W
  tk : t ≤ k
  kl : k ≤ Z.length
theorem OrJ.below {w : World} {b : Nat} {Z : List (List Int)} {k t : Nat} {W W' : World} (h : OrJ w b Z k t W) (hb : Below W.heap.size W W') : OrJ w b Z k t W' := by
  obtain ⟨S, h1, h2, h3⟩ := h.lo
  exact ⟨⟨S, h1.below hb, h2, h3⟩, h.bel.trans (hb.mono h.bel.size), h.tk, h.kl⟩
theorem OrJ.len {w : World} {b : Nat} {Z : List (List Int)} {k t : Nat} {W : World} (h : OrJ w b Z k t W) : Calls Try.prog 26 #[.pointer (some ⟨b, 0, none⟩)] W fun e w' => e = .returned (.int .i64 ((k - t : Nat) : Int)) ∧ w' = W := by
  obtain ⟨S, h1, h2, h3⟩ := h.lo
  have := olen h1
  rw [h3, List.length_drop, List.length_take, Nat.min_eq_left h.kl] at this
  exact this
theorem OrJ.send {w : World} {b : Nat} {Z : List (List Int)} {k t : Nat} {W : World} (h : OrJ w b Z k t W) (hZ : Z.length ≤ 200) {zs : List Int} (hk : Z[k]? = some zs) {a : Option Addr} {len cap : Nat} (hr : Reads .u8 w a len cap zs) (hz : IsBytes zs) (hlen : len ≤ 140737488351232) (hF : 0 < len → ∀ p, a = some p → p.block < w.heap.size) :
    Calls Try.prog 23 #[.pointer (some ⟨b, 0, none⟩), .slice a len cap] W fun e w' => e = .returned (.int .i64 0) ∧ Hid (OrJ w b Z (k + 1) t w') := by
  obtain ⟨S, h1, h2, h3⟩ := h.lo
  have hkl : k < Z.length := (List.getElem?_eq_some_iff.1 hk).1
  have hl : ¬ S.room ≤ S.ms.length := by rw [h2, h3, List.length_drop, List.length_take]; omega
  refine (osend h1 a len cap zs (hr.below h.bel) hz hlen fun h0 p hp => .inl (hF h0 p hp)).mono ?_
  rintro e w' ⟨rfl, H⟩
  have e1 : S.sendE = 0 := if_neg hl
  rw [e1]
  have H1 := H.out.1
  rw [show S.send zs = S.sent.put (S.ms ++ [zs]) from if_neg hl] at H1
  refine ⟨rfl, ⟨_, H1, h2, ?_⟩, h.bel.trans H.out.2.bel, Nat.le_succ_of_le h.tk, hkl⟩
  show S.ms ++ [zs] = _
  rw [h3, List.take_add_one, hk]
  rw [List.drop_append_of_le_length (by rw [List.length_take]; have := h.tk; omega)]
  rfl
theorem OrJ.dlv {w : World} {b : Nat} {Z : List (List Int)} {k t : Nat} {W : World} (h : OrJ w b Z k t W) (ht : t < k) {zs : List Int} (hk : Z[t]? = some zs) :
    Calls Try.prog 12 #[.pointer (some ⟨b, 0, none⟩), .int .i64 0] W fun e w' => ∃ a c, e = .returned (.tuple #[.slice a zs.length c, .int .i64 0]) ∧ Hid (OrJ w b Z k (t + 1) w' ∧ Reads .u8 w' a zs.length c zs) := by
  obtain ⟨S, h1, h2, h3⟩ := h.lo
  have hlen : S.ms.length = k - t := by rw [h3, List.length_drop, List.length_take, Nat.min_eq_left h.kl]
  have hh : S.has 0 := ⟨Int.le_refl _, by omega⟩
  have hz : S.ms[(0 : Int).toNat]? = some zs := by
    rw [h3, List.getElem?_drop]
    show (Z.take k)[t]? = _
    rw [List.getElem?_take_of_lt ht]
    exact hk
  have e1 : S.msgZ 0 = zs := by unfold Lm.msgZ; rw [if_pos hh, hz]; rfl
  have e2 : S.errI 0 = 0 := if_pos hh
  have e3 : S.dlv 0 = (S.less (0 : Int).toNat).came := if_pos hh
  have := odlv 0 h1
  rw [e1, e2, e3] at this
  refine this.mono ?_
  rintro e w' ⟨a, c, rfl, H⟩
  refine ⟨a, c, rfl, ⟨⟨_, H.out.1, h2, ?_⟩, h.bel.trans H.out.2.1.bel, ht, h.kl⟩, H.out.2.2⟩
  show S.ms.eraseIdx 0 = _
  rw [h3, List.eraseIdx_zero, List.tail_drop]
set_option maxHeartbeats 64000000 in
theorem order_any {a0 : Option Addr} {l0 c0 : Nat} {xs0 : List Bp} {m1 : Int} {w : World} (ga0 : Lst w a0 l0 c0 1 xs0 BpV (fun s => BpIn w s)) (gm : 0 ≤ m1 ∧ m1 ≤ 255) :
    Calls Try.prog 5 #[.slice a0 l0 c0, .int .u8 m1] w fun e w' => e = .returned (.bool true) ∧ Hid (Below w.heap.size w w') := by
  have HSp := hid fun (W' : World) (hb : Below w.heap.size w W') => ga0.below BpV_size hb (fun s h => h)
  have r1 := ga0.room
  have m2 := ga0.most
  have hsz := ga0.size
  obtain ⟨Z, HZ⟩ : ∃ Z, Hid (Z = xs0.map Bp.zs) := ⟨_, rfl⟩
  have HZl : Hid (Z.length = l0) := by unfold Hid; rw [HZ.out, List.length_map]; exact hsz
  have hN := onew (B := w.heap.size) (room := 256) (by decide) (by decide) w (Nat.le_refl _)
  clear ga0
  go_enter Try.func5, Try.ntmps5
  go_wp2_with fail
  with_reducible refine hN.mono ?_
  rintro e w1 ⟨b, rfl, H1⟩
  clear hN
  have HJ : Hid (OrJ w b Z 0 0 w1) := ⟨⟨_, H1.out.1, rfl, rfl⟩, H1.out.2.1, Nat.le_refl _, Nat.zero_le _⟩
  clear H1
  by_cases hl : 200 < l0
  · have hl' : (200 : Int) < (l0 : Int) := by omega
    go_wp2_with fail
    with_reducible refine (alive21_any _).mono ?_
    rintro e wz ⟨rfl, HZ0⟩
    have HE := hid (HJ.out.bel.trans (HZ0.out.mono HJ.out.bel.size))
    clear HZ0 HJ
    go_wp2_with fail
    go_ret
    exact ⟨rfl, HE⟩
  have hl' : ¬ (200 : Int) < (l0 : Int) := by omega
  go_wp2_with fail
  go_loopw [7, 38] (fun at' z W' => ∃ (k t : Nat), k ≤ l0 ∧ z = .int .i64 k ∧ at' = .int .i64 t ∧ t ≤ k ∧ Hid (OrJ w b Z k t W')) (fun _ z _ => l0 - (intOf z).toNat)
  case atStart => exact ⟨0, 0, by omega, rfl, rfl, Nat.le_refl _, HJ⟩
  case round =>
  obtain ⟨k, t, hk, rfl, rfl, htk, HS⟩ := hrel
  rename World => wr
  clear HJ
  by_cases hkl : k < l0
  · have g1 : (k : Int) < (l0 : Int) := by omega
    have hL := HSp.out _ HS.out.bel
    have hx : k < xs0.length := by omega
    obtain ⟨q, off, rfl, hc⟩ := hL.cell k hx
    have q0 := hc 0 (by omega)
    have HI := hid (hL.inn k hx)
    clear hc hL
    simp only [BpV, List.getElem?_toArray, List.getElem?_cons_zero, Nat.add_zero, Nat.mul_one] at q0
    have HZk : Hid (Z[k]? = some xs0[k].zs) := by unfold Hid; rw [HZ.out, List.getElem?_map, List.getElem?_eq_getElem hx]; rfl
    generalize xs0[k] = s at *
    by_cases hb : 100 < s.lp
    · have hb' : (100 : Int) < (s.lp : Int) := by omega
      go_wp2_with fail
      with_reducible refine (alive21_any _).mono ?_
      rintro e wz ⟨rfl, HZ0⟩
      have HE := hid (HS.out.bel.trans (HZ0.out.mono HS.out.bel.size))
      clear HZ0 HS
      go_wp2_with fail
      go_ret
      exact ⟨rfl, HE⟩
    · have hb' : ¬ (100 : Int) < (s.lp : Int) := by omega
      have hSn := HS.out.send (by rw [HZl.out]; omega) HZk.out HI.out.rd HI.out.bs HI.out.len (fun hl p hp => by
        obtain ⟨x, o, e, hc⟩ := HI.out.rd.cell 0 hl
        rw [hp] at e
        cases e
        exact World.block_lt_of_cell? _ _ hc)
      clear HI HZk
      go_wp2_with fail
      with_reducible refine hSn.mono ?_
      rintro e w2 ⟨rfl, H2⟩
      clear hSn HS q0 hb hb'
      obtain ⟨cn, hcn⟩ : ∃ cn : Nat, m1 % 3 + (k : Int) % 2 = (cn : Int) := ⟨(m1 % 3 + (k : Int) % 2).toNat, by omega⟩
      have hcn4 : cn ≤ 4 := by omega
      have ht1 : m1.tmod 3 = m1 % 3 := Int.tmod_eq_emod_of_nonneg gm.1
      have ht2 : (k : Int).tmod 2 = (k : Int) % 2 := Int.tmod_eq_emod_of_nonneg (by omega)
      have hw1 : IntKind.i64.wrap m1 = m1 := wrap64_in (by omega) (by omega)
      have hw2 : IntKind.i64.wrap (m1 % 3) = m1 % 3 := wrap64_in (by omega) (by omega)
      have hw3 : IntKind.i64.wrap ((k : Int) % 2) = (k : Int) % 2 := wrap64_in (by omega) (by omega)
      have hw4 : IntKind.i64.wrap (m1 % 3 + (k : Int) % 2) = (cn : Int) := by rw [hcn]; exact wrap64_in (by omega) (by omega)
      clear hcn
      go_wp2_with fail
      go_loopw [7, 57] (fun at' z W' => ∃ (t j : Nat), t ≤ k + 1 ∧ j ≤ cn ∧ z = .int .i64 j ∧ at' = .int .i64 t ∧ Hid (OrJ w b Z (k + 1) t W')) (fun _ z _ => cn - (intOf z).toNat)
      case atStart => exact ⟨t, 0, by omega, by omega, rfl, rfl, H2⟩
      case round =>
      obtain ⟨t', j, ht', hj, rfl, rfl, HT⟩ := hrel
      rename World => wy
      clear H2
      by_cases hjc : j < cn
      · have g2 : (j : Int) < (cn : Int) := by omega
        have hLn := HT.out.len
        by_cases htk' : t' < k + 1
        · have hx' : t' < xs0.length := by omega
          have HZt : Hid (Z[t']? = some xs0[t'].zs) := by unfold Hid; rw [HZ.out, List.getElem?_map, List.getElem?_eq_getElem hx']; rfl
          have hD := HT.out.dlv htk' HZt.out
          have HIt : Hid (∀ W' : World, Below w.heap.size w W' → W'.cell? ⟨q, off + t', none⟩ = some (.slice xs0[t'].ap xs0[t'].lp xs0[t'].cp) ∧ Reads .u8 W' xs0[t'].ap xs0[t'].lp xs0[t'].cp xs0[t'].zs) := fun W' hb => by
            have hL := HSp.out _ hb
            obtain ⟨q', off', e, hc⟩ := hL.cell t' hx'
            cases e
            have := hc 0 (by omega)
            simp only [BpV, List.getElem?_toArray, List.getElem?_cons_zero, Nat.add_zero, Nat.mul_one] at this
            exact ⟨this, (hL.inn t' hx').rd.below hb⟩
          clear HZt
          generalize xs0[t'].ap = pa at *
          generalize xs0[t'].lp = pl at *
          generalize xs0[t'].cp = pc at *
          generalize xs0[t'].zs = pz at *
          obtain ⟨d, hd⟩ : ∃ d, k + 1 - t' = d := ⟨_, rfl⟩
          rw [hd] at hLn
          have hd0 : (0 : Int) < (d : Int) := by omega
          have t0 : (0 : Int) ≤ (t' : Int) := by omega
          have t1 : ¬ (l0 : Int) ≤ (t' : Int) := by omega
          have t2 : (t' : Int) < (l0 : Int) := by omega
          clear HT hd
          go_wp2_with fail
          with_reducible refine hLn.mono ?_
          rintro e w5 ⟨rfl, rfl⟩
          clear hLn
          go_wp2_with fail
          with_reducible refine hD.mono ?_
          rintro e w6 ⟨xa, xc, rfl, H6⟩
          clear hD
          have cx : ∀ q : Nat, _ := fun q => (H6.out.2.below (w' := w6.drewN q) ⟨rfl, rfl, rfl, Nat.le_refl _, fun _ _ => rfl⟩).conv (P := Try.prog) 36 9 5 Try.underlying36 Try.underlying5 Try.underlying9
          have cy : ∀ q : Nat, _ := fun q => ((HIt.out _ H6.out.1.bel).2.below (w' := w6.drewN q) ⟨rfl, rfl, rfl, Nat.le_refl _, fun _ _ => rfl⟩).conv (P := Try.prog) 36 9 5 Try.underlying36 Try.underlying5 Try.underlying9
          have c0' := (HIt.out _ H6.out.1.bel).1
          have HX : Hid (∀ q : Nat, OrJ w b Z (k + 1) (t' + 1) (w6.drewN q)) := fun q => H6.out.1.below ⟨rfl, rfl, rfl, Nat.le_refl _, fun _ _ => rfl⟩
          clear H6 HIt
          generalize strOfNums pz = sx at *
          generalize pz.length = pn at *
          go_wp2_with fail
          have t1b : decide ((l0 : Int) ≤ (t' : Int)) = false := decide_eq_false (by omega)
          have t1d : decide (l0 ≤ t') = false := decide_eq_false (by omega)
          have t1e : ¬ l0 ≤ t' := by omega
          go_quiet (fail)
          have HX2 := hid (HX.out ‹Nat›)
          clear cx cy c0' HX
          go_wp2_with fail
          go_round
          case rel => exact ⟨t' + 1, j + 1, by omega, by omega, by go_num, by go_num, HX2⟩
          case measure => simp [intOf]; omega
        · have hd0 : k + 1 - t' = 0 := by omega
          rw [hd0] at hLn
          go_wp2_with fail
          with_reducible refine hLn.mono ?_
          rintro e w5 ⟨rfl, rfl⟩
          clear hLn
          go_wp2_with fail
          go_round
          case rel => exact ⟨t', j + 1, by omega, by omega, by go_num, rfl, HT⟩
          case measure => simp [intOf]; omega
      · have g2 : ¬ (j : Int) < (cn : Int) := by omega
        go_wp2_with fail
        go_round
        case rel => exact ⟨k + 1, t', by omega, by go_num, rfl, by omega, HT⟩
        case measure => simp [intOf]; omega
  · obtain rfl : k = l0 := by omega
    have g1 : ¬ (k : Int) < (k : Int) := by omega
    obtain ⟨d, hd⟩ : ∃ d, k - t = d := ⟨_, rfl⟩
    have hLn := HS.out.len
    rw [hd] at hLn
    have hw : IntKind.i64.wrap ((k : Int) - (t : Int)) = (d : Int) := by rw [wrap64_in (by omega) (by omega)]; omega
    go_wp2_with fail
    with_reducible refine hLn.mono ?_
    rintro e w5 ⟨rfl, rfl⟩
    clear hLn
    go_wp2_with fail
    with_reducible refine (alive21_any _).mono ?_
    rintro e wz ⟨rfl, HZ0⟩
    have HE := hid (HS.out.bel.trans (HZ0.out.mono HS.out.bel.size))
    clear HZ0 HS
    go_wp2_with fail
    go_ret
    exact ⟨rfl, HE⟩
end Go.Proofs.Ytlhmalmmligkkaa
