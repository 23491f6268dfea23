/-
  A link of the program's alone (Lo): its calls; far, alive.
-/
import Derived.Test.YtlhmalmmligkkaaLkBo
import Derived.Lib.SlBytesConst
namespace Go.Proofs.Ytlhmalmmligkkaa
open Go.RowKit
set_option linter.unusedVariables false
set_option maxRecDepth 1000000

def Lo (B : Nat) (W : World) (b : Nat) (S : Lm) : Prop := ∃ v us, LkAt B W b v us S
variable {B b : Nat} {W W' : World} {v : Value} {us : List Value} {S : Lm}
theorem Lo.of (h1 : LkAt B W b v us S) {S' : Lm} (hg : Goes B W b v us S' W') : Lo B W' b S' ∧ Kp B W W' := by
  obtain ⟨w, xs, a1, a2, _⟩ := hg
  exact ⟨⟨w, xs, a1⟩, h1.kp a2⟩
theorem Lo.below (h : Lo B W b S) (hb : Below W.heap.size W W') : Lo B W' b S := by
  obtain ⟨v, us, h1⟩ := h
  exact ⟨v, us, h1.below hb⟩
theorem Lo.size (h : Lo B W b S) : B ≤ W.heap.size := by obtain ⟨v, us, h1⟩ := h; have := h1.hb; have := h1.blt; omega
theorem Lo.ok (h : Lo B W b S) : LmOk S := by obtain ⟨v, us, h1⟩ := h; exact h1.ok
/-- Bytes that a call may be handed: an argument's, or a block's of bytes. -/
def Free (B : Nat) (W : World) (a : Option Addr) (len : Nat) : Prop := 0 < len → ∀ p, a = some p → p.block < B ∨ ∃ cur fz, W.heap[p.block]? = some (.cells cur 5 fz)
theorem LkAt.free (h : LkAt B W b v us S) {a : Option Addr} {len : Nat} (hF : Free B W a len) : 0 < len → ∀ p, a = some p → ¬ rwF b v p.block := fun hl p hp e => by
  rcases hF hl p hp with hlt | ⟨cur, fz, hc⟩
  · have := (h.lt1 e).1
    omega
  · rcases e with e | e
    · rw [e, h.blk] at hc
      cases hc
    · obtain ⟨_, cur', hc'⟩ := own_blkP h.row e
      rw [hc'] at hc
      cases hc
section Ops
variable (i : Int)
theorem osend (h : Lo B W b S) (a : Option Addr) (len cap : Nat) (zs : List Int) (hr : Reads .u8 W a len cap zs) (hz : IsBytes zs) (hlen : len ≤ 140737488351232) (hF : Free B W a len) :
    Calls Try.prog 23 #[.pointer (some ⟨b, 0, none⟩), .slice a len cap] W fun e w' => e = .returned (.int .i64 S.sendE) ∧ Hid (Lo B w' b (S.send zs) ∧ Kp B W w') := by
  obtain ⟨v, us, h1⟩ := h
  refine (lsend_any h1 a len cap zs hr hz hlen (h1.free hF)).mono ?_
  rintro e w' ⟨rfl, H⟩
  exact ⟨rfl, Lo.of h1 H.out⟩
theorem odrop (h : Lo B W b S) : Calls Try.prog 14 #[.pointer (some ⟨b, 0, none⟩), .int .i64 i] W fun e w' => e = .returned (.int .i64 (S.errI i)) ∧ Hid (Lo B w' b (S.drp i) ∧ Kp B W w') := by
  have hB := h
  obtain ⟨v, us, h1⟩ := h
  by_cases hi : S.has i
  · obtain ⟨j, rfl, hj, hl⟩ := Lm.nat hi
    obtain ⟨u, zs, hu, hz, _⟩ := h1.get hl
    unfold Lm.errI Lm.drp
    rw [if_pos hi, if_pos hi, hj]
    refine (ldrop_yes h1 hu).mono ?_
    rintro e w' ⟨rfl, H⟩
    obtain ⟨x, a1, a2, a3⟩ := H.out
    exact ⟨rfl, ⟨_, _, a1⟩, h1.kp a2⟩
  · unfold Lm.errI Lm.drp
    rw [if_neg hi, if_neg hi]
    refine (ldrop_no (fun f => lask_none h1 hi f) (by decide)).mono ?_
    rintro e w' ⟨rfl, rfl⟩
    exact ⟨rfl, hB, Kp.refl _ _⟩
theorem odlv (h : Lo B W b S) : Calls Try.prog 12 #[.pointer (some ⟨b, 0, none⟩), .int .i64 i] W fun e w' => ∃ a c, e = .returned (.tuple #[.slice a (S.msgZ i).length c, .int .i64 (S.errI i)]) ∧ Hid (Lo B w' b (S.dlv i) ∧ Kp B W w' ∧ Reads .u8 w' a (S.msgZ i).length c (S.msgZ i)) := by
  have hB := h
  obtain ⟨v, us, h1⟩ := h
  by_cases hi : S.has i
  · obtain ⟨j, rfl, hj, hl⟩ := Lm.nat hi
    obtain ⟨u, zs, hu, hz, hm⟩ := h1.get hl
    have hmz : S.msgZ j = zs := by unfold Lm.msgZ; rw [if_pos hi, hj, hz]; rfl
    rw [hmz]
    unfold Lm.errI Lm.dlv
    rw [if_pos hi, if_pos hi, hj]
    refine (ldeliver_yes h1 hu).mono ?_
    rintro e w' ⟨rfl, H⟩
    obtain ⟨x, a1, a2, a3⟩ := H.out
    have hm2 : MsgAt B w' u zs := hm.same fun k hk => a2.block k (hm.lt hk).2 (h1.off hm hk)
    obtain ⟨a, c, rfl, hr⟩ := hm2.reads
    exact ⟨a, c, rfl, ⟨_, _, a1⟩, h1.kp a2, hr⟩
  · have hmz : S.msgZ i = [] := by unfold Lm.msgZ; rw [if_neg hi]
    rw [hmz]
    unfold Lm.errI Lm.dlv
    rw [if_neg hi, if_neg hi]
    refine (ldeliver_no (fun f => lask_none h1 hi f) (by decide)).mono ?_
    rintro e w' ⟨rfl, rfl⟩
    exact ⟨none, 0, rfl, hB, Kp.refl _ _, Reads.nil _ _⟩
theorem otwi (h : Lo B W b S) : Calls Try.prog 16 #[.pointer (some ⟨b, 0, none⟩), .int .i64 i] W fun e w' => e = .returned (.int .i64 (S.twiE i)) ∧ Hid (Lo B w' b (S.twi i) ∧ Kp B W w') := by
  have hB := h
  obtain ⟨v, us, h1⟩ := h
  by_cases hi : S.has i
  · obtain ⟨j, rfl, hj, hl⟩ := Lm.nat hi
    obtain ⟨u, zs, hu, hz, _⟩ := h1.get hl
    have hmz : S.msgZ j = zs := by unfold Lm.msgZ; rw [if_pos hi, hj, hz]; rfl
    by_cases hf : S.room ≤ S.ms.length
    · have e1 : S.twi j = S := if_neg fun e => e.2 hf
      have e2 : S.twiE j = 9 := by unfold Lm.twiE; rw [if_pos hi, if_pos hf]
      rw [e1, e2]
      refine (ltwice_full h1 hu hf).mono ?_
      rintro e w' ⟨rfl, H⟩
      exact ⟨rfl, hB.below H.out, Kp.of hB.size H.out⟩
    · have e1 : S.twi j = S.put (S.ms ++ [zs]) := by unfold Lm.twi; rw [if_pos ⟨hi, hf⟩, hmz]
      have e2 : S.twiE j = 0 := by unfold Lm.twiE; rw [if_pos hi, if_neg hf]
      rw [e1, e2]
      refine (ltwice_room h1 hu hz hf).mono ?_
      rintro e w' ⟨rfl, H⟩
      exact ⟨rfl, Lo.of h1 H.out⟩
  · have e1 : S.twi i = S := if_neg fun e => hi e.1
    have e2 : S.twiE i = 6 := if_neg hi
    rw [e1, e2]
    refine (ltwice_no (fun f => lask_none h1 hi f) (by decide)).mono ?_
    rintro e w' ⟨rfl, rfl⟩
    exact ⟨rfl, hB, Kp.refl _ _⟩
theorem olat (h : Lo B W b S) : Calls Try.prog 18 #[.pointer (some ⟨b, 0, none⟩), .int .i64 i] W fun e w' => e = .returned (.int .i64 (S.errI i)) ∧ Hid (Lo B w' b (S.lat i) ∧ Kp B W w') := by
  have hB := h
  obtain ⟨v, us, h1⟩ := h
  by_cases hi : S.has i
  · obtain ⟨j, rfl, hj, hl⟩ := Lm.nat hi
    obtain ⟨u, zs, hu, hz, _⟩ := h1.get hl
    have hmz : S.msgZ j = zs := by unfold Lm.msgZ; rw [if_pos hi, hj, hz]; rfl
    unfold Lm.errI Lm.lat
    rw [if_pos hi, if_pos hi, hj, hmz]
    refine (llater_yes h1 hu hz).mono ?_
    rintro e w' ⟨rfl, H⟩
    exact ⟨rfl, Lo.of h1 H.out⟩
  · unfold Lm.errI Lm.lat
    rw [if_neg hi, if_neg hi]
    refine (llater_no (fun f => lask_none h1 hi f) (by decide)).mono ?_
    rintro e w' ⟨rfl, rfl⟩
    exact ⟨rfl, hB, Kp.refl _ _⟩
theorem olen (h : Lo B W b S) : Calls Try.prog 26 #[.pointer (some ⟨b, 0, none⟩)] W fun e w' => e = .returned (.int .i64 S.ms.length) ∧ w' = W := by
  obtain ⟨v, us, h1⟩ := h
  exact llen_any h1
theorem ocounts (h : Lo B W b S) : Calls Try.prog 25 #[.pointer (some ⟨b, 0, none⟩)] W fun e w' => e = .returned (.agg #[.int .u32 S.se, .int .u32 S.ca, .int .u32 S.dr, .int .u32 S.tu]) ∧ Hid (Below W.heap.size W w') := by
  obtain ⟨v, us, h1⟩ := h
  exact lcounts_any h1
theorem onew {room : Int} (h0 : 1 ≤ room) (h1 : room ≤ 256) (W : World) (hB : B ≤ W.heap.size) : Calls Try.prog 7 #[.int .i64 room] W fun e w' => ∃ b, e = .returned (.tuple #[.pointer (some ⟨b, 0, none⟩), .int .i64 0]) ∧ Hid (Lo B w' b ⟨room.toNat, [], 0, 0, 0, 0⟩ ∧ Below W.heap.size W w' ∧ W.heap.size ≤ b) :=
  (lnew_any h0 h1 W hB).mono fun e w' ⟨b, he, H⟩ => ⟨b, he, ⟨_, _, H.out.1⟩, H.out.2⟩
end Ops
theorem far_any {a : Option Addr} {len cap : Nat} {xs : List Sp} {W : World} (ga : Lst W a len cap 5 xs SpV (fun s => SpIn W s)) : Calls Try.prog 9 #[.slice a len cap] W fun e w' => ∃ f, e = .returned (.bool f) ∧ Hid (Below W.heap.size W w') := by
  have hSh := short_any a len cap W ga.room ga.most
  obtain ⟨n, Hn⟩ : ∃ n, Hid (min len 200 = n) := ⟨_, rfl⟩
  rw [Hn.out] at hSh
  have hn1 : n ≤ len ∧ n ≤ 200 := by have := Hn.out; omega
  have r1 := ga.room
  have m1 := ga.most
  have HSp := hid fun (W' : World) (hb : Below W.heap.size W W') => ga.below SpV_size hb (fun s h => h.below hb)
  clear ga
  go_enter Try.func9, Try.ntmps9
  go_wp2_with fail
  with_reducible refine hSh.mono ?_
  rintro r w3 ⟨rfl, rfl⟩
  clear hSh
  go_wp2_with fail
  go_loopw [3, 9] (fun s z W' => ∃ (k t : Nat), k ≤ n ∧ z = .int .i64 k ∧ s = .int .i64 t ∧ t ≤ 10000 * k ∧ Hid (Below w3.heap.size w3 W')) (fun _ z _ => n - (intOf z).toNat)
  case atStart => exact ⟨0, 0, by omega, rfl, rfl, by omega, Below.refl _ _⟩
  case round =>
  obtain ⟨k, t, hk, rfl, rfl, ht, HB⟩ := hrel
  rename World => wr
  by_cases hkl : k < n
  · have g1 : (k : Int) < (n : Int) := by omega
    have hL := HSp.out _ HB.out
    have hx : k < xs.length := by rw [hL.size]; omega
    obtain ⟨q, off, rfl, hc⟩ := hL.cell k hx
    have q0 := hc 0 (by omega)
    have q1 := hc 1 (by omega)
    have q2 := hc 2 (by omega)
    have q3 := hc 3 (by omega)
    have q4 := hc 4 (by omega)
    have hlp := (hL.inn k hx).b.len
    clear hc hL
    simp only [SpV, List.getElem?_toArray, List.getElem?_cons_zero, List.getElem?_cons_succ, Nat.add_zero] at q0 q1 q2 q3 q4
    generalize xs[k].b.lp = ln at *
    have HM : Hid (∃ mn : Nat, mn ≤ 10000 ∧ min (ln : Int) 10000 = (mn : Int)) := ⟨min ln 10000, by omega, by omega⟩
    obtain ⟨mn, hmn, hmm⟩ := HM.out
    have hw : IntKind.i64.wrap ((t : Int) + (mn : Int)) = ((t + mn : Nat) : Int) := by rw [wrap64_in (by omega) (by omega)]; omega
    have HB2 : Hid (Below w3.heap.size w3 (wr.alloc (.cells #[.int .u8 xs[k].kd, .slice xs[k].b.ap ln xs[k].b.cp, .int .i64 xs[k].i, .int .i64 xs[k].pl, .int .u32 xs[k].msk] 38))) := HB.out.alloc HB.out.size _
    clear HM
    go_wp2_with fail
    go_round
    case rel => exact ⟨k + 1, t + mn, by omega, by go_num, by go_num, by omega, HB2⟩
    case measure => simp [intOf]; omega
  · have g1 : ¬ (k : Int) < (n : Int) := by omega
    go_wp2_with fail
    go_ret
    refine ⟨?_, HB⟩
    generalize decide ((10000 : Int) < (t : Int)) = d
    cases d
    · exact .inl rfl
    · exact .inr rfl
/-- A literal of one byte. -/
def litO (x : Int) : Obj := .cells #[.int .u8 x] 5 (1, 2)
theorem free_lit (W : World) (x : Int) : Free B (W.alloc (litO x)) (some ⟨W.heap.size, 0, none⟩) 1 := fun _ p hp => by
  cases hp
  exact .inr ⟨_, _, heap_alloc_new W _⟩
theorem reads_lit (W : World) (x : Int) : Reads .u8 (W.alloc (litO x)) (some ⟨W.heap.size, 0, none⟩) 1 1 [x] :=
  ⟨rfl, Nat.le_refl _, by decide, (fun e => by cases e), fun i hi => ⟨W.heap.size, 0, rfl, by
    obtain rfl : i = 0 := by omega
    exact World.cell?_alloc_mark W _ _ _ 0⟩⟩
theorem conv_lit (W : World) (x : Int) : (convert 36 36 (.slice (some ⟨W.heap.size, 0, none⟩) 1 1)).run Try.prog (W.alloc (.cells #[.int .u8 x] 5)) = .ok (.slice (some ⟨W.heap.size, 0, none⟩) 1 1) (W.alloc (litO x)) :=
  Lib.run_convert_bytes_const W 36 5 #[.int .u8 x] 1 1 Try.underlying36 Try.underlying5
set_option maxHeartbeats 8000000 in
theorem alive21_any (W : World) : Calls Try.prog 10 #[] W fun e w' => e = .returned (.bool true) ∧ Hid (Below W.heap.size W w') := by
  have hN := onew (B := W.heap.size) (room := 1) (by decide) (by decide) W (Nat.le_refl _)
  have HA : Hid (∀ (w1 : World) (b : Nat), Lo W.heap.size w1 b ⟨(1 : Int).toNat, [], 0, 0, 0, 0⟩ → Below W.heap.size W w1 → Calls Try.prog 23 #[.pointer (some ⟨b, 0, none⟩), .slice (some ⟨w1.heap.size, 0, none⟩) 1 1] (w1.alloc (litO 97)) fun e w' => e = .returned (.int .i64 0) ∧ Hid (Lo W.heap.size w' b ⟨1, [[97]], 1, 0, 0, 0⟩ ∧ Below W.heap.size W w')) := fun w1 b h hb => by
    have ha : Below w1.heap.size w1 (w1.alloc (litO 97)) := (Below.refl _ _).alloc (Nat.le_refl _) _
    refine (osend (h.below ha) _ 1 1 [97] (reads_lit w1 97) (fun x hx => by simp at hx; omega) (by decide) (free_lit w1 97)).mono ?_
    rintro e w' ⟨rfl, H⟩
    exact ⟨rfl, H.out.1, (hb.trans (ha.mono hb.size)).trans H.out.2.bel⟩
  have HB : Hid (∀ (w1 : World) (b : Nat), Lo W.heap.size w1 b ⟨1, [[97]], 1, 0, 0, 0⟩ → Below W.heap.size W w1 → Calls Try.prog 23 #[.pointer (some ⟨b, 0, none⟩), .slice (some ⟨w1.heap.size, 0, none⟩) 1 1] (w1.alloc (litO 98)) fun e w' => e = .returned (.int .i64 9) ∧ Hid (Lo W.heap.size w' b ⟨1, [[97]], 2, 0, 1, 0⟩ ∧ Below W.heap.size W w')) := fun w1 b h hb => by
    have ha : Below w1.heap.size w1 (w1.alloc (litO 98)) := (Below.refl _ _).alloc (Nat.le_refl _) _
    refine (osend (h.below ha) _ 1 1 [98] (reads_lit w1 98) (fun x hx => by simp at hx; omega) (by decide) (free_lit w1 98)).mono ?_
    rintro e w' ⟨rfl, H⟩
    exact ⟨rfl, H.out.1, (hb.trans (ha.mono hb.size)).trans H.out.2.bel⟩
  have HD : Hid (∀ (w1 : World) (b : Nat), Lo W.heap.size w1 b ⟨1, [[97]], 2, 0, 1, 0⟩ → Below W.heap.size W w1 → Calls Try.prog 12 #[.pointer (some ⟨b, 0, none⟩), .int .i64 0] w1 fun e w' => ∃ a c, e = .returned (.tuple #[.slice a 1 c, .int .i64 0]) ∧ Hid (Lo W.heap.size w' b ⟨1, [], 2, 1, 1, 0⟩ ∧ Below W.heap.size W w' ∧ Reads .u8 w' a 1 c [97])) := fun w1 b h hb => by
    refine (odlv 0 h).mono ?_
    rintro e w' ⟨a, c, rfl, H⟩
    exact ⟨a, c, rfl, H.out.1, hb.trans H.out.2.1.bel, H.out.2.2⟩
  have hcl := fun W x => conv_lit W x
  go_enter Try.func10, Try.ntmps10
  go_wp2_with fail
  with_reducible refine hN.mono ?_
  rintro e w1 ⟨b, rfl, H1⟩
  clear hN
  go_wp2_with fail
  with_reducible refine (HA.out _ _ H1.out.1 H1.out.2.1).mono ?_
  rintro e w2 ⟨rfl, H2⟩
  clear H1 HA
  go_wp2_with fail
  with_reducible refine (HB.out _ _ H2.out.1 H2.out.2).mono ?_
  rintro e w3 ⟨rfl, H3⟩
  clear H2 HB
  go_wp2_with fail
  with_reducible refine (HD.out _ _ H3.out.1 H3.out.2).mono ?_
  rintro e w4 ⟨a, c, rfl, H4⟩
  clear H3 HD
  have hC := ocounts H4.out.1
  have HR : Hid (∀ W', Below w4.heap.size w4 W' → Reads .u8 W' a 1 c [97]) := fun W' hb => H4.out.2.2.below hb
  have HV := hid H4.out.2.1
  clear H4
  go_wp2_with fail
  with_reducible refine hC.mono ?_
  rintro e w5 ⟨rfl, H5⟩
  have cv := (HR.out _ (H5.out.alloc H5.out.size (.cells #[.int .u32 2, .int .u32 1, .int .u32 1, .int .u32 0] 51))).conv (P := Try.prog) 36 9 5 Try.underlying36 Try.underlying5 Try.underlying9
  have HE : Hid (Below W.heap.size W (w5.alloc (.cells #[.int .u32 2, .int .u32 1, .int .u32 1, .int .u32 0] 51))) := (HV.out.trans (H5.out.mono HV.out.size)).alloc (HV.out.trans (H5.out.mono HV.out.size)).size _
  have hs : strOfNums [97] = { data := #[97] } := rfl
  rw [hs] at cv
  clear hC HR HV H5 hs
  go_wp2_with fail
  go_ret
  exact ⟨rfl, HE⟩
end Go.Proofs.Ytlhmalmmligkkaa
