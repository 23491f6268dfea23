/-
  RingPlays: a ring answers every call, in every order, as the document says.
-/
import Derived.Test.YtaiojhigomdocaaRows
import Derived.Test.YtaiojhigomdocaaRfLaw
import Derived.WalkKit
import Derived.ProofKit
import Derived.OpenShut
import Derived.ShutString
import Derived.ChangeOld
import Derived.Below
namespace Go.Proofs.Ytaiojhigomdocaa.ringPlays
open Go.ChangeShapes Go.WideShapes Go.ChangeAt Go.RowKit
open Go.ChangeMaps (open_string shut_string)
set_option linter.unusedVariables false

theorem own : ownKnob Try.prog.godebug = none := by kernel_rfl
theorem laidOut : laidOutB Try.prog = true := by kernel_rfl

/-! ### The walk -/
set_option maxRecDepth 1000000 in
set_option maxHeartbeats 8000000 in
theorem walk (s0 p0 f0 : Int) (a1 : Option Addr) (l1 c1 : Nat) (ks1 ns1 : List Int) (a2 : Option Addr) (l2 c2 : Nat) (ks2 ns2 : List Int) (w : World) (gs0 : isU s0 ∧ isI p0 ∧ isI f0) (ga1 : Sps w a1 l1 c1 ks1 ns1) (ga2 : Lds w a2 l2 c2 ks2 ns2) :
    Calls Try.prog 3 #[.agg #[.int .u64 s0, .int .i64 p0, .int .i64 f0], .slice a1 l1 c1, .slice a2 l2 c2] w fun e w' => e = .returned (.bool true) ∧ Below w.heap.size w w' := by
  obtain ⟨hs, hp, hf⟩ := gs0
  have HLo := hid fun (W' : World) (hb : Below w.heap.size w W') => loads_any a2 l2 c2 ks2 ns2 W' (ga2.below hb)
  have HSp := hid fun (W' : World) (hb : Below w.heap.size w W') => ga1.below hb
  obtain ⟨wA, hwA⟩ : ∃ wA, wA = w.alloc (.cells #[.int .u64 s0, .int .i64 p0, .int .i64 f0] 24) := ⟨_, rfl⟩
  have hA : wA.heap[w.heap.size]? = some (.cells #[.int .u64 s0, .int .i64 p0, .int .i64 f0] 24 (0, 0)) := by rw [hwA]; exact heap_alloc_new w _
  have hbA : Below w.heap.size w wA := by rw [hwA]; exact (Below.refl _ _).alloc (Nat.le_refl _) _
  have HC : Hid (∀ W' : World, Below wA.heap.size wA W' → W'.cell? ⟨w.heap.size, 0, none⟩ = some (.int .u64 s0) ∧ W'.cell? ⟨w.heap.size, 1, none⟩ = some (.int .i64 p0) ∧ W'.cell? ⟨w.heap.size, 2, none⟩ = some (.int .i64 f0)) := fun W' hb => by
    have h1 := block_bel hA hb
    exact ⟨by rw [cell_of_row _ _ _ _ _ _ h1]; rfl, by rw [cell_of_row _ _ _ _ _ _ h1]; rfl, by rw [cell_of_row _ _ _ _ _ _ h1]; rfl⟩
  have HE : Hid (∀ W' : World, Below wA.heap.size wA W' → Below w.heap.size w W') := fun W' hb => hbA.trans (hb.mono hbA.size)
  have HV0 := hid (Below.refl wA.heap.size wA)
  obtain ⟨c0, c1', _⟩ := HC.out _ HV0.out
  by_cases hpp : p0 < 1 ∨ 64 < p0
  · have hN := rnew_no s0 p0 wA hpp
    have hN2 := rfnew_no s0 p0 wA hpp
    clear hpp hA hbA
    go_enter Try.func3, Try.ntmps3
    go_wp2_with fail
    rw [← hwA]
    refine hN.mono ?_
    rintro r w1 ⟨rfl, rfl⟩
    clear hwA
    go_wp2_with fail
    refine hN2.mono ?_
    rintro r w2 ⟨rfl, H2⟩
    have HVE : Hid (∀ o : Obj, Below w.heap.size w (w2.alloc o)) := fun o => HE.out _ (H2.out.trans (((Below.refl _ _).alloc (Nat.le_refl _) o).mono H2.out.size))
    clear hN hN2 H2 c0 c1'
    go_wp2_with fail
    refine (alive16_any _).mono ?_
    rintro e wz ⟨rfl, HZ0⟩
    have HZ := hid ((HVE.out _).trans (HZ0.out.mono (HVE.out _).size))
    clear HZ0
    go_wp2
    go_ret
    exact ⟨rfl, HZ.out⟩
  · obtain ⟨e, rfl⟩ : ∃ e : Nat, (e : Int) = p0 := ⟨p0.toNat, by omega⟩
    have he : 1 ≤ e ∧ e ≤ 64 := by omega
    have hN := rnew_yes s0 e wA hs he
    have HN2 := hid fun (W' : World) => rfnew_yes s0 e W' he
    clear hpp hA hbA
    go_enter Try.func3, Try.ntmps3
    go_wp2_with fail
    rw [← hwA]
    refine hN.mono ?_
    rintro r w1 ⟨rfl, H1⟩
    clear hwA hN c0 c1'
    obtain ⟨gs, Hgs⟩ : ∃ gs, Hid (w.heap.size = gs) := ⟨_, rfl⟩
    rw [Hgs.out] at HC ⊢
    obtain ⟨lo, Hlo⟩ : ∃ lo, Hid (wA.heap.size = lo) := ⟨_, rfl⟩
    rw [Hlo.out] at H1 HC HE HV0 ⊢
    obtain ⟨B1, HB1⟩ : ∃ B, Hid (lo + 1 = B) := ⟨_, rfl⟩
    rw [HB1.out] at H1 ⊢
    obtain ⟨c0, c1', _⟩ := HC.out _ H1.out.2
    have hN2 := HN2.out w1
    clear HN2
    go_wp2_with fail
    refine hN2.mono ?_
    rintro r w2 ⟨rfl, H2⟩
    clear hN2 c0 c1'
    have HT0 : Hid (∀ wB : World, wB = w2.alloc (.cells #[.int .u64 s0, .int .i64 e, .slice none 0 0] 33) → ∀ (W' : World) (f : Int → Int), LdAt W' wB.heap.size f → Below wB.heap.size wB W' → PlR lo wA s0 e B1 lo w2.heap.size wB.heap.size f (.slice none 0 0) [] [] (.slice none 0 0) [] W') := by
      rintro wB hwB W' f hld hb
      have e1 := H1.out.1.obj.lt
      have e2 := HB1.out
      have e3 := H2.out.size
      have hb2 : Below w1.heap.size w1 w2 := H2.out
      have hbB : Below w2.heap.size w2 wB := by rw [hwB]; exact (Below.refl _ _).alloc (Nat.le_refl _) _
      have esz : wB.heap.size = w2.heap.size + 1 := by rw [hwB]; simp
      have hbW : Below w1.heap.size w1 W' := (hb2.trans (hbB.mono e3)).trans (hb.mono (by omega))
      have hnew : wB.heap[w2.heap.size]? = some (.cells #[.int .u64 s0, .int .i64 e, .slice none 0 0] 33 (0, 0)) := by rw [hwB]; exact heap_alloc_new w2 _
      refine ⟨H1.out.1.below hbW, ⟨(hb.block _ (by omega)).trans hnew, World.ownsRow_nil _ _ _ _, he, by simp⟩, hld, ?_, ?_, ?_, ?_, ?_, by omega, H1.out.2.trans (hbW.mono (by omega)), by rw [Hlo.out]; exact Nat.le_refl _⟩
      · rintro k (rfl | rfl | h1) (h2 | h2)
        all_goals first | omega | (cases h2; done) | (cases h1; done)
      · rintro (h1 | h1 | h1)
        all_goals first | omega | (cases h1; done)
      · rintro (h1 | h1)
        all_goals first | omega | (cases h1; done)
      · rintro k (rfl | rfl | h1)
        all_goals first | omega | (cases h1; done)
      · rintro k (rfl | h1)
        all_goals first | omega | (cases h1; done)
    obtain ⟨wB, hwB⟩ : ∃ wB, wB = w2.alloc (.cells #[.int .u64 s0, .int .i64 e, .slice none 0 0] 33) := ⟨_, rfl⟩
    have HT1 := hid (HT0.out wB hwB)
    have hbwB : Below lo wA wB := by
      have e1 := H1.out.1.obj.lt
      have e2 := HB1.out
      have e3 := H2.out.size
      rw [hwB]
      exact (H1.out.2.trans (H2.out.mono (by omega))).trans (((Below.refl _ _).alloc (Nat.le_refl _) _).mono (by omega))
    have hL := HLo.out wB (HE.out _ hbwB)
    rw [hwB] at hL
    clear HT0 HLo H1 H2 hbwB
    go_wp2_with fail
    refine hL.mono ?_
    rintro r w3 ⟨rfl, H3⟩
    rw [← hwB] at H3 ⊢
    obtain ⟨⟨f, hld⟩, hb3⟩ := H3.out
    have HP3 := hid (HT1.out w3 f hld hb3)
    clear hL H3 hld hb3 HT1 hwB
    obtain ⟨B2, HB2⟩ : ∃ B2, Hid (w2.heap.size = B2) := ⟨_, rfl⟩
    obtain ⟨m, Hm⟩ : ∃ m, Hid (wB.heap.size = m) := ⟨_, rfl⟩
    rw [HB2.out, Hm.out] at HP3
    rw [HB2.out, Hm.out]
    have hSh := short16_any a1 l1 c1 w3 (HSp.out _ (HE.out _ HP3.out.bel)).room (HSp.out _ (HE.out _ HP3.out.bel)).most
    obtain ⟨n1, Hn1⟩ : ∃ n1, Hid (min l1 60 = n1) := ⟨_, rfl⟩
    rw [Hn1.out] at hSh
    have hn1 : n1 ≤ l1 ∧ n1 ≤ 60 := by have := Hn1.out; omega
    go_wp2_with fail
    refine hSh.mono ?_
    rintro r w4 ⟨rfl, rfl⟩
    clear hSh
    go_wp2_with fail
    go_loopw [63] (fun z W' => ∃ (k : Nat) (v : Value) (L : List Int) (P : List (Int × Int)) (u : Value) (l : List Int), k ≤ n1 ∧ z = .int .i64 k ∧ Hid (PlR lo wA s0 e B1 lo B2 m f v L P u l W') ∧ Hid (Lk l L)) (fun z _ => n1 - (intOf z).toNat)
    case atStart => exact ⟨0, _, _, _, _, _, by omega, rfl, HP3, Lk.nil⟩
    case round =>
    obtain ⟨k, v, L, P, u, l, hk, rfl, HP, HLk⟩ := hrel
    rename World => w4
    clear HP3
    by_cases hkl : k < n1
    · have g1 : (k : Int) < (n1 : Int) := by omega
      have hsp := HSp.out _ (HE.out _ HP.out.bel)
      obtain ⟨b, off, rfl, q1, q2⟩ := hsp.cell k (by omega)
      obtain ⟨kd0, kd1⟩ := hsp.wk k (by omega)
      have hnd := hsp.wn k (by omega)
      have HRm : Hid (l1 ≤ c1 ∧ c1 ≤ 9223372036854775807) := ⟨hsp.room, hsp.most⟩
      have r1 := hsp.room
      have m1 := hsp.most
      clear hsp
      generalize ks1[k]?.getD 0 = kd at *
      generalize ns1[k]?.getD 0 = nd at *
      have HND := hid hnd
      obtain ⟨w5, hw5⟩ : ∃ w5, w5 = w4.alloc (.cells #[.int .u8 kd, .int .u64 nd] 41) := ⟨_, rfl⟩
      obtain ⟨sb, hsb⟩ : ∃ sb, w4.heap.size = sb := ⟨_, rfl⟩
      have HS5 : Hid (PlS lo wA s0 e B1 lo B2 m f v L P u l sb nd w5) := by
        rw [hw5, ← hsb]
        exact HP.out.step rfl
      have y0 : w5.cell? ⟨sb, 0, none⟩ = some (.int .u8 kd) := by
        rw [hw5, ← hsb, cell_of_row _ _ _ _ _ _ (heap_alloc_new w4 _)]; rfl
      clear hnd HP
      by_cases hk1 : kd % 3 = 1
      · have hk1' : kd.tmod 3 = 1 := by rw [Int.tmod_eq_emod_of_nonneg kd0]; exact hk1
        have hk2' : IntKind.u8.wrap 1 = 1 := by decide
        go_upto_if 70 with fail
        rw [← hw5]
        clear hw5 q1 q2
        obtain ⟨cc, L7, l7, Hc⟩ : ∃ cc L7 l7, Hid (rdrop L nd = (cc, L7) ∧ rfdrop l nd = (cc, l7) ∧ Lk l7 L7) := ⟨(rdrop L nd).1, (rdrop L nd).2, (rfdrop l nd).2, rfl, by rw [(HLk.out.drop nd).1], (HLk.out.drop nd).2⟩
        have HLk7 := hid Hc.out.2.2
        have HSd : Hid (PlS lo wA s0 e B1 lo B2 m f v L P u l sb nd w5.drew) := HS5.out.below ((Below.refl _ _).drew)
        have hD1 := drop_any HSd.out.pl.one HND.out
        rw [Hc.out.1] at hD1
        simp only at hD1
        have HK0 := hid HS5.out.cel
        have HKd := hid HSd.out.cel
        have c1 := HS5.out.cel
        go_wp2_with fail
        clear c1
        go_region_held3 (fun W : World => W.cell? ⟨sb, 1, none⟩ = some (.int .u64 nd)) (first | (with_reducible exact HK0.out) | (with_reducible exact HKd.out) | (with_reducible exact HKe.out) | (with_reducible exact HKf.out))
          (first
            | (go_at_call 12; (with_reducible refine hD1.mono ?_); rintro r w6 ⟨rfl, H6⟩; obtain ⟨v7, P7, hs6⟩ := HSd.out.left H6.out; have HS6 := hid hs6; have HKe := hid hs6.cel; have hD2 := rdrop_any hs6.pl.two nd; rw [Hc.out.2.1] at hD2; simp only at hD2; clear H6 hs6)
            | (go_at_call 13; (with_reducible refine hD2.mono ?_); rintro r w7 ⟨rfl, H7⟩; obtain ⟨u7, hs7⟩ := HS6.out.right H7.out; have HS7 := hid hs7; have HKf := hid hs7.cel; clear H7 hs7))
        all_goals
          clear HSd HS5 HS6 HK0 HKd HKe HKf hD1 hD2 Hc HLk
          have HE7 := hid (ordL_near HS7.out.pl.one nd)
          obtain ⟨R, HR⟩ : ∃ R, Hid (ordL s0 P7 nd = R ∧ R.Perm l7) := ⟨_, rfl, (ordL_perm HS7.out.pl.one nd).trans HLk7.out.perm.symm⟩
          rw [HR.out.1] at HE7
          obtain ⟨un, Hun⟩ : ∃ un, Hid (l7.length = un ∧ R.length = un ∧ L7.length = un ∧ un ≤ 64) := ⟨_, rfl, HR.out.2.length_eq, HLk7.out.perm.length_eq.symm, HS7.out.pl.two.len⟩
          have hun := Hun.out.2.2.2
          obtain ⟨bb, Hbb⟩ : ∃ bb, Hid (bndZ f f0 L7 = bb ∧ bndZ f f0 l7 = bb) := ⟨_, rfl, bndZ_perm HLk7.out.perm⟩
          obtain ⟨Zp, HZp⟩ : ∃ Zp, Hid (pickZ f bb R = Zp) := ⟨_, rfl⟩
          obtain ⟨zn, ze⟩ := Zp
          obtain ⟨ua, ucap, hu7, _⟩ := HS7.out.pl.two.row.reads
          rw [Hun.out.1] at hu7
          subst hu7
          have hP1 := pick_any HS7.out.pl.one HS7.out.pl.ld nd f0
          rw [HR.out.1, Hbb.out.1, HZp.out] at hP1
          simp only at hP1
          have cs7 := HS7.out.cel
          have cg7 := (HC.out _ HS7.out.pl.bel).2.2
          have HSx := hid fun (W' : World) (hb : Below w7.heap.size w7 W') => HS7.out.below hb
          go_wp2_with fail
          refine hP1.mono ?_
          rintro r w8 ⟨rfl, H8⟩
          have HS8 := hid (HS7.out.below H8.out)
          have hP2 := rpick_any HS8.out.pl.two HLk7.out.1 HLk7.out.us HS8.out.pl.ld nd f0 HE7.out HR.out.2
          rw [Hbb.out.2, HZp.out] at hP2
          simp only at hP2
          have cs8 := HS8.out.cel
          have cg8 := (HC.out _ HS8.out.pl.bel).2.2
          clear hP1 H8 HS7 cs7 cg7 HSx
          go_wp2_with fail
          refine hP2.mono ?_
          rintro r w9 ⟨rfl, H9⟩
          have HS9 := hid (HS8.out.below H9.out)
          clear hP2 H9 HS8 cs8 cg8
          have HX := hid fun (W' : World) (hb : Below w9.heap.size w9 W') => HS9.out.below hb
          have HKx : Hid (∀ W' : World, Below w9.heap.size w9 W' → W'.cell? ⟨B2, 2, none⟩ = some (.slice ua un ucap) ∧ W'.cell? ⟨sb, 1, none⟩ = some (.int .u64 nd) ∧ W'.cell? ⟨gs, 2, none⟩ = some (.int .i64 f0)) := fun W' hb => ⟨(HX.out W' hb).pl.two.obj.cells.2.2, (HX.out W' hb).cel, (HC.out _ (HX.out W' hb).pl.bel).2.2⟩
          have HXr : Hid (∀ W' : World, Below w9.heap.size w9 W' → Reads .u64 W' ua un ucap l7) := fun W' hb => by
            obtain ⟨a', c', e', hr'⟩ := (HX.out W' hb).pl.two.row.reads
            rw [Hun.out.1] at e' hr'
            obtain ⟨rfl, rfl⟩ : ua = a' ∧ ucap = c' := by simpa using e'
            exact hr'
          have HNd : Hid (∀ W' : World, Below w9.heap.size w9 W' → Calls Try.prog 19 #[.pointer (some ⟨B1, 0, none⟩)] W' fun r w' => ∃ a c, r = .returned (.slice a un c) ∧ Reads .u64 w' a un c l7 ∧ Below W'.heap.size W' w') := fun W' hb => (nodes_any (HX.out W' hb).pl.one).mono fun r w' h => by
            obtain ⟨q, rfl, hq⟩ := h
            rw [HLk7.out.ris, Hun.out.2.2.1] at hq
            obtain ⟨a', c', rfl, hr'⟩ := Reads.own (k := .u64) hq.out.1
            exact ⟨a', c', rfl, hr', hq.out.2⟩
          have HOd : Hid (∀ W' : World, Below w9.heap.size w9 W' → Calls Try.prog 20 #[.pointer (some ⟨B1, 0, none⟩), .int .u64 nd] W' fun r w' => ∃ a c, r = .returned (.slice a un c) ∧ Reads .u64 w' a un c R ∧ Below W'.heap.size W' w') := fun W' hb => (order_any (HX.out W' hb).pl.one nd).mono fun r w' h => by
            obtain ⟨q, rfl, hq⟩ := h
            rw [HR.out.1, Hun.out.2.1] at hq
            obtain ⟨a', c', rfl, hr'⟩ := Reads.own (k := .u64) hq.out.1
            exact ⟨a', c', rfl, hr', hq.out.2⟩
          have HRo : Hid (∀ W' : World, Below w9.heap.size w9 W' → Calls Try.prog 21 #[.pointer (some ⟨B2, 0, none⟩), .int .u64 nd] W' fun r w' => ∃ a c, r = .returned (.slice a un c) ∧ Reads .u64 w' a un c R ∧ Below W'.heap.size W' w') := fun W' hb => (rorder_any (HX.out W' hb).pl.two HLk7.out.1 nd HE7.out HR.out.2).mono fun r w' h => by
            obtain ⟨q, rfl, hq⟩ := h
            rw [Hun.out.2.1] at hq
            obtain ⟨a', c', rfl, hr'⟩ := Reads.own (k := .u64) hq.out.1
            exact ⟨a', c', rfl, hr', hq.out.2⟩
          have HBd : Hid (∀ W' : World, Below w9.heap.size w9 W' → Calls Try.prog 22 #[.pointer (some ⟨B1, 0, none⟩), .map (some m), .int .i64 f0] W' fun r w' => r = .returned (.int .i64 bb) ∧ Below W'.heap.size W' w') := fun W' hb => (bound_any (HX.out W' hb).pl.one (HX.out W' hb).pl.ld f0).mono fun r w' h => by
            rw [Hbb.out.1] at h
            exact ⟨h.1, h.2.out⟩
          have HRb : Hid (∀ W' : World, Below w9.heap.size w9 W' → Calls Try.prog 23 #[.pointer (some ⟨B2, 0, none⟩), .map (some m), .int .i64 f0] W' fun r w' => r = .returned (.int .i64 bb) ∧ Below W'.heap.size W' w') := fun W' hb => (rbound_any (HX.out W' hb).pl.two HLk7.out.us (HX.out W' hb).pl.ld f0).mono fun r w' h => by
            rw [Hbb.out.2] at h
            exact ⟨h.1, by rw [h.2]; exact Below.refl _ _⟩
          have HSm := hid fun (a4 a5 : Option Addr) (c4 c5 : Nat) (xs : List Int) (W' : World) (h1 : Reads .u64 W' a4 un c4 xs) (h2 : Reads .u64 W' a5 un c5 xs) => usame_yes a4 a5 un c4 c5 xs W' h1 h2 (by omega)
          have HV : Hid (Below w9.heap.size w9 w9.drew) := (Below.refl _ _).drew
          obtain ⟨y0, y1, y2⟩ := HKx.out _ (Below.refl _ _)
          clear HE7 HR Hun Hbb HZp
          go_wp2_with fail
          clear y0 y1 y2
          go_region_held3 (fun W : World => W.cell? ⟨B2, 2, none⟩ = some (.slice ua un ucap) ∧ W.cell? ⟨sb, 1, none⟩ = some (.int .u64 nd) ∧ W.cell? ⟨gs, 2, none⟩ = some (.int .i64 f0)) (first | (with_reducible exact HKx.out _ (Below.refl _ _)) | (with_reducible exact HKx.out _ HV.out))
            (first
              | (go_at_call 19; (with_reducible refine (HNd.out _ HV.out).mono ?_); rintro e z1 ⟨a3, c3, rfl, hr3, hb⟩; replace HV := hid (HV.out.trans (hb.mono HV.out.size)); have HR3 := hid hr3; clear hb hr3)
              | (go_at_call 18; (with_reducible refine (HSm.out _ _ _ _ _ _ HR3.out (HXr.out _ HV.out)).mono ?_); rintro e z2 ⟨rfl, hb⟩; replace HV := hid (HV.out.trans (hb.out.mono HV.out.size)); clear hb HR3)
              | (go_at_call 20; (with_reducible refine (HOd.out _ HV.out).mono ?_); rintro e z3 ⟨a4, c4, rfl, hr4, hb⟩; replace HV := hid (HV.out.trans (hb.mono HV.out.size)); have HR4 := hid hr4; clear hb hr4)
              | (go_at_call 21; (with_reducible refine (HRo.out _ HV.out).mono ?_); rintro e z4 ⟨a5, c5, rfl, hr5, hb⟩; replace HV := hid (HV.out.trans (hb.mono HV.out.size)); replace HR4 := hid (HR4.out.below hb); have HR5 := hid hr5; clear hb hr5)
              | (go_at_call 18; (with_reducible refine (HSm.out _ _ _ _ _ _ HR4.out HR5.out).mono ?_); rintro e z5 ⟨rfl, hb⟩; replace HV := hid (HV.out.trans (hb.out.mono HV.out.size)); clear hb HR4 HR5)
              | (go_at_call 22; (with_reducible refine (HBd.out _ HV.out).mono ?_); rintro e z6 ⟨rfl, hb⟩; replace HV := hid (HV.out.trans (hb.mono HV.out.size)); clear hb)
              | (go_at_call 23; (with_reducible refine (HRb.out _ HV.out).mono ?_); rintro e z7 ⟨rfl, hb⟩; replace HV := hid (HV.out.trans (hb.mono HV.out.size)); clear hb)
              | fail)
          all_goals
            have HSn := hid (HX.out _ HV.out).pl
            clear HX HKx HXr HNd HOd HRo HBd HRb HSm HV HS9
            go_wp2_with fail
            go_round
            case rel => exact ⟨k + 1, v7, L7, P7, _, l7, by omega, by go_num, HSn, HLk7⟩
            case measure => simp [intOf]; omega
      · obtain ⟨rr, hrr⟩ : ∃ rr, kd % 3 = rr := ⟨_, rfl⟩
        have hr' : kd.tmod 3 = rr := by rw [Int.tmod_eq_emod_of_nonneg kd0]; exact hrr
        have hr1 : ¬ rr = 1 := by omega
        have hr1' : (rr == 1) = false := by simp; omega
        have hwr : IntKind.u8.wrap rr = rr := by rw [IntKind.wrap_u8]; omega
        clear hk1
        go_upto_if 70 with fail
        rw [← hw5]
        clear hw5 q1 q2
        obtain ⟨cc, L7, l7, Hc⟩ : ∃ cc L7 l7, Hid (radd L nd = (cc, L7) ∧ rfadd l nd = (cc, l7) ∧ Lk l7 L7) := ⟨(radd L nd).1, (radd L nd).2, (rfadd l nd).2, rfl, by rw [(HLk.out.add HND.out).1], (HLk.out.add HND.out).2⟩
        have HLk7 := hid Hc.out.2.2
        have HSd : Hid (PlS lo wA s0 e B1 lo B2 m f v L P u l sb nd w5.drew) := HS5.out.below ((Below.refl _ _).drew)
        have hD1 := add_any HSd.out.pl.one HND.out
        rw [Hc.out.1] at hD1
        simp only at hD1
        have HK0 := hid HS5.out.cel
        have HKd := hid HSd.out.cel
        have c1 := HS5.out.cel
        go_wp2_with fail
        clear c1
        go_region_held3 (fun W : World => W.cell? ⟨sb, 1, none⟩ = some (.int .u64 nd)) (first | (with_reducible exact HK0.out) | (with_reducible exact HKd.out) | (with_reducible exact HKe.out) | (with_reducible exact HKf.out))
          (first
            | (go_at_call 14; (with_reducible refine hD1.mono ?_); rintro r w6 ⟨rfl, H6⟩; obtain ⟨v7, P7, hs6⟩ := HSd.out.left H6.out; have HS6 := hid hs6; have HKe := hid hs6.cel; have hD2 := radd_any hs6.pl.two nd; rw [Hc.out.2.1] at hD2; simp only at hD2; clear H6 hs6)
            | (go_at_call 15; (with_reducible refine hD2.mono ?_); rintro r w7 ⟨rfl, H7⟩; obtain ⟨u7, hs7⟩ := HS6.out.right H7.out; have HS7 := hid hs7; have HKf := hid hs7.cel; clear H7 hs7))
        all_goals
          clear HSd HS5 HS6 HK0 HKd HKe HKf hD1 hD2 Hc HLk
          have HE7 := hid (ordL_near HS7.out.pl.one nd)
          obtain ⟨R, HR⟩ : ∃ R, Hid (ordL s0 P7 nd = R ∧ R.Perm l7) := ⟨_, rfl, (ordL_perm HS7.out.pl.one nd).trans HLk7.out.perm.symm⟩
          rw [HR.out.1] at HE7
          obtain ⟨un, Hun⟩ : ∃ un, Hid (l7.length = un ∧ R.length = un ∧ L7.length = un ∧ un ≤ 64) := ⟨_, rfl, HR.out.2.length_eq, HLk7.out.perm.length_eq.symm, HS7.out.pl.two.len⟩
          have hun := Hun.out.2.2.2
          obtain ⟨bb, Hbb⟩ : ∃ bb, Hid (bndZ f f0 L7 = bb ∧ bndZ f f0 l7 = bb) := ⟨_, rfl, bndZ_perm HLk7.out.perm⟩
          obtain ⟨Zp, HZp⟩ : ∃ Zp, Hid (pickZ f bb R = Zp) := ⟨_, rfl⟩
          obtain ⟨zn, ze⟩ := Zp
          obtain ⟨ua, ucap, hu7, _⟩ := HS7.out.pl.two.row.reads
          rw [Hun.out.1] at hu7
          subst hu7
          have hP1 := pick_any HS7.out.pl.one HS7.out.pl.ld nd f0
          rw [HR.out.1, Hbb.out.1, HZp.out] at hP1
          simp only at hP1
          have cs7 := HS7.out.cel
          have cg7 := (HC.out _ HS7.out.pl.bel).2.2
          have HSx := hid fun (W' : World) (hb : Below w7.heap.size w7 W') => HS7.out.below hb
          go_wp2_with fail
          refine hP1.mono ?_
          rintro r w8 ⟨rfl, H8⟩
          have HS8 := hid (HS7.out.below H8.out)
          have hP2 := rpick_any HS8.out.pl.two HLk7.out.1 HLk7.out.us HS8.out.pl.ld nd f0 HE7.out HR.out.2
          rw [Hbb.out.2, HZp.out] at hP2
          simp only at hP2
          have cs8 := HS8.out.cel
          have cg8 := (HC.out _ HS8.out.pl.bel).2.2
          clear hP1 H8 HS7 cs7 cg7 HSx
          go_wp2_with fail
          refine hP2.mono ?_
          rintro r w9 ⟨rfl, H9⟩
          have HS9 := hid (HS8.out.below H9.out)
          clear hP2 H9 HS8 cs8 cg8
          have HX := hid fun (W' : World) (hb : Below w9.heap.size w9 W') => HS9.out.below hb
          have HKx : Hid (∀ W' : World, Below w9.heap.size w9 W' → W'.cell? ⟨B2, 2, none⟩ = some (.slice ua un ucap) ∧ W'.cell? ⟨sb, 1, none⟩ = some (.int .u64 nd) ∧ W'.cell? ⟨gs, 2, none⟩ = some (.int .i64 f0)) := fun W' hb => ⟨(HX.out W' hb).pl.two.obj.cells.2.2, (HX.out W' hb).cel, (HC.out _ (HX.out W' hb).pl.bel).2.2⟩
          have HXr : Hid (∀ W' : World, Below w9.heap.size w9 W' → Reads .u64 W' ua un ucap l7) := fun W' hb => by
            obtain ⟨a', c', e', hr'⟩ := (HX.out W' hb).pl.two.row.reads
            rw [Hun.out.1] at e' hr'
            obtain ⟨rfl, rfl⟩ : ua = a' ∧ ucap = c' := by simpa using e'
            exact hr'
          have HNd : Hid (∀ W' : World, Below w9.heap.size w9 W' → Calls Try.prog 19 #[.pointer (some ⟨B1, 0, none⟩)] W' fun r w' => ∃ a c, r = .returned (.slice a un c) ∧ Reads .u64 w' a un c l7 ∧ Below W'.heap.size W' w') := fun W' hb => (nodes_any (HX.out W' hb).pl.one).mono fun r w' h => by
            obtain ⟨q, rfl, hq⟩ := h
            rw [HLk7.out.ris, Hun.out.2.2.1] at hq
            obtain ⟨a', c', rfl, hr'⟩ := Reads.own (k := .u64) hq.out.1
            exact ⟨a', c', rfl, hr', hq.out.2⟩
          have HOd : Hid (∀ W' : World, Below w9.heap.size w9 W' → Calls Try.prog 20 #[.pointer (some ⟨B1, 0, none⟩), .int .u64 nd] W' fun r w' => ∃ a c, r = .returned (.slice a un c) ∧ Reads .u64 w' a un c R ∧ Below W'.heap.size W' w') := fun W' hb => (order_any (HX.out W' hb).pl.one nd).mono fun r w' h => by
            obtain ⟨q, rfl, hq⟩ := h
            rw [HR.out.1, Hun.out.2.1] at hq
            obtain ⟨a', c', rfl, hr'⟩ := Reads.own (k := .u64) hq.out.1
            exact ⟨a', c', rfl, hr', hq.out.2⟩
          have HRo : Hid (∀ W' : World, Below w9.heap.size w9 W' → Calls Try.prog 21 #[.pointer (some ⟨B2, 0, none⟩), .int .u64 nd] W' fun r w' => ∃ a c, r = .returned (.slice a un c) ∧ Reads .u64 w' a un c R ∧ Below W'.heap.size W' w') := fun W' hb => (rorder_any (HX.out W' hb).pl.two HLk7.out.1 nd HE7.out HR.out.2).mono fun r w' h => by
            obtain ⟨q, rfl, hq⟩ := h
            rw [Hun.out.2.1] at hq
            obtain ⟨a', c', rfl, hr'⟩ := Reads.own (k := .u64) hq.out.1
            exact ⟨a', c', rfl, hr', hq.out.2⟩
          have HBd : Hid (∀ W' : World, Below w9.heap.size w9 W' → Calls Try.prog 22 #[.pointer (some ⟨B1, 0, none⟩), .map (some m), .int .i64 f0] W' fun r w' => r = .returned (.int .i64 bb) ∧ Below W'.heap.size W' w') := fun W' hb => (bound_any (HX.out W' hb).pl.one (HX.out W' hb).pl.ld f0).mono fun r w' h => by
            rw [Hbb.out.1] at h
            exact ⟨h.1, h.2.out⟩
          have HRb : Hid (∀ W' : World, Below w9.heap.size w9 W' → Calls Try.prog 23 #[.pointer (some ⟨B2, 0, none⟩), .map (some m), .int .i64 f0] W' fun r w' => r = .returned (.int .i64 bb) ∧ Below W'.heap.size W' w') := fun W' hb => (rbound_any (HX.out W' hb).pl.two HLk7.out.us (HX.out W' hb).pl.ld f0).mono fun r w' h => by
            rw [Hbb.out.2] at h
            exact ⟨h.1, by rw [h.2]; exact Below.refl _ _⟩
          have HSm := hid fun (a4 a5 : Option Addr) (c4 c5 : Nat) (xs : List Int) (W' : World) (h1 : Reads .u64 W' a4 un c4 xs) (h2 : Reads .u64 W' a5 un c5 xs) => usame_yes a4 a5 un c4 c5 xs W' h1 h2 (by omega)
          have HV : Hid (Below w9.heap.size w9 w9.drew) := (Below.refl _ _).drew
          obtain ⟨y0, y1, y2⟩ := HKx.out _ (Below.refl _ _)
          clear HE7 HR Hun Hbb HZp
          go_wp2_with fail
          clear y0 y1 y2
          go_region_held3 (fun W : World => W.cell? ⟨B2, 2, none⟩ = some (.slice ua un ucap) ∧ W.cell? ⟨sb, 1, none⟩ = some (.int .u64 nd) ∧ W.cell? ⟨gs, 2, none⟩ = some (.int .i64 f0)) (first | (with_reducible exact HKx.out _ (Below.refl _ _)) | (with_reducible exact HKx.out _ HV.out))
            (first
              | (go_at_call 19; (with_reducible refine (HNd.out _ HV.out).mono ?_); rintro e z1 ⟨a3, c3, rfl, hr3, hb⟩; replace HV := hid (HV.out.trans (hb.mono HV.out.size)); have HR3 := hid hr3; clear hb hr3)
              | (go_at_call 18; (with_reducible refine (HSm.out _ _ _ _ _ _ HR3.out (HXr.out _ HV.out)).mono ?_); rintro e z2 ⟨rfl, hb⟩; replace HV := hid (HV.out.trans (hb.out.mono HV.out.size)); clear hb HR3)
              | (go_at_call 20; (with_reducible refine (HOd.out _ HV.out).mono ?_); rintro e z3 ⟨a4, c4, rfl, hr4, hb⟩; replace HV := hid (HV.out.trans (hb.mono HV.out.size)); have HR4 := hid hr4; clear hb hr4)
              | (go_at_call 21; (with_reducible refine (HRo.out _ HV.out).mono ?_); rintro e z4 ⟨a5, c5, rfl, hr5, hb⟩; replace HV := hid (HV.out.trans (hb.mono HV.out.size)); replace HR4 := hid (HR4.out.below hb); have HR5 := hid hr5; clear hb hr5)
              | (go_at_call 18; (with_reducible refine (HSm.out _ _ _ _ _ _ HR4.out HR5.out).mono ?_); rintro e z5 ⟨rfl, hb⟩; replace HV := hid (HV.out.trans (hb.out.mono HV.out.size)); clear hb HR4 HR5)
              | (go_at_call 22; (with_reducible refine (HBd.out _ HV.out).mono ?_); rintro e z6 ⟨rfl, hb⟩; replace HV := hid (HV.out.trans (hb.mono HV.out.size)); clear hb)
              | (go_at_call 23; (with_reducible refine (HRb.out _ HV.out).mono ?_); rintro e z7 ⟨rfl, hb⟩; replace HV := hid (HV.out.trans (hb.mono HV.out.size)); clear hb)
              | fail)
          all_goals
            have HSn := hid (HX.out _ HV.out).pl
            clear HX HKx HXr HNd HOd HRo HBd HRb HSm HV HS9
            go_wp2_with fail
            go_round
            case rel => exact ⟨k + 1, v7, L7, P7, _, l7, by omega, by go_num, HSn, HLk7⟩
            case measure => simp [intOf]; omega
    · have g1 : ¬ (k : Int) < (n1 : Int) := by omega
      have HVE := hid (HE.out _ HP.out.bel)
      clear HP HLk
      go_wp2_with fail
      refine (alive16_any _).mono ?_
      rintro e wz ⟨rfl, HZ0⟩
      have HZ := hid (HVE.out.trans (HZ0.out.mono HVE.out.size))
      clear HZ0
      go_wp2
      go_ret
      exact ⟨rfl, HZ.out⟩

/-! ### The row's step -/
set_option maxRecDepth 1000000 in
theorem lifted (os : Os) (started : os.Started) (H : Type) (enc : TypeId × Value → H) :
    ReturnsInHanded {} Try.checked os 3 .any (Rows.ringPlaysSpec.pre6 enc Try.prog Try.f3 Rows.ringPlaysRow.domain false) (Rows.ringPlaysSpec.post enc Try.prog Try.f3 false true false false) := by
  refine returnsInHanded_of_change (C := Try.checked) own started (by kernel_rfl) Try.func3
    (ChangeSpec.witness6 (enc := enc) (C := Try.checked) false ⟨#[], #[.agg #[.int .u64 0, .int .i64 0, .int .i64 0], .slice none 0 0, .slice none 0 0], []⟩ 8 (by kernel_rfl) (by kernel_rfl) (by kernel_rfl) (by kernel_rfl)) ?_
  intro W base args ds gs before hval0 hW hcnd _
  have hval : ∀ (j : Nat) t v, Try.f3.params[j]? = some t → args[j]? = some v → Value.okWide Try.prog W .any base t v := hval0
  have hW' := hW
  obtain ⟨p, q, hA0, hV, rfl, hfz, hnd⟩ := hW
  have hA : DataW.TrodAll enc Try.prog W 0 (fun _ => true) true Try.f3.params.toList args.toList ds p := hA0
  rw [Try.params3] at hA hval
  obtain ⟨v0, vs0, d0, ds0, p0, q0, hargs, rfl, rfl, h0, r0⟩ := trodAll_cons hA
  obtain ⟨v1, vs1, d1, ds1, p1, q1, rfl, rfl, rfl, h1, r1⟩ := trodAll_cons r0
  obtain ⟨v2, vs2, d2, ds2, p2, q2, rfl, rfl, rfl, h2, r2⟩ := trodAll_cons r1
  obtain ⟨rfl, rfl, rfl⟩ := trodAll_nil r2
  obtain rfl : args = #[v0, v1, v2] := by cases args; simp_all
  obtain ⟨rfl, rfl⟩ := trodVars_none hV
  have k0 := h0
  have lt0 : ∀ x ∈ p0, x.block < W.heap.size := by obtain ⟨m, hm⟩ := k0; exact DataW.trod_lt m _ _ _ hm
  obtain ⟨s0, p0, f0, rfl, gs0⟩ := set_open (hval 0 24 v0 rfl rfl) h0
  have k1 := h1
  have lt1 : ∀ x ∈ p1, x.block < W.heap.size := by obtain ⟨m, hm⟩ := k1; exact DataW.trod_lt m _ _ _ hm
  obtain ⟨a1, l1, c1, ks1, ns1, rfl, ga1⟩ := steps16_open (hval 1 25 v1 rfl rfl) h1
  have k2 := h2
  have lt2 : ∀ x ∈ p2, x.block < W.heap.size := by obtain ⟨m, hm⟩ := k2; exact DataW.trod_lt m _ _ _ hm
  obtain ⟨a2, l2, c2, ks2, ns2, rfl, ga2⟩ := loads_open (hval 2 26 v2 rfl rfl) h2
  clear hA0 hval0
  refine (walk s0 p0 f0 a1 l1 c1 ks1 ns1 a2 l2 c2 ks2 ns2 W gs0 ga1 ga2).mono fun e W' ⟨he, bel⟩ => ?_
  subst he
  exact ⟨_, rfl, _, _, _, [], _, [], hW', trodAll_mk1 (shut_bool Try.underlying4 _), (trodAll_cons_mk (Below.trod laidOut (by kernel_rfl) (of_decide_eq_true (by kernel_rfl)) k0 bel lt0) (trodAll_cons_mk (Below.trod laidOut (by kernel_rfl) (of_decide_eq_true (by kernel_rfl)) k1 bel lt1) (trodAll_cons_mk (Below.trod laidOut (by kernel_rfl) (of_decide_eq_true (by kernel_rfl)) k2 bel lt2) trodAll_mk0))), rfl, bel.frame _, fun h => by cases h⟩

theorem over : Rows.ringPlaysRow.holds Try.pinned (OpenSpec.ofChange Rows.ringPlaysSpec) :=
  OpenClaim.holds_of_wide 3 Try.f3 rfl rfl rfl rfl rfl rfl rfl ⟨rfl, rfl, rfl, rfl, rfl⟩ rfl rfl rfl rfl rfl (by kernel_rfl) Try.func3 (by kernel_rfl)
    (of_decide_eq_true (by kernel_rfl)) (by unfold Func.isWrapper; first | (rw [if_pos (by decide +kernel)]; kernel_rfl) | (rw [if_neg (by decide +kernel)]; exact ⟨rfl, rfl⟩))
    (fun os started H enc _ => lifted os started H enc)

/-- The statement. -/
theorem proved : Rows.RingPlaysSaid := over
#print axioms proved
end Go.Proofs.Ytaiojhigomdocaa.ringPlays
