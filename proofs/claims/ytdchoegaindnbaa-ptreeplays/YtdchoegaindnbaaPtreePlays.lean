/-
  PtreePlays: a tree answers every call, in every order, as the document says, and has behind each the marks that the document's has.
-/
import Derived.Test.YtdchoegaindnbaaRows
import Derived.Test.YtdchoegaindnbaaRpTwo
import Derived.Deep.RegionHeld3
import Derived.WalkKit
import Derived.ProofKit
import Derived.OpenShut
import Derived.ShutString
import Derived.ChangeOld
import Derived.Below
namespace Go.Proofs.Ytdchoegaindnbaa.ptreePlays
open Go.ChangeShapes Go.WideShapes Go.ChangeAt Go.RowKit
open Go.ChangeMaps (open_string shut_string)
set_option linter.unusedVariables false

theorem own : ownKnob Try.prog.godebug = none := by kernel_rfl
theorem laidOut : laidOutB Try.prog = true := by kernel_rfl

/-! ### The walk -/
set_option maxRecDepth 1000000 in
set_option maxHeartbeats 8000000 in
theorem walk (a0 : Int) (a1 : Int) (a2 : Option Addr) (l2 c2 : Nat) (xs2 : List Sp) (w : World) (ga0 : isI a0) (ga1 : isI a1) (ga2 : Lst w a2 l2 c2 3 xs2 SpV (fun s => SpIn w s)) :
    Calls Try.prog 3 #[.int .i64 a0, .int .i64 a1, .slice a2 l2 c2] w fun e w' => e = .returned (.bool true) ∧ Below w.heap.size w w' := by
  have HSp := hid fun (W' : World) (hb : Below w.heap.size w W') => ga2.below hb
  have HSi : Hid (∀ k s, xs2[k]? = some s → SpIn w s) := fun k s h => by
    obtain ⟨hk, rfl⟩ := List.getElem?_eq_some_iff.1 h
    exact ga2.inn k hk
  have HTx : Hid (∀ s : Sp, SpIn w s → ∀ W' : World, Below w.heap.size w W' → Calls Try.prog 12 #[.agg #[.int .u8 s.kd, .slice s.ap s.lp s.cp, .int .u64 s.rep]] W' fun e w' => e = .returned (.slice s.ap (min s.lp 40) s.cp) ∧ Hid (Below W'.heap.size W' w')) := fun s hs W' hb => stext_any s W' (hs.below hb)
  have hSh := fun W' => short_any a2 l2 c2 W' ga2.room ga2.most
  obtain ⟨n, Hn⟩ : ∃ n, Hid (min l2 60 = n) := ⟨_, rfl⟩
  rw [Hn.out] at hSh
  have hn1 : n ≤ l2 ∧ n ≤ 60 := by have := Hn.out; omega
  have r1 := ga2.room
  have m1 := ga2.most
  have HSh := hid hSh
  clear ga2 hSh
  by_cases hno : a0 < 1 ∨ 4096 < a0 ∨ a1 < 1 ∨ 16 < a1
  · have hN := pnew_no a0 a1 w hno
    by_cases k1 : 1 ≤ a0
    · by_cases k2 : a0 ≤ 4096
      · by_cases k3 : 1 ≤ a1
        · have k4 : ¬ a1 ≤ 16 := by omega
          clear hno
          have HVE := hid (Below.refl w.heap.size w)
          go_enter Try.func3, Try.ntmps3
          go_wp2_with fail
          refine hN.mono ?_
          rintro r w1 ⟨rfl, rfl⟩
          clear hN
          go_wp2_with fail
          with_reducible refine (alive17_any _).mono ?_
          rintro e wz ⟨rfl, HZ0⟩
          have HZ := hid (HVE.out.trans (HZ0.out.mono HVE.out.size))
          clear HZ0
          go_wp2_with fail
          go_ret
          exact ⟨rfl, HZ.out⟩
        · clear hno
          have HVE := hid (Below.refl w.heap.size w)
          go_enter Try.func3, Try.ntmps3
          go_wp2_with fail
          refine hN.mono ?_
          rintro r w1 ⟨rfl, rfl⟩
          clear hN
          go_wp2_with fail
          with_reducible refine (alive17_any _).mono ?_
          rintro e wz ⟨rfl, HZ0⟩
          have HZ := hid (HVE.out.trans (HZ0.out.mono HVE.out.size))
          clear HZ0
          go_wp2_with fail
          go_ret
          exact ⟨rfl, HZ.out⟩
      · clear hno
        have HVE := hid (Below.refl w.heap.size w)
        go_enter Try.func3, Try.ntmps3
        go_wp2_with fail
        refine hN.mono ?_
        rintro r w1 ⟨rfl, rfl⟩
        clear hN
        go_wp2_with fail
        with_reducible refine (alive17_any _).mono ?_
        rintro e wz ⟨rfl, HZ0⟩
        have HZ := hid (HVE.out.trans (HZ0.out.mono HVE.out.size))
        clear HZ0
        go_wp2_with fail
        go_ret
        exact ⟨rfl, HZ.out⟩
    · clear hno
      have HVE := hid (Below.refl w.heap.size w)
      go_enter Try.func3, Try.ntmps3
      go_wp2_with fail
      refine hN.mono ?_
      rintro r w1 ⟨rfl, rfl⟩
      clear hN
      go_wp2_with fail
      with_reducible refine (alive17_any _).mono ?_
      rintro e wz ⟨rfl, HZ0⟩
      have HZ := hid (HVE.out.trans (HZ0.out.mono HVE.out.size))
      clear HZ0
      go_wp2_with fail
      go_ret
      exact ⟨rfl, HZ.out⟩
  · obtain ⟨rm, rfl⟩ : ∃ rm : Nat, (rm : Int) = a0 := ⟨a0.toNat, by omega⟩
    obtain ⟨sz, rfl⟩ : ∃ sz : Nat, (sz : Int) = a1 := ⟨a1.toNat, by omega⟩
    have k1 : (1 : Int) ≤ (rm : Int) := by omega
    have k2 : (rm : Int) ≤ 4096 := by omega
    have k3 : (1 : Int) ≤ (sz : Int) := by omega
    have k4 : (sz : Int) ≤ 16 := by omega
    have hN := pnew_yes rm sz w (by omega) (by omega)
    have Hsz : Hid (1 ≤ sz ∧ sz ≤ 16 ∧ 1 ≤ rm ∧ rm ≤ 4096) := by unfold Hid; omega
    clear hno ga0 ga1
    go_enter Try.func3, Try.ntmps3
    go_wp2_with fail
    refine hN.mono ?_
    rintro r w1 ⟨rfl, H1⟩
    clear hN
    obtain ⟨w2, hw2⟩ : ∃ w2, w2 = w1.alloc (.cells #[.int .i64 rm, .int .i64 sz, .int .i64 0, .slice none 0 0] 30) := ⟨_, rfl⟩
    have HS0 : Hid (PlS w (w.heap.size + 1) rm sz w.heap.size 0 [] w1.heap.size (.slice none 0 0) [] w2) := by
      have hb2 : Below w1.heap.size w1 w2 := by rw [hw2]; exact (Below.refl _ _).alloc (Nat.le_refl _) _
      have hrt : ∀ k, rtF w1.heap.size (.slice none 0 0) [] k → k = w1.heap.size := by
        rintro k ((h | h) | ⟨q, hq, _⟩)
        · exact h
        · cases h
        · simp at hq
      have st : PtS w (w.heap.size + 1) rm sz w.heap.size 0 [] w1 := ⟨H1.out.1, by
        rintro k (rfl | rfl | ⟨m, hm, _⟩)
        · omega
        · omega
        · simp at hm, H1.out.2⟩
      refine ⟨st.below hb2, ⟨by rw [hw2]; exact heap_alloc_new w1 _, World.ownsRow_nil _ _ _ _, fun q hq => by simp at hq, by simp⟩, fun k hk hr => ?_, fun k hr => ?_, List.Perm.refl _, Cls.nil _⟩
      · have := hrt k hr
        have := st.tr.lts hk
        omega
      · rw [hrt k hr]; exact H1.out.2.size
    clear H1
    obtain ⟨B, HB⟩ : ∃ B, Hid (w.heap.size + 1 = B) := ⟨_, rfl⟩
    rw [HB.out] at HS0
    rw [HB.out]
    obtain ⟨B2, hB2⟩ : ∃ B2, w1.heap.size = B2 := ⟨_, rfl⟩
    rw [hB2] at HS0
    obtain ⟨M, HS1⟩ : ∃ M, Hid (PlS w B rm sz M 0 [] B2 (.slice none 0 0) [] w2) := ⟨_, HS0.out⟩
    clear HS0 HB
    go_wp2_with fail
    rw [← hw2]
    clear hw2 hB2
    with_reducible refine (HSh.out _).mono ?_
    rintro r w3 ⟨rfl, rfl⟩
    go_wp2_with fail
    go_loopw [61] (fun z W' => ∃ (k : Nat) (T : Int) (L : List Mk) (v : Value) (qs : List Rk), k ≤ n ∧ z = .int .i64 k ∧ Hid (0 ≤ T ∧ T ≤ k) ∧ Hid (PlS w B rm sz M T L B2 v qs W')) (fun z _ => n - (intOf z).toNat)
    case atStart => exact ⟨0, 0, [], _, [], by omega, rfl, by unfold Hid; omega, HS1⟩
    case round =>
    obtain ⟨k, T, L, v, qs, hk, rfl, HTb0, HS⟩ := hrel
    rename World => w3
    clear HS1
    by_cases hkl : k < n
    · have g1 : (k : Int) < (n : Int) := by omega
      obtain ⟨b, off, s, rfl, hsk, hsi, q1, q2, q3⟩ := (HSp.out _ HS.out.st.bel).at (i := k) (by omega)
      have hsw := HSi.out k s hsk
      obtain ⟨w4, hw4⟩ : ∃ w4, w4 = w3.alloc (.cells #[.int .u8 s.kd, .slice s.ap s.lp s.cp, .int .u64 s.rep] 35) := ⟨_, rfl⟩
      obtain ⟨sb, hsb⟩ : ∃ sb, w3.heap.size = sb := ⟨_, rfl⟩
      have HG : Hid (PlG w B rm sz M T L B2 T v qs sb s.kd s.ap s.lp s.cp s.rep w4) := by rw [← hsb]; exact HS.out.step hw4
      have HLC := hid (And.intro HS.out.lk HS.out.cl)
      obtain ⟨tl, Htl⟩ : ∃ tl, Hid (min s.lp 40 = tl) := ⟨_, rfl⟩
      have htl : tl ≤ 40 ∧ tl ≤ s.lp := by have := Htl.out; omega
      have hlp : s.lp ≤ s.cp ∧ s.cp ≤ 9223372036854775807 := ⟨hsw.rd.room, hsw.rd.most⟩
      have HTG : Hid (∀ W' : World, Below w.heap.size w W' → Calls Try.prog 12 #[.agg #[.int .u8 s.kd, .slice s.ap s.lp s.cp, .int .u64 s.rep]] W' fun e w' => e = .returned (.slice s.ap tl s.cp) ∧ Hid (Below W'.heap.size W' w')) := fun W' h => by rw [← Htl.out]; exact HTx.out s hsw _ h
      have HTx2 : Hid (Reads .i64 w s.ap tl s.cp s.txt ∧ isIs s.txt ∧ isU s.rep) := ⟨by rw [← Htl.out]; exact hsw.txt, hsw.txtIs, hsw.rep⟩
      obtain ⟨kd0, kd1⟩ := hsw.kd
      have y0 := HG.out.g.cells.1
      clear hsk hsi hsw HS Htl
      obtain ⟨tx, Htx⟩ : ∃ tx, Hid (s.txt = tx) := ⟨_, rfl⟩
      rw [Htx.out] at HTx2
      clear Htx
      generalize s.kd = kd at *
      generalize s.ap = ap at *
      generalize s.lp = lp at *
      generalize s.cp = cp at *
      generalize s.rep = rp at *
      have HCe0 : Hid (∀ (T : Int) (L : List Mk) (T2 : Int) (v : Value) (qs : List Rk) (W' : World), PlG w B rm sz M T L B2 T2 v qs sb kd ap lp cp rp W' → W'.cell? ⟨sb, 0, none⟩ = some (.int .u8 kd) ∧ W'.cell? ⟨sb, 1, none⟩ = some (.slice ap lp cp) ∧ W'.cell? ⟨sb, 2, none⟩ = some (.int .u64 rp)) := fun _ _ _ _ _ W' h => h.g.cells
      have HGd0 := hid (HG.out.below (Below.refl _ _).drew)
      obtain ⟨rr, hrr⟩ : ∃ rr, kd % 4 = rr := ⟨_, rfl⟩
      have hr' : kd.tmod 4 = rr := by rw [Int.tmod_eq_emod_of_nonneg kd0]; exact hrr
      have hwr : IntKind.u8.wrap rr = rr := by rw [IntKind.wrap_u8]; omega
      by_cases h1 : rr = 1
      · subst h1
        have HMt : Hid (∀ W' : World, PlG w B rm sz M T L B2 T v qs sb kd ap lp cp rp W' → Calls Try.prog 11 #[.pointer (some ⟨B, 0, none⟩), .slice ap tl cp] W' fun e w' => ∃ b, e = .returned (.map (some b)) ∧ Hid (PlG w B rm sz M (T + 1) (useL L tx (T + 1)) B2 T v qs sb kd ap lp cp rp w' ∧ ¬ rtF B2 v qs b ∧ ∃ K f, UmAt w' b K f ∧ LgP (L.filter fun m => decide (m.toks <+: tx)) K f)) := fun W' h => (match_any h.g.st.tr (by have := HTb0.out; omega) (HTx2.out.1.below h.g.st.bel) HTx2.out.2.1 (by omega) (h.g.st.aft HTx2.out.1 (Nat.le_refl _))).mono fun e w' ⟨b, he, H⟩ => ⟨b, he, h.left H.out.1, fun hr => by have := h.rt.lts hr; have := H.out.2.1; omega, H.out.2.2⟩
        have HRm : Hid (∀ W' : World, PlG w B rm sz M (T + 1) (useL L tx (T + 1)) B2 T v qs sb kd ap lp cp rp W' → Calls Try.prog 13 #[.pointer (some ⟨B2, 0, none⟩), .slice ap tl cp] W' fun e w' => ∃ b, e = .returned (.map (some b)) ∧ Hid ((∃ v', PlG w B rm sz M (T + 1) (useL L tx (T + 1)) B2 (T + 1) v' (qs.map (usQ tx (T + 1))) sb kd ap lp cp rp w') ∧ Fb (rcF B2 v) W' w' ∧ ∃ K f, UmAt w' b K f ∧ LgP (bgR qs tx qs.length) K f)) := fun W' h => (rmatch_any _ _ _ _ _ h.rt (HTx2.out.1.below h.g.st.bel) (h.aft2 HTx2.out.1 (Nat.le_refl _)) (by omega) HTb0.out.1 (by have := HTb0.out; omega)).mono fun e w' ⟨b, he, H⟩ => ⟨b, he, h.right H.out.1, by obtain ⟨_, _, _, _, h4⟩ := H.out.1; exact h4, H.out.2.2⟩
        have HSm : Hid (∀ (W' : World) (b1 b2 : Nat) (K1 K2 : List Int) (f1 f2 : Int → Int), Below w.heap.size w W' → UmAt W' b1 K1 f1 → UmAt W' b2 K2 f2 → LgP (L.filter fun m => decide (m.toks <+: tx)) K1 f1 → LgP (bgR qs tx qs.length) K2 f2 → Calls Try.prog 10 #[.map (some b1), .map (some b2), .slice (some ⟨b, off, none⟩) n c2] W' fun e w' => e = .returned (.bool true) ∧ Hid (Below W'.heap.size W' w')) := fun W' b1 b2 K1 K2 f1 f2 hb u1 u2 l1 l2' => same17_any (by omega) W' (HSp.out _ hb) u1 u2 (both_lg HLC.out.1 u1.nodup u2.nodup l1 l2') (by omega)
        go_wp2_with fail
        rw [← hw4]
        clear hsb hw4 q1 q2 q3 y0
        go_region_held3 (fun W' : World => W'.cell? ⟨sb, 0, none⟩ = some (.int .u8 kd) ∧ W'.cell? ⟨sb, 1, none⟩ = some (.slice ap lp cp) ∧ W'.cell? ⟨sb, 2, none⟩ = some (.int .u64 rp))
          (first | (with_reducible exact HCe0.out _ _ _ _ _ _ HG.out) | (with_reducible exact HCe0.out _ _ _ _ _ _ HGd0.out) | (with_reducible exact HCe0.out _ _ _ _ _ _ HG1.out) | (with_reducible exact HCe0.out _ _ _ _ _ _ HG2.out) | (with_reducible exact HCe0.out _ _ _ _ _ _ HG3.out) | (with_reducible exact HCe0.out _ _ _ _ _ _ HG4.out) | (with_reducible exact HCe0.out _ _ _ _ _ _ HG5.out))
          (first
            | (go_at_call 12; (with_reducible refine (HTG.out _ HGd0.out.g.st.bel).mono ?_); rintro r x1 ⟨rfl, H5⟩; have HG1 := hid (HGd0.out.below H5.out); clear H5)
            | (go_at_call 11; (with_reducible refine (HMt.out _ HG1.out).mono ?_); rintro r x2 ⟨b1, rfl, H5⟩; obtain ⟨hg2, hnb, K1, f1, u1, l1⟩ := H5.out; have HG2 := hid hg2; have HU2 := hid (And.intro u1 (And.intro hnb l1)); clear H5 hg2 hnb u1 l1)
            | (go_at_call 12; (with_reducible refine (HTG.out _ HG2.out.g.st.bel).mono ?_); rintro r x3 ⟨rfl, H5⟩; have HG3 := hid (HG2.out.below H5.out); have HU3 := hid (HU2.out.1.below H5.out); clear H5)
            | (go_at_call 13; (with_reducible refine (HRm.out _ HG3.out).mono ?_); rintro r x4 ⟨b2, rfl, H5⟩; obtain ⟨⟨v1, hg4⟩, hf4, K2', f2, u2, l2'⟩ := H5.out; have HG4 := hid hg4; have HU4 := hid (HU3.out.same (hf4.block _ HU3.out.lt fun hr => HU2.out.2.1 (.inl hr))); have HU5 := hid (And.intro u2 l2'); clear H5 hg4 hf4 u2 l2')
            | (go_at_call 9; (with_reducible refine (HSh.out _).mono ?_); rintro r x5 ⟨rfl, rfl⟩)
            | (go_at_call 10; (with_reducible refine (HSm.out _ _ _ _ _ _ _ HG4.out.g.st.bel HU4.out HU5.out.1 HU2.out.2.2 HU5.out.2).mono ?_); rintro r x6 ⟨rfl, H5⟩; have HG5 := hid (HG4.out.below H5.out); clear H5))
        all_goals
          obtain ⟨T1, HT1⟩ : ∃ T1, Hid (T + 1 = T1) := ⟨_, rfl⟩
          have HLk : Hid (((qs.map (usQ tx (T + 1))).map Rk.em).Perm ((useL L tx (T + 1)).map Mk.tr) ∧ Cls sz (useL L tx (T + 1))) := ⟨both_use HLC.out.1 _ _, HLC.out.2.use fun m hm => by have := HG.out.g.st.tr.old m hm; omega⟩
          have HGx := hid HG5.out
          have HTb : Hid (0 ≤ T1 ∧ T1 ≤ ((k + 1 : Nat) : Int)) := by have := HTb0.out; have := HT1.out; unfold Hid; omega
          rw [HT1.out] at HGx HLk
          clear HG HGd0 HG1 HG2 HG3 HG4 HG5 HU2 HU3 HU4 HU5 HMt HRm HSm HLC HCe0 HT1 hr' hrr hwr
          generalize useL L tx T1 = L1 at *
          generalize qs.map (usQ tx T1) = qs1 at *
          have HLn := hid (both_len HLk.out.1)
          obtain ⟨av, cv, hv1, rv, mv⟩ := HGx.out.rt.isSl
          subst hv1
          obtain ⟨N, HN⟩ : ∃ N, Hid (qs1.length = N ∧ L1.length = N ∧ N ≤ 5000) := ⟨_, rfl, HLn.out.symm, HGx.out.rt.few⟩
          rw [HN.out.1] at HGx rv
          have HNn : Hid (N ≤ 5000) := HN.out.2.2
          obtain ⟨hb, Hhb⟩ : ∃ hb, Hid (hasM L1 rp tx = hb) := ⟨_, rfl⟩
          have HLe : Hid (∀ W' : World, PlG w B rm sz M T1 L1 B2 T1 (.slice av N cv) qs1 sb kd ap lp cp rp W' → Calls Try.prog 18 #[.pointer (some ⟨B, 0, none⟩)] W' fun e w' => e = .returned (.int .i64 N) ∧ w' = W') := fun W' h => by have := plen_any h.g.st.tr; rw [HN.out.2.1] at this; exact this
          have HHa : Hid (∀ W' : World, PlG w B rm sz M T1 L1 B2 T1 (.slice av N cv) qs1 sb kd ap lp cp rp W' → Calls Try.prog 19 #[.pointer (some ⟨B, 0, none⟩), .slice ap tl cp, .int .u64 rp] W' fun e w' => e = .returned (.bool hb) ∧ Hid (Below W'.heap.size W' w')) := fun W' h => by rw [← Hhb.out]; exact phas_any h.g.st.tr (HTx2.out.1.below h.g.st.bel) HTx2.out.2.1 (by omega) HTx2.out.2.2
          have HRh : Hid (∀ W' : World, PlG w B rm sz M T1 L1 B2 T1 (.slice av N cv) qs1 sb kd ap lp cp rp W' → Calls Try.prog 20 #[.pointer (some ⟨B2, 0, none⟩), .slice ap tl cp, .int .u64 rp] W' fun e w' => e = .returned (.bool hb) ∧ Below W'.heap.size W' w') := fun W' h => by
            rw [← Hhb.out, both_has HLk.out.1 h.g.st.tr.map.oks HTx2.out.2.2 HTx2.out.2.1]
            exact rhas_any _ _ _ _ _ _ h.rt (HTx2.out.1.below h.g.st.bel) (by omega)
          have HHm : Hid (∀ (i : Nat), i < N → ∀ W' : World, PlG w B rm sz M T1 L1 B2 T1 (.slice av N cv) qs1 sb kd ap lp cp rp W' → Calls Try.prog 19 #[.pointer (some ⟨B, 0, none⟩), .slice (rk qs1 i).ap (rk qs1 i).toks.length (rk qs1 i).cp, .int .u64 (rk qs1 i).rep] W' fun e w' => e = .returned (.bool true) ∧ Hid (Below W'.heap.size W' w')) := fun i hi W' h => by
            have hm := rk_mem (qs := qs1) (i := i) (by have := HN.out.1; omega)
            have hin := h.rt.ins _ hm
            have hp := phas_any h.g.st.tr (x := (rk qs1 i).rep) hin.rd hin.is hin.short hin.rep
            rw [(key_has h.g.st.tr.map.oks hin.rep hin.is).2 ((HLk.out.1.map keyE).mem_iff.1 (List.mem_map.2 ⟨_, List.mem_map_of_mem hm, rfl⟩))] at hp
            exact hp
          have HAt : Hid (∀ (i : Nat), i < N → ∀ W' : World, PlG w B rm sz M T1 L1 B2 T1 (.slice av N cv) qs1 sb kd ap lp cp rp W' → ∃ g, av = some ⟨g, 0, none⟩ ∧ W'.cell? ⟨g, i * 3, none⟩ = some (.slice (rk qs1 i).ap (rk qs1 i).toks.length (rk qs1 i).cp) ∧ W'.cell? ⟨g, i * 3 + 1, none⟩ = some (.int .u64 (rk qs1 i).rep) ∧ W'.cell? ⟨g, i * 3 + 2, none⟩ = some (.int .i64 (rk qs1 i).used)) := fun i hi W' h => by
            obtain ⟨g, cap', cur, hv, _⟩ := h.rt.isSome (k := i) (by have := HN.out.1; omega)
            have hav : av = some ⟨g, 0, none⟩ := by cases hv; rfl
            have hrt := h.rt
            rw [hav] at hrt
            exact ⟨g, hav, hrt.at (k := i) (by have := HN.out.1; omega)⟩
          have HTl : Hid (∀ W' : World, PlG w B rm sz M T1 L1 B2 T1 (.slice av N cv) qs1 sb kd ap lp cp rp W' → Calls Try.prog 12 #[.agg #[.int .u8 kd, .slice ap lp cp, .int .u64 rp]] W' fun e w' => e = .returned (.slice ap tl cp) ∧ Hid (Below W'.heap.size W' w')) := fun W' h => HTG.out _ h.g.st.bel
          have HPl := hid (HLk.out)
          clear Hhb HN HLn HLk HTx2
          have HCe : Hid (∀ W' : World, PlG w B rm sz M T1 L1 B2 T1 (.slice av N cv) qs1 sb kd ap lp cp rp W' → W'.cell? ⟨sb, 0, none⟩ = some (.int .u8 kd) ∧ W'.cell? ⟨sb, 1, none⟩ = some (.slice ap lp cp) ∧ W'.cell? ⟨sb, 2, none⟩ = some (.int .u64 rp) ∧ W'.cell? ⟨B2, 3, none⟩ = some (.slice av N cv)) := fun W' h => ⟨h.g.cells.1, h.g.cells.2.1, h.g.cells.2.2, h.rt.cells.2.2.2⟩
          go_wp2_with fail
          have HGy := hid (HGx.out.below (Below.refl _ _).drew)
          cases hb
          all_goals
            go_region_held3 (fun W' : World => W'.cell? ⟨sb, 0, none⟩ = some (.int .u8 kd) ∧ W'.cell? ⟨sb, 1, none⟩ = some (.slice ap lp cp) ∧ W'.cell? ⟨sb, 2, none⟩ = some (.int .u64 rp) ∧ W'.cell? ⟨B2, 3, none⟩ = some (.slice av N cv))
              (first | (with_reducible exact HCe.out _ HGx.out) | (with_reducible exact HCe.out _ HGy.out) | (with_reducible exact HCe.out _ HGe.out) | (with_reducible exact HCe.out _ HGf.out) | (with_reducible exact HCe.out _ HGg.out) | (with_reducible exact HCe.out _ HGh.out))
              (first
                | (go_at_call 18; (with_reducible refine (HLe.out _ HGy.out).mono ?_); rintro r wa ⟨rfl, rfl⟩)
                | (go_at_call 12; (with_reducible refine (HTl.out _ HGy.out).mono ?_); rintro r wb ⟨rfl, H5⟩; have HGe := hid (HGy.out.below H5.out); clear H5)
                | (go_at_call 19; (with_reducible refine (HHa.out _ HGe.out).mono ?_); rintro r wc ⟨rfl, H5⟩; have HGf := hid (HGe.out.below H5.out); clear H5)
                | (go_at_call 12; (with_reducible refine (HTl.out _ HGf.out).mono ?_); rintro r wd ⟨rfl, H5⟩; have HGg := hid (HGf.out.below H5.out); clear H5)
                | (go_at_call 20; (with_reducible refine (HRh.out _ HGg.out).mono ?_); rintro r we ⟨rfl, H5⟩; have HGh := hid (HGg.out.below H5); clear H5))
          all_goals
            have HG0 := hid HGh.out
            clear HGx HGy HGe HGf HGg HGh HLe HHa HRh HTl
            obtain ⟨_, _, _, cl0⟩ := HCe.out _ HG0.out
            go_wp2_with fail
            clear cl0
            go_loopw [129] (fun z W' => ∃ i : Nat, i ≤ N ∧ z = .int .i64 i ∧ Hid (PlG w B rm sz M T1 L1 B2 T1 (.slice av N cv) qs1 sb kd ap lp cp rp W')) (fun z _ => N - (intOf z).toNat)
            case atStart => exact ⟨0, Nat.zero_le _, rfl, HG0⟩
            case round =>
            obtain ⟨i, hi, rfl, HGi⟩ := hrel
            rename World => wi
            clear HG0
            by_cases hin : i < N
            · have gi : (i : Int) < (N : Int) := by omega
              obtain ⟨g, rfl, z1, z2, z3⟩ := HAt.out i hin _ HGi.out
              obtain ⟨wj, hwj⟩ : ∃ wj, wj = wi.alloc (.cells #[.slice (rk qs1 i).ap (rk qs1 i).toks.length (rk qs1 i).cp, .int .u64 (rk qs1 i).rep, .int .i64 (rk qs1 i).used] 45) := ⟨_, rfl⟩
              have HGj := hid (HGi.out.below (W' := wj) (by rw [hwj]; exact (Below.refl _ _).alloc (Nat.le_refl _) _))
              have hH := HHm.out i hin _ HGj.out
              clear HGi
              generalize (rk qs1 i).ap = e1 at *
              generalize (rk qs1 i).toks.length = e2 at *
              generalize (rk qs1 i).cp = e3 at *
              generalize (rk qs1 i).rep = e4 at *
              generalize (rk qs1 i).used = e5 at *
              go_wp2_with fail
              rw [← hwj]
              clear hwj z1 z2 z3
              with_reducible refine hH.mono ?_
              rintro r wk ⟨rfl, Hk⟩
              have HGk := hid (HGj.out.below Hk.out)
              clear hH Hk HGj
              go_wp2_with fail
              go_round
              case rel => exact ⟨i + 1, by omega, by go_num, HGk⟩
              case measure => simp [intOf]; omega
            · have gi : ¬ (i : Int) < (N : Int) := by omega
              have HSx : Hid (PlS w B rm sz M T1 L1 B2 (.slice av N cv) qs1 wi) := HGi.out.to HPl.out.1 HPl.out.2
              clear HGi HAt HHm HCe HPl
              go_wp2_with fail
              go_round
              case rel => exact ⟨k + 1, T1, L1, _, qs1, by omega, by go_num, HTb, HSx⟩
              case measure => simp [intOf]; omega
      · by_cases h2 : rr = 2
        · subst h2
          have HFg : Hid (∀ W' : World, PlG w B rm sz M T L B2 T v qs sb kd ap lp cp rp W' → Calls Try.prog 14 #[.pointer (some ⟨B, 0, none⟩), .int .u64 rp] W' fun e w' => e = .returned (.int .i64 ((L.length : Int) - (forL L rp).length)) ∧ Hid (PlG w B rm sz M T (forL L rp) B2 T v qs sb kd ap lp cp rp w')) := fun W' h => (forget_any h.g.st.tr HTx2.out.2.2).mono fun e w' ⟨he, H⟩ => ⟨he, h.left H.out⟩
          have HRf : Hid (∀ W' : World, PlG w B rm sz M T (forL L rp) B2 T v qs sb kd ap lp cp rp W' → Calls Try.prog 15 #[.pointer (some ⟨B2, 0, none⟩), .int .u64 rp] W' fun e w' => e = .returned (.int .i64 ((L.length : Int) - (forL L rp).length)) ∧ Hid (∃ v', PlG w B rm sz M T (forL L rp) B2 T v' (forR qs rp) sb kd ap lp cp rp w')) := fun W' h => (rforget_any rp W' h.rt).mono fun e w' ⟨he, H⟩ => ⟨by rw [he, both_len HLC.out.1, both_len (both_forget HLC.out.1 rp)], h.right H.out⟩
          obtain ⟨D, HD⟩ : ∃ D, Hid ((L.length : Int) - (forL L rp).length = D) := ⟨_, rfl⟩
          rw [HD.out] at HFg HRf
          go_wp2_with fail
          rw [← hw4]
          clear hsb hw4 q1 q2 q3 y0
          go_region_held3 (fun W' : World => W'.cell? ⟨sb, 0, none⟩ = some (.int .u8 kd) ∧ W'.cell? ⟨sb, 1, none⟩ = some (.slice ap lp cp) ∧ W'.cell? ⟨sb, 2, none⟩ = some (.int .u64 rp))
            (first | (with_reducible exact HCe0.out _ _ _ _ _ _ HG.out) | (with_reducible exact HCe0.out _ _ _ _ _ _ HGd0.out) | (with_reducible exact HCe0.out _ _ _ _ _ _ HG1.out) | (with_reducible exact HCe0.out _ _ _ _ _ _ HG2.out))
            (first
              | (go_at_call 14; (with_reducible refine (HFg.out _ HGd0.out).mono ?_); rintro r x1 ⟨rfl, H5⟩; have HG1 := hid H5.out; clear H5)
              | (go_at_call 15; (with_reducible refine (HRf.out _ HG1.out).mono ?_); rintro r x2 ⟨rfl, H5⟩; obtain ⟨v1, hg2⟩ := H5.out; have HG2 := hid hg2; clear H5 hg2))
          all_goals
            have HLk : Hid (((forR qs rp).map Rk.em).Perm ((forL L rp).map Mk.tr) ∧ Cls sz (forL L rp)) := ⟨both_forget HLC.out.1 rp, HLC.out.2.forget rp⟩
            have HGx := hid HG2.out
            have HTb : Hid (0 ≤ T ∧ T ≤ ((k + 1 : Nat) : Int)) := by have := HTb0.out; unfold Hid; omega
            clear HG HGd0 HG1 HG2 HFg HRf HLC HCe0 HD hr' hrr hwr
            generalize forL L rp = L1 at *
            generalize forR qs rp = qs1 at *
            obtain ⟨T1, HT1⟩ : ∃ T1, Hid (T1 = T) := ⟨_, rfl⟩
            rw [← HT1.out] at HGx HTb
            clear HT1
            have HLn := hid (both_len HLk.out.1)
            obtain ⟨av, cv, hv1, rv, mv⟩ := HGx.out.rt.isSl
            subst hv1
            obtain ⟨N, HN⟩ : ∃ N, Hid (qs1.length = N ∧ L1.length = N ∧ N ≤ 5000) := ⟨_, rfl, HLn.out.symm, HGx.out.rt.few⟩
            rw [HN.out.1] at HGx rv
            have HNn : Hid (N ≤ 5000) := HN.out.2.2
            obtain ⟨hb, Hhb⟩ : ∃ hb, Hid (hasM L1 rp tx = hb) := ⟨_, rfl⟩
            have HLe : Hid (∀ W' : World, PlG w B rm sz M T1 L1 B2 T1 (.slice av N cv) qs1 sb kd ap lp cp rp W' → Calls Try.prog 18 #[.pointer (some ⟨B, 0, none⟩)] W' fun e w' => e = .returned (.int .i64 N) ∧ w' = W') := fun W' h => by have := plen_any h.g.st.tr; rw [HN.out.2.1] at this; exact this
            have HHa : Hid (∀ W' : World, PlG w B rm sz M T1 L1 B2 T1 (.slice av N cv) qs1 sb kd ap lp cp rp W' → Calls Try.prog 19 #[.pointer (some ⟨B, 0, none⟩), .slice ap tl cp, .int .u64 rp] W' fun e w' => e = .returned (.bool hb) ∧ Hid (Below W'.heap.size W' w')) := fun W' h => by rw [← Hhb.out]; exact phas_any h.g.st.tr (HTx2.out.1.below h.g.st.bel) HTx2.out.2.1 (by omega) HTx2.out.2.2
            have HRh : Hid (∀ W' : World, PlG w B rm sz M T1 L1 B2 T1 (.slice av N cv) qs1 sb kd ap lp cp rp W' → Calls Try.prog 20 #[.pointer (some ⟨B2, 0, none⟩), .slice ap tl cp, .int .u64 rp] W' fun e w' => e = .returned (.bool hb) ∧ Below W'.heap.size W' w') := fun W' h => by
              rw [← Hhb.out, both_has HLk.out.1 h.g.st.tr.map.oks HTx2.out.2.2 HTx2.out.2.1]
              exact rhas_any _ _ _ _ _ _ h.rt (HTx2.out.1.below h.g.st.bel) (by omega)
            have HHm : Hid (∀ (i : Nat), i < N → ∀ W' : World, PlG w B rm sz M T1 L1 B2 T1 (.slice av N cv) qs1 sb kd ap lp cp rp W' → Calls Try.prog 19 #[.pointer (some ⟨B, 0, none⟩), .slice (rk qs1 i).ap (rk qs1 i).toks.length (rk qs1 i).cp, .int .u64 (rk qs1 i).rep] W' fun e w' => e = .returned (.bool true) ∧ Hid (Below W'.heap.size W' w')) := fun i hi W' h => by
              have hm := rk_mem (qs := qs1) (i := i) (by have := HN.out.1; omega)
              have hin := h.rt.ins _ hm
              have hp := phas_any h.g.st.tr (x := (rk qs1 i).rep) hin.rd hin.is hin.short hin.rep
              rw [(key_has h.g.st.tr.map.oks hin.rep hin.is).2 ((HLk.out.1.map keyE).mem_iff.1 (List.mem_map.2 ⟨_, List.mem_map_of_mem hm, rfl⟩))] at hp
              exact hp
            have HAt : Hid (∀ (i : Nat), i < N → ∀ W' : World, PlG w B rm sz M T1 L1 B2 T1 (.slice av N cv) qs1 sb kd ap lp cp rp W' → ∃ g, av = some ⟨g, 0, none⟩ ∧ W'.cell? ⟨g, i * 3, none⟩ = some (.slice (rk qs1 i).ap (rk qs1 i).toks.length (rk qs1 i).cp) ∧ W'.cell? ⟨g, i * 3 + 1, none⟩ = some (.int .u64 (rk qs1 i).rep) ∧ W'.cell? ⟨g, i * 3 + 2, none⟩ = some (.int .i64 (rk qs1 i).used)) := fun i hi W' h => by
              obtain ⟨g, cap', cur, hv, _⟩ := h.rt.isSome (k := i) (by have := HN.out.1; omega)
              have hav : av = some ⟨g, 0, none⟩ := by cases hv; rfl
              have hrt := h.rt
              rw [hav] at hrt
              exact ⟨g, hav, hrt.at (k := i) (by have := HN.out.1; omega)⟩
            have HTl : Hid (∀ W' : World, PlG w B rm sz M T1 L1 B2 T1 (.slice av N cv) qs1 sb kd ap lp cp rp W' → Calls Try.prog 12 #[.agg #[.int .u8 kd, .slice ap lp cp, .int .u64 rp]] W' fun e w' => e = .returned (.slice ap tl cp) ∧ Hid (Below W'.heap.size W' w')) := fun W' h => HTG.out _ h.g.st.bel
            have HPl := hid (HLk.out)
            clear Hhb HN HLn HLk HTx2
            have HCe : Hid (∀ W' : World, PlG w B rm sz M T1 L1 B2 T1 (.slice av N cv) qs1 sb kd ap lp cp rp W' → W'.cell? ⟨sb, 0, none⟩ = some (.int .u8 kd) ∧ W'.cell? ⟨sb, 1, none⟩ = some (.slice ap lp cp) ∧ W'.cell? ⟨sb, 2, none⟩ = some (.int .u64 rp) ∧ W'.cell? ⟨B2, 3, none⟩ = some (.slice av N cv)) := fun W' h => ⟨h.g.cells.1, h.g.cells.2.1, h.g.cells.2.2, h.rt.cells.2.2.2⟩
            go_wp2_with fail
            have HGy := hid (HGx.out.below (Below.refl _ _).drew)
            cases hb
            all_goals
              go_region_held3 (fun W' : World => W'.cell? ⟨sb, 0, none⟩ = some (.int .u8 kd) ∧ W'.cell? ⟨sb, 1, none⟩ = some (.slice ap lp cp) ∧ W'.cell? ⟨sb, 2, none⟩ = some (.int .u64 rp) ∧ W'.cell? ⟨B2, 3, none⟩ = some (.slice av N cv))
                (first | (with_reducible exact HCe.out _ HGx.out) | (with_reducible exact HCe.out _ HGy.out) | (with_reducible exact HCe.out _ HGe.out) | (with_reducible exact HCe.out _ HGf.out) | (with_reducible exact HCe.out _ HGg.out) | (with_reducible exact HCe.out _ HGh.out))
                (first
                  | (go_at_call 18; (with_reducible refine (HLe.out _ HGy.out).mono ?_); rintro r wa ⟨rfl, rfl⟩)
                  | (go_at_call 12; (with_reducible refine (HTl.out _ HGy.out).mono ?_); rintro r wb ⟨rfl, H5⟩; have HGe := hid (HGy.out.below H5.out); clear H5)
                  | (go_at_call 19; (with_reducible refine (HHa.out _ HGe.out).mono ?_); rintro r wc ⟨rfl, H5⟩; have HGf := hid (HGe.out.below H5.out); clear H5)
                  | (go_at_call 12; (with_reducible refine (HTl.out _ HGf.out).mono ?_); rintro r wd ⟨rfl, H5⟩; have HGg := hid (HGf.out.below H5.out); clear H5)
                  | (go_at_call 20; (with_reducible refine (HRh.out _ HGg.out).mono ?_); rintro r we ⟨rfl, H5⟩; have HGh := hid (HGg.out.below H5); clear H5))
            all_goals
              have HG0 := hid HGh.out
              clear HGx HGy HGe HGf HGg HGh HLe HHa HRh HTl
              obtain ⟨_, _, _, cl0⟩ := HCe.out _ HG0.out
              go_wp2_with fail
              clear cl0
              go_loopw [129] (fun z W' => ∃ i : Nat, i ≤ N ∧ z = .int .i64 i ∧ Hid (PlG w B rm sz M T1 L1 B2 T1 (.slice av N cv) qs1 sb kd ap lp cp rp W')) (fun z _ => N - (intOf z).toNat)
              case atStart => exact ⟨0, Nat.zero_le _, rfl, HG0⟩
              case round =>
              obtain ⟨i, hi, rfl, HGi⟩ := hrel
              rename World => wi
              clear HG0
              by_cases hin : i < N
              · have gi : (i : Int) < (N : Int) := by omega
                obtain ⟨g, rfl, z1, z2, z3⟩ := HAt.out i hin _ HGi.out
                obtain ⟨wj, hwj⟩ : ∃ wj, wj = wi.alloc (.cells #[.slice (rk qs1 i).ap (rk qs1 i).toks.length (rk qs1 i).cp, .int .u64 (rk qs1 i).rep, .int .i64 (rk qs1 i).used] 45) := ⟨_, rfl⟩
                have HGj := hid (HGi.out.below (W' := wj) (by rw [hwj]; exact (Below.refl _ _).alloc (Nat.le_refl _) _))
                have hH := HHm.out i hin _ HGj.out
                clear HGi
                generalize (rk qs1 i).ap = e1 at *
                generalize (rk qs1 i).toks.length = e2 at *
                generalize (rk qs1 i).cp = e3 at *
                generalize (rk qs1 i).rep = e4 at *
                generalize (rk qs1 i).used = e5 at *
                go_wp2_with fail
                rw [← hwj]
                clear hwj z1 z2 z3
                with_reducible refine hH.mono ?_
                rintro r wk ⟨rfl, Hk⟩
                have HGk := hid (HGj.out.below Hk.out)
                clear hH Hk HGj
                go_wp2_with fail
                go_round
                case rel => exact ⟨i + 1, by omega, by go_num, HGk⟩
                case measure => simp [intOf]; omega
              · have gi : ¬ (i : Int) < (N : Int) := by omega
                have HSx : Hid (PlS w B rm sz M T1 L1 B2 (.slice av N cv) qs1 wi) := HGi.out.to HPl.out.1 HPl.out.2
                clear HGi HAt HHm HCe HPl
                go_wp2_with fail
                go_round
                case rel => exact ⟨k + 1, T1, L1, _, qs1, by omega, by go_num, HTb, HSx⟩
                case measure => simp [intOf]; omega
        · have h1' : (rr == 1) = false := by simpa using h1
          have h2' : (rr == 2) = false := by simpa using h2
          have HPt : Hid (∀ W' : World, PlG w B rm sz M T L B2 T v qs sb kd ap lp cp rp W' → Calls Try.prog 16 #[.pointer (some ⟨B, 0, none⟩), .slice ap tl cp, .int .u64 rp] W' fun e w' => ∃ c : Nat, e = .returned (.int .i64 c) ∧ Hid (∃ L', PutS L rp tx rm sz (T + 1) c L' ∧ PlG w B rm sz M (T + 1) L' B2 T v qs sb kd ap lp cp rp w')) := fun W' h => (put_any17 h.g.st.tr (by have := HTb0.out; omega) (HTx2.out.1.below h.g.st.bel) HTx2.out.2.1 (by omega) HTx2.out.2.2 (h.g.st.aft HTx2.out.1 (Nat.le_refl _))).mono fun e w' ⟨c, he, H⟩ => by
            obtain ⟨L', p1, p2⟩ := H.out
            exact ⟨c, he, L', p1, h.left p2⟩
          have HRp : Hid (∀ (L' : List Mk) (W' : World), PlG w B rm sz M (T + 1) L' B2 T v qs sb kd ap lp cp rp W' → Calls Try.prog 17 #[.pointer (some ⟨B2, 0, none⟩), .slice ap tl cp, .int .u64 rp] W' fun e w' => ∃ (q1 : List Rk) (c : Nat), e = .returned (.int .i64 c) ∧ Hid (PutP rm (T + 1) rp tx sz qs q1 c ∧ ∃ v', PlG w B rm sz M (T + 1) L' B2 (T + 1) v' q1 sb kd ap lp cp rp w')) := fun L' W' h => (rput_any _ _ _ _ rp _ h.rt (HTx2.out.1.below h.g.st.bel) (h.aft2 HTx2.out.1 (Nat.le_refl _)) HTx2.out.2.1 HTx2.out.2.2 (by omega) HTb0.out.1 (by have := HTb0.out; omega) Hsz.out.1 (by have := Hsz.out; omega) (by have := Hsz.out; omega) (by rw [both_len HLC.out.1]; exact HG.out.g.st.tr.len)).mono fun e w' ⟨q1, c, he, H⟩ => ⟨q1, c, he, H.out.1, h.right H.out.2.2⟩
          have HSa : Hid (∀ (L' : List Mk) (c : Nat) (q1 : List Rk) (c' : Nat), PutS L rp tx rm sz (T + 1) c L' → PutP rm (T + 1) rp tx sz qs q1 c' → c' = c ∧ Hid ((q1.map Rk.em).Perm (L'.map Mk.tr) ∧ Cls sz L')) := fun L' c q1 c' p1 p2 => by
            have htr := HG.out.g.st.tr
            have hold : ∀ m ∈ L, m.used < T + 1 := fun m hm => by have := htr.old m hm; omega
            obtain ⟨a1, a2⟩ := put_same htr.map.nodup htr.map.oks HTx2.out.2.2 HTx2.out.2.1 Hsz.out.1 hold htr.len HLC.out.2 HLC.out.1 p1 p2
            exact ⟨a1, a2, HLC.out.2.put Hsz.out.1 htr.map.nodup htr.map.oks HTx2.out.2.2 HTx2.out.2.1 hold p1⟩
          go_wp2_with fail
          rw [← hw4]
          clear hsb hw4 q1 q2 q3 y0
          go_region_held3 (fun W' : World => W'.cell? ⟨sb, 0, none⟩ = some (.int .u8 kd) ∧ W'.cell? ⟨sb, 1, none⟩ = some (.slice ap lp cp) ∧ W'.cell? ⟨sb, 2, none⟩ = some (.int .u64 rp))
            (first | (with_reducible exact HCe0.out _ _ _ _ _ _ HG.out) | (with_reducible exact HCe0.out _ _ _ _ _ _ HGd0.out) | (with_reducible exact HCe0.out _ _ _ _ _ _ HG1.out) | (with_reducible exact HCe0.out _ _ _ _ _ _ HG2.out) | (with_reducible exact HCe0.out _ _ _ _ _ _ HG3.out) | (with_reducible exact HCe0.out _ _ _ _ _ _ HG4.out))
            (first
              | (go_at_call 12; (with_reducible refine (HTG.out _ HGd0.out.g.st.bel).mono ?_); rintro r x1 ⟨rfl, H5⟩; have HG1 := hid (HGd0.out.below H5.out); clear H5)
              | (go_at_call 16; (with_reducible refine (HPt.out _ HG1.out).mono ?_); rintro r x2 ⟨c, rfl, H5⟩; obtain ⟨L1, hps, hg2⟩ := H5.out; have HG2 := hid hg2; have HPs := hid hps; clear H5 hg2 hps)
              | (go_at_call 12; (with_reducible refine (HTG.out _ HG2.out.g.st.bel).mono ?_); rintro r x3 ⟨rfl, H5⟩; have HG3 := hid (HG2.out.below H5.out); clear H5)
              | (go_at_call 17; (with_reducible refine (HRp.out _ _ HG3.out).mono ?_); rintro r x4 ⟨qs1, c', rfl, H5⟩; obtain ⟨hpp, v1, hg4⟩ := H5.out; obtain ⟨rfl, HLk⟩ := HSa.out _ _ _ _ HPs.out hpp; have HG4 := hid hg4; clear H5 hpp hg4))
          all_goals
            obtain ⟨T1, HT1⟩ : ∃ T1, Hid (T + 1 = T1) := ⟨_, rfl⟩
            have HGx := hid HG4.out
            have HTb : Hid (0 ≤ T1 ∧ T1 ≤ ((k + 1 : Nat) : Int)) := by have := HTb0.out; have := HT1.out; unfold Hid; omega
            rw [HT1.out] at HGx
            clear HG HGd0 HG1 HG2 HG3 HG4 HPs HPt HRp HSa HLC HCe0 HT1 hr' hrr hwr
            have HLn := hid (both_len HLk.out.1)
            obtain ⟨av, cv, hv1, rv, mv⟩ := HGx.out.rt.isSl
            subst hv1
            obtain ⟨N, HN⟩ : ∃ N, Hid (qs1.length = N ∧ L1.length = N ∧ N ≤ 5000) := ⟨_, rfl, HLn.out.symm, HGx.out.rt.few⟩
            rw [HN.out.1] at HGx rv
            have HNn : Hid (N ≤ 5000) := HN.out.2.2
            obtain ⟨hb, Hhb⟩ : ∃ hb, Hid (hasM L1 rp tx = hb) := ⟨_, rfl⟩
            have HLe : Hid (∀ W' : World, PlG w B rm sz M T1 L1 B2 T1 (.slice av N cv) qs1 sb kd ap lp cp rp W' → Calls Try.prog 18 #[.pointer (some ⟨B, 0, none⟩)] W' fun e w' => e = .returned (.int .i64 N) ∧ w' = W') := fun W' h => by have := plen_any h.g.st.tr; rw [HN.out.2.1] at this; exact this
            have HHa : Hid (∀ W' : World, PlG w B rm sz M T1 L1 B2 T1 (.slice av N cv) qs1 sb kd ap lp cp rp W' → Calls Try.prog 19 #[.pointer (some ⟨B, 0, none⟩), .slice ap tl cp, .int .u64 rp] W' fun e w' => e = .returned (.bool hb) ∧ Hid (Below W'.heap.size W' w')) := fun W' h => by rw [← Hhb.out]; exact phas_any h.g.st.tr (HTx2.out.1.below h.g.st.bel) HTx2.out.2.1 (by omega) HTx2.out.2.2
            have HRh : Hid (∀ W' : World, PlG w B rm sz M T1 L1 B2 T1 (.slice av N cv) qs1 sb kd ap lp cp rp W' → Calls Try.prog 20 #[.pointer (some ⟨B2, 0, none⟩), .slice ap tl cp, .int .u64 rp] W' fun e w' => e = .returned (.bool hb) ∧ Below W'.heap.size W' w') := fun W' h => by
              rw [← Hhb.out, both_has HLk.out.1 h.g.st.tr.map.oks HTx2.out.2.2 HTx2.out.2.1]
              exact rhas_any _ _ _ _ _ _ h.rt (HTx2.out.1.below h.g.st.bel) (by omega)
            have HHm : Hid (∀ (i : Nat), i < N → ∀ W' : World, PlG w B rm sz M T1 L1 B2 T1 (.slice av N cv) qs1 sb kd ap lp cp rp W' → Calls Try.prog 19 #[.pointer (some ⟨B, 0, none⟩), .slice (rk qs1 i).ap (rk qs1 i).toks.length (rk qs1 i).cp, .int .u64 (rk qs1 i).rep] W' fun e w' => e = .returned (.bool true) ∧ Hid (Below W'.heap.size W' w')) := fun i hi W' h => by
              have hm := rk_mem (qs := qs1) (i := i) (by have := HN.out.1; omega)
              have hin := h.rt.ins _ hm
              have hp := phas_any h.g.st.tr (x := (rk qs1 i).rep) hin.rd hin.is hin.short hin.rep
              rw [(key_has h.g.st.tr.map.oks hin.rep hin.is).2 ((HLk.out.1.map keyE).mem_iff.1 (List.mem_map.2 ⟨_, List.mem_map_of_mem hm, rfl⟩))] at hp
              exact hp
            have HAt : Hid (∀ (i : Nat), i < N → ∀ W' : World, PlG w B rm sz M T1 L1 B2 T1 (.slice av N cv) qs1 sb kd ap lp cp rp W' → ∃ g, av = some ⟨g, 0, none⟩ ∧ W'.cell? ⟨g, i * 3, none⟩ = some (.slice (rk qs1 i).ap (rk qs1 i).toks.length (rk qs1 i).cp) ∧ W'.cell? ⟨g, i * 3 + 1, none⟩ = some (.int .u64 (rk qs1 i).rep) ∧ W'.cell? ⟨g, i * 3 + 2, none⟩ = some (.int .i64 (rk qs1 i).used)) := fun i hi W' h => by
              obtain ⟨g, cap', cur, hv, _⟩ := h.rt.isSome (k := i) (by have := HN.out.1; omega)
              have hav : av = some ⟨g, 0, none⟩ := by cases hv; rfl
              have hrt := h.rt
              rw [hav] at hrt
              exact ⟨g, hav, hrt.at (k := i) (by have := HN.out.1; omega)⟩
            have HTl : Hid (∀ W' : World, PlG w B rm sz M T1 L1 B2 T1 (.slice av N cv) qs1 sb kd ap lp cp rp W' → Calls Try.prog 12 #[.agg #[.int .u8 kd, .slice ap lp cp, .int .u64 rp]] W' fun e w' => e = .returned (.slice ap tl cp) ∧ Hid (Below W'.heap.size W' w')) := fun W' h => HTG.out _ h.g.st.bel
            have HPl := hid (HLk.out)
            clear Hhb HN HLn HLk HTx2
            have HCe : Hid (∀ W' : World, PlG w B rm sz M T1 L1 B2 T1 (.slice av N cv) qs1 sb kd ap lp cp rp W' → W'.cell? ⟨sb, 0, none⟩ = some (.int .u8 kd) ∧ W'.cell? ⟨sb, 1, none⟩ = some (.slice ap lp cp) ∧ W'.cell? ⟨sb, 2, none⟩ = some (.int .u64 rp) ∧ W'.cell? ⟨B2, 3, none⟩ = some (.slice av N cv)) := fun W' h => ⟨h.g.cells.1, h.g.cells.2.1, h.g.cells.2.2, h.rt.cells.2.2.2⟩
            go_wp2_with fail
            have HGy := hid (HGx.out.below (Below.refl _ _).drew)
            cases hb
            all_goals
              go_region_held3 (fun W' : World => W'.cell? ⟨sb, 0, none⟩ = some (.int .u8 kd) ∧ W'.cell? ⟨sb, 1, none⟩ = some (.slice ap lp cp) ∧ W'.cell? ⟨sb, 2, none⟩ = some (.int .u64 rp) ∧ W'.cell? ⟨B2, 3, none⟩ = some (.slice av N cv))
                (first | (with_reducible exact HCe.out _ HGx.out) | (with_reducible exact HCe.out _ HGy.out) | (with_reducible exact HCe.out _ HGe.out) | (with_reducible exact HCe.out _ HGf.out) | (with_reducible exact HCe.out _ HGg.out) | (with_reducible exact HCe.out _ HGh.out))
                (first
                  | (go_at_call 18; (with_reducible refine (HLe.out _ HGy.out).mono ?_); rintro r wa ⟨rfl, rfl⟩)
                  | (go_at_call 12; (with_reducible refine (HTl.out _ HGy.out).mono ?_); rintro r wb ⟨rfl, H5⟩; have HGe := hid (HGy.out.below H5.out); clear H5)
                  | (go_at_call 19; (with_reducible refine (HHa.out _ HGe.out).mono ?_); rintro r wc ⟨rfl, H5⟩; have HGf := hid (HGe.out.below H5.out); clear H5)
                  | (go_at_call 12; (with_reducible refine (HTl.out _ HGf.out).mono ?_); rintro r wd ⟨rfl, H5⟩; have HGg := hid (HGf.out.below H5.out); clear H5)
                  | (go_at_call 20; (with_reducible refine (HRh.out _ HGg.out).mono ?_); rintro r we ⟨rfl, H5⟩; have HGh := hid (HGg.out.below H5); clear H5))
            all_goals
              have HG0 := hid HGh.out
              clear HGx HGy HGe HGf HGg HGh HLe HHa HRh HTl
              obtain ⟨_, _, _, cl0⟩ := HCe.out _ HG0.out
              go_wp2_with fail
              clear cl0
              go_loopw [129] (fun z W' => ∃ i : Nat, i ≤ N ∧ z = .int .i64 i ∧ Hid (PlG w B rm sz M T1 L1 B2 T1 (.slice av N cv) qs1 sb kd ap lp cp rp W')) (fun z _ => N - (intOf z).toNat)
              case atStart => exact ⟨0, Nat.zero_le _, rfl, HG0⟩
              case round =>
              obtain ⟨i, hi, rfl, HGi⟩ := hrel
              rename World => wi
              clear HG0
              by_cases hin : i < N
              · have gi : (i : Int) < (N : Int) := by omega
                obtain ⟨g, rfl, z1, z2, z3⟩ := HAt.out i hin _ HGi.out
                obtain ⟨wj, hwj⟩ : ∃ wj, wj = wi.alloc (.cells #[.slice (rk qs1 i).ap (rk qs1 i).toks.length (rk qs1 i).cp, .int .u64 (rk qs1 i).rep, .int .i64 (rk qs1 i).used] 45) := ⟨_, rfl⟩
                have HGj := hid (HGi.out.below (W' := wj) (by rw [hwj]; exact (Below.refl _ _).alloc (Nat.le_refl _) _))
                have hH := HHm.out i hin _ HGj.out
                clear HGi
                generalize (rk qs1 i).ap = e1 at *
                generalize (rk qs1 i).toks.length = e2 at *
                generalize (rk qs1 i).cp = e3 at *
                generalize (rk qs1 i).rep = e4 at *
                generalize (rk qs1 i).used = e5 at *
                go_wp2_with fail
                rw [← hwj]
                clear hwj z1 z2 z3
                with_reducible refine hH.mono ?_
                rintro r wk ⟨rfl, Hk⟩
                have HGk := hid (HGj.out.below Hk.out)
                clear hH Hk HGj
                go_wp2_with fail
                go_round
                case rel => exact ⟨i + 1, by omega, by go_num, HGk⟩
                case measure => simp [intOf]; omega
              · have gi : ¬ (i : Int) < (N : Int) := by omega
                have HSx : Hid (PlS w B rm sz M T1 L1 B2 (.slice av N cv) qs1 wi) := HGi.out.to HPl.out.1 HPl.out.2
                clear HGi HAt HHm HCe HPl
                go_wp2_with fail
                go_round
                case rel => exact ⟨k + 1, T1, L1, _, qs1, by omega, by go_num, HTb, HSx⟩
                case measure => simp [intOf]; omega
    · have g1 : ¬ (k : Int) < (n : Int) := by omega
      have HVE := hid HS.out.st.bel
      clear HS HTx HSp HSi
      go_wp2_with fail
      with_reducible refine (alive17_any _).mono ?_
      rintro e wz ⟨rfl, HZ0⟩
      have HZ := hid (HVE.out.trans (HZ0.out.mono HVE.out.size))
      clear HZ0
      go_wp2_with fail
      go_ret
      exact ⟨rfl, HZ.out⟩

/-! ### The row's step -/
set_option maxRecDepth 1000000 in
theorem lifted (os : Os) (started : os.Started) (H : Type) (enc : TypeId × Value → H) :
    ReturnsInHanded {} Try.checked os 3 .any (Rows.ptreePlaysSpec.pre6 enc Try.prog Try.f3 Rows.ptreePlaysRow.domain false) (Rows.ptreePlaysSpec.post enc Try.prog Try.f3 false true false false) := by
  refine returnsInHanded_of_change (C := Try.checked) own started (by kernel_rfl) Try.func3
    (ChangeSpec.witness6 (enc := enc) (C := Try.checked) false ⟨#[], #[.int .i64 0, .int .i64 0, .slice none 0 0], []⟩ 8 (by kernel_rfl) (by kernel_rfl) (by kernel_rfl) (by kernel_rfl)) ?_
  intro W base args ds gs before hval0 hW hcnd _
  have hval : ∀ (j : Nat) t v, Try.f3.params[j]? = some t → args[j]? = some v → Value.okWide Try.prog W .any base t v := hval0
  have hW' := hW
  obtain ⟨p, q, hA0, hV, rfl, hfz, hnd⟩ := hW
  have hA : DataW.TrodAll enc Try.prog W 0 (fun _ => true) true Try.f3.params.toList args.toList ds p := hA0
  rw [Try.params3] at hA hval
  obtain ⟨v0, vs0, d0, ds0, p0, q0, hargs, rfl, rfl, h0, r0⟩ := trodAll_cons hA
  obtain ⟨v1, vs1, d1, ds1, p1, q1, rfl, rfl, rfl, h1, r1⟩ := trodAll_cons r0
  obtain ⟨v2, vs2, d2, ds2, p2, q2, rfl, rfl, rfl, h2, r2⟩ := trodAll_cons r1
  obtain ⟨rfl, rfl, rfl⟩ := trodAll_nil r2
  obtain rfl : args = #[v0, v1, v2] := by cases args; simp_all
  obtain ⟨rfl, rfl⟩ := trodVars_none hV
  have k0 := h0
  have lt0 : ∀ x ∈ p0, x.block < W.heap.size := by obtain ⟨m, hm⟩ := k0; exact DataW.trod_lt m _ _ _ hm
  obtain ⟨a0, rfl, ga0⟩ := inum_open (hval 0 3 v0 rfl rfl) h0
  have k1 := h1
  have lt1 : ∀ x ∈ p1, x.block < W.heap.size := by obtain ⟨m, hm⟩ := k1; exact DataW.trod_lt m _ _ _ hm
  obtain ⟨a1, rfl, ga1⟩ := inum_open (hval 1 3 v1 rfl rfl) h1
  have k2 := h2
  have lt2 : ∀ x ∈ p2, x.block < W.heap.size := by obtain ⟨m, hm⟩ := k2; exact DataW.trod_lt m _ _ _ hm
  obtain ⟨a2, l2, c2, xs2, rfl, ga2⟩ := steps17_open (hval 2 22 v2 rfl rfl) h2
  clear hA0 hval0
  refine (walk a0 a1 a2 l2 c2 xs2 W ga0 ga1 ga2).mono fun e W' ⟨he, bel⟩ => ?_
  subst he
  exact ⟨_, rfl, _, _, _, [], _, [], hW', trodAll_mk1 (shut_bool Try.underlying4 _), (trodAll_cons_mk (Below.trod laidOut (by kernel_rfl) (of_decide_eq_true (by kernel_rfl)) k0 bel lt0) (trodAll_cons_mk (Below.trod laidOut (by kernel_rfl) (of_decide_eq_true (by kernel_rfl)) k1 bel lt1) (trodAll_cons_mk (Below.trod laidOut (by kernel_rfl) (of_decide_eq_true (by kernel_rfl)) k2 bel lt2) trodAll_mk0))), rfl, bel.frame _, fun h => by cases h⟩

theorem over : Rows.ptreePlaysRow.holds Try.pinned (OpenSpec.ofChange Rows.ptreePlaysSpec) :=
  OpenClaim.holds_of_wide 3 Try.f3 rfl rfl rfl rfl rfl rfl rfl ⟨rfl, rfl, rfl, rfl, rfl⟩ rfl rfl rfl rfl rfl (by kernel_rfl) Try.func3 (by kernel_rfl)
    (of_decide_eq_true (by kernel_rfl)) (by unfold Func.isWrapper; first | (rw [if_pos (by decide +kernel)]; kernel_rfl) | (rw [if_neg (by decide +kernel)]; exact ⟨rfl, rfl⟩))
    (fun os started H enc _ => lifted os started H enc)

/-- The statement. -/
theorem proved : Rows.PtreePlaysSaid := over
#print axioms proved
end Go.Proofs.Ytdchoegaindnbaa.ptreePlays
