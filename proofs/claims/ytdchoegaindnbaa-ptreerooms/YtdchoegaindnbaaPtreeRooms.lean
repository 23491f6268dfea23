/-
  PtreeRooms: there are never more marks than room; what was put is matched at once, as far as it has marks.
-/
import Derived.Test.YtdchoegaindnbaaRows
import Derived.Test.YtdchoegaindnbaaPtRm
import Derived.Deep.RegionHeld3
import Derived.WalkKit
import Derived.ProofKit
import Derived.OpenShut
import Derived.ShutString
import Derived.ChangeOld
import Derived.Below
namespace Go.Proofs.Ytdchoegaindnbaa.ptreeRooms
open Go.ChangeShapes Go.WideShapes Go.ChangeAt Go.RowKit
open Go.ChangeMaps (open_string shut_string)
set_option linter.unusedVariables false

theorem own : ownKnob Try.prog.godebug = none := by kernel_rfl
theorem laidOut : laidOutB Try.prog = true := by kernel_rfl

/-! ### The walk -/
set_option maxRecDepth 1000000 in
set_option maxHeartbeats 8000000 in
theorem walk (a0 : Int) (a1 : Int) (a2 : Option Addr) (l2 c2 : Nat) (xs2 : List Sp) (w : World) (ga0 : 0 ≤ a0 ∧ a0 ≤ 255) (ga1 : 0 ≤ a1 ∧ a1 ≤ 255) (ga2 : Lst w a2 l2 c2 3 xs2 SpV (fun s => SpIn w s)) :
    Calls Try.prog 4 #[.int .u8 a0, .int .u8 a1, .slice a2 l2 c2] w fun e w' => e = .returned (.bool true) ∧ Below w.heap.size w w' := by
  have HSp := hid fun (W' : World) (hb : Below w.heap.size w W') => ga2.below hb
  have HSi : Hid (∀ k s, xs2[k]? = some s → SpIn w s) := fun k s h => by
    obtain ⟨hk, rfl⟩ := List.getElem?_eq_some_iff.1 h
    exact ga2.inn k hk
  have HTx : Hid (∀ s : Sp, SpIn w s → ∀ W' : World, Below w.heap.size w W' → Calls Try.prog 12 #[.agg #[.int .u8 s.kd, .slice s.ap s.lp s.cp, .int .u64 s.rep]] W' fun e w' => e = .returned (.slice s.ap (min s.lp 40) s.cp) ∧ Hid (Below W'.heap.size W' w')) := fun s hs W' hb => stext_any s W' (hs.below hb)
  have hSh := fun W' => short_any a2 l2 c2 W' ga2.room ga2.most
  obtain ⟨n, Hn⟩ : ∃ n, Hid (min l2 60 = n) := ⟨_, rfl⟩
  rw [Hn.out] at hSh
  have hn1 : n ≤ l2 ∧ n ≤ 60 := by have := Hn.out; omega
  have r1 := ga2.room
  have m1 := ga2.most
  have HSh := hid hSh
  clear ga2 hSh
  obtain ⟨rm, Hrm⟩ : ∃ rm : Nat, Hid ((rm : Int) = a0.tmod 20 + 1 ∧ 1 ≤ rm ∧ rm ≤ 20) := ⟨(a0.tmod 20 + 1).toNat, by
    rw [Int.tmod_eq_emod_of_nonneg ga0.1]
    refine ⟨by omega, by omega, by omega⟩⟩
  obtain ⟨sz, Hsz⟩ : ∃ sz : Nat, Hid ((sz : Int) = a1.tmod 5 + 1 ∧ 1 ≤ sz ∧ sz ≤ 5) := ⟨(a1.tmod 5 + 1).toNat, by
    rw [Int.tmod_eq_emod_of_nonneg ga1.1]
    refine ⟨by omega, by omega, by omega⟩⟩
  have ca0 : IntKind.i64.wrap a0 = a0 := wrap64_in (by have := ga0; omega) (by have := ga0; omega)
  have ca1 : IntKind.i64.wrap a1 = a1 := wrap64_in (by have := ga1; omega) (by have := ga1; omega)
  obtain ⟨r0, hr0⟩ : ∃ r0, a0.tmod 20 = r0 := ⟨_, rfl⟩
  obtain ⟨s0, hs0⟩ : ∃ s0, a1.tmod 5 = s0 := ⟨_, rfl⟩
  have hr1 : IntKind.i64.wrap r0 = r0 := by have := Hrm.out; rw [hr0] at this; exact wrap64_in (by omega) (by omega)
  have hs1 : IntKind.i64.wrap s0 = s0 := by have := Hsz.out; rw [hs0] at this; exact wrap64_in (by omega) (by omega)
  have hr2 : r0 + 1 = (rm : Int) := by rw [← hr0]; exact Hrm.out.1.symm
  have hs2 : s0 + 1 = (sz : Int) := by rw [← hs0]; exact Hsz.out.1.symm
  have hr3 : IntKind.i64.wrap (rm : Int) = (rm : Int) := by have := Hrm.out; exact wrap64_in (by omega) (by omega)
  have hs3 : IntKind.i64.wrap (sz : Int) = (sz : Int) := by have := Hsz.out; exact wrap64_in (by omega) (by omega)
  have hN := pnew_yes rm sz w (by have := Hrm.out; omega) (by have := Hsz.out; omega)
  go_enter Try.func4, Try.ntmps4
  go_wp2_with fail
  with_reducible refine hN.mono ?_
  rintro r w1 ⟨rfl, H1⟩
  clear hN
  have HS0 : Hid (PtS w (w.heap.size + 1) rm sz w.heap.size 0 [] w1 ∧ MuL sz []) := ⟨⟨H1.out.1, by
    rintro k (rfl | rfl | ⟨m, hm, _⟩)
    · omega
    · omega
    · simp at hm, H1.out.2⟩, fun m hm => by simp at hm⟩
  clear H1
  obtain ⟨B, HB⟩ : ∃ B, Hid (w.heap.size + 1 = B) := ⟨_, rfl⟩
  rw [HB.out] at HS0
  rw [HB.out]
  obtain ⟨M, HS1⟩ : ∃ M, Hid (PtS w B rm sz M 0 [] w1 ∧ MuL sz []) := ⟨_, HS0.out⟩
  clear HS0 HB
  go_wp2_with fail
  with_reducible refine (HSh.out _).mono ?_
  rintro r w2 ⟨rfl, rfl⟩
  go_wp2_with fail
  go_loopw [38] (fun z W' => ∃ (k : Nat) (L : List Mk), k ≤ n ∧ z = .int .i64 k ∧ Hid (PtS w B rm sz M ((2 * k : Nat) : Int) L W' ∧ MuL sz L)) (fun z _ => n - (intOf z).toNat)
  case atStart => exact ⟨0, [], by omega, rfl, HS1⟩
  case round =>
  obtain ⟨k, L, hk, rfl, HS⟩ := hrel
  rename World => w2
  clear HS1
  by_cases hkl : k < n
  · have g1 : (k : Int) < (n : Int) := by omega
    obtain ⟨b, off, s, rfl, hsk, hsi, q1, q2, q3⟩ := (HSp.out _ HS.out.1.bel).at (i := k) (by omega)
    have HK := hid (HSi.out k s hsk)
    obtain ⟨T, hT⟩ : ∃ T, ((2 * k : Nat) : Int) = T := ⟨_, rfl⟩
    have HTm : Hid (T < 1000) := by unfold Hid; omega
    have HT1 : Hid (T + 1 + 1 = ((2 * (k + 1) : Nat) : Int)) := by unfold Hid; omega
    rw [hT] at HS
    clear hT
    obtain ⟨w3, hw3⟩ : ∃ w3, w3 = w2.alloc (.cells #[.int .u8 s.kd, .slice s.ap s.lp s.cp, .int .u64 s.rep] 35) := ⟨_, rfl⟩
    obtain ⟨sb, hsb⟩ : ∃ sb, w2.heap.size = sb := ⟨_, rfl⟩
    have HG : Hid (PtG w B rm sz M T L sb s.kd s.ap s.lp s.cp s.rep w3) := by rw [← hsb]; exact PtG.new HS.out.1 hw3
    have HMu := hid HS.out.2
    obtain ⟨tl, Htl⟩ : ∃ tl, Hid (min s.lp 40 = tl ∧ s.txt.length = tl) := ⟨_, rfl, Sp.txt_len HK.out⟩
    have htl : tl ≤ 40 ∧ tl ≤ s.lp := by have := Htl.out; omega
    have hlp : s.lp ≤ s.cp ∧ s.cp ≤ 9223372036854775807 := ⟨HK.out.rd.room, HK.out.rd.most⟩
    have HTG : Hid (∀ (T : Int) (L : List Mk) (W' : World), PtG w B rm sz M T L sb s.kd s.ap s.lp s.cp s.rep W' → Calls Try.prog 12 #[.agg #[.int .u8 s.kd, .slice s.ap s.lp s.cp, .int .u64 s.rep]] W' fun e w' => e = .returned (.slice s.ap tl s.cp) ∧ Hid (Below W'.heap.size W' w')) := fun T L W' h => by rw [← Htl.out.1]; exact HTx.out s HK.out _ h.st.bel
    have HPG : Hid (∀ W' : World, PtG w B rm sz M T L sb s.kd s.ap s.lp s.cp s.rep W' → Calls Try.prog 16 #[.pointer (some ⟨B, 0, none⟩), .slice s.ap tl s.cp, .int .u64 s.rep] W' fun e w' => ∃ c : Nat, e = .returned (.int .i64 c) ∧ Hid (∃ L', PutS L s.rep s.txt rm sz (T + 1) c L' ∧ TrO W' B rm sz M L (T + 1) L' w')) := fun W' h => by
      rw [← Htl.out.1]
      exact put_any17 h.st.tr (by have := HTm.out; omega) (HK.out.txt.below h.st.bel) HK.out.txtIs (by omega) HK.out.rep (h.st.aft HK.out.rd (by omega))
    have HMt : Hid (∀ (L : List Mk) (W' : World), PtG w B rm sz M (T + 1) L sb s.kd s.ap s.lp s.cp s.rep W' → Calls Try.prog 11 #[.pointer (some ⟨B, 0, none⟩), .slice s.ap tl s.cp] W' fun e w' => ∃ b, e = .returned (.map (some b)) ∧ Hid (TrO W' B rm sz M L (T + 1 + 1) (useL L s.txt (T + 1 + 1)) w' ∧ W'.heap.size ≤ b ∧ ∃ K f, UmAt w' b K f ∧ LgP (L.filter fun m => decide (m.toks <+: s.txt)) K f)) := fun L W' h => by
      rw [← Htl.out.1]
      exact match_any h.st.tr (by have := HTm.out; omega) (HK.out.txt.below h.st.bel) HK.out.txtIs (by omega) (h.st.aft HK.out.rd (by omega))
    have HHs : Hid (∀ (L : List Mk) (j : Nat), (j + 1) * sz ≤ tl → ∀ W' : World, PtG w B rm sz M (T + 1) L sb s.kd s.ap s.lp s.cp s.rep W' → Calls Try.prog 19 #[.pointer (some ⟨B, 0, none⟩), .slice s.ap ((j + 1) * sz) s.cp, .int .u64 s.rep] W' fun e w' => e = .returned (.bool (hasM L s.rep (s.txt.take ((j + 1) * sz)))) ∧ Hid (Below W'.heap.size W' w')) := fun L j hj W' h => by
      have e2 := Htl.out.1
      exact phas_any h.st.tr (x := s.rep) ((HK.out.txt.below h.st.bel).cut (m := (j + 1) * sz) (by omega)) (fun y hy => HK.out.txtIs y (List.mem_of_mem_take hy)) (by omega) HK.out.rep
    clear hsk hsi HS
    go_wp2_with fail
    rw [← hw3]
    clear hsb hw3 q1 q2 q3
    have HGd := hid HG.out.drew
    have HFp : Hid (∀ (L' : List Mk) (c : Nat) (W' : World), PutS L s.rep s.txt rm sz (T + 1) c L' → PtG w B rm sz M (T + 1) L' sb s.kd s.ap s.lp s.cp s.rep W' → MuL sz L' ∧ (sz ≤ tl → 0 < far L' s.rep s.txt sz (tl / sz))) := fun L' c W' hp h => by
      refine ⟨HMu.out.put hp, fun hl => ?_⟩
      rw [← Htl.out.2] at hl ⊢
      exact far_pos HG.out.st.tr.map.nodup HG.out.st.tr.map.oks h.st.tr.map.oks HK.out.rep HK.out.txtIs Hrm.out.2.1 Hsz.out.2.1 hp hl
    have HFe : Hid (∀ (L' : List Mk) (W' : World) (K : List Int) (f : Int → Int), PtG w B rm sz M (T + 1) L' sb s.kd s.ap s.lp s.cp s.rep W' → MuL sz L' → LgP (L'.filter fun m => decide (m.toks <+: s.txt)) K f → f s.rep = far L' s.rep s.txt sz (tl / sz)) := fun L' W' K f h hm hl => by
      rw [← Htl.out.2]
      exact far_eq h.st.tr.map.oks Hsz.out.2.1 hm HK.out.rep HK.out.txtIs hl
    have HRp := hid HK.out.rep
    clear HK Htl
    obtain ⟨tx, Htx⟩ : ∃ tx, Hid (s.txt = tx) := ⟨_, rfl⟩
    rw [Htx.out] at HPG HMt HHs HFp HFe
    generalize s.kd = kd at *
    generalize s.ap = ap at *
    generalize s.lp = lp at *
    generalize s.cp = cp at *
    generalize s.rep = rp at *
    clear Htx
    go_region_held3 (fun W' : World => W'.cell? ⟨sb, 0, none⟩ = some (.int .u8 kd) ∧ W'.cell? ⟨sb, 1, none⟩ = some (.slice ap lp cp) ∧ W'.cell? ⟨sb, 2, none⟩ = some (.int .u64 rp))
      (first | (with_reducible exact HG.out.cells) | (with_reducible exact HGd.out.cells) | (with_reducible exact HG5.out.cells) | (with_reducible exact HG6.out.cells))
      (first
        | (go_at_call 12; (with_reducible refine (HTG.out _ _ _ HGd.out).mono ?_); rintro r w5 ⟨rfl, H5⟩; have HG5 := hid (HGd.out.below H5.out); clear H5)
        | (go_at_call 16; (with_reducible refine (HPG.out _ HG5.out).mono ?_); rintro r w6 ⟨c, rfl, H6⟩; obtain ⟨L', hps, ho6⟩ := H6.out; have HG6 := hid (HG5.out.step ho6); have HPs := hid hps; clear H6 hps ho6))
    all_goals
      have HI0 := hid HG6.out
      have HQ := hid (HFp.out _ _ _ HPs.out HG6.out)
      clear HG HGd HG5 HG6 HPs HPG HFp HMu
      obtain ⟨y0, y1, y2⟩ := HI0.out.cells
      clear y0 y1 y2
      go_wp2_with fail
      go_loopw [13, 14] (fun u z W' => ∃ j : Nat, j ≤ 40 ∧ j ≤ tl / sz ∧ u = .int .i64 ((far L' rp tx sz j : Nat) : Int) ∧ z = .int .i64 (((j + 1) * sz : Nat) : Int) ∧ Hid (PtG w B rm sz M (T + 1) L' sb kd ap lp cp rp W')) (fun _ z _ => 100 - (intOf z).toNat)
      case atStart => exact ⟨0, by omega, Nat.zero_le _, rfl, by rw [Nat.zero_add, Nat.one_mul], HI0⟩
      case round =>
      obtain ⟨j, hj, hjd, rfl, rfl, HG⟩ := hrel
      rename World => w9
      clear HI0
      have hszp : 0 < sz := Hsz.out.2.1
      obtain ⟨J, HJ⟩ : ∃ J, Hid ((j + 1) * sz = J) := ⟨_, rfl⟩
      have HJd : Hid (J ≤ tl ↔ j < tl / sz) := by
        rw [← HJ.out]
        unfold Hid
        rw [Nat.lt_iff_add_one_le, Nat.le_div_iff_mul_le hszp]
      have HJ2 : Hid ((j + 1 + 1) * sz = J + sz ∧ sz ≤ 5) := ⟨by rw [← HJ.out, Nat.succ_mul], Hsz.out.2.2⟩
      have HHj0 := hid fun h => HHs.out L' j h
      rw [HJ.out] at HHj0
      rw [HJ.out]
      obtain ⟨Fa, HFa⟩ : ∃ Fa, Hid (far L' rp tx sz j = Fa) := ⟨_, rfl⟩
      rw [HFa.out]
      obtain ⟨y0, y1, y2⟩ := HG.out.cells
      have hT9 := HTG.out _ _ _ HG.out
      go_wp2_with fail
      with_reducible refine hT9.mono ?_
      rintro r w10 ⟨rfl, H10⟩
      replace HG := hid (HG.out.below H10.out)
      clear hT9 H10 y0 y1 y2
      by_cases hjt : J ≤ tl
      · have g3 : (J : Int) ≤ (tl : Int) := by omega
        have HHj := hid (HHj0.out hjt)
        have HGd := hid HG.out.drew
        have hJc : J ≤ cp := by omega
        have hwJ : IntKind.i64.wrap ((J : Int) + (sz : Int)) = ((J + sz : Nat) : Int) := by have := HJ2.out.2; rw [wrap64_in (by omega) (by omega)]; omega
        go_wp2_with fail
        by_cases hh : hasM L' rp (tx.take J) = true
        · rw [hh] at HHj
          have HFn : Hid (J = far L' rp tx sz (j + 1)) := by unfold Hid far; rw [HJ.out, if_pos hh]
          clear hh
          go_region_held3 (fun W' : World => W'.cell? ⟨sb, 0, none⟩ = some (.int .u8 kd) ∧ W'.cell? ⟨sb, 1, none⟩ = some (.slice ap lp cp) ∧ W'.cell? ⟨sb, 2, none⟩ = some (.int .u64 rp))
            (first | (with_reducible exact HG.out.cells) | (with_reducible exact HGd.out.cells) | (with_reducible exact HG5.out.cells) | (with_reducible exact HG6.out.cells))
            (first
              | (go_at_call 12; (with_reducible refine (HTG.out _ _ _ HGd.out).mono ?_); rintro r w13 ⟨rfl, H5⟩; have HG5 := hid (HGd.out.below H5.out); clear H5)
              | (go_at_call 19; (with_reducible refine (HHj.out _ HG5.out).mono ?_); rintro r w14 ⟨rfl, H6⟩; have HG6 := hid (HG5.out.below H6.out); clear H6))
          all_goals
            have HGE := hid HG6.out
            clear HG HGd HG5 HG6 HHj HHj0
            go_wp2_with fail
            go_round
            case rel => exact ⟨j + 1, by have := HJd.out.1 hjt; have := HJ.out; have h5 := Nat.div_le_self tl sz; omega, HJd.out.1 hjt, by rw [← HFn.out], by rw [HJ2.out.1, Int.natCast_add], HGE⟩
            case measure => have := HJ2.out; simp [intOf]; omega
        · have hh2 : hasM L' rp (tx.take J) = false := by simpa using hh
          rw [hh2] at HHj
          have HFn : Hid (Fa = far L' rp tx sz (j + 1)) := by unfold Hid far; rw [HJ.out, if_neg hh, HFa.out]
          clear hh hh2
          go_region_held3 (fun W' : World => W'.cell? ⟨sb, 0, none⟩ = some (.int .u8 kd) ∧ W'.cell? ⟨sb, 1, none⟩ = some (.slice ap lp cp) ∧ W'.cell? ⟨sb, 2, none⟩ = some (.int .u64 rp))
            (first | (with_reducible exact HG.out.cells) | (with_reducible exact HGd.out.cells) | (with_reducible exact HG5.out.cells) | (with_reducible exact HG6.out.cells))
            (first
              | (go_at_call 12; (with_reducible refine (HTG.out _ _ _ HGd.out).mono ?_); rintro r w13 ⟨rfl, H5⟩; have HG5 := hid (HGd.out.below H5.out); clear H5)
              | (go_at_call 19; (with_reducible refine (HHj.out _ HG5.out).mono ?_); rintro r w14 ⟨rfl, H6⟩; have HG6 := hid (HG5.out.below H6.out); clear H6))
          all_goals
            have HGE := hid HG6.out
            clear HG HGd HG5 HG6 HHj HHj0
            go_wp2_with fail
            go_round
            case rel => exact ⟨j + 1, by have := HJd.out.1 hjt; have := HJ.out; have h5 := Nat.div_le_self tl sz; omega, HJd.out.1 hjt, by rw [← HFn.out], by rw [HJ2.out.1, Int.natCast_add], HGE⟩
            case measure => have := HJ2.out; simp [intOf]; omega
      · have g3 : ¬ (J : Int) ≤ (tl : Int) := by omega
        obtain rfl : j = tl / sz := by
          have := HJd.out
          omega
        obtain ⟨y0, y1, y2⟩ := HG.out.cells
        have hT9 := HTG.out _ _ _ HG.out
        go_wp2_with fail
        with_reducible refine hT9.mono ?_
        rintro r w11 ⟨rfl, H11⟩
        replace HG := hid (HG.out.below H11.out)
        clear hT9 H11 y0 y1 y2
        have hMt := HMt.out _ _ HG.out
        go_wp2_with fail
        with_reducible refine hMt.mono ?_
        rintro r w12 ⟨b', rfl, H12⟩
        obtain ⟨ho, _, K, f, hum, hlg⟩ := H12.out
        have hlk := hum.look HRp.out
        have hfe := HFe.out _ _ _ _ HG.out HQ.out.1 hlg
        rw [hfe, HFa.out] at hlk
        have HG12 := hid (HG.out.step ho)
        have HMu12 := hid (HQ.out.1.use tx (T + 1 + 1))
        have hLn := plen_any HG12.out.st.tr
        obtain ⟨N, HN⟩ : ∃ N, Hid ((useL L' tx (T + 1 + 1)).length = N ∧ N ≤ rm) := ⟨_, rfl, HG12.out.st.tr.len⟩
        rw [HN.out.1] at hLn
        have hNr : ¬ (rm : Int) < (N : Int) := by have := HN.out.2; omega
        have HT12 := HTG.out _ _ _ HG12.out
        obtain ⟨y0, y1, y2⟩ := HG12.out.cells
        have HS12 : Hid (∀ W' : World, Below w12.heap.size w12 W' → PtS w B rm sz M ((2 * (k + 1) : Nat) : Int) (useL L' tx (T + 1 + 1)) W' ∧ MuL sz (useL L' tx (T + 1 + 1))) := fun W' hb => by
          rw [← HT1.out]
          exact ⟨HG12.out.st.below hb, HMu12.out⟩
        have hc0 : ¬ (c : Int) < 0 := by omega
        clear hMt H12 ho hum hlg HG HMt HHs hfe HFe HG12 HMu12
        go_wp2_with fail
        with_reducible refine hLn.mono ?_
        rintro r w13 ⟨rfl, rfl⟩
        by_cases hst : sz ≤ tl
        · have g4 : (sz : Int) ≤ (tl : Int) := by omega
          have g5 : ¬ Fa = 0 := by have := HQ.out.2 hst; rw [HFa.out] at this; omega
          have g6 : ¬ (Fa : Int) = 0 := by omega
          have g7 : ((Fa : Int) == 0) = false := by simpa using g5
          have g8 : (Fa == 0) = false := by simpa using g5
          go_wp2_with fail
          with_reducible refine HT12.mono ?_
          rintro r w14 ⟨rfl, H14⟩
          have HSE := hid (HS12.out _ H14.out)
          clear HT12 HS12 H14
          go_wp2_with fail
          go_round
          case rel => exact ⟨k + 1, _, by omega, by go_num, HSE⟩
          case measure => simp [intOf]; omega
        · have g4 : ¬ (sz : Int) ≤ (tl : Int) := by omega
          have g5 : (tl : Int) < (sz : Int) := by omega
          have g6 : ¬ sz ≤ tl := hst
          have g7 : tl < sz := by omega
          go_wp2_with fail
          with_reducible refine HT12.mono ?_
          rintro r w14 ⟨rfl, H14⟩
          have HSE := hid (HS12.out _ H14.out)
          clear HT12 HS12 H14
          go_wp2_with fail
          go_round
          case rel => exact ⟨k + 1, _, by omega, by go_num, HSE⟩
          case measure => simp [intOf]; omega
  · have g1 : ¬ (k : Int) < (n : Int) := by omega
    have HVE := hid HS.out.1.bel
    clear HS HTx HSp HSi
    go_wp2_with fail
    with_reducible refine (alive17_any _).mono ?_
    rintro e wz ⟨rfl, HZ0⟩
    have HZ := hid (HVE.out.trans (HZ0.out.mono HVE.out.size))
    clear HZ0
    go_wp2_with fail
    go_ret
    exact ⟨rfl, HZ.out⟩

/-! ### The row's step -/
set_option maxRecDepth 1000000 in
theorem lifted (os : Os) (started : os.Started) (H : Type) (enc : TypeId × Value → H) :
    ReturnsInHanded {} Try.checked os 4 .any (Rows.ptreeRoomsSpec.pre6 enc Try.prog Try.f4 Rows.ptreeRoomsRow.domain false) (Rows.ptreeRoomsSpec.post enc Try.prog Try.f4 false true false false) := by
  refine returnsInHanded_of_change (C := Try.checked) own started (by kernel_rfl) Try.func4
    (ChangeSpec.witness6 (enc := enc) (C := Try.checked) false ⟨#[], #[.int .u8 0, .int .u8 0, .slice none 0 0], []⟩ 8 (by kernel_rfl) (by kernel_rfl) (by kernel_rfl) (by kernel_rfl)) ?_
  intro W base args ds gs before hval0 hW hcnd _
  have hval : ∀ (j : Nat) t v, Try.f4.params[j]? = some t → args[j]? = some v → Value.okWide Try.prog W .any base t v := hval0
  have hW' := hW
  obtain ⟨p, q, hA0, hV, rfl, hfz, hnd⟩ := hW
  have hA : DataW.TrodAll enc Try.prog W 0 (fun _ => true) true Try.f4.params.toList args.toList ds p := hA0
  rw [Try.params4] at hA hval
  obtain ⟨v0, vs0, d0, ds0, p0, q0, hargs, rfl, rfl, h0, r0⟩ := trodAll_cons hA
  obtain ⟨v1, vs1, d1, ds1, p1, q1, rfl, rfl, rfl, h1, r1⟩ := trodAll_cons r0
  obtain ⟨v2, vs2, d2, ds2, p2, q2, rfl, rfl, rfl, h2, r2⟩ := trodAll_cons r1
  obtain ⟨rfl, rfl, rfl⟩ := trodAll_nil r2
  obtain rfl : args = #[v0, v1, v2] := by cases args; simp_all
  obtain ⟨rfl, rfl⟩ := trodVars_none hV
  have k0 := h0
  have lt0 : ∀ x ∈ p0, x.block < W.heap.size := by obtain ⟨m, hm⟩ := k0; exact DataW.trod_lt m _ _ _ hm
  obtain ⟨a0, rfl, ga0⟩ := bnum_open (hval 0 5 v0 rfl rfl) h0
  have k1 := h1
  have lt1 : ∀ x ∈ p1, x.block < W.heap.size := by obtain ⟨m, hm⟩ := k1; exact DataW.trod_lt m _ _ _ hm
  obtain ⟨a1, rfl, ga1⟩ := bnum_open (hval 1 5 v1 rfl rfl) h1
  have k2 := h2
  have lt2 : ∀ x ∈ p2, x.block < W.heap.size := by obtain ⟨m, hm⟩ := k2; exact DataW.trod_lt m _ _ _ hm
  obtain ⟨a2, l2, c2, xs2, rfl, ga2⟩ := steps17_open (hval 2 22 v2 rfl rfl) h2
  clear hA0 hval0
  refine (walk a0 a1 a2 l2 c2 xs2 W ga0 ga1 ga2).mono fun e W' ⟨he, bel⟩ => ?_
  subst he
  exact ⟨_, rfl, _, _, _, [], _, [], hW', trodAll_mk1 (shut_bool Try.underlying4 _), (trodAll_cons_mk (Below.trod laidOut (by kernel_rfl) (of_decide_eq_true (by kernel_rfl)) k0 bel lt0) (trodAll_cons_mk (Below.trod laidOut (by kernel_rfl) (of_decide_eq_true (by kernel_rfl)) k1 bel lt1) (trodAll_cons_mk (Below.trod laidOut (by kernel_rfl) (of_decide_eq_true (by kernel_rfl)) k2 bel lt2) trodAll_mk0))), rfl, bel.frame _, fun h => by cases h⟩

theorem over : Rows.ptreeRoomsRow.holds Try.pinned (OpenSpec.ofChange Rows.ptreeRoomsSpec) :=
  OpenClaim.holds_of_wide 4 Try.f4 rfl rfl rfl rfl rfl rfl rfl ⟨rfl, rfl, rfl, rfl, rfl⟩ rfl rfl rfl rfl rfl (by kernel_rfl) Try.func4 (by kernel_rfl)
    (of_decide_eq_true (by kernel_rfl)) (by unfold Func.isWrapper; first | (rw [if_pos (by decide +kernel)]; kernel_rfl) | (rw [if_neg (by decide +kernel)]; exact ⟨rfl, rfl⟩))
    (fun os started H enc _ => lifted os started H enc)

/-- The statement. -/
theorem proved : Rows.PtreeRoomsSaid := over
#print axioms proved
end Go.Proofs.Ytdchoegaindnbaa.ptreeRooms
