/-
  PtreeForgets: a replica that was forgotten is matched no more, and turns nothing of the others.
-/
import Derived.Test.YtdchoegaindnbaaRows
import Derived.Test.YtdchoegaindnbaaPtSt
import Derived.Deep.RegionHeld3
import Derived.WalkKit
import Derived.ProofKit
import Derived.OpenShut
import Derived.ShutString
import Derived.ChangeOld
import Derived.Below
namespace Go.Proofs.Ytdchoegaindnbaa.ptreeForgets
open Go.ChangeShapes Go.WideShapes Go.ChangeAt Go.RowKit
open Go.ChangeMaps (open_string shut_string)
set_option linter.unusedVariables false

theorem own : ownKnob Try.prog.godebug = none := by kernel_rfl
theorem laidOut : laidOutB Try.prog = true := by kernel_rfl

/-! ### The walk -/
set_option maxRecDepth 1000000 in
set_option maxHeartbeats 8000000 in
theorem walk (a0 : Option Addr) (l0 c0 : Nat) (xs0 : List Sp) (a1 : Int) (w : World) (ga0 : Lst w a0 l0 c0 3 xs0 SpV (fun s => SpIn w s)) (ga1 : isU a1) :
    Calls Try.prog 5 #[.slice a0 l0 c0, .int .u64 a1] w fun e w' => e = .returned (.bool true) ∧ Below w.heap.size w w' := by
  have HSp := hid fun (W' : World) (hb : Below w.heap.size w W') => ga0.below hb
  have HSi : Hid (∀ k s, xs0[k]? = some s → SpIn w s) := fun k s h => by
    obtain ⟨hk, rfl⟩ := List.getElem?_eq_some_iff.1 h
    exact ga0.inn k hk
  have HTx : Hid (∀ s : Sp, SpIn w s → ∀ W' : World, Below w.heap.size w W' → Calls Try.prog 12 #[.agg #[.int .u8 s.kd, .slice s.ap s.lp s.cp, .int .u64 s.rep]] W' fun e w' => e = .returned (.slice s.ap (min s.lp 40) s.cp) ∧ Hid (Below W'.heap.size W' w')) := fun s hs W' hb => stext_any s W' (hs.below hb)
  have hSh := fun W' => short_any a0 l0 c0 W' ga0.room ga0.most
  obtain ⟨n, Hn⟩ : ∃ n, Hid (min l0 60 = n) := ⟨_, rfl⟩
  rw [Hn.out] at hSh
  have hn1 : n ≤ l0 ∧ n ≤ 60 := by have := Hn.out; omega
  have r1 := ga0.room
  have m1 := ga0.most
  have HSh := hid hSh
  clear ga0 hSh
  have hN := pnew_yes 4096 2 w (by omega) (by omega)
  go_enter Try.func5, Try.ntmps5
  go_wp2_with fail
  refine hN.mono ?_
  rintro r w1 ⟨rfl, H1⟩
  clear hN
  have HS0 : Hid (PtS w (w.heap.size + 1) 4096 2 w.heap.size 0 [] w1 ∧ ([] : List Mk).length ≤ 20 * 0 ∧ FgA (xs0.take 0) []) := ⟨⟨H1.out.1, by
    rintro k (rfl | rfl | ⟨m, hm, _⟩)
    · omega
    · omega
    · simp at hm, H1.out.2⟩, by simp, fun s hs => by simp at hs⟩
  clear H1
  obtain ⟨B, HB⟩ : ∃ B, Hid (w.heap.size + 1 = B) := ⟨_, rfl⟩
  rw [HB.out] at HS0
  rw [HB.out]
  obtain ⟨M, HS1⟩ : ∃ M, Hid (PtS w B 4096 2 M 0 [] w1 ∧ ([] : List Mk).length ≤ 20 * 0 ∧ FgA (xs0.take 0) []) := ⟨_, HS0.out⟩
  clear HS0 HB
  go_wp2_with fail
  with_reducible refine (HSh.out _).mono ?_
  rintro r w2 ⟨rfl, rfl⟩
  go_wp2_with fail
  go_loopw [29] (fun z W' => ∃ (k : Nat) (L : List Mk), k ≤ n ∧ z = .int .i64 k ∧ Hid (PtS w B 4096 2 M k L W' ∧ L.length ≤ 20 * k ∧ FgA (xs0.take k) L)) (fun z _ => n - (intOf z).toNat)
  case atStart => exact ⟨0, [], by omega, rfl, HS1⟩
  case round =>
  obtain ⟨k, L, hk, rfl, HS⟩ := hrel
  rename World => w2
  clear HS1
  by_cases hkl : k < n
  · have g1 : (k : Int) < (n : Int) := by omega
    obtain ⟨b, off, s, rfl, hsk, hsi, q1, q2, q3⟩ := (HSp.out _ HS.out.1.bel).at (i := k) (by omega)
    have HK := hid (And.intro hsk (HSi.out k s hsk))
    have HT := hid (HTx.out s HK.out.2)
    obtain ⟨w3, hw3⟩ : ∃ w3, w3 = w2.alloc (.cells #[.int .u8 s.kd, .slice s.ap s.lp s.cp, .int .u64 s.rep] 35) := ⟨_, rfl⟩
    obtain ⟨sb, hsb⟩ : ∃ sb, w2.heap.size = sb := ⟨_, rfl⟩
    have HG : Hid (PtG w B 4096 2 M k L sb s.kd s.ap s.lp s.cp s.rep w3) := by rw [← hsb]; exact PtG.new HS.out.1 hw3
    have HL := hid HS.out.2
    have HTG : Hid (∀ W' : World, PtG w B 4096 2 M k L sb s.kd s.ap s.lp s.cp s.rep W' → Calls Try.prog 12 #[.agg #[.int .u8 s.kd, .slice s.ap s.lp s.cp, .int .u64 s.rep]] W' fun e w' => e = .returned (.slice s.ap (min s.lp 40) s.cp) ∧ Hid (Below W'.heap.size W' w')) := fun W' h => HT.out _ h.st.bel
    have HPG : Hid (∀ W' : World, PtG w B 4096 2 M k L sb s.kd s.ap s.lp s.cp s.rep W' → Calls Try.prog 16 #[.pointer (some ⟨B, 0, none⟩), .slice s.ap (min s.lp 40) s.cp, .int .u64 s.rep] W' fun e w' => ∃ c : Nat, e = .returned (.int .i64 c) ∧ Hid (∃ L', PutS L s.rep s.txt 4096 2 ((k : Int) + 1) c L' ∧ TrO W' B 4096 2 M L ((k : Int) + 1) L' w')) := fun W' h => put_any17 h.st.tr (by omega) (HK.out.2.txt.below h.st.bel) HK.out.2.txtIs (by omega) HK.out.2.rep (h.st.aft HK.out.2.rd (by omega))
    clear hsk hsi HS HT
    go_wp2_with fail
    rw [← hw3]
    clear hsb hw3 q1 q2 q3
    have HGd := hid HG.out.drew
    go_region_held3 (fun W' : World => W'.cell? ⟨sb, 0, none⟩ = some (.int .u8 s.kd) ∧ W'.cell? ⟨sb, 1, none⟩ = some (.slice s.ap s.lp s.cp) ∧ W'.cell? ⟨sb, 2, none⟩ = some (.int .u64 s.rep))
      (first | (with_reducible exact HG.out.cells) | (with_reducible exact HGd.out.cells) | (with_reducible exact HG5.out.cells) | (with_reducible exact HG6.out.cells))
      (first
        | (go_at_call 12; (with_reducible refine (HTG.out _ HGd.out).mono ?_); rintro r w5 ⟨rfl, H5⟩; have HG5 := hid (HGd.out.below H5.out); clear H5)
        | (go_at_call 16; (with_reducible refine (HPG.out _ HG5.out).mono ?_); rintro r w6 ⟨c, rfl, H6⟩; obtain ⟨L', hps, ho6⟩ := H6.out; have HG6 := hid (HG5.out.step ho6); have HPs := hid hps; clear H6 hps ho6))
    all_goals
      have HS6 : Hid (PtS w B 4096 2 M ((k + 1 : Nat) : Int) L' w6 ∧ L'.length ≤ 20 * (k + 1) ∧ FgA (xs0.take (k + 1)) L') := by
        have e1 := Sp.txt_len HK.out.2
        obtain ⟨p1, p2, p3⟩ := put_plain HG5.out.st.tr.map.oks HK.out.2.rep HK.out.2.txtIs (by omega) (by omega) (by have := HL.out.1; omega) HPs.out
        have e2 : ((k + 1 : Nat) : Int) = (k : Int) + 1 := by omega
        rw [e2]
        exact ⟨HG6.out.st, by have := HL.out.1; omega, HL.out.2.put HK.out.1 p2 p3⟩
      clear HG HGd HG5 HG6 HPs HL HK HTG HPG
      go_wp2_with fail
      go_round
      case rel => exact ⟨k + 1, L', by omega, by go_num, HS6⟩
      case measure => simp [intOf]; omega
  · have g1 : ¬ (k : Int) < (n : Int) := by omega
    obtain rfl : k = n := by omega
    have hL := plen_any HS.out.1.tr
    have hF := forget_any HS.out.1.tr ga1
    obtain ⟨N, HN⟩ : ∃ N, Hid (L.length = N) := ⟨_, rfl⟩
    obtain ⟨N2, HN2⟩ : ∃ N2, Hid ((forL L a1).length = N2) := ⟨_, rfl⟩
    obtain ⟨D, HD⟩ : ∃ D, Hid ((N : Int) - (N2 : Int) = D) := ⟨_, rfl⟩
    rw [HN.out] at hL
    rw [HN.out, HN2.out, HD.out] at hF
    have hwD : IntKind.i64.wrap ((N : Int) - D) = (N2 : Int) := by
      have h1 := HN.out
      have h2 := HN2.out
      have h3 := HD.out
      have h4 := HS.out.2.1
      have h5 := forL_le L a1
      rw [show (N : Int) - D = (N2 : Int) by omega]
      exact wrap64_in (by omega) (by omega)
    go_wp2_with fail
    with_reducible refine hL.mono ?_
    rintro r w3 ⟨rfl, rfl⟩
    go_wp2_with fail
    with_reducible refine hF.mono ?_
    rintro r w4 ⟨rfl, H4⟩
    have HS4 : Hid (PtS w B 4096 2 M k (forL L a1) w4 ∧ FgB (xs0.take k) a1 (forL L a1)) := ⟨HS.out.1.step H4.out, HS.out.2.2.forget a1⟩
    clear hL hF H4 HS
    have hL := plen_any HS4.out.1.tr
    have hF := forget_any HS4.out.1.tr ga1
    rw [HN2.out] at hL
    rw [forL_two, Int.sub_self] at hF
    go_wp2_with fail
    with_reducible refine hL.mono ?_
    rintro r w5 ⟨rfl, rfl⟩
    go_wp2_with fail
    with_reducible refine hF.mono ?_
    rintro r w6 ⟨rfl, H6⟩
    have HS6 : Hid (PtS w B 4096 2 M k (forL L a1) w6 ∧ FgB (xs0.take k) a1 (forL L a1)) := ⟨HS4.out.1.step H6.out, HS4.out.2⟩
    clear hL hF H6 HS4 hwD HD HN HN2
    generalize forL L a1 = L2 at HS6
    go_wp2_with fail
    with_reducible refine (HSh.out _).mono ?_
    rintro r w7 ⟨rfl, rfl⟩
    go_wp2_with fail
    go_loopw [60] (fun z W' => ∃ (i : Nat) (L : List Mk), i ≤ k ∧ z = .int .i64 i ∧ Hid (PtS w B 4096 2 M ((k + i : Nat) : Int) L W' ∧ FgB (xs0.take k) a1 L)) (fun z _ => k - (intOf z).toNat)
    case atStart => exact ⟨0, L2, by omega, rfl, HS6⟩
    case round =>
    obtain ⟨i, L3, hi, rfl, HS⟩ := hrel
    rename World => w7
    clear HS6
    by_cases hil : i < k
    · have g2 : (i : Int) < (k : Int) := by omega
      obtain ⟨b, off, s, rfl, hsk, hsi, q1, q2, q3⟩ := (HSp.out _ HS.out.1.bel).at (i := i) (by omega)
      have HK : Hid (s ∈ xs0.take k ∧ SpIn w s) := ⟨List.mem_of_getElem? (by rw [List.getElem?_take_of_lt hil]; exact hsk), HSi.out i s hsk⟩
      obtain ⟨T, hT⟩ : ∃ T, ((k + i : Nat) : Int) = T := ⟨_, rfl⟩
      have HTm : Hid (T < 1000) := by unfold Hid; omega
      have HT1 : Hid (T + 1 = ((k + (i + 1) : Nat) : Int)) := by unfold Hid; omega
      rw [hT] at HS
      clear hT
      obtain ⟨w8, hw8⟩ : ∃ w8, w8 = w7.alloc (.cells #[.int .u8 s.kd, .slice s.ap s.lp s.cp, .int .u64 s.rep] 35) := ⟨_, rfl⟩
      obtain ⟨sb, hsb⟩ : ∃ sb, w7.heap.size = sb := ⟨_, rfl⟩
      have HG0 : Hid (PtG w B 4096 2 M T L3 sb s.kd s.ap s.lp s.cp s.rep w8) := by rw [← hsb]; exact PtG.new HS.out.1 hw8
      have HFb := hid HS.out.2
      obtain ⟨tl, Htl⟩ : ∃ tl, Hid (min s.lp 40 = tl) := ⟨_, rfl⟩
      have HTG : Hid (∀ W' : World, PtG w B 4096 2 M T L3 sb s.kd s.ap s.lp s.cp s.rep W' → Calls Try.prog 12 #[.agg #[.int .u8 s.kd, .slice s.ap s.lp s.cp, .int .u64 s.rep]] W' fun e w' => e = .returned (.slice s.ap tl s.cp) ∧ Hid (Below W'.heap.size W' w')) := fun W' h => by rw [← Htl.out]; exact HTx.out s HK.out.2 _ h.st.bel
      have HMt : Hid (∀ W' : World, PtG w B 4096 2 M T L3 sb s.kd s.ap s.lp s.cp s.rep W' → Calls Try.prog 11 #[.pointer (some ⟨B, 0, none⟩), .slice s.ap tl s.cp] W' fun e w' => ∃ b, e = .returned (.map (some b)) ∧ Hid (TrO W' B 4096 2 M L3 (T + 1) (useL L3 s.txt (T + 1)) w' ∧ W'.heap.size ≤ b ∧ ∃ K f, UmAt w' b K f ∧ LgP (L3.filter fun m => decide (m.toks <+: s.txt)) K f)) := fun W' h => by
        rw [← Htl.out]
        exact match_any h.st.tr (by have := HTm.out; omega) (HK.out.2.txt.below h.st.bel) HK.out.2.txtIs (by omega) (h.st.aft HK.out.2.rd (by omega))
      have HHs : Hid (∀ (j : Nat), (j + 1) * 2 ≤ tl → ∀ W' : World, PtG w B 4096 2 M T L3 sb s.kd s.ap s.lp s.cp s.rep W' → Calls Try.prog 19 #[.pointer (some ⟨B, 0, none⟩), .slice s.ap ((j + 1) * 2) s.cp, .int .u64 s.rep] W' fun e w' => e = .returned (.bool (decide (s.rep ≠ a1))) ∧ Hid (Below W'.heap.size W' w')) := fun j hj W' h => by
        have e1 := Sp.txt_len HK.out.2
        have e2 := Htl.out
        have hh := HFb.out.has h.st.tr.map.oks HK.out.1 HK.out.2 (j := j) (by omega)
        have hp := phas_any h.st.tr (x := s.rep) ((HK.out.2.txt.below h.st.bel).cut (m := (j + 1) * 2) (by omega)) (fun y hy => HK.out.2.txtIs y (List.mem_of_mem_take hy)) (by omega) HK.out.2.rep
        rw [hh] at hp
        exact hp
      have htl : tl ≤ 40 ∧ tl ≤ s.lp := by have := Htl.out; omega
      have hlp : s.lp ≤ s.cp ∧ s.cp ≤ 9223372036854775807 := ⟨HK.out.2.rd.room, HK.out.2.rd.most⟩
      clear hsk hsi HS Htl
      go_wp2_with fail
      rw [← hw8]
      clear hsb hw8 q1 q2 q3
      generalize s.kd = kd at *
      generalize s.ap = ap at *
      generalize s.lp = lp at *
      generalize s.cp = cp at *
      generalize s.rep = rp at *
      go_loopw [13] (fun z W' => ∃ j : Nat, j ≤ 20 ∧ z = .int .i64 (((j + 1) * 2 : Nat) : Int) ∧ Hid (PtG w B 4096 2 M T L3 sb kd ap lp cp rp W')) (fun z _ => 44 - (intOf z).toNat)
      case atStart => exact ⟨0, by omega, rfl, HG0⟩
      case round =>
      obtain ⟨j, hj, rfl, HG⟩ := hrel
      rename World => w9
      clear HG0
      obtain ⟨J, HJ⟩ : ∃ J, Hid ((j + 1) * 2 = J) := ⟨_, rfl⟩
      rw [HJ.out]
      have c9 := HG.out.cells
      obtain ⟨y0, y1, y2⟩ := c9
      have hT9 := HTG.out _ HG.out
      go_wp2_with fail
      with_reducible refine hT9.mono ?_
      rintro r w10 ⟨rfl, H10⟩
      replace HG := hid (HG.out.below H10.out)
      clear hT9 H10 y0 y1 y2
      obtain ⟨y0, y1, y2⟩ := HG.out.cells
      by_cases hjt : J ≤ tl
      · have g3 : (J : Int) ≤ (tl : Int) := by omega
        have HHj := hid (HHs.out j (by rw [HJ.out]; exact hjt))
        rw [HJ.out] at HHj
        have HGd := hid HG.out.drew
        have hJc : J ≤ cp := by omega
        clear y0 y1 y2
        go_wp2_with fail
        by_cases hra : rp = a1
        · subst hra
          have hdc : decide (rp ≠ rp) = false := by simp
          rw [hdc] at HHj
          clear hdc
          go_region_held3 (fun W' : World => W'.cell? ⟨sb, 0, none⟩ = some (.int .u8 kd) ∧ W'.cell? ⟨sb, 1, none⟩ = some (.slice ap lp cp) ∧ W'.cell? ⟨sb, 2, none⟩ = some (.int .u64 rp))
            (first | (with_reducible exact HG.out.cells) | (with_reducible exact HGd.out.cells) | (with_reducible exact HG5.out.cells) | (with_reducible exact HG6.out.cells))
            (first
              | (go_at_call 12; (with_reducible refine (HTG.out _ HGd.out).mono ?_); rintro r w13 ⟨rfl, H5⟩; have HG5 := hid (HGd.out.below H5.out); clear H5)
              | (go_at_call 19; (with_reducible refine (HHj.out _ HG5.out).mono ?_); rintro r w14 ⟨rfl, H6⟩; have HG6 := hid (HG5.out.below H6.out); clear H6))
          all_goals
            have HJ2 : Hid ((J : Int) + 2 = (((j + 1 + 1) * 2 : Nat) : Int)) := by have := HJ.out; unfold Hid; omega
            have HGE := hid HG6.out
            clear HG HGd HG5 HG6 HHj
            go_wp2_with fail
            go_round
            case rel => exact ⟨j + 1, by have := HJ.out; omega, by first | (rw [← HJ2.out]; done) | (rw [← HJ2.out]; rfl) | (rw [← HJ2.out]; go_num), HGE⟩
            case measure => have := HJ.out; simp [intOf]; omega
        · have hdc : decide (rp ≠ a1) = true := by simpa using hra
          rw [hdc] at HHj
          clear hdc
          have hra1 : (rp == a1) = false := by simpa using hra
          have hra2 : (rp != a1) = true := by simpa using hra
          have hra3 : ¬ a1 = rp := fun e => hra e.symm
          go_region_held3 (fun W' : World => W'.cell? ⟨sb, 0, none⟩ = some (.int .u8 kd) ∧ W'.cell? ⟨sb, 1, none⟩ = some (.slice ap lp cp) ∧ W'.cell? ⟨sb, 2, none⟩ = some (.int .u64 rp))
            (first | (with_reducible exact HG.out.cells) | (with_reducible exact HGd.out.cells) | (with_reducible exact HG5.out.cells) | (with_reducible exact HG6.out.cells))
            (first
              | (go_at_call 12; (with_reducible refine (HTG.out _ HGd.out).mono ?_); rintro r w13 ⟨rfl, H5⟩; have HG5 := hid (HGd.out.below H5.out); clear H5)
              | (go_at_call 19; (with_reducible refine (HHj.out _ HG5.out).mono ?_); rintro r w14 ⟨rfl, H6⟩; have HG6 := hid (HG5.out.below H6.out); clear H6))
          all_goals
            have HJ2 : Hid ((J : Int) + 2 = (((j + 1 + 1) * 2 : Nat) : Int)) := by have := HJ.out; unfold Hid; omega
            have HGE := hid HG6.out
            clear HG HGd HG5 HG6 HHj
            go_wp2_with fail
            go_round
            case rel => exact ⟨j + 1, by have := HJ.out; omega, by first | (rw [← HJ2.out]; done) | (rw [← HJ2.out]; rfl) | (rw [← HJ2.out]; go_num), HGE⟩
            case measure => have := HJ.out; simp [intOf]; omega
      · have g3 : ¬ (J : Int) ≤ (tl : Int) := by omega
        have hT9 := HTG.out _ HG.out
        go_wp2_with fail
        with_reducible refine hT9.mono ?_
        rintro r w11 ⟨rfl, H11⟩
        replace HG := hid (HG.out.below H11.out)
        clear hT9 H11 y0 y1 y2
        have hMt := HMt.out _ HG.out
        go_wp2_with fail
        with_reducible refine hMt.mono ?_
        rintro r w12 ⟨b', rfl, H12⟩
        obtain ⟨ho, _, K, f, hum, hlg⟩ := H12.out
        have hnk := HFb.out.not hlg
        have hlk := hum.look_ok ga1
        rw [show decide (a1 ∈ K) = false by simpa using hnk] at hlk
        have HS12 : Hid (PtS w B 4096 2 M ((k + (i + 1) : Nat) : Int) (useL L3 s.txt (T + 1)) w12 ∧ FgB (xs0.take k) a1 (useL L3 s.txt (T + 1))) := by
          rw [← HT1.out]
          exact ⟨HG.out.st.step ho, HFb.out.use _ _⟩
        clear hMt H12 ho hum hlg hnk HG HFb HTG HMt HHs
        go_wp2_with fail
        go_round
        case rel => exact ⟨i + 1, _, by omega, by go_num, HS12⟩
        case measure => simp [intOf]; omega
    · have g2 : ¬ (i : Int) < (k : Int) := by omega
      have HVE := hid HS.out.1.bel
      clear HS HTx HSp HSi
      go_wp2_with fail
      with_reducible refine (alive17_any _).mono ?_
      rintro e wz ⟨rfl, HZ0⟩
      have HZ := hid (HVE.out.trans (HZ0.out.mono HVE.out.size))
      clear HZ0
      go_wp2_with fail
      go_ret
      exact ⟨rfl, HZ.out⟩

/-! ### The row's step -/
set_option maxRecDepth 1000000 in
theorem lifted (os : Os) (started : os.Started) (H : Type) (enc : TypeId × Value → H) :
    ReturnsInHanded {} Try.checked os 5 .any (Rows.ptreeForgetsSpec.pre6 enc Try.prog Try.f5 Rows.ptreeForgetsRow.domain false) (Rows.ptreeForgetsSpec.post enc Try.prog Try.f5 false true false false) := by
  refine returnsInHanded_of_change (C := Try.checked) own started (by kernel_rfl) Try.func5
    (ChangeSpec.witness6 (enc := enc) (C := Try.checked) false ⟨#[], #[.slice none 0 0, .int .u64 0], []⟩ 8 (by kernel_rfl) (by kernel_rfl) (by kernel_rfl) (by kernel_rfl)) ?_
  intro W base args ds gs before hval0 hW hcnd _
  have hval : ∀ (j : Nat) t v, Try.f5.params[j]? = some t → args[j]? = some v → Value.okWide Try.prog W .any base t v := hval0
  have hW' := hW
  obtain ⟨p, q, hA0, hV, rfl, hfz, hnd⟩ := hW
  have hA : DataW.TrodAll enc Try.prog W 0 (fun _ => true) true Try.f5.params.toList args.toList ds p := hA0
  rw [Try.params5] at hA hval
  obtain ⟨v0, vs0, d0, ds0, p0, q0, hargs, rfl, rfl, h0, r0⟩ := trodAll_cons hA
  obtain ⟨v1, vs1, d1, ds1, p1, q1, rfl, rfl, rfl, h1, r1⟩ := trodAll_cons r0
  obtain ⟨rfl, rfl, rfl⟩ := trodAll_nil r1
  obtain rfl : args = #[v0, v1] := by cases args; simp_all
  obtain ⟨rfl, rfl⟩ := trodVars_none hV
  have k0 := h0
  have lt0 : ∀ x ∈ p0, x.block < W.heap.size := by obtain ⟨m, hm⟩ := k0; exact DataW.trod_lt m _ _ _ hm
  obtain ⟨a0, l0, c0, xs0, rfl, ga0⟩ := steps17_open (hval 0 22 v0 rfl rfl) h0
  have k1 := h1
  have lt1 : ∀ x ∈ p1, x.block < W.heap.size := by obtain ⟨m, hm⟩ := k1; exact DataW.trod_lt m _ _ _ hm
  obtain ⟨a1, rfl, ga1⟩ := unum_open (hval 1 33 v1 rfl rfl) h1
  clear hA0 hval0
  refine (walk a0 l0 c0 xs0 a1 W ga0 ga1).mono fun e W' ⟨he, bel⟩ => ?_
  subst he
  exact ⟨_, rfl, _, _, _, [], _, [], hW', trodAll_mk1 (shut_bool Try.underlying4 _), (trodAll_cons_mk (Below.trod laidOut (by kernel_rfl) (of_decide_eq_true (by kernel_rfl)) k0 bel lt0) (trodAll_cons_mk (Below.trod laidOut (by kernel_rfl) (of_decide_eq_true (by kernel_rfl)) k1 bel lt1) trodAll_mk0)), rfl, bel.frame _, fun h => by cases h⟩

theorem over : Rows.ptreeForgetsRow.holds Try.pinned (OpenSpec.ofChange Rows.ptreeForgetsSpec) :=
  OpenClaim.holds_of_wide 5 Try.f5 rfl rfl rfl rfl rfl rfl rfl ⟨rfl, rfl, rfl, rfl, rfl⟩ rfl rfl rfl rfl rfl (by kernel_rfl) Try.func5 (by kernel_rfl)
    (of_decide_eq_true (by kernel_rfl)) (by unfold Func.isWrapper; first | (rw [if_pos (by decide +kernel)]; kernel_rfl) | (rw [if_neg (by decide +kernel)]; exact ⟨rfl, rfl⟩))
    (fun os started H enc _ => lifted os started H enc)

/-- The statement. -/
theorem proved : Rows.PtreeForgetsSaid := over
#print axioms proved
end Go.Proofs.Ytdchoegaindnbaa.ptreeForgets
