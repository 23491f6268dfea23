/-
  Proved: a pool answers every call, in every order, as the document says, and has behind each what the document's has: PagePlays hands back true for whatever number of pages and steps.
-/
import Derived.Test.YtdmakboapchhnaaRows
import Derived.Test.YtdmakboapchhnaaPgLaw
import Derived.Deep.RegionHeld3
import Derived.WalkKit
import Derived.ProofKit
import Derived.OpenShut
import Derived.ShutString
import Derived.ChangeOld
import Derived.Below
namespace Go.Proofs.Ytdmakboapchhnaa.pagePlays
open Go.ChangeShapes Go.WideShapes Go.ChangeAt Go.RowKit
open Go.ChangeMaps (open_string shut_string)
set_option linter.unusedVariables false

theorem own : ownKnob Try.prog.godebug = none := by kernel_rfl
theorem laidOut : laidOutB Try.prog = true := by kernel_rfl

/-! ### The walk -/
set_option maxRecDepth 1000000 in
set_option maxHeartbeats 8000000 in
theorem walk (n0 : Int) (a1 : Option Addr) (l1 c1 : Nat) (ks1 ns1 : List Int) (w : World) (gn0 : -9223372036854775808 ≤ n0 ∧ n0 ≤ 9223372036854775807) (ga1 : Pss w a1 l1 c1 ks1 ns1) :
    Calls Try.prog 3 #[.int .i64 n0, .slice a1 l1 c1] w fun e w' => e = .returned (.bool true) ∧ Below w.heap.size w w' := by
  by_cases hpg : n0 < 1 ∨ 256 < n0
  · have hN := pnew_no n0 w hpg
    have HR := hid fun W => rpnew_no n0 W hpg
    clear hpg
    go_enter Try.func3, Try.ntmps3
    go_wp2_with fail
    refine hN.mono ?_
    rintro e w1 ⟨rfl, hb⟩
    have HU := hid hb
    clear hN hb
    go_wp2_with fail
    refine (HR.out _).mono ?_
    rintro e w2 ⟨rfl, hb⟩
    replace HU := hid (HU.out.trans (hb.mono HU.out.size))
    have HW0 : Hid (Below w.heap.size w (w2.alloc (.cells #[.slice none 0 0] 29))) := HU.out.alloc HU.out.size _
    clear HR hb HU
    go_wp2_with fail
    refine (alive13_any _).mono ?_
    rintro e wz ⟨rfl, hb⟩
    have HZ := hid (HW0.out.trans (hb.mono HW0.out.size))
    clear hb
    go_wp2
    go_ret
    exact ⟨rfl, HZ.out⟩
  obtain ⟨N, rfl⟩ : ∃ N : Nat, n0 = N := ⟨n0.toNat, by omega⟩
  have hN1 : 1 ≤ N := by omega
  have hN2 : N ≤ 256 := by omega
  have hN := pnew_yes N w hN1 hN2
  have HR := hid fun W => rpnew_yes N W hN1 hN2
  have HOk := hid (okp_new hN1 hN2)
  obtain ⟨M, hM⟩ : ∃ M, min l1 400 = M := ⟨_, rfl⟩
  have HSh := hid fun W (hb : Below w.heap.size w W) => short13_any a1 l1 c1 ks1 ns1 W (ga1.below hb)
  rw [hM] at HSh
  have HPs := hid fun W (hb : Below w.heap.size w W) => (ga1.cut (m := M) (by omega)).below hb
  have r1 := HPs.out w (Below.refl _ _) |>.room
  have m1 := HPs.out w (Below.refl _ _) |>.most
  have hM4 : M ≤ 400 := by omega
  generalize ks1.take M = ks at *
  generalize ns1.take M = ns at *
  clear ga1 hM hpg gn0
  go_enter Try.func3, Try.ntmps3
  go_wp2_with fail
  refine hN.mono ?_
  rintro e w1 ⟨g, F1, rfl, hP, hF, hb⟩
  have HP := hid hP
  have HLo0 := hid hF
  have HU := hid hb
  clear hN hP hF hb
  go_wp2_with fail
  refine (HR.out _).mono ?_
  rintro e w2 ⟨b, rfl, hbl, hO, hb⟩
  obtain ⟨B, hB⟩ : ∃ B, w2.heap.size = B := ⟨_, rfl⟩
  obtain ⟨w3, hw3⟩ : ∃ w3, w3 = w2.alloc (.cells #[.slice (some ⟨b, 0, none⟩) N N] 29) := ⟨_, rfl⟩
  have hA : Below w2.heap.size w2 w3 := by rw [hw3]; exact (Below.refl _ _).alloc (Nat.le_refl _) _
  have hR3 : RpAt w3 B b N (List.replicate N 0) := ⟨by rw [hw3, ← hB]; exact heap_alloc_new w2 _, hO.stays hA, HOk.out⟩
  have HR0 := hid hR3
  have HBb : Hid (w.heap.size ≤ B ∧ w.heap.size ≤ b) := ⟨by rw [← hB]; exact Nat.le_trans HU.out.size hb.size, Nat.le_trans HU.out.size hbl⟩
  have HP0 := hid ((HP.out.below hb).below hA)
  have HAp0 : Hid (¬ F1 B ∧ ¬ F1 b) := ⟨fun h => by have := HP.out.old _ h; have := hb.size; omega, fun h => by have := HP.out.old _ h; omega⟩
  have HU0 := hid ((HU.out.trans (hb.mono HU.out.size)).trans (hA.mono (Nat.le_trans HU.out.size hb.size)))
  generalize List.replicate N (0 : Int) = hs0 at *
  clear HR hbl hO hb hA hR3 HU HP HOk
  go_wp2_with fail
  rw [← hw3]
  clear hw3 hB
  refine (HSh.out _ HU0.out).mono ?_
  rintro e w' ⟨rfl, rfl⟩
  clear HSh
  go_wp2_with fail
  go_loopw [57] (fun i W => ∃ (k : Nat) (hs : List Int) (F : Nat → Prop), k ≤ M ∧ i = .int .i64 k ∧ Hid (PgAt W (some ⟨g, 0, none⟩) hs F) ∧ Hid (RpAt W B b N hs) ∧ Hid (¬ F B ∧ ¬ F b) ∧ Hid (∀ x, F x → w.heap.size ≤ x) ∧ Hid (Below w.heap.size w W)) (fun i _ => M - (intOf i).toNat)
  case atStart => exact ⟨0, hs0, F1, Nat.zero_le _, rfl, HP0, HR0, HAp0, HLo0, HU0⟩
  case round =>
  obtain ⟨k, hs, F, hk, rfl, HP, HRp, HAp, HLo, HU⟩ := hrel
  rename World => wr
  clear HP0 HR0 HAp0 HLo0 HU0
  by_cases hlt : k < M
  · obtain ⟨b1, o1, rfl, ck, cn⟩ := (HPs.out _ HU.out).cell k hlt
    have q1 : (k : Int) < (M : Int) := by omega
    obtain ⟨kd0, kd1⟩ := (HPs.out _ HU.out).wk k hlt
    clear HPs
    generalize ks[k]?.getD 0 = kd at *
    generalize ns[k]?.getD 0 = nn at *
    obtain ⟨bx, hbx⟩ : ∃ bx, wr.heap.size = bx := ⟨_, rfl⟩
    obtain ⟨wB, hwB⟩ : ∃ wB, wB = wr.alloc (.cells #[.int .u8 kd, .int .i64 nn] 35) := ⟨_, rfl⟩
    have hA : Below wr.heap.size wr wB := by rw [hwB]; exact (Below.refl _ _).alloc (Nat.le_refl _) _
    have HBk : Hid (wB.heap[bx]? = some (.cells #[.int .u8 kd, .int .i64 nn] 35 (0, 0))) := by unfold Hid; rw [hwB, ← hbx]; exact heap_alloc_new wr _
    have HNx : Hid (¬ F bx) := fun h => by have := HP.out.old _ h; omega
    have HPB := hid (HP.out.below hA)
    have HRB := hid (HRp.out.below hA)
    have HUB := hid (HU.out.trans (hA.mono HU.out.size))
    have HLt : Hid (B < wB.heap.size ∧ b < wB.heap.size) := ⟨lt_of_block HRB.out.var, HRB.out.own.lt⟩
    have HNb : Hid (bx ≠ B ∧ bx ≠ b) := ⟨fun e => by have := lt_of_block HRp.out.var; omega, fun e => by have := HRp.out.own.lt; omega⟩
    clear hA HP HRp HU
    by_cases hk1 : kd % 4 = 1
    · have hk1' : kd.tmod 4 = 1 := by rw [Int.tmod_eq_emod_of_nonneg kd0]; exact hk1
      go_wp2_with fail
      rw [← hwB]
      clear hwB hbx ck cn
      have HHo := hid fun W (h : PgAt W (some ⟨g, 0, none⟩) hs F) => phold_any (some ⟨g, 0, none⟩) hs nn W h
      have HHr := hid fun W (h : RpAt W B b N hs) => rphold_any B b N hs nn W h
      generalize holdE hs nn = er at *
      generalize holdH hs nn = hs5 at *
      have hD : Below wB.heap.size wB wB.drew := (Below.refl _ _).drew
      replace HPB := hid (HPB.out.below hD)
      replace HRB := hid (HRB.out.below hD)
      replace HUB := hid (HUB.out.trans (hD.mono HUB.out.size))
      replace HBk := hid (block_bel HBk.out hD)
      replace HLt : Hid (B < wB.drew.heap.size ∧ b < wB.drew.heap.size) := HLt
      clear hD
      go_region_held3 (fun W : World => W.cell? ⟨bx, 0, none⟩ = some (.int .u8 kd) ∧ W.cell? ⟨bx, 1, none⟩ = some (.int .i64 nn)) (first | (with_reducible exact cells_two HBk.out) | (with_reducible exact cells_two HB4.out) | (with_reducible exact HBx.out _ (Below.refl _ _)))
        (first
          | (go_at_call 10; (with_reducible refine (HHo.out _ HPB.out).mono ?_); rintro e w4 ⟨rfl, F4, hP, hF, hb⟩; have HP4 := hid hP; have HU4 : Hid (Below w.heap.size w w4) := HUB.out.trans (hb.to HLo.out HUB.out.size); have HB4 : Hid (w4.heap[bx]? = some (.cells #[.int .u8 kd, .int .i64 nn] 35 (0, 0))) := hb.one HBk.out HNx.out; have HAp4 : Hid (¬ F4 B ∧ ¬ F4 b) := ⟨fun h => (hF B h).elim HAp.out.1 (fun h => by have := HLt.out; omega), fun h => (hF b h).elim HAp.out.2 (fun h => by have := HLt.out; omega)⟩; have HLo4 : Hid (∀ x, F4 x → w.heap.size ≤ x) := fun x hx => (hF x hx).elim (HLo.out x) fun h => Nat.le_trans HUB.out.size h; have HR4 := hid (HRB.out.fb hb HAp.out.1 HAp.out.2); clear hP hF hb HPB HRB HUB HBk HNx HAp HLo HLt)
          | (go_at_call 11; (with_reducible refine (HHr.out _ HR4.out).mono ?_); rintro e w5 ⟨rfl, hR, hb⟩; have HP5 := hid (HP4.out.fb hb (fun x hx e => by have e1 : x = b := e; subst e1; exact HAp4.out.2 hx)); have HU5 : Hid (Below w.heap.size w w5) := HU4.out.trans (hb.to (B := w.heap.size) (fun x hx => by have e1 : x = b := hx; subst e1; exact HBb.out.2) HU4.out.size); have HR5 := hid hR; have HBx : Hid (∀ W : World, Below w5.heap.size w5 W → W.cell? ⟨bx, 0, none⟩ = some (.int .u8 kd) ∧ W.cell? ⟨bx, 1, none⟩ = some (.int .i64 nn)) := fun W hbW => cells_two (block_bel (hb.one HB4.out (fun e => HNb.out.2 e)) hbW); have HAp5 := HAp4; have HLo5 := HLo4; clear hR hb HP4 HU4 HB4 HAp4 HLo4)
          | fail)
      all_goals
        have HPh := hid fun W (hb : Below w5.heap.size w5 W) => pheld_any _ hs5 nn W (HP5.out.below hb)
        have HRh := hid fun W (hb : Below w5.heap.size w5 W) => (rpheld_any B b N hs5 nn W (HR5.out.below hb)).mono fun e w' h => (⟨h.1, by rw [h.2]; exact Below.refl _ _⟩ : e = .returned (.int .i64 (heldZ hs5 nn)) ∧ Below W.heap.size W w')
        have HPu := hid fun W (hb : Below w5.heap.size w5 W) => pused_any _ hs5 W (HP5.out.below hb)
        have HRu := hid fun W (hb : Below w5.heap.size w5 W) => rpused_any B b N hs5 W (HR5.out.below hb)
        have HPf := hid fun W (hb : Below w5.heap.size w5 W) => pfree_any _ hs5 W (HP5.out.below hb)
        have HUl : Hid ((usedL hs5).length ≤ N) := by unfold Hid; have := usedK_len hs5 hs5.length; rw [HR5.out.len] at this; unfold usedL; rw [HR5.out.len]; exact this
        rw [HR5.out.len] at HPf
        have hul := HUl.out
        have HSm := hid fun (a4 c4 a5 c5 : _) W (h1 : Reads .i64 W a4 (usedL hs5).length c4 (usedL hs5)) (h2 : Reads .i64 W a5 (usedL hs5).length c5 (usedL hs5)) => same_yes a4 a5 (usedL hs5).length c4 c5 (usedL hs5) W h1 h2 (by omega)
        generalize heldZ hs5 nn = hx at *
        generalize (usedL hs5).length = ul at *
        generalize usedL hs5 = us at *
        have hwf : IntKind.i64.wrap ((N : Int) - (ul : Int)) = (N : Int) - (ul : Int) := wrap64_in (by omega) (by omega)
        have HV : Hid (Below w5.heap.size w5 w5.drew) := (Below.refl _ _).drew
        obtain ⟨y0, y1⟩ := HBx.out _ (Below.refl _ _)
        clear HUl
        go_wp2_with fail
        clear y0 y1
        go_region_held3 (fun W : World => W.cell? ⟨bx, 0, none⟩ = some (.int .u8 kd) ∧ W.cell? ⟨bx, 1, none⟩ = some (.int .i64 nn)) (first | (with_reducible exact HBx.out _ (Below.refl _ _)) | (with_reducible exact HBx.out _ HV.out))
          (first
            | (go_at_call 16; (with_reducible refine (HPh.out _ HV.out).mono ?_); rintro e z1 ⟨rfl, hb⟩; replace HV := hid (HV.out.trans (hb.mono HV.out.size)); clear hb)
            | (go_at_call 17; (with_reducible refine (HRh.out _ HV.out).mono ?_); rintro e z2 ⟨rfl, hb⟩; replace HV := hid (HV.out.trans (hb.mono HV.out.size)); clear hb)
            | (go_at_call 19; (with_reducible refine (HPu.out _ HV.out).mono ?_); rintro e z3 ⟨a3, c3, rfl, hr3, hb⟩; replace HV := hid (HV.out.trans (hb.mono HV.out.size)); have HR3 := hid hr3; clear hb hr3)
            | (go_at_call 20; (with_reducible refine (HRu.out _ HV.out).mono ?_); rintro e z4 ⟨a4, c4, rfl, hr4, hb⟩; replace HV := hid (HV.out.trans (hb.mono HV.out.size)); have r4 := hr4.room; have m4 := hr4.most; (try replace HR3 := hid (HR3.out.below hb)); have HR4 := hid hr4; clear hb hr4)
            | (go_at_call 18; (with_reducible refine (HSm.out _ _ _ _ _ HR3.out HR4.out).mono ?_); rintro e z5 ⟨rfl, hb⟩; replace HV := hid (HV.out.trans (hb.mono HV.out.size)); clear hb HR3 HR4)
            | (go_at_call 21; (with_reducible refine (HPf.out _ HV.out).mono ?_); rintro e z6 ⟨rfl, hb⟩; replace HV := hid (HV.out.trans (hb.mono HV.out.size)); clear hb)
            | fail)
        all_goals
          have HPn := hid (HP5.out.below HV.out)
          have HRn := hid (HR5.out.below HV.out)
          have HUn := hid (HU5.out.trans (HV.out.mono HU5.out.size))
          clear HP5 HR5 HU5 HV HPh HRh HPu HRu HPf HSm
          go_wp2_with fail
          go_round
          case rel => exact ⟨k + 1, hs5, F4, by omega, by go_num, HPn, HRn, HAp5, HLo5, HUn⟩
          case measure => simp [intOf]; omega
    by_cases hk2 : kd % 4 = 2
    · have hk2' : kd.tmod 4 = 2 := by rw [Int.tmod_eq_emod_of_nonneg kd0]; exact hk2
      have HDo := hid fun W (h : PgAt W (some ⟨g, 0, none⟩) hs F) => pdrop_any (some ⟨g, 0, none⟩) hs nn W h
      have HDr := hid fun W (h : RpAt W B b N hs) => rpdrop_any B b N hs nn W h
      generalize dropE hs nn = er at *
      generalize dropB hs nn = eb at *
      generalize dropH hs nn = hs5 at *
      go_wp2_with fail
      rw [← hwB]
      clear hwB hbx ck cn
      refine (HDo.out _ HPB.out).mono ?_
      rintro e w4 ⟨rfl, F4, hP, hF, hb⟩
      have HP4 := hid hP
      have HU4 : Hid (Below w.heap.size w w4) := HUB.out.trans (hb.to HLo.out HUB.out.size)
      have HB4 : Hid (w4.heap[bx]? = some (.cells #[.int .u8 kd, .int .i64 nn] 35 (0, 0))) := hb.one HBk.out HNx.out
      have HAp4 : Hid (¬ F4 B ∧ ¬ F4 b) := ⟨fun h => (hF B h).elim HAp.out.1 (fun h => by have := HLt.out; omega), fun h => (hF b h).elim HAp.out.2 (fun h => by have := HLt.out; omega)⟩
      have HLo4 : Hid (∀ x, F4 x → w.heap.size ≤ x) := fun x hx => (hF x hx).elim (HLo.out x) fun h => Nat.le_trans HUB.out.size h
      have HR4 := hid (HRB.out.fb hb HAp.out.1 HAp.out.2)
      clear hP hF hb HPB HRB HUB HBk HNx HAp HLo HLt
      obtain ⟨x0, x1⟩ := cells_two HB4.out
      clear HDo
      go_wp2_with fail
      refine (HDr.out _ HR4.out).mono ?_
      rintro e w5 ⟨rfl, hR, hb⟩
      clear x0 x1
      have HP5 := hid (HP4.out.fb hb (fun x hx e => by have e1 : x = b := e; subst e1; exact HAp4.out.2 hx))
      have HU5 : Hid (Below w.heap.size w w5) := HU4.out.trans (hb.to (B := w.heap.size) (fun x hx => by have e1 : x = b := hx; subst e1; exact HBb.out.2) HU4.out.size)
      have HR5 := hid hR
      have HBx : Hid (∀ W : World, Below w5.heap.size w5 W → W.cell? ⟨bx, 0, none⟩ = some (.int .u8 kd) ∧ W.cell? ⟨bx, 1, none⟩ = some (.int .i64 nn)) := fun W hbW => cells_two (block_bel (hb.one HB4.out (fun e => HNb.out.2 e)) hbW)
      have HAp5 := HAp4
      have HLo5 := HLo4
      clear hR hb HP4 HU4 HB4 HAp4 HLo4
      clear HDr HR4
      have HPh := hid fun W (hb : Below w5.heap.size w5 W) => pheld_any _ hs5 nn W (HP5.out.below hb)
      have HRh := hid fun W (hb : Below w5.heap.size w5 W) => (rpheld_any B b N hs5 nn W (HR5.out.below hb)).mono fun e w' h => (⟨h.1, by rw [h.2]; exact Below.refl _ _⟩ : e = .returned (.int .i64 (heldZ hs5 nn)) ∧ Below W.heap.size W w')
      have HPu := hid fun W (hb : Below w5.heap.size w5 W) => pused_any _ hs5 W (HP5.out.below hb)
      have HRu := hid fun W (hb : Below w5.heap.size w5 W) => rpused_any B b N hs5 W (HR5.out.below hb)
      have HPf := hid fun W (hb : Below w5.heap.size w5 W) => pfree_any _ hs5 W (HP5.out.below hb)
      have HUl : Hid ((usedL hs5).length ≤ N) := by unfold Hid; have := usedK_len hs5 hs5.length; rw [HR5.out.len] at this; unfold usedL; rw [HR5.out.len]; exact this
      rw [HR5.out.len] at HPf
      have hul := HUl.out
      have HSm := hid fun (a4 c4 a5 c5 : _) W (h1 : Reads .i64 W a4 (usedL hs5).length c4 (usedL hs5)) (h2 : Reads .i64 W a5 (usedL hs5).length c5 (usedL hs5)) => same_yes a4 a5 (usedL hs5).length c4 c5 (usedL hs5) W h1 h2 (by omega)
      generalize heldZ hs5 nn = hx at *
      generalize (usedL hs5).length = ul at *
      generalize usedL hs5 = us at *
      have hwf : IntKind.i64.wrap ((N : Int) - (ul : Int)) = (N : Int) - (ul : Int) := wrap64_in (by omega) (by omega)
      have HV : Hid (Below w5.heap.size w5 w5.drew) := (Below.refl _ _).drew
      obtain ⟨y0, y1⟩ := HBx.out _ (Below.refl _ _)
      clear HUl
      go_wp2_with fail
      clear y0 y1
      go_region_held3 (fun W : World => W.cell? ⟨bx, 0, none⟩ = some (.int .u8 kd) ∧ W.cell? ⟨bx, 1, none⟩ = some (.int .i64 nn)) (first | (with_reducible exact HBx.out _ (Below.refl _ _)) | (with_reducible exact HBx.out _ HV.out))
        (first
          | (go_at_call 16; (with_reducible refine (HPh.out _ HV.out).mono ?_); rintro e z1 ⟨rfl, hb⟩; replace HV := hid (HV.out.trans (hb.mono HV.out.size)); clear hb)
          | (go_at_call 17; (with_reducible refine (HRh.out _ HV.out).mono ?_); rintro e z2 ⟨rfl, hb⟩; replace HV := hid (HV.out.trans (hb.mono HV.out.size)); clear hb)
          | (go_at_call 19; (with_reducible refine (HPu.out _ HV.out).mono ?_); rintro e z3 ⟨a3, c3, rfl, hr3, hb⟩; replace HV := hid (HV.out.trans (hb.mono HV.out.size)); have HR3 := hid hr3; clear hb hr3)
          | (go_at_call 20; (with_reducible refine (HRu.out _ HV.out).mono ?_); rintro e z4 ⟨a4, c4, rfl, hr4, hb⟩; replace HV := hid (HV.out.trans (hb.mono HV.out.size)); have r4 := hr4.room; have m4 := hr4.most; (try replace HR3 := hid (HR3.out.below hb)); have HR4 := hid hr4; clear hb hr4)
          | (go_at_call 18; (with_reducible refine (HSm.out _ _ _ _ _ HR3.out HR4.out).mono ?_); rintro e z5 ⟨rfl, hb⟩; replace HV := hid (HV.out.trans (hb.mono HV.out.size)); clear hb HR3 HR4)
          | (go_at_call 21; (with_reducible refine (HPf.out _ HV.out).mono ?_); rintro e z6 ⟨rfl, hb⟩; replace HV := hid (HV.out.trans (hb.mono HV.out.size)); clear hb)
          | fail)
      all_goals
        have HPn := hid (HP5.out.below HV.out)
        have HRn := hid (HR5.out.below HV.out)
        have HUn := hid (HU5.out.trans (HV.out.mono HU5.out.size))
        clear HP5 HR5 HU5 HV HPh HRh HPu HRu HPf HSm
        go_wp2_with fail
        go_round
        case rel => exact ⟨k + 1, hs5, F4, by omega, by go_num, HPn, HRn, HAp5, HLo5, HUn⟩
        case measure => simp [intOf]; omega
    have HTo := hid fun W (h : PgAt W (some ⟨g, 0, none⟩) hs F) => ptake_any (some ⟨g, 0, none⟩) hs W h
    have HTr := hid fun W (h : RpAt W B b N hs) => rptake_any B b N hs W h
    generalize takeE hs = er at *
    generalize takeN hs = en at *
    generalize takeH hs = hs5 at *
    obtain ⟨r, hr⟩ : ∃ r, kd % 4 = r := ⟨_, rfl⟩
    have hr' : kd.tmod 4 = r := by rw [Int.tmod_eq_emod_of_nonneg kd0]; exact hr
    have e1 : (r == 1) = false := by simp; omega
    have e2 : (r == 2) = false := by simp; omega
    have e3 : ¬ r = 1 := by omega
    have e4 : ¬ r = 2 := by omega
    have e5 : 0 ≤ r := by omega
    have e6 : r ≤ 3 := by omega
    clear hk1 hk2
    go_wp2_with fail
    rw [← hwB]
    clear hwB hbx ck cn
    refine (HTo.out _ HPB.out).mono ?_
    rintro e w4 ⟨rfl, F4, hP, hF, hb⟩
    have HP4 := hid hP
    have HU4 : Hid (Below w.heap.size w w4) := HUB.out.trans (hb.to HLo.out HUB.out.size)
    have HB4 : Hid (w4.heap[bx]? = some (.cells #[.int .u8 kd, .int .i64 nn] 35 (0, 0))) := hb.one HBk.out HNx.out
    have HAp4 : Hid (¬ F4 B ∧ ¬ F4 b) := ⟨fun h => (hF B h).elim HAp.out.1 (fun h => by have := HLt.out; omega), fun h => (hF b h).elim HAp.out.2 (fun h => by have := HLt.out; omega)⟩
    have HLo4 : Hid (∀ x, F4 x → w.heap.size ≤ x) := fun x hx => (hF x hx).elim (HLo.out x) fun h => Nat.le_trans HUB.out.size h
    have HR4 := hid (HRB.out.fb hb HAp.out.1 HAp.out.2)
    clear hP hF hb HPB HRB HUB HBk HNx HAp HLo HLt
    clear HTo
    go_wp2_with fail
    refine (HTr.out _ HR4.out).mono ?_
    rintro e w5 ⟨rfl, hR, hb⟩
    have HP5 := hid (HP4.out.fb hb (fun x hx e => by have e1 : x = b := e; subst e1; exact HAp4.out.2 hx))
    have HU5 : Hid (Below w.heap.size w w5) := HU4.out.trans (hb.to (B := w.heap.size) (fun x hx => by have e1 : x = b := hx; subst e1; exact HBb.out.2) HU4.out.size)
    have HR5 := hid hR
    have HBx : Hid (∀ W : World, Below w5.heap.size w5 W → W.cell? ⟨bx, 0, none⟩ = some (.int .u8 kd) ∧ W.cell? ⟨bx, 1, none⟩ = some (.int .i64 nn)) := fun W hbW => cells_two (block_bel (hb.one HB4.out (fun e => HNb.out.2 e)) hbW)
    have HAp5 := HAp4
    have HLo5 := HLo4
    clear hR hb HP4 HU4 HB4 HAp4 HLo4
    clear HTr HR4 hr hr' e1 e2 e3 e4 e5 e6
    have HPh := hid fun W (hb : Below w5.heap.size w5 W) => pheld_any _ hs5 nn W (HP5.out.below hb)
    have HRh := hid fun W (hb : Below w5.heap.size w5 W) => (rpheld_any B b N hs5 nn W (HR5.out.below hb)).mono fun e w' h => (⟨h.1, by rw [h.2]; exact Below.refl _ _⟩ : e = .returned (.int .i64 (heldZ hs5 nn)) ∧ Below W.heap.size W w')
    have HPu := hid fun W (hb : Below w5.heap.size w5 W) => pused_any _ hs5 W (HP5.out.below hb)
    have HRu := hid fun W (hb : Below w5.heap.size w5 W) => rpused_any B b N hs5 W (HR5.out.below hb)
    have HPf := hid fun W (hb : Below w5.heap.size w5 W) => pfree_any _ hs5 W (HP5.out.below hb)
    have HUl : Hid ((usedL hs5).length ≤ N) := by unfold Hid; have := usedK_len hs5 hs5.length; rw [HR5.out.len] at this; unfold usedL; rw [HR5.out.len]; exact this
    rw [HR5.out.len] at HPf
    have hul := HUl.out
    have HSm := hid fun (a4 c4 a5 c5 : _) W (h1 : Reads .i64 W a4 (usedL hs5).length c4 (usedL hs5)) (h2 : Reads .i64 W a5 (usedL hs5).length c5 (usedL hs5)) => same_yes a4 a5 (usedL hs5).length c4 c5 (usedL hs5) W h1 h2 (by omega)
    generalize heldZ hs5 nn = hx at *
    generalize (usedL hs5).length = ul at *
    generalize usedL hs5 = us at *
    have hwf : IntKind.i64.wrap ((N : Int) - (ul : Int)) = (N : Int) - (ul : Int) := wrap64_in (by omega) (by omega)
    have HV : Hid (Below w5.heap.size w5 w5.drew) := (Below.refl _ _).drew
    obtain ⟨y0, y1⟩ := HBx.out _ (Below.refl _ _)
    clear HUl
    go_wp2_with fail
    clear y0 y1
    go_region_held3 (fun W : World => W.cell? ⟨bx, 0, none⟩ = some (.int .u8 kd) ∧ W.cell? ⟨bx, 1, none⟩ = some (.int .i64 nn)) (first | (with_reducible exact HBx.out _ (Below.refl _ _)) | (with_reducible exact HBx.out _ HV.out))
      (first
        | (go_at_call 16; (with_reducible refine (HPh.out _ HV.out).mono ?_); rintro e z1 ⟨rfl, hb⟩; replace HV := hid (HV.out.trans (hb.mono HV.out.size)); clear hb)
        | (go_at_call 17; (with_reducible refine (HRh.out _ HV.out).mono ?_); rintro e z2 ⟨rfl, hb⟩; replace HV := hid (HV.out.trans (hb.mono HV.out.size)); clear hb)
        | (go_at_call 19; (with_reducible refine (HPu.out _ HV.out).mono ?_); rintro e z3 ⟨a3, c3, rfl, hr3, hb⟩; replace HV := hid (HV.out.trans (hb.mono HV.out.size)); have HR3 := hid hr3; clear hb hr3)
        | (go_at_call 20; (with_reducible refine (HRu.out _ HV.out).mono ?_); rintro e z4 ⟨a4, c4, rfl, hr4, hb⟩; replace HV := hid (HV.out.trans (hb.mono HV.out.size)); have r4 := hr4.room; have m4 := hr4.most; (try replace HR3 := hid (HR3.out.below hb)); have HR4 := hid hr4; clear hb hr4)
        | (go_at_call 18; (with_reducible refine (HSm.out _ _ _ _ _ HR3.out HR4.out).mono ?_); rintro e z5 ⟨rfl, hb⟩; replace HV := hid (HV.out.trans (hb.mono HV.out.size)); clear hb HR3 HR4)
        | (go_at_call 21; (with_reducible refine (HPf.out _ HV.out).mono ?_); rintro e z6 ⟨rfl, hb⟩; replace HV := hid (HV.out.trans (hb.mono HV.out.size)); clear hb)
        | fail)
    all_goals
      have HPn := hid (HP5.out.below HV.out)
      have HRn := hid (HR5.out.below HV.out)
      have HUn := hid (HU5.out.trans (HV.out.mono HU5.out.size))
      clear HP5 HR5 HU5 HV HPh HRh HPu HRu HPf HSm
      go_wp2_with fail
      go_round
      case rel => exact ⟨k + 1, hs5, F4, by omega, by go_num, HPn, HRn, HAp5, HLo5, HUn⟩
      case measure => simp [intOf]; omega
  · obtain rfl : k = M := by omega
    have HW0 := HU
    clear HPs HP HRp HAp HLo HU
    go_wp2_with fail
    refine (alive13_any _).mono ?_
    rintro e wz ⟨rfl, hb⟩
    have HZ := hid (HW0.out.trans (hb.mono HW0.out.size))
    clear hb
    go_wp2
    go_ret
    exact ⟨rfl, HZ.out⟩

/-! ### The row's step -/
set_option maxRecDepth 1000000 in
theorem lifted (os : Os) (started : os.Started) (H : Type) (enc : TypeId × Value → H) :
    ReturnsInHanded {} Try.checked os 3 .any (Rows.pagePlaysSpec.pre6 enc Try.prog Try.f3 Rows.pagePlaysRow.domain false) (Rows.pagePlaysSpec.post enc Try.prog Try.f3 false true false false) := by
  refine returnsInHanded_of_change (C := Try.checked) own started (by kernel_rfl) Try.func3
    (ChangeSpec.witness6 (enc := enc) (C := Try.checked) false ⟨#[], #[.int .i64 0, .slice none 0 0], []⟩ 8 (by kernel_rfl) (by kernel_rfl) (by kernel_rfl) (by kernel_rfl)) ?_
  intro W base args ds gs before hval0 hW hcnd _
  have hval : ∀ (j : Nat) t v, Try.f3.params[j]? = some t → args[j]? = some v → Value.okWide Try.prog W .any base t v := hval0
  have hW' := hW
  obtain ⟨p, q, hA0, hV, rfl, hfz, hnd⟩ := hW
  have hA : DataW.TrodAll enc Try.prog W 0 (fun _ => true) true Try.f3.params.toList args.toList ds p := hA0
  rw [Try.params3] at hA hval
  obtain ⟨v0, vs0, d0, ds0, p0, q0, hargs, rfl, rfl, h0, r0⟩ := trodAll_cons hA
  obtain ⟨v1, vs1, d1, ds1, p1, q1, rfl, rfl, rfl, h1, r1⟩ := trodAll_cons r0
  obtain ⟨rfl, rfl, rfl⟩ := trodAll_nil r1
  obtain rfl : args = #[v0, v1] := by cases args; simp_all
  obtain ⟨rfl, rfl⟩ := trodVars_none hV
  have k0 := h0
  have lt0 : ∀ x ∈ p0, x.block < W.heap.size := by obtain ⟨m, hm⟩ := k0; exact DataW.trod_lt m _ _ _ hm
  obtain ⟨n0, rfl, gn0⟩ := pint_open (hval 0 3 v0 rfl rfl) h0
  have k1 := h1
  have lt1 : ∀ x ∈ p1, x.block < W.heap.size := by obtain ⟨m, hm⟩ := k1; exact DataW.trod_lt m _ _ _ hm
  obtain ⟨a1, l1, c1, ks1, ns1, rfl, ga1⟩ := steps_open (hval 1 22 v1 rfl rfl) h1
  clear hA0 hval0
  refine (walk n0 a1 l1 c1 ks1 ns1 W gn0 ga1).mono fun e W' ⟨he, bel⟩ => ?_
  subst he
  exact ⟨_, rfl, _, _, _, [], _, [], hW', trodAll_mk1 (shut_bool Try.underlying4 _), (trodAll_cons_mk (Below.trod laidOut (by kernel_rfl) (of_decide_eq_true (by kernel_rfl)) k0 bel lt0) (trodAll_cons_mk (Below.trod laidOut (by kernel_rfl) (of_decide_eq_true (by kernel_rfl)) k1 bel lt1) trodAll_mk0)), rfl, bel.frame _, fun h => by cases h⟩

theorem over : Rows.pagePlaysRow.holds Try.pinned (OpenSpec.ofChange Rows.pagePlaysSpec) :=
  OpenClaim.holds_of_wide 3 Try.f3 rfl rfl rfl rfl rfl rfl rfl ⟨rfl, rfl, rfl, rfl, rfl⟩ rfl rfl rfl rfl rfl (by kernel_rfl) Try.func3 (by kernel_rfl)
    (of_decide_eq_true (by kernel_rfl)) (by unfold Func.isWrapper; first | (rw [if_pos (by decide +kernel)]; kernel_rfl) | (rw [if_neg (by decide +kernel)]; exact ⟨rfl, rfl⟩))
    (fun os started H enc _ => lifted os started H enc)

/-- The statement. -/
theorem proved : Rows.PagePlaysSaid := over
#print axioms proved
end Go.Proofs.Ytdmakboapchhnaa.pagePlays
