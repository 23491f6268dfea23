/-
  LinkPlays.
-/
import Derived.Test.YtlhmalmmligkkaaLkAl
import Derived.Deep.RegionHeld3
import Derived.Deep.DeepCutAuto
import Derived.Deep.CutBlock
import Derived.Outline
namespace Go.Proofs.Ytlhmalmmligkkaa
open Go.RowKit
set_option linter.unusedVariables false
set_option linter.unusedSimpArgs false
set_option maxRecDepth 1000000

/-- What stands at each round: both links, alike, above w. -/
structure PlJ (w : World) (b r : Nat) (k : Nat) (S : Lm) (W : World) : Prop where
  bo : Bo w.heap.size W b r S S
  bel : Below w.heap.size w W
  dr : 0 ≤ S.dr ∧ S.dr ≤ 300 * k
/-- In a round: the step's block lies there, too. -/
structure PlM (w : World) (b r : Nat) (S1 S2 : Lm) (q : Nat) (s : Sp) (W : World) : Prop where
  bo : Bo w.heap.size W b r S1 S2
  bel : Below w.heap.size w W
  st : W.heap[q]? = some (.cells (SpV s) 38 (0, 0))
theorem PlM.below {w : World} {b r q : Nat} {S1 S2 : Lm} {s : Sp} {W W' : World} (h : PlM w b r S1 S2 q s W) (hb : Below W.heap.size W W') : PlM w b r S1 S2 q s W' := ⟨h.bo.below hb, h.bel.trans (hb.mono h.bel.size), block_bel h.st hb⟩
theorem PlM.cells {w : World} {b r q : Nat} {S1 S2 : Lm} {s : Sp} {W : World} (h : PlM w b r S1 S2 q s W) : W.cell? ⟨q, 0, none⟩ = some (.int .u8 s.kd) ∧ W.cell? ⟨q, 1, none⟩ = some (.slice s.b.ap s.b.lp s.b.cp) ∧ W.cell? ⟨q, 2, none⟩ = some (.int .i64 s.i) ∧ W.cell? ⟨q, 3, none⟩ = some (.int .i64 s.pl) ∧ W.cell? ⟨q, 4, none⟩ = some (.int .u32 s.msk) := by
  have hc := h.st
  refine ⟨?_, ?_, ?_, ?_, ?_⟩ <;> (rw [cell_of_row _ _ _ _ _ _ hc]; rfl)
theorem PlM.to {w : World} {b r q : Nat} {S1 S2 T1 T2 : Lm} {s : Sp} {W W' : World} (h : PlM w b r S1 S2 q s W) (hb : Bo w.heap.size W' b r T1 T2) (hk : Kp w.heap.size W W') : PlM w b r T1 T2 q s W' := ⟨hb, h.bel.trans hk.bel, (hk.cel _ _ _ _ h.st (by decide) (by decide) (by decide)).trans h.st⟩
theorem PlM.go {w : World} {b r q : Nat} {S1 S2 T1 T2 : Lm} {s : Sp} {W : World} (h : PlM w b r S1 S2 q s W) {f : Nat} {ar : Array Value} {v : Value} (hc : Calls Try.prog f ar W fun e w' => e = .returned v ∧ Hid (Bo w.heap.size w' b r T1 T2 ∧ Kp w.heap.size W w')) : Calls Try.prog f ar W fun e w' => e = .returned v ∧ Hid (PlM w b r T1 T2 q s w') :=
  hc.mono fun e w' ⟨he, H⟩ => ⟨he, h.to H.out.1 H.out.2⟩
theorem PlM.done {w : World} {b r q k : Nat} {S : Lm} {s : Sp} {W : World} (h : PlM w b r S S q s W) (hd : 0 ≤ S.dr ∧ S.dr ≤ 300 * ((k + 1 : Nat) : Int)) : PlJ w b r (k + 1) S W := ⟨h.bo, h.bel, hd⟩
theorem PlM.dlv1 {w : World} {b r q : Nat} {S S2 : Lm} {s : Sp} {W : World} (h : PlM w b r S S2 q s W) : Calls Try.prog 12 #[.pointer (some ⟨b, 0, none⟩), .int .i64 s.i] W fun e w' => ∃ a c, e = .returned (.tuple #[.slice a (S.msgZ s.i).length c, .int .i64 (S.errI s.i)]) ∧ Hid (PlM w b r (S.dlv s.i) S2 q s w' ∧ Reads .u8 w' a (S.msgZ s.i).length c (S.msgZ s.i) ∧ (∀ p, a = some p → p.block ≠ r)) :=
  (bdlv1 s.i h.bo).mono fun e w' ⟨a, c, he, H⟩ => ⟨a, c, he, h.to H.out.1 H.out.2.1, H.out.2.2⟩
theorem PlM.dlv2 {w : World} {b r q : Nat} {S S1 : Lm} {s : Sp} {W : World} (h : PlM w b r S1 S q s W) {xa : Option Addr} {xn xc : Nat} {ys : List Int} (hx : Reads .u8 W xa xn xc ys) (hxr : ∀ p, xa = some p → p.block ≠ r) : Calls Try.prog 13 #[.pointer (some ⟨r, 0, none⟩), .int .i64 s.i] W fun e w' => ∃ a c, e = .returned (.tuple #[.slice a (S.msgZ s.i).length c, .int .i64 (S.errI s.i)]) ∧ Hid (PlM w b r S1 (S.dlv s.i) q s w' ∧ Reads .u8 w' a (S.msgZ s.i).length c (S.msgZ s.i) ∧ Reads .u8 w' xa xn xc ys) :=
  (bdlv2 s.i h.bo hx hxr).mono fun e w' ⟨a, c, he, H⟩ => ⟨a, c, he, h.to H.out.1 H.out.2.1, H.out.2.2⟩
theorem upZ_le {n : Int} {k : Nat} (h : 0 ≤ n ∧ n ≤ 300 * (k : Int)) {m : Int} (h0 : 0 ≤ m) (h1 : m ≤ 300) : 0 ≤ upZ n m ∧ upZ n m ≤ 300 * ((k + 1 : Nat) : Int) := by unfold upZ; split <;> omega
theorem le_up {n : Int} {k : Nat} (h : 0 ≤ n ∧ n ≤ 300 * (k : Int)) : 0 ≤ n ∧ n ≤ 300 * ((k + 1 : Nat) : Int) := by omega
variable {S : Lm} {k : Nat} {i p m : Int} {zs : List Int}
theorem Lm.dr_dlv (h : 0 ≤ S.dr ∧ S.dr ≤ 300 * (k : Int)) : 0 ≤ (S.dlv i).dr ∧ (S.dlv i).dr ≤ 300 * ((k + 1 : Nat) : Int) := by unfold Lm.dlv; split <;> exact le_up h
theorem Lm.dr_drp (h : 0 ≤ S.dr ∧ S.dr ≤ 300 * (k : Int)) : 0 ≤ (S.drp i).dr ∧ (S.drp i).dr ≤ 300 * ((k + 1 : Nat) : Int) := by
  unfold Lm.drp
  split
  · exact upZ_le h (by decide) (by decide)
  · exact le_up h
theorem Lm.dr_twi (h : 0 ≤ S.dr ∧ S.dr ≤ 300 * (k : Int)) : 0 ≤ (S.twi i).dr ∧ (S.twi i).dr ≤ 300 * ((k + 1 : Nat) : Int) := by unfold Lm.twi; split <;> exact le_up h
theorem Lm.dr_lat (h : 0 ≤ S.dr ∧ S.dr ≤ 300 * (k : Int)) : 0 ≤ (S.lat i).dr ∧ (S.lat i).dr ≤ 300 * ((k + 1 : Nat) : Int) := by unfold Lm.lat; split <;> exact le_up h
theorem Lm.dr_trn (h : 0 ≤ S.dr ∧ S.dr ≤ 300 * (k : Int)) : 0 ≤ (S.trn i p m).dr ∧ (S.trn i p m).dr ≤ 300 * ((k + 1 : Nat) : Int) := by unfold Lm.trn; split <;> exact le_up h
theorem Lm.dr_send (h : 0 ≤ S.dr ∧ S.dr ≤ 300 * (k : Int)) : 0 ≤ (S.send zs).dr ∧ (S.send zs).dr ≤ 300 * ((k + 1 : Nat) : Int) := by
  unfold Lm.send
  split
  · exact upZ_le h (by decide) (by decide)
  · exact le_up h
theorem Lm.dr_clr (hl : S.ms.length ≤ 256) (h : 0 ≤ S.dr ∧ S.dr ≤ 300 * (k : Int)) : 0 ≤ S.clr.dr ∧ S.clr.dr ≤ 300 * ((k + 1 : Nat) : Int) := upZ_le h (by omega) (by omega)
set_option maxHeartbeats 64000000 in
theorem plays_any {room : Int} {a0 : Option Addr} {l0 c0 : Nat} {xs0 : List Sp} {w : World} (hroom : isI room) (ga0 : Lst w a0 l0 c0 5 xs0 SpV (fun s => SpIn w s)) :
    Calls Try.prog 3 #[.int .i64 room, .slice a0 l0 c0] w fun e w' => e = .returned (.bool true) ∧ Hid (Below w.heap.size w w') := by
  have HSp := hid fun (W' : World) (hb : Below w.heap.size w W') => ga0.below SpV_size hb (fun s h => h)
  have HFar := hid fun (W' : World) (hb : Below w.heap.size w W') => far_any (ga0.below SpV_size hb (fun s h => h.below hb))
  have hSh := fun W' => short_any a0 l0 c0 W' ga0.room ga0.most
  obtain ⟨n, Hn⟩ : ∃ n, Hid (min l0 200 = n) := ⟨_, rfl⟩
  rw [Hn.out] at hSh
  have hn1 : n ≤ l0 ∧ n ≤ 200 := by have := Hn.out; omega
  have r1 := ga0.room
  have m1 := ga0.most
  have HSh := hid hSh
  clear ga0 hSh
  by_cases hr : 1 ≤ room ∧ room ≤ 256
  · obtain ⟨hr1, hr2⟩ := hr
    have hN := lnew_any (B := w.heap.size) hr1 hr2 w (Nat.le_refl _)
    have HR := hid fun W : World => rnew_yes hr1 hr2 W
    go_enter Try.func3, Try.ntmps3
    go_wp2_with fail
    with_reducible refine hN.mono ?_
    rintro e w1 ⟨b, rfl, H1⟩
    clear hN
    go_wp2_with fail
    with_reducible refine (HR.out _).mono ?_
    rintro e w2 ⟨rfl, H2⟩
    unfold lmV
    obtain ⟨w3, hw3⟩ : ∃ w3, w3 = w2.alloc (.cells #[.int .i64 room, .slice none 0 0, .int .u32 0, .int .u32 0, .int .u32 0, .int .u32 0] 30) := ⟨_, rfl⟩
    obtain ⟨r, hrr⟩ : ∃ r, w2.heap.size = r := ⟨_, rfl⟩
    have HJ : Hid (PlJ w b r 0 ⟨room.toNat, [], 0, 0, 0, 0⟩ w3) := by
      have hb3 : Below w1.heap.size w1 w3 := by rw [hw3]; exact H2.out.alloc H2.out.size _
      have h1 := H1.out.1.below hb3
      have e1 : ((room.toNat : Nat) : Int) = room := Int.toNat_of_nonneg (by omega)
      have hs1 := H1.out.2.1.size
      have hs2 := H2.out.size
      refine ⟨⟨_, _, .slice none 0 0, [], h1, ⟨by omega, ?_, World.ownsRow_nil _ _ _ _, rfl, fun i u zs hu => by simp at hu, h1.ok⟩, fun k hk hk2 => ?_⟩, H1.out.2.1.trans (hb3.mono H1.out.2.1.size), ⟨Int.le_refl _, Int.le_refl _⟩⟩
      · rw [hw3, ← hrr]
        unfold LrC
        rw [e1]
        exact heap_alloc_new w2 _
      · have hk1 : k = b := by
          rcases hk with (e | e) | ⟨x, hx, _⟩
          · exact e
          · cases e
          · simp at hx
        have hk3 : k = r := by
          rcases hk2 with (e | e) | ⟨x, hx, _⟩
          · exact e
          · cases e
          · simp at hx
        have := H1.out.1.blt
        omega
    clear H1 H2 HR
    go_wp2_with fail
    (first | rw [← hw3] | skip)
    clear hw3 hrr
    with_reducible refine (HFar.out _ HJ.out.bel).mono ?_
    rintro e w4 ⟨f, rfl, H4⟩
    have HJ4 : Hid (PlJ w b r 0 ⟨room.toNat, [], 0, 0, 0, 0⟩ w4) := ⟨HJ.out.bo.below H4.out, HJ.out.bel.trans (H4.out.mono HJ.out.bel.size), HJ.out.dr⟩
    clear HJ H4 HFar
    cases f with
    | true =>
      go_wp2_with fail
      with_reducible refine (alive21_any _).mono ?_
      rintro e wz ⟨rfl, HZ0⟩
      have HZ := hid (HJ4.out.bel.trans (HZ0.out.mono HJ4.out.bel.size))
      clear HZ0 HJ4
      go_wp2_with fail
      go_ret
      exact ⟨rfl, HZ⟩
    | false =>
      go_wp2_with fail
      with_reducible refine (HSh.out _).mono ?_
      rintro e w5 ⟨rfl, rfl⟩
      clear HSh
      go_wp2_with fail
      go_loopw [58] (fun z W' => ∃ (k : Nat) (S : Lm), k ≤ n ∧ z = .int .i64 k ∧ Hid (PlJ w b r k S W')) (fun z _ => n - (intOf z).toNat)
      case atStart => exact ⟨0, _, by omega, rfl, HJ4⟩
      case round =>
      obtain ⟨k, S, hk, rfl, HS⟩ := hrel
      rename World => wr
      clear HJ4
      by_cases hkl : k < n
      · have g1 : (k : Int) < (n : Int) := by omega
        have hL := HSp.out _ HS.out.bel
        have hx : k < xs0.length := by rw [hL.size]; omega
        obtain ⟨q, off, rfl, hc⟩ := hL.cell k hx
        have q0 := hc 0 (by omega)
        have q1 := hc 1 (by omega)
        have q2 := hc 2 (by omega)
        have q3 := hc 3 (by omega)
        have q4 := hc 4 (by omega)
        have HI := hid (hL.inn k hx)
        clear hc hL
        simp only [SpV, List.getElem?_toArray, List.getElem?_cons_zero, List.getElem?_cons_succ, Nat.add_zero] at q0 q1 q2 q3 q4
        generalize xs0[k] = s at *
        obtain ⟨w3, hw3⟩ : ∃ w3, w3 = wr.alloc (.cells #[.int .u8 s.kd, .slice s.b.ap s.b.lp s.b.cp, .int .i64 s.i, .int .i64 s.pl, .int .u32 s.msk] 38) := ⟨_, rfl⟩
        obtain ⟨sb, hsb⟩ : ∃ sb, wr.heap.size = sb := ⟨_, rfl⟩
        have HG : Hid (PlM w b r S S sb s w3) := by
          have hb3 : Below wr.heap.size wr w3 := by rw [hw3]; exact (Below.refl _ _).alloc (Nat.le_refl _) _
          exact ⟨HS.out.bo.below hb3, HS.out.bel.trans (hb3.mono HS.out.bel.size), by rw [hw3, ← hsb]; exact heap_alloc_new wr _⟩
        obtain ⟨kd0, kd1⟩ := HI.out.kd
        obtain ⟨rr, hrr⟩ : ∃ rr, s.kd % 8 = rr := ⟨_, rfl⟩
        have hr' : s.kd.tmod 8 = rr := by rw [Int.tmod_eq_emod_of_nonneg kd0]; exact hrr
        have hwr : IntKind.u8.wrap rr = rr := by rw [IntKind.wrap_u8]; omega
        have HFr : Hid (0 < s.b.lp → ∀ p, s.b.ap = some p → p.block < w.heap.size) := fun hl p hp => by
          obtain ⟨x, o, e, hc⟩ := HI.out.b.rd.cell 0 hl
          rw [hp] at e
          cases e
          exact World.block_lt_of_cell? _ _ hc
        obtain ⟨y0, y1, y2, y3, y4⟩ := HG.out.cells
        have Hy := hid (And.intro y0 (And.intro y1 (And.intro y2 (And.intro y3 y4))))
        have y0' := y0
        rw [hw3] at y0'
        clear y0 y1 y2 y3 y4
        go_upto_block 2 with fail
        rw [← hw3]
        clear hsb hw3 q0 q1 q2 q3 q4 y0'
        obtain ⟨y0, y1, y2, y3, y4⟩ := Hy.out
        clear Hy
        go_cut [11] (fun v wx => v = .bool true ∧ ∃ S', Hid (PlJ w b r (k + 1) S' wx))
        case first =>
          rcases (by omega : rr = 2 ∨ rr = 3 ∨ rr = 4 ∨ rr = 5 ∨ rr = 6 ∨ rr = 7 ∨ rr = 0 ∨ rr = 1) with h2 | h3 | h4 | h5 | h6 | h7 | h0 | h1
          · subst h2
            have HF1 := hid (HG.out.dlv1)
            have HDr : Hid (0 ≤ (S.dlv s.i).dr ∧ (S.dlv s.i).dr ≤ 300 * ((k + 1 : Nat) : Int)) := hid (Lm.dr_dlv HS.out.dr)
            clear HI HFr
            go_wp2_with fail
            with_reducible refine HF1.out.mono ?_
            rintro e x1 ⟨xa, xc, rfl, H1⟩
            have HG1 := hid H1.out.1
            have HX1 := hid H1.out.2
            obtain ⟨z0, z1, z2, z3, z4⟩ := HG1.out.cells
            have HF2 := hid (HG1.out.dlv2 HX1.out.1 HX1.out.2)
            clear H1 HF1 y0 y1 y2 y3 y4
            go_wp2_with fail
            with_reducible refine HF2.out.mono ?_
            rintro e x2 ⟨ya, yc, rfl, H2⟩
            have HX := hid (H2.out.1.done HDr.out)
            have cx := H2.out.2.1.conv (P := Try.prog) 36 9 5 Try.underlying36 Try.underlying5 Try.underlying9
            have cy := H2.out.2.2.conv (P := Try.prog) 36 9 5 Try.underlying36 Try.underlying5 Try.underlying9
            clear H2 HG HG1 HX1 HF2 HDr z0 z1 z2 z3 z4 hr' hwr
            generalize strOfNums (S.msgZ s.i) = sx at *
            generalize S.errI s.i = fr at *
            generalize (S.msgZ s.i).length = ln at *
            go_wp2_with fail
            go_meet
            case rel => exact ⟨rfl, _, HX⟩
          · subst h3
            have HF1 : Hid (∀ W' : World, PlM w b r S S sb s W' → Calls Try.prog 14 #[.pointer (some ⟨b, 0, none⟩), .int .i64 s.i] W' fun e w' => e = .returned (.int .i64 (S.errI s.i)) ∧ Hid (PlM w b r (S.drp s.i) S sb s w')) := fun W' h => h.go (bdrop1 s.i h.bo)
            have HF2 : Hid (∀ W' : World, PlM w b r (S.drp s.i) S sb s W' → Calls Try.prog 15 #[.pointer (some ⟨r, 0, none⟩), .int .i64 s.i] W' fun e w' => e = .returned (.int .i64 (S.errI s.i)) ∧ Hid (PlM w b r (S.drp s.i) (S.drp s.i) sb s w')) := fun W' h => h.go (bdrop2 s.i h.bo)
            have HDr : Hid (0 ≤ ((S.drp s.i)).dr ∧ ((S.drp s.i)).dr ≤ 300 * ((k + 1 : Nat) : Int)) := hid (Lm.dr_drp HS.out.dr)
            generalize (S.errI s.i) = fr at HF1 HF2
            generalize (S.drp s.i) = S1 at HF1 HF2 HDr
            have HC0 : Hid (∀ (T1 T2 : Lm) (W' : World), PlM w b r T1 T2 sb s W' → _) := fun _ _ W' h => h.cells
            have HGd := hid (HG.out.below (Below.refl _ _).drew)
            clear HI HFr
            go_wp2_with fail
            clear y0 y1 y2 y3 y4 hr' hwr
            go_region_held3 (fun W' : World => W'.cell? ⟨sb, 0, none⟩ = some (.int .u8 s.kd) ∧ W'.cell? ⟨sb, 1, none⟩ = some (.slice s.b.ap s.b.lp s.b.cp) ∧ W'.cell? ⟨sb, 2, none⟩ = some (.int .i64 s.i) ∧ W'.cell? ⟨sb, 3, none⟩ = some (.int .i64 s.pl) ∧ W'.cell? ⟨sb, 4, none⟩ = some (.int .u32 s.msk))
              (first | (with_reducible exact HC0.out _ _ _ HG.out) | (with_reducible exact HC0.out _ _ _ HGd.out) | (with_reducible exact HC0.out _ _ _ HG1.out) | (with_reducible exact HC0.out _ _ _ HG2.out))
              (first
                | (go_at_call 14; (with_reducible refine (HF1.out _ HGd.out).mono ?_); rintro e x1 ⟨rfl, HG1⟩)
                | (go_at_call 15; (with_reducible refine (HF2.out _ HG1.out).mono ?_); rintro e wx ⟨rfl, HG2⟩)
                | fail)
            all_goals
              have HX := hid (HG2.out.done HDr.out)
              clear HG HGd HG1 HG2 HF1 HF2 HC0 HDr
              go_wp2_with fail
              go_meet
              case rel => exact ⟨rfl, _, HX⟩
          · subst h4
            have HF1 : Hid (∀ W' : World, PlM w b r S S sb s W' → Calls Try.prog 16 #[.pointer (some ⟨b, 0, none⟩), .int .i64 s.i] W' fun e w' => e = .returned (.int .i64 (S.twiE s.i)) ∧ Hid (PlM w b r (S.twi s.i) S sb s w')) := fun W' h => h.go (btwi1 s.i h.bo)
            have HF2 : Hid (∀ W' : World, PlM w b r (S.twi s.i) S sb s W' → Calls Try.prog 17 #[.pointer (some ⟨r, 0, none⟩), .int .i64 s.i] W' fun e w' => e = .returned (.int .i64 (S.twiE s.i)) ∧ Hid (PlM w b r (S.twi s.i) (S.twi s.i) sb s w')) := fun W' h => h.go (btwi2 s.i h.bo)
            have HDr : Hid (0 ≤ ((S.twi s.i)).dr ∧ ((S.twi s.i)).dr ≤ 300 * ((k + 1 : Nat) : Int)) := hid (Lm.dr_twi HS.out.dr)
            generalize (S.twiE s.i) = fr at HF1 HF2
            generalize (S.twi s.i) = S1 at HF1 HF2 HDr
            have HC0 : Hid (∀ (T1 T2 : Lm) (W' : World), PlM w b r T1 T2 sb s W' → _) := fun _ _ W' h => h.cells
            have HGd := hid (HG.out.below (Below.refl _ _).drew)
            clear HI HFr
            go_wp2_with fail
            clear y0 y1 y2 y3 y4 hr' hwr
            go_region_held3 (fun W' : World => W'.cell? ⟨sb, 0, none⟩ = some (.int .u8 s.kd) ∧ W'.cell? ⟨sb, 1, none⟩ = some (.slice s.b.ap s.b.lp s.b.cp) ∧ W'.cell? ⟨sb, 2, none⟩ = some (.int .i64 s.i) ∧ W'.cell? ⟨sb, 3, none⟩ = some (.int .i64 s.pl) ∧ W'.cell? ⟨sb, 4, none⟩ = some (.int .u32 s.msk))
              (first | (with_reducible exact HC0.out _ _ _ HG.out) | (with_reducible exact HC0.out _ _ _ HGd.out) | (with_reducible exact HC0.out _ _ _ HG1.out) | (with_reducible exact HC0.out _ _ _ HG2.out))
              (first
                | (go_at_call 16; (with_reducible refine (HF1.out _ HGd.out).mono ?_); rintro e x1 ⟨rfl, HG1⟩)
                | (go_at_call 17; (with_reducible refine (HF2.out _ HG1.out).mono ?_); rintro e wx ⟨rfl, HG2⟩)
                | fail)
            all_goals
              have HX := hid (HG2.out.done HDr.out)
              clear HG HGd HG1 HG2 HF1 HF2 HC0 HDr
              go_wp2_with fail
              go_meet
              case rel => exact ⟨rfl, _, HX⟩
          · subst h5
            have HF1 : Hid (∀ W' : World, PlM w b r S S sb s W' → Calls Try.prog 18 #[.pointer (some ⟨b, 0, none⟩), .int .i64 s.i] W' fun e w' => e = .returned (.int .i64 (S.errI s.i)) ∧ Hid (PlM w b r (S.lat s.i) S sb s w')) := fun W' h => h.go (blat1 s.i h.bo)
            have HF2 : Hid (∀ W' : World, PlM w b r (S.lat s.i) S sb s W' → Calls Try.prog 19 #[.pointer (some ⟨r, 0, none⟩), .int .i64 s.i] W' fun e w' => e = .returned (.int .i64 (S.errI s.i)) ∧ Hid (PlM w b r (S.lat s.i) (S.lat s.i) sb s w')) := fun W' h => h.go (blat2 s.i h.bo)
            have HDr : Hid (0 ≤ ((S.lat s.i)).dr ∧ ((S.lat s.i)).dr ≤ 300 * ((k + 1 : Nat) : Int)) := hid (Lm.dr_lat HS.out.dr)
            generalize (S.errI s.i) = fr at HF1 HF2
            generalize (S.lat s.i) = S1 at HF1 HF2 HDr
            have HC0 : Hid (∀ (T1 T2 : Lm) (W' : World), PlM w b r T1 T2 sb s W' → _) := fun _ _ W' h => h.cells
            have HGd := hid (HG.out.below (Below.refl _ _).drew)
            clear HI HFr
            go_wp2_with fail
            clear y0 y1 y2 y3 y4 hr' hwr
            go_region_held3 (fun W' : World => W'.cell? ⟨sb, 0, none⟩ = some (.int .u8 s.kd) ∧ W'.cell? ⟨sb, 1, none⟩ = some (.slice s.b.ap s.b.lp s.b.cp) ∧ W'.cell? ⟨sb, 2, none⟩ = some (.int .i64 s.i) ∧ W'.cell? ⟨sb, 3, none⟩ = some (.int .i64 s.pl) ∧ W'.cell? ⟨sb, 4, none⟩ = some (.int .u32 s.msk))
              (first | (with_reducible exact HC0.out _ _ _ HG.out) | (with_reducible exact HC0.out _ _ _ HGd.out) | (with_reducible exact HC0.out _ _ _ HG1.out) | (with_reducible exact HC0.out _ _ _ HG2.out))
              (first
                | (go_at_call 18; (with_reducible refine (HF1.out _ HGd.out).mono ?_); rintro e x1 ⟨rfl, HG1⟩)
                | (go_at_call 19; (with_reducible refine (HF2.out _ HG1.out).mono ?_); rintro e wx ⟨rfl, HG2⟩)
                | fail)
            all_goals
              have HX := hid (HG2.out.done HDr.out)
              clear HG HGd HG1 HG2 HF1 HF2 HC0 HDr
              go_wp2_with fail
              go_meet
              case rel => exact ⟨rfl, _, HX⟩
          · subst h6
            have HF1 : Hid (∀ W' : World, PlM w b r S S sb s W' → Calls Try.prog 20 #[.pointer (some ⟨b, 0, none⟩), .int .i64 s.i, .int .i64 s.pl, .int .u32 s.msk] W' fun e w' => e = .returned (.int .i64 (S.errI s.i)) ∧ Hid (PlM w b r (S.trn s.i s.pl s.msk) S sb s w')) := fun W' h => h.go (btrn1 s.i h.bo HI.out.pl HI.out.msk)
            have HF2 : Hid (∀ W' : World, PlM w b r (S.trn s.i s.pl s.msk) S sb s W' → Calls Try.prog 21 #[.pointer (some ⟨r, 0, none⟩), .int .i64 s.i, .int .i64 s.pl, .int .u32 s.msk] W' fun e w' => e = .returned (.int .i64 (S.errI s.i)) ∧ Hid (PlM w b r (S.trn s.i s.pl s.msk) (S.trn s.i s.pl s.msk) sb s w')) := fun W' h => h.go (btrn2 s.i h.bo HI.out.pl HI.out.msk)
            have HDr : Hid (0 ≤ ((S.trn s.i s.pl s.msk)).dr ∧ ((S.trn s.i s.pl s.msk)).dr ≤ 300 * ((k + 1 : Nat) : Int)) := hid (Lm.dr_trn HS.out.dr)
            generalize (S.errI s.i) = fr at HF1 HF2
            generalize (S.trn s.i s.pl s.msk) = S1 at HF1 HF2 HDr
            have HC0 : Hid (∀ (T1 T2 : Lm) (W' : World), PlM w b r T1 T2 sb s W' → _) := fun _ _ W' h => h.cells
            have HGd := hid (HG.out.below (Below.refl _ _).drew)
            clear HI HFr
            go_wp2_with fail
            clear y0 y1 y2 y3 y4 hr' hwr
            go_region_held3 (fun W' : World => W'.cell? ⟨sb, 0, none⟩ = some (.int .u8 s.kd) ∧ W'.cell? ⟨sb, 1, none⟩ = some (.slice s.b.ap s.b.lp s.b.cp) ∧ W'.cell? ⟨sb, 2, none⟩ = some (.int .i64 s.i) ∧ W'.cell? ⟨sb, 3, none⟩ = some (.int .i64 s.pl) ∧ W'.cell? ⟨sb, 4, none⟩ = some (.int .u32 s.msk))
              (first | (with_reducible exact HC0.out _ _ _ HG.out) | (with_reducible exact HC0.out _ _ _ HGd.out) | (with_reducible exact HC0.out _ _ _ HG1.out) | (with_reducible exact HC0.out _ _ _ HG2.out))
              (first
                | (go_at_call 20; (with_reducible refine (HF1.out _ HGd.out).mono ?_); rintro e x1 ⟨rfl, HG1⟩)
                | (go_at_call 21; (with_reducible refine (HF2.out _ HG1.out).mono ?_); rintro e wx ⟨rfl, HG2⟩)
                | fail)
            all_goals
              have HX := hid (HG2.out.done HDr.out)
              clear HG HGd HG1 HG2 HF1 HF2 HC0 HDr
              go_wp2_with fail
              go_meet
              case rel => exact ⟨rfl, _, HX⟩
          · subst h7
            have HDr : Hid (0 ≤ S.clr.dr ∧ S.clr.dr ≤ 300 * ((k + 1 : Nat) : Int)) := hid (Lm.dr_clr (by obtain ⟨_, _, g1⟩ := HS.out.bo.lk; exact Nat.le_trans g1.ok.ms g1.ok.r1) HS.out.dr)
            have HDr0 : Hid (0 ≤ S.dr ∧ S.dr ≤ 300 * ((k + 1 : Nat) : Int)) := hid (le_up HS.out.dr)
            by_cases hi0 : s.i = 0
            · obtain ⟨v1, us1, v2, us2, h1, h2, h3⟩ := HG.out.bo
              obtain ⟨ao, ln, cn, hv2, hln⟩ := h2.slc
              subst hv2
              have hd := HS.out.dr
              have hl1 : ln ≤ 256 := by rw [hln]; exact Nat.le_trans h2.ok.ms h2.ok.r1
              have hd0 : 0 ≤ S.dr := hd.1
              have hd1 : S.dr ≤ 60000 := by omega
              have hk200 : k < 200 := by omega
              have HF1 : Hid (∀ W' : World, Below w3.heap.size w3 W' → Calls Try.prog 22 #[.pointer (some ⟨b, 0, none⟩)] W' fun e w' => e = .returned (.int .i64 ln) ∧ Hid (Bo w.heap.size w' b r S.clr S ∧ Below w.heap.size w w' ∧ ∀ x, w'.cell? ⟨r, x, none⟩ = w3.cell? ⟨r, x, none⟩ ∧ w'.frozen? ⟨r, x, none⟩ = false)) := fun W' hb => by
                rw [hln]
                refine (lclear_any (h1.below hb)).mono ?_
                rintro e w' ⟨rfl, H⟩
                have hg := Bo.go1 (h1.below hb) (h2.below hb) h3 H.out
                have hr1 := h2.below hb
                obtain ⟨x1, x2, a1, a2, _⟩ := H.out
                have hblk : w'.heap[r]? = w3.heap[r]? := (a2.block r hr1.blt fun e => h3 r (.inl e) (.inl (.inl rfl))).trans (hb.block r h2.blt)
                exact ⟨rfl, hg.1, (HG.out.bel.trans (hb.mono HG.out.bel.size)).trans hg.2.bel, fun x => ⟨World.cell?_of_block (w := w3) hblk, frozen_of_row _ _ x _ _ (hblk.trans h2.blk)⟩⟩
              have rc1 := h2.cells.2.1
              have rc4 := h2.cells.2.2.2.2.1
              have hu : IntKind.u32.wrap (ln : Int) = (ln : Int) := by rw [IntKind.wrap_u32]; omega
              have HR1 : Hid (∀ W' : World, Below w3.heap.size w3 W' → W'.cell? ⟨r, 1, none⟩ = some (.slice ao ln cn)) := fun W' hb => (h2.below hb).cells.2.1
              have HLn := hid hln
              clear h1 h2 h3 hln HI HFr hd
              go_wp2_with fail
              clear y0 y1 y2 y3 y4 hr' hwr rc1
              have HV : Hid (Below w3.heap.size w3 w3.drew) := (Below.refl _ _).drew
              go_region_held3 (fun W' : World => W'.cell? ⟨r, 1, none⟩ = some (.slice ao ln cn)) (first | (with_reducible exact HR1.out _ HV.out) | (with_reducible exact hq1))
                (first
                  | (go_at_call 22; (with_reducible refine (HF1.out _ HV.out).mono ?_); rintro e wx ⟨rfl, HG1⟩; have hq1 : wx.cell? ⟨r, 1, none⟩ = some (.slice ao ln cn) := ((HG1.out.2.2 1).1).trans (HR1.out _ (Below.refl _ _)))
                  | fail)
              all_goals
                have hq4 : wx.cell? ⟨r, 4, none⟩ = some (.int .u32 S.dr) := ((HG1.out.2.2 4).1).trans rc4
                have f4 := (HG1.out.2.2 4).2
                have f1 := (HG1.out.2.2 1).2
                have HE : Hid (∀ w', w' = (wx.setCell ⟨r, 4, none⟩ (.int .u32 (S.dr + ln))).setCell ⟨r, 1, none⟩ (.slice none 0 0) → PlJ w b r (k + 1) S.clr w') := fun w' e => by
                  have h9 := bclr2 (W' := w') HG1.out.1 (by have := HLn.out; omega) (by rw [← HLn.out]; exact e)
                  exact ⟨h9.1, HG1.out.2.1.trans h9.2.bel, HDr.out⟩
                clear HG HG1 HF1 HR1 HLn HDr HDr0 rc4
                go_wp2_with fail
                go_meet
                case rel => exact ⟨rfl, _, HE.out _ rfl⟩
            · have hi0' : (s.i == 0) = false := by simp [hi0]
              clear HI HFr
              go_wp2_with fail
              go_meet
              case rel => exact ⟨rfl, _, HG.out.done HDr0.out⟩
          · subst h0
            have HF1 : Hid (∀ W' : World, PlM w b r S S sb s W' → Calls Try.prog 23 #[.pointer (some ⟨b, 0, none⟩), .slice s.b.ap s.b.lp s.b.cp] W' fun e w' => e = .returned (.int .i64 S.sendE) ∧ Hid (PlM w b r (S.send s.b.zs) S sb s w')) := fun W' h => h.go (bsend1 h.bo s.b.ap s.b.lp s.b.cp s.b.zs (HI.out.b.rd.below h.bel) HI.out.b.bs HI.out.b.len HFr.out)
            have HF2 : Hid (∀ W' : World, PlM w b r (S.send s.b.zs) S sb s W' → Calls Try.prog 24 #[.pointer (some ⟨r, 0, none⟩), .slice s.b.ap s.b.lp s.b.cp] W' fun e w' => e = .returned (.int .i64 S.sendE) ∧ Hid (PlM w b r (S.send s.b.zs) (S.send s.b.zs) sb s w')) := fun W' h => h.go (bsend2 h.bo s.b.ap s.b.lp s.b.cp s.b.zs (HI.out.b.rd.below h.bel) HI.out.b.bs HI.out.b.len HFr.out)
            have HDr : Hid (0 ≤ ((S.send s.b.zs)).dr ∧ ((S.send s.b.zs)).dr ≤ 300 * ((k + 1 : Nat) : Int)) := hid (Lm.dr_send HS.out.dr)
            generalize S.sendE = fr at HF1 HF2
            generalize (S.send s.b.zs) = S1 at HF1 HF2 HDr
            have HC0 : Hid (∀ (T1 T2 : Lm) (W' : World), PlM w b r T1 T2 sb s W' → _) := fun _ _ W' h => h.cells
            have HGd := hid (HG.out.below (Below.refl _ _).drew)
            clear HI HFr
            go_wp2_with fail
            clear y0 y1 y2 y3 y4 hr' hwr
            go_region_held3 (fun W' : World => W'.cell? ⟨sb, 0, none⟩ = some (.int .u8 s.kd) ∧ W'.cell? ⟨sb, 1, none⟩ = some (.slice s.b.ap s.b.lp s.b.cp) ∧ W'.cell? ⟨sb, 2, none⟩ = some (.int .i64 s.i) ∧ W'.cell? ⟨sb, 3, none⟩ = some (.int .i64 s.pl) ∧ W'.cell? ⟨sb, 4, none⟩ = some (.int .u32 s.msk))
              (first | (with_reducible exact HC0.out _ _ _ HG.out) | (with_reducible exact HC0.out _ _ _ HGd.out) | (with_reducible exact HC0.out _ _ _ HG1.out) | (with_reducible exact HC0.out _ _ _ HG2.out))
              (first
                | (go_at_call 23; (with_reducible refine (HF1.out _ HGd.out).mono ?_); rintro e x1 ⟨rfl, HG1⟩)
                | (go_at_call 24; (with_reducible refine (HF2.out _ HG1.out).mono ?_); rintro e wx ⟨rfl, HG2⟩)
                | fail)
            all_goals
              have HX := hid (HG2.out.done HDr.out)
              clear HG HGd HG1 HG2 HF1 HF2 HC0 HDr
              go_wp2_with fail
              go_meet
              case rel => exact ⟨rfl, _, HX⟩
          · subst h1
            have HF1 : Hid (∀ W' : World, PlM w b r S S sb s W' → Calls Try.prog 23 #[.pointer (some ⟨b, 0, none⟩), .slice s.b.ap s.b.lp s.b.cp] W' fun e w' => e = .returned (.int .i64 S.sendE) ∧ Hid (PlM w b r (S.send s.b.zs) S sb s w')) := fun W' h => h.go (bsend1 h.bo s.b.ap s.b.lp s.b.cp s.b.zs (HI.out.b.rd.below h.bel) HI.out.b.bs HI.out.b.len HFr.out)
            have HF2 : Hid (∀ W' : World, PlM w b r (S.send s.b.zs) S sb s W' → Calls Try.prog 24 #[.pointer (some ⟨r, 0, none⟩), .slice s.b.ap s.b.lp s.b.cp] W' fun e w' => e = .returned (.int .i64 S.sendE) ∧ Hid (PlM w b r (S.send s.b.zs) (S.send s.b.zs) sb s w')) := fun W' h => h.go (bsend2 h.bo s.b.ap s.b.lp s.b.cp s.b.zs (HI.out.b.rd.below h.bel) HI.out.b.bs HI.out.b.len HFr.out)
            have HDr : Hid (0 ≤ ((S.send s.b.zs)).dr ∧ ((S.send s.b.zs)).dr ≤ 300 * ((k + 1 : Nat) : Int)) := hid (Lm.dr_send HS.out.dr)
            generalize S.sendE = fr at HF1 HF2
            generalize (S.send s.b.zs) = S1 at HF1 HF2 HDr
            have HC0 : Hid (∀ (T1 T2 : Lm) (W' : World), PlM w b r T1 T2 sb s W' → _) := fun _ _ W' h => h.cells
            have HGd := hid (HG.out.below (Below.refl _ _).drew)
            clear HI HFr
            go_wp2_with fail
            clear y0 y1 y2 y3 y4 hr' hwr
            go_region_held3 (fun W' : World => W'.cell? ⟨sb, 0, none⟩ = some (.int .u8 s.kd) ∧ W'.cell? ⟨sb, 1, none⟩ = some (.slice s.b.ap s.b.lp s.b.cp) ∧ W'.cell? ⟨sb, 2, none⟩ = some (.int .i64 s.i) ∧ W'.cell? ⟨sb, 3, none⟩ = some (.int .i64 s.pl) ∧ W'.cell? ⟨sb, 4, none⟩ = some (.int .u32 s.msk))
              (first | (with_reducible exact HC0.out _ _ _ HG.out) | (with_reducible exact HC0.out _ _ _ HGd.out) | (with_reducible exact HC0.out _ _ _ HG1.out) | (with_reducible exact HC0.out _ _ _ HG2.out))
              (first
                | (go_at_call 23; (with_reducible refine (HF1.out _ HGd.out).mono ?_); rintro e x1 ⟨rfl, HG1⟩)
                | (go_at_call 24; (with_reducible refine (HF2.out _ HG1.out).mono ?_); rintro e wx ⟨rfl, HG2⟩)
                | fail)
            all_goals
              have HX := hid (HG2.out.done HDr.out)
              clear HG HGd HG1 HG2 HF1 HF2 HC0 HDr
              go_wp2_with fail
              go_meet
              case rel => exact ⟨rfl, _, HX⟩
        case rest =>
        obtain ⟨rfl, S', HS'⟩ := hcut
        clear HG HI HFr HS hr' hwr hrr kd0 kd1 hx y0 y1 y2 y3 y4
        obtain ⟨v1, us1, v2, us2, h1, h2, _⟩ := HS'.out.bo
        obtain ⟨ao, ln, cn, hv2, hln⟩ := h2.slc
        subst hv2
        have hC := lcounts_any h1
        have HLn : Hid (∀ W' : World, Below wc.heap.size wc W' → Calls Try.prog 26 #[.pointer (some ⟨b, 0, none⟩)] W' fun e w' => e = .returned (.int .i64 ln) ∧ w' = W') := fun W' hb => by
          rw [hln]
          exact llen_any (h1.below hb)
        have HRc : Hid (∀ W' : World, Below wc.heap.size wc W' → _) := fun W' hb => (h2.below hb).cells
        clear h1 h2 hln
        go_wp2_with fail
        with_reducible refine hC.mono ?_
        rintro e w6 ⟨rfl, H6⟩
        clear hC
        obtain ⟨w7, hw7⟩ : ∃ w7, w7 = w6.alloc (.cells #[.int .u32 S'.se, .int .u32 S'.ca, .int .u32 S'.dr, .int .u32 S'.tu] 51) := ⟨_, rfl⟩
        obtain ⟨tb, htb⟩ : ∃ tb, w6.heap.size = tb := ⟨_, rfl⟩
        have HB7 : Hid (Below wc.heap.size wc w7) := by unfold Hid; rw [hw7]; exact H6.out.alloc H6.out.size _
        have hbk : w7.heap[tb]? = some (.cells #[.int .u32 S'.se, .int .u32 S'.ca, .int .u32 S'.dr, .int .u32 S'.tu] 51 (0, 0)) := by rw [hw7, ← htb]; exact heap_alloc_new w6 _
        have z0 : w7.cell? ⟨tb, 0, none⟩ = some (.int .u32 S'.se) := by rw [cell_of_row _ _ _ _ _ _ hbk]; rfl
        have z1 : w7.cell? ⟨tb, 1, none⟩ = some (.int .u32 S'.ca) := by rw [cell_of_row _ _ _ _ _ _ hbk]; rfl
        have z2 : w7.cell? ⟨tb, 2, none⟩ = some (.int .u32 S'.dr) := by rw [cell_of_row _ _ _ _ _ _ hbk]; rfl
        have z3 : w7.cell? ⟨tb, 3, none⟩ = some (.int .u32 S'.tu) := by rw [cell_of_row _ _ _ _ _ _ hbk]; rfl
        obtain ⟨_, r1', r2', r3', r4', r5'⟩ := HRc.out _ HB7.out
        have HX7 : Hid (PlJ w b r (k + 1) S' w7) := ⟨HS'.out.bo.below HB7.out, HS'.out.bel.trans (HB7.out.mono HS'.out.bel.size), HS'.out.dr⟩
        have HL7 := hid (fun q : Nat => HLn.out (w7.drewN q) (HB7.out.trans ⟨rfl, rfl, rfl, Nat.le_refl _, fun _ _ => rfl⟩))
        clear HS' HRc HLn H6 hbk HB7
        go_upto_region 29 with fail
        rw [← hw7]
        clear hw7 htb
        go_quiet ((go_at_call 26; exact Calls.quiet_of_same (HL7.out _)))
        have HX8 : Hid (PlJ w b r (k + 1) S' (w7.drewN ‹Nat›)) := ⟨HX7.out.bo.below ⟨rfl, rfl, rfl, Nat.le_refl _, fun _ _ => rfl⟩, HX7.out.bel.trans ⟨rfl, rfl, rfl, Nat.le_refl _, fun _ _ => rfl⟩, HX7.out.dr⟩
        clear HX7 HL7 z0 z1 z2 z3 r1' r2' r3' r4' r5'
        go_wp2_with fail
        go_round
        case rel => exact ⟨k + 1, S', by omega, by go_num, HX8⟩
        case measure => simp [intOf]; omega
      · have g1 : ¬ (k : Int) < (n : Int) := by omega
        go_wp2_with fail
        with_reducible refine (alive21_any _).mono ?_
        rintro e wz ⟨rfl, HZ0⟩
        have HZ := hid (HS.out.bel.trans (HZ0.out.mono HS.out.bel.size))
        clear HZ0 HS
        go_wp2_with fail
        go_ret
        exact ⟨rfl, HZ⟩
  · have hb : room < 1 ∨ 256 < room := by omega
    have hN := lnew_bad hb w
    have hR := rnew_no hb w
    clear HSp HFar HSh
    go_enter Try.func3, Try.ntmps3
    go_wp2_with fail
    with_reducible refine hN.mono ?_
    rintro e w1 ⟨rfl, rfl⟩
    go_wp2_with fail
    with_reducible refine hR.mono ?_
    rintro e w2 ⟨rfl, H2⟩
    unfold lmV
    obtain ⟨w3, hw3⟩ : ∃ w3, w3 = w2.alloc (.cells #[.int .i64 0, .slice none 0 0, .int .u32 0, .int .u32 0, .int .u32 0, .int .u32 0] 30) := ⟨_, rfl⟩
    have HB3 : Hid (Below w1.heap.size w1 w3) := by unfold Hid; rw [hw3]; exact H2.out.alloc H2.out.size _
    go_wp2_with fail
    (first | rw [← hw3] | skip)
    with_reducible refine (alive21_any _).mono ?_
    rintro e wz ⟨rfl, HZ0⟩
    have HZ := hid (HB3.out.trans (HZ0.out.mono HB3.out.size))
    clear HZ0 HB3
    go_wp2_with fail
    go_ret
    exact ⟨rfl, HZ⟩
end Go.Proofs.Ytlhmalmmligkkaa
