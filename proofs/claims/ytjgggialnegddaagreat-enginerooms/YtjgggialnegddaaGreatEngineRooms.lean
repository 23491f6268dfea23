/-
  Proved: there are never more attempts than queue and batch have places, and none is told of behind a Quit or a crash: EngineRooms hands back true for whatever setting and steps.
-/
import Derived.Test.YtjgggialnegddaaGreatRows
import Derived.Test.YtjgggialnegddaaGreatPq42
import Derived.Test.YtjgggialnegddaaGreatPq27
import Derived.Test.YtjgggialnegddaaGreatPq50
import Derived.Deep.QuietTactic
import Derived.BigQuiet
import Derived.Deep.DeepCutAuto
import Derived.Deep.CutBlock
import Derived.WalkKit
import Derived.ProofKit
import Derived.OpenShut
import Derived.ShutString
import Derived.ChangeOld
import Derived.Below
namespace Go.Proofs.YtjgggialnegddaaGreat.engineRooms
open Go.ChangeShapes Go.WideShapes Go.ChangeAt Go.RowKit
open Go.ChangeMaps (open_string shut_string)
set_option linter.unusedVariables false

theorem own : ownKnob Tryz.prog.godebug = none := by kernel_rfl
theorem laidOut : laidOutB Tryz.prog = true := by kernel_rfl

/-! ### The walk -/
set_option maxRecDepth 1000000 in
set_option maxHeartbeats 8000000 in
theorem walk (s : Sg) (a1 : Option Addr) (l1 c1 : Nat) (xs : List Sp) (w : World) (gs : SgOk s) (ga1 : Lst w a1 l1 c1 14 xs SpV (fun s => SpOk w s)) :
  Calls Tryz.prog 5 #[.agg (SgV s), .slice a1 l1 c1] w fun e w' => e = .returned (.bool true) ∧ Below w.heap.size w w' := by
 have HLs : Hid (∀ W : World, Below w.heap.size w W → Lst W a1 l1 c1 14 xs SpV (fun s => SpOk W s)) := fun W hb => ga1.below hb SpV_size fun x hx => hx.below hb
 have HJo : Hid (∀ i (hi : i < xs.length) k, mJ xs[i].m.job k → k < w.heap.size) := fun i hi k hk => by
  obtain ⟨b', off', e1, e2⟩ := Reads.cell (ga1.inn i hi).inn.job 0 hk.1
  obtain ⟨q, e3, rfl⟩ := hk.2
  rw [e1] at e3
  cases e3
  exact World.block_lt_of_cell? _ _ e2
 have hSh := fun W : World => short15_any a1 l1 c1 W ga1.room ga1.most
 obtain ⟨n, Hn⟩ : ∃ n, Hid (min l1 30 = n) := ⟨_, rfl⟩
 rw [Hn.out] at hSh
 have hn1 : n ≤ l1 ∧ n ≤ 30 := by have := Hn.out; omega
 have HSh := hid hSh
 have HFa := hid fun (W : World) (hL : Lst W a1 l1 c1 14 xs SpV (fun s => SpOk W s)) => far15_any a1 l1 c1 xs W hL
 have r1 := ga1.room
 have m1 := ga1.most
 have HSz := hid ga1.size
 have HTs := hid fun W : World => theirSet_any s W
 have HNn := hid fun (W : World) (h : setB s = false) => en_new_no s W h
 have HNy := hid fun (W : World) (h : setB s = true) => en_new_yes s W h
 unfold SgV at HTs HNn HNy
 obtain ⟨wA, hwA⟩ : ∃ wA, wA = w.alloc (.cells #[.int .u64 s.c.seed, .int .i64 s.c.vocab, .int .i64 s.c.dim, .int .i64 s.c.layers, .int .i64 s.c.top, .int .i64 s.c.heat, .int .i64 s.q, .int .i64 s.b, .int .i64 s.pg, .int .i64 s.sz, .int .i64 s.ch] 26) := ⟨_, rfl⟩
 have hA : wA.heap[w.heap.size]? = some (.cells #[.int .u64 s.c.seed, .int .i64 s.c.vocab, .int .i64 s.c.dim, .int .i64 s.c.layers, .int .i64 s.c.top, .int .i64 s.c.heat, .int .i64 s.q, .int .i64 s.b, .int .i64 s.pg, .int .i64 s.sz, .int .i64 s.ch] 26 (0, 0)) := by rw [hwA]; exact heap_alloc_new w _
 have hbA : Below w.heap.size w wA := by rw [hwA]; exact (Below.refl _ _).alloc (Nat.le_refl _) _
 have HX : Hid (∀ W : World, Below wA.heap.size wA W → Below w.heap.size w W) := fun W hW => hbA.trans (hW.mono hbA.size)
 have HC : Hid (∀ W : World, Below wA.heap.size wA W → W.heap[w.heap.size]? = some (.cells #[.int .u64 s.c.seed, .int .i64 s.c.vocab, .int .i64 s.c.dim, .int .i64 s.c.layers, .int .i64 s.c.top, .int .i64 s.c.heat, .int .i64 s.q, .int .i64 s.b, .int .i64 s.pg, .int .i64 s.sz, .int .i64 s.ch] 26 (0, 0))) := fun W hb => (hb.block _ (lt_of_block hA)).trans hA
 obtain ⟨x0, x1, x2, x3, x4, x5, x6, x7, x8, x9, x10⟩ := cells_11 hA
 have HsA : Hid (w.heap.size < wA.heap.size) := lt_of_block hA
 clear ga1 gs hA hbA hSh
 go_enter Tryz.func5, Tryz.ntmps5
 unfold SgV
 rw [hwA] at x0 x1 x2 x3 x4 x5 x6 x7 x8 x9 x10
 go_wp2_with fail
 rw [← hwA]
 refine (HTs.out wA).mono ?_
 rintro e w1 ⟨rfl, hb⟩
 have HU := hid hb
 clear hb x0 x1 x2 x3 x4 x5 x6 x7 x8 x9 x10 hwA HTs
 cases hset : setB s with
 | false =>
  have hN := HNn.out w1 hset
  clear HNn HNy hset HC HFa
  go_wp2_with fail
  refine hN.mono ?_
  rintro e w2 ⟨rfl, hb⟩
  have HW0 := hid (HX.out _ (HU.out.trans (hb.mono HU.out.size)))
  clear hb hN HX HU HLs HJo HsA HSh
  go_wp2_with fail
  refine (alive15_any _).mono ?_
  rintro e wz ⟨rfl, hb⟩
  have HZ := hid (HW0.out.trans (hb.mono HW0.out.size))
  clear hb
  go_wp2
  go_ret
  exact ⟨rfl, HZ.out⟩
 | true =>
 have hN := HNy.out w1 hset
 clear HNn HNy
 go_wp2_with fail
 refine hN.mono ?_
 rintro e w2 ⟨g, F, It, rfl, hE, hF, hI, hb⟩
 have HB2 := hid (HU.out.trans (hb.mono HU.out.size))
 have HE := hid (And.intro hE fun k (hk : F k) => Nat.le_trans HU.out.size (hF k hk))
 have hFar := HFa.out w2 (HLs.out w2 (HX.out _ HB2.out))
 clear hN hE hF hI hb HU HFa
 generalize (xs.take (min l1 30)).any farB = fb at *
 go_wp2_with fail
 refine hFar.mono ?_
 rintro e w3 ⟨rfl, hb3⟩
 have HB3 := hid (HB2.out.trans (hb3.mono HB2.out.size))
 have HE3 := hid (And.intro (HE.out.1.below hb3) HE.out.2)
 clear hFar hb3 HB2 HE
 cases fb with
 | true =>
  have HW0 := hid (HX.out _ HB3.out)
  clear HE3 HB3 HX HC HLs HJo HsA HSh
  go_wp2_with fail
  refine (alive15_any _).mono ?_
  rintro e wz ⟨rfl, hb⟩
  have HZ := hid (HW0.out.trans (hb.mono HW0.out.size))
  clear hb
  go_wp2
  go_ret
  exact ⟨rfl, HZ.out⟩
 | false =>
 obtain ⟨w4, hw4⟩ : ∃ w4, w4 = w3.alloc (.map #[] 0) := ⟨_, rfl⟩
 have hmk : (Instr.makeMap 66 none).run Tryz.prog w3 = .ok (.map (some w3.heap.size)) w4 := by rw [hw4]; rfl
 have HS0 : Hid (RmS wA (some ⟨g, 0, none⟩) s 0 w3.heap.size w4) := by
  have hal : Below w3.heap.size w3 w4 := by rw [hw4]; exact (Below.refl _ _).alloc (Nat.le_refl _) _
  refine ⟨0, fun _ => false, ⟨s, 1, false, [], 0⟩, F, It, ⟨HE3.out.1.below hal, rfl, Nat.le_refl _, by rw [hw4]; exact TwAt.new w3, fun hf => Nat.lt_irrefl _ (HE3.out.1.old _ hf), HE3.out.2, HB3.out.size, HB3.out.trans (hal.mono HB3.out.size), fun x hx => by cases hx⟩, Nat.zero_le _, fun x => by simp⟩
 obtain ⟨t0, ht0⟩ : ∃ t0, w3.heap.size = t0 := ⟨_, rfl⟩
 rw [ht0] at HS0 hmk
 clear HE3 HB3 hw4 ht0
 go_wp2_with fail
 clear hmk
 refine (HSh.out _).mono ?_
 rintro e w5 ⟨rfl, rfl⟩
 clear HSh
 go_wp2_with fail
 go_loopw [7, 34] (fun v z W => ∃ (k tb : Nat), k ≤ n ∧ v = .map (some tb) ∧ z = .int .i64 k ∧ Hid (RmS wA (some ⟨g, 0, none⟩) s k tb W)) (fun _ z _ => n - (intOf z).toNat)
 case atStart => exact ⟨0, t0, Nat.zero_le _, rfl, rfl, HS0⟩
 case round =>
 obtain ⟨k, tb, hk, rfl, rfl, HS⟩ := hrel
 rename World => wr
 clear HS0
 by_cases hlt : k < n
 ·have q1 : (k : Int) < (n : Int) := by omega
  have hkl : k < xs.length := by have := HSz.out; omega
  obtain ⟨c, T, S, F, It, hB, hc, hT⟩ := HS.out
  obtain ⟨b, off, rfl, z0, z1, z2, z3, z4, z5, z6, z7, z8, z9, z10, z11, z12, z13⟩ := (HLs.out wr (HX.out _ hB.bel)).sp hkl
  have hsp := (HLs.out wr (HX.out _ hB.bel)).inn k hkl
  have HMi := hid (fun (W : World) (hb : Below wA.heap.size wA W) => ((HLs.out W (HX.out _ hb)).inn k hkl).inn)
  have HJk := hid (HJo.out k hkl)
  have HB0 := hid hB
  have HT0 := hid hT
  have Hc := hid hc
  generalize xs[k] = sp at *
  have p1 := hsp.inn.job.room
  have p2 := hsp.inn.job.most
  have p3 := hsp.inn.list.room
  have p4 := hsp.inn.list.most
  have hkd := hsp.kd
  have HOk := hid hsp.ok
  obtain ⟨kd, nw, ⟨mkd, st, se, ate, ic, n5, ct, wh, ⟨sd, ap, lp, cp, pr, mo⟩, la, ll, lc, li⟩⟩ := sp
  simp only at z0 z1 z2 z3 z4 z5 z6 z7 z8 z9 z10 z11 z12 z13 p1 p2 p3 p4 hkd HJk HMi HOk
  have Hate : Hid (isU ate) := HOk.out.att
  have Hic : Hid (isU ic) := HOk.out.inc
  obtain ⟨hn50, hn51⟩ : 0 ≤ n5 ∧ n5 ≤ 18446744073709551615 := HOk.out.n
  obtain ⟨kd0, kd1⟩ := hkd
  obtain ⟨sb, hsb⟩ : ∃ sb, wr.heap.size = sb := ⟨_, rfl⟩
  obtain ⟨mk, hmk⟩ : ∃ mk, sb + 1 = mk := ⟨_, rfl⟩
  have HFn : Hid (¬ F sb ∧ ¬ F mk) := ⟨fun hf => by have := hB.en.old _ hf; omega, fun hf => by have := hB.en.old _ hf; omega⟩
  obtain ⟨w5, hw5⟩ : ∃ w5, w5 = wr.alloc (.cells #[.int .u8 kd, .bool nw, .int .i64 mkd, .int .u64 st, .int .u64 se, .int .u64 ate, .int .u64 ic, .int .u64 n5, .int .u64 ct, .int .i64 wh, .int .u64 sd, .slice ap lp cp, .int .i64 mo, .slice la ll lc] 47) := ⟨_, rfl⟩
  obtain ⟨w6, hw6⟩ : ∃ w6, w6 = w5.alloc (.cells #[.int .i64 mkd, .int .u64 st, .int .u64 se, .int .u64 ate, .int .u64 ic, .int .u64 n5, .int .u64 ct, .int .i64 wh, .int .u64 sd, .slice ap lp cp, .int .i64 mo, .slice la ll lc] 45) := ⟨_, rfl⟩
  have hb5 : Below wr.heap.size wr w5 := by rw [hw5]; exact (Below.refl _ _).alloc (Nat.le_refl _) _
  have hb6 : Below w5.heap.size w5 w6 := by rw [hw6]; exact (Below.refl _ _).alloc (Nat.le_refl _) _
  have hs5 : w5.heap.size = sb + 1 := by rw [← hsb, hw5]; simp
  have hS5 : w5.heap[sb]? = some (.cells #[.int .u8 kd, .bool nw, .int .i64 mkd, .int .u64 st, .int .u64 se, .int .u64 ate, .int .u64 ic, .int .u64 n5, .int .u64 ct, .int .i64 wh, .int .u64 sd, .slice ap lp cp, .int .i64 mo, .slice la ll lc] 47 (0, 0)) := by rw [hw5, ← hsb]; exact heap_alloc_new wr _
  have hS6 := block_bel hS5 hb6
  have HSg6 : Hid (SbK sb kd w6) := ⟨_, hS6, rfl⟩
  have HBm6 : Hid (w6.heap[mk]? = some (.cells #[.int .i64 mkd, .int .u64 st, .int .u64 se, .int .u64 ate, .int .u64 ic, .int .u64 n5, .int .u64 ct, .int .i64 wh, .int .u64 sd, .slice ap lp cp, .int .i64 mo, .slice la ll lc] 45 (0, 0))) := by
   unfold Hid
   rw [← hmk, ← hs5, hw6]; exact heap_alloc_new w5 _
  have HV6 := hid (hb5.trans (hb6.mono hb5.size))
  obtain ⟨y0, y1, y2, y3, y4, y5, y6, y7, y8, y9, y10, y11, y12, y13⟩ := cells_14 hS5
  have v1 := (cells_14 hS6).2.1
  rw [hw6, hw5] at v1
  rw [hw5] at y0 y1 y2 y3 y4 y5 y6 y7 y8 y9 y10 y11 y12 y13
  have HI6 := hid (rm_incq (HB0.out.below HV6.out))
  obtain ⟨in0, Hin0⟩ : ∃ in0, Hid (S.inc = in0) := ⟨_, rfl⟩
  have Hin1 : Hid (isU in0) := by rw [← Hin0.out]; exact hB.inc
  rw [Hin0.out] at HI6
  have Hsb := hid hsb
  have Hmk := hid hmk
  clear hsp hB hc hT HS hb5 hb6 hs5 hS5 hS6
  go_upto_if 41 with fail
  rw [← hw5, ← hw6]
  clear hw5 hw6 hsb hmk y0 y1 y2 y3 y4 y5 y6 y7 y8 y9 y10 y11 y12 y13 v1 z0 z1 z2 z3 z4 z5 z6 z7 z8 z9 z10 z11 z12 z13
  go_cut [] (fun wx => ∃ ic2 : Int, Hid (isU ic2) ∧ Hid (SbK sb kd wx) ∧ Hid (wx.heap[mk]? = some (.cells #[.int .i64 mkd, .int .u64 st, .int .u64 se, .int .u64 ate, .int .u64 ic2, .int .u64 n5, .int .u64 ct, .int .i64 wh, .int .u64 sd, .slice ap lp cp, .int .i64 mo, .slice la ll lc] 45 (0, 0))) ∧ Hid (Below wr.heap.size wr wx))
  case first =>
   clear HC HX HLs HJo HsA HMi HJk HT0 Hc HOk Hate
   cases nw with
   | false =>
    clear HI6
    go_wp2_with fail
    go_meet
    exact ⟨ic, Hic, HSg6, HBm6, HV6⟩
   | true =>
    have hI := HI6.out
    have fz : w6.frozen? ⟨mk, 4, none⟩ = false := frozen_of_row _ _ 4 _ _ HBm6.out
    have c4 : w6.cell? ⟨mk, 4, none⟩ = some (.int .u64 ic) := (cells_12 HBm6.out).2.2.2.2.1
    have HE : Hid (SbK sb kd (w6.setCell ⟨mk, 4, none⟩ (.int .u64 in0)) ∧ (w6.setCell ⟨mk, 4, none⟩ (.int .u64 in0)).heap[mk]? = some (.cells #[.int .i64 mkd, .int .u64 st, .int .u64 se, .int .u64 ate, .int .u64 in0, .int .u64 n5, .int .u64 ct, .int .i64 wh, .int .u64 sd, .slice ap lp cp, .int .i64 mo, .slice la ll lc] 45 (0, 0)) ∧ Below wr.heap.size wr (w6.setCell ⟨mk, 4, none⟩ (.int .u64 in0))) := by
     have e1 := Hsb.out
     have e2 := Hmk.out
     refine ⟨?_, row_set HBm6.out, HV6.out.trans ((Fb.set (F := at1 mk) (p := ⟨mk, 4, none⟩) rfl _).to (fun j hj => by have : j = mk := hj; omega) HV6.out.size)⟩
     obtain ⟨cs, h1, h2⟩ := HSg6.out
     exact ⟨cs, by rw [Below.heap_setCell _ _ _ _ (by intro e; have e' : sb = mk := e; omega)]; exact h1, h2⟩
    clear HI6 HB0 HSg6 HBm6 HV6
    go_wp2_with fail
    with_reducible refine hI.mono ?_
    rintro e w7 ⟨rfl, hw7⟩
    rw [hw7]
    clear hw7 hI
    go_wp2_with fail
    go_meet
    exact ⟨in0, Hin1, HE.out.1, HE.out.2.1, HE.out.2.2⟩
  case rest =>
  rename World => wb
  obtain ⟨ic2, Hic2, HSg, HBm, HV⟩ := hcut
  clear HSg6 HBm6 HV6 HI6 Hin0 Hin1
  obtain ⟨m2, Hm2⟩ : ∃ m2 : Ms, Hid (m2 = ⟨mkd, st, se, ate, ic2, n5, ct, wh, ⟨sd, ap, lp, cp, pr, mo⟩, la, ll, lc, li⟩) := ⟨_, rfl⟩
  have HBc := hid (HB0.out.below HV.out)
  have HTh : Hid (∀ W : World, Calls Tryz.prog 19 #[.agg #[.int .i64 mkd, .int .u64 st, .int .u64 se, .int .u64 ate, .int .u64 ic2, .int .u64 n5, .int .u64 ct, .int .i64 wh, .int .u64 sd, .slice ap lp cp, .int .i64 mo, .slice la ll lc]] W fun e w' => e = .returned (.agg #[.int .i64 mkd, .int .u64 st, .int .u64 se, .int .u64 ate, .int .u64 ic2, .int .u64 n5, .int .u64 ct, .int .i64 wh, .int .u64 sd, .slice ap lp cp, .int .i64 mo, .slice la ll lc]) ∧ Below W.heap.size W w') := fun W => theirs_any ⟨mkd, st, se, ate, ic2, n5, ct, wh, ⟨sd, ap, lp, cp, pr, mo⟩, la, ll, lc, li⟩ W
  have HAr : Hid (∀ W : World, RmB wA (some ⟨g, 0, none⟩) s (32 * k) tb c T S F It W → Calls Tryz.prog 18 #[.pointer (some ⟨g, 0, none⟩), .agg #[.int .i64 mkd, .int .u64 st, .int .u64 se, .int .u64 ate, .int .u64 ic2, .int .u64 n5, .int .u64 ct, .int .i64 wh, .int .u64 sd, .slice ap lp cp, .int .i64 mo, .slice la ll lc]] W fun e w' => ∃ a cap, e = .returned (.slice a (arrM S m2).length cap) ∧ Hid (∃ F' It', RmB wA (some ⟨g, 0, none⟩) s (32 * k) tb c T (arrS S m2) F' It' w' ∧ MsK tb a cap (arrM S m2) w' ∧ Fb F W w')) := fun W h => by
   have h1 := rm_arr h m2 (by rw [Hm2.out]; exact ⟨(HMi.out W h.bel).job, (HMi.out W h.bel).list⟩) (by rw [Hm2.out]; exact ⟨HOk.out.kind, HOk.out.st, HOk.out.se, HOk.out.att, Hic2.out, HOk.out.n, HOk.out.cnt, HOk.out.why, HOk.out.seed, HOk.out.most⟩) (fun j hj => by rw [Hm2.out] at hj; have := HJk.out j hj; have := HsA.out; omega)
   have e : MsV m2 = #[.int .i64 mkd, .int .u64 st, .int .u64 se, .int .u64 ate, .int .u64 ic2, .int .u64 n5, .int .u64 ct, .int .i64 wh, .int .u64 sd, .slice ap lp cp, .int .i64 mo, .slice la ll lc] := by rw [Hm2.out]; rfl
   rw [e] at h1
   exact h1
  have HStp := hid (rm_step HBc.out (by omega) HT0.out)
  have HCr := hid (rm_crash HBc.out)
  obtain ⟨rr, hrr⟩ : ∃ rr, kd % 3 = rr := ⟨_, rfl⟩
  have hr' : kd.tmod 3 = rr := by rw [Int.tmod_eq_emod_of_nonneg kd0]; exact hrr
  have hwr : IntKind.u8.wrap rr = rr := by rw [IntKind.wrap_u8]; omega
  have Hrr := hid hrr
  have hr3 : 0 ≤ rr ∧ rr < 3 := by omega
  have y0 := HSg.out.cell
  obtain ⟨x0, x1, x2, x3, x4, x5, x6, x7, x8, x9, x10, x11⟩ := cells_12 HBm.out
  clear HMi HJk HOk HV HB0
  go_upto_block 2 with fail
  go_cut [7, 11] (fun v o wx => ∃ (tb2 : Nat) (a : Option Addr) (cap N : Nat) (ms : List Mg), v = .map (some tb2) ∧ o = .slice a N cap ∧ Hid (ms.length = N) ∧ Hid (RmM wA (some ⟨g, 0, none⟩) s k kd sb tb2 a cap ms 0 wx))
  case first =>
   clear HC HX HLs HJo HsA
   by_cases h1 : rr = 1
   ·subst h1
    have hSt := HStp.out
    clear HStp HCr HTh HAr HBm
    go_wp2_with fail
    with_reducible refine hSt.mono ?_
    rintro e w7 ⟨a7, cap7, ms7, rfl, H7⟩
    obtain ⟨S7, F7, It7, hB7, hK7, hl7, ho7, hi7, hf7⟩ := H7.out
    have HM0 : Hid (RmM wA (some ⟨g, 0, none⟩) s k kd sb tb a7 cap7 ms7 0 w7) := RmM.step hB7 Hc.out (by omega) hl7 hK7 (HSg.out.fb hf7 HFn.out.1) Hrr.out ho7 hi7
    clear hSt H7 hB7 hK7 hl7 ho7 hi7 hf7 HSg HBc HT0 x0 x1 x2 x3 x4 x5 x6 x7 x8 x9 x10 x11 y0
    go_wp2_with fail
    go_meet
    exact ⟨tb, a7, cap7, _, ms7, rfl, rfl, rfl, HM0⟩
   ·have h1' : (rr == 1) = false := by simpa using h1
    clear HStp
    by_cases h2 : rr = 2
    ·subst h2
     obtain ⟨r5, hr5⟩ : ∃ r5, n5 % 5 = r5 := ⟨_, rfl⟩
     have hr5' : n5.tmod 5 = r5 := by rw [Int.tmod_eq_emod_of_nonneg hn50]; exact hr5
     have hwr5 : IntKind.u64.wrap r5 = r5 := by rw [IntKind.wrap_u64]; omega
     by_cases h5 : r5 = 0
     ·subst h5
      have hCr := HCr.out
      clear HCr HTh HAr HBm
      go_wp2_with fail
      with_reducible refine hCr.mono ?_
      rintro e w7 ⟨nn, rfl, H7⟩
      obtain ⟨S7, F7, It7, hB7, hi7, hf7⟩ := H7.out
      obtain ⟨w8, hw8⟩ : ∃ w8, w8 = w7.alloc (.map #[] 0) := ⟨_, rfl⟩
      have hmk8 : (Instr.makeMap 66 none).run Tryz.prog w7 = .ok (.map (some w7.heap.size)) w8 := by rw [hw8]; rfl
      have HM0 : Hid (RmM wA (some ⟨g, 0, none⟩) s k kd sb w7.heap.size none 0 [] 0 w8) := by
       rw [← hw8] at hB7
       exact RmM.other hB7 (Nat.zero_le _) (by omega) (by simp) (MsK.none _ _) ((HSg.out.fb hf7 HFn.out.1).below (by rw [hw8]; exact (Below.refl _ _).alloc (Nat.le_refl _) _)) (by have := Hrr.out; omega) hi7
      obtain ⟨t7, ht7⟩ : ∃ t7, w7.heap.size = t7 := ⟨_, rfl⟩
      rw [ht7] at HM0 hmk8
      clear hCr H7 hB7 hi7 hf7 hw8 HSg HBc HT0 x0 x1 x2 x3 x4 x5 x6 x7 x8 x9 x10 x11 y0 ht7
      go_wp2_with fail
      go_meet
      exact ⟨t7, none, 0, 0, [], rfl, rfl, rfl, HM0⟩
     ·have h5' : (r5 == 0) = false := by simpa using h5
      clear HCr
      have hTh := HTh.out wb
      clear HTh
      go_wp2_with fail
      with_reducible refine hTh.mono ?_
      rintro e w7 ⟨rfl, hb7⟩
      have HSg7 := hid (HSg.out.below hb7)
      have HBm7 := hid (block_bel HBm.out hb7)
      have hA := HAr.out w7 (HBc.out.below hb7)
      clear hTh hb7 HAr HBm HSg x0 x1 x2 x3 x4 x5 x6 x7 x8 x9 x10 x11 y0
      go_wp2_with fail
      with_reducible refine hA.mono ?_
      rintro e w8 ⟨a8, cap8, rfl, H8⟩
      obtain ⟨F8, It8, hB8, hK8, hf8⟩ := H8.out
      have HG8 := hid (HSg7.out.fb hf8 HFn.out.1)
      have HB8 := hid (hf8.one HBm7.out HFn.out.2)
      have HA8 := hid hB8
      have HK8 := hid hK8
      clear hA H8 hB8 hK8 hf8 HSg7 HBm7 HBc
      obtain ⟨ms8, Hms8⟩ : ∃ ms8, Hid (arrM S m2 = ms8) := ⟨_, rfl⟩
      have HIs : Hid (Is15 (arrT S m2 T) (arrS S m2)) := arr_ids S m2 T HT0.out
      have HNn : Hid (mkd = 6 → ms8.length = 0 → ic2 = S.inc) := fun h6 h0 => by
       have := arrM_none (S := S) (m := m2) (by rw [Hm2.out]; exact h6) (by rw [Hms8.out]; exact h0)
       rw [Hm2.out] at this
       exact this
      have hN81 : ms8.length ≤ 1 := by rw [← Hms8.out]; exact arrM_len S m2
      rw [Hms8.out] at HK8
      rw [Hms8.out]
      obtain ⟨N8, HN8⟩ : ∃ N8, Hid (ms8.length = N8) := ⟨_, rfl⟩
      rw [HN8.out] at hN81 HNn
      rw [HN8.out]
      have HTn : Hid (mkd = 6 → N8 = 0 → ic2 = S.inc → arrT S m2 T = fun x => if x = ate then true else T x) := fun h1 h2 h3 => by
       have e1 : m2.kind = mkd ∧ m2.inc = ic2 ∧ m2.att = ate := by rw [Hm2.out]; exact ⟨rfl, rfl, rfl⟩
       unfold arrT
       rw [if_pos ⟨by rw [e1.1]; exact h1, by rw [Hms8.out, HN8.out]; exact h2, by rw [e1.2.1]; exact h3⟩, e1.2.2]
      have HTq : Hid (mkd = 7 → ic2 = S.inc → arrT S m2 T = fun x => if x = ate then false else T x) := fun h1 h3 => by
       have e1 : m2.kind = mkd ∧ m2.inc = ic2 ∧ m2.att = ate := by rw [Hm2.out]; exact ⟨rfl, rfl, rfl⟩
       unfold arrT
       rw [if_neg (fun h' => by have := h'.1; omega), if_pos ⟨by rw [e1.1]; exact h1, by rw [e1.2.1]; exact h3⟩, e1.2.2]
      have HTe : Hid (¬ (mkd = 6 ∧ N8 = 0) → ¬ (mkd = 7 ∧ ic2 = S.inc) → arrT S m2 T = T) := fun h1 h2 => by
       have e1 : m2.kind = mkd ∧ m2.inc = ic2 ∧ m2.att = ate := by rw [Hm2.out]; exact ⟨rfl, rfl, rfl⟩
       unfold arrT
       rw [if_neg (fun h' => h1 ⟨by rw [← e1.1]; exact h'.1, by rw [← HN8.out, ← Hms8.out]; exact h'.2.1⟩), if_neg (fun h' => h2 ⟨by rw [← e1.1]; exact h'.1, by rw [← e1.2.1]; exact h'.2⟩)]
      have HInc : Hid ((arrS S m2).inc = S.inc) := arr_inc S m2
      obtain ⟨in8, Hin8⟩ : ∃ in8, Hid (S.inc = in8) := ⟨_, rfl⟩
      rw [Hin8.out] at HNn HTn HTq HTe HInc
      have HQ : Hid (∀ (W : World), RmB wA (some ⟨g, 0, none⟩) s (32 * k) tb c T (arrS S m2) F8 It8 W → ∀ q, Calls Tryz.prog 21 #[.pointer (some ⟨g, 0, none⟩)] (W.drewN q) fun e w' => e = .returned (.int .u64 in8) ∧ w' = W.drewN q) := fun W h q => by rw [← HInc.out]; exact rm_incq (h.below ⟨rfl, rfl, rfl, Nat.le_refl _, fun _ _ => rfl⟩)
      have r8 := HK8.out.room
      rw [HN8.out] at r8
      have HD : Hid (∀ (W : World) (q : Nat), Below W.heap.size W (W.drewN q)) := fun W q => ⟨rfl, rfl, rfl, Nat.le_refl _, fun _ _ => rfl⟩
      obtain ⟨x0, x1, x2, x3, x4, x5, x6, x7, x8, x9, x10, x11⟩ := cells_12 HB8.out
      clear Hin8 HInc Hms8
      by_cases k6 : mkd = 6
      ·subst k6
       by_cases kn : N8 = 0
       ·subst kn
        have e2 := HNn.out rfl rfl
        subst e2
        rw [HTn.out rfl rfl rfl] at HIs
        have hQ := fun q => HQ.out _ HA8.out q
        clear HTn HTq HTe HNn HQ
        go_wp2_with fail
        go_quiet ((go_at_call 21; exact Calls.quiet_of_same (hQ _)))
        clear hQ
        have HA9 := hid (HA8.out.below (HD.out w8 nq))
        have HK9 := hid (HK8.out.below (HD.out w8 nq))
        have HB9 := hid (block_bel HB8.out (HD.out w8 nq))
        have HG9 := hid (HG8.out.below (HD.out w8 nq))
        clear HA8 HK8 HB8 HG8 x0 x1 x2 x3 x4 x5 x6 x7 x8 x9 x10 x11
        generalize w8.drewN nq = w9 at *
        obtain ⟨x0, x1, x2, x3, x4, x5, x6, x7, x8, x9, x10, x11⟩ := cells_12 HB9.out
        obtain ⟨w10, hst, hB10, hf10⟩ := HA9.out.put (by have := Hc.out; omega) Hate.out true
        have HG10 := hid (HG9.out.mapT HA9.out.th hf10)
        have HB10 := hid (hf10.one HB9.out (HA9.out.th.ne HB9.out))
        have HA10 := hid hB10
        have HK10 := hid (HK9.out.mapT hf10)
        obtain ⟨y0, y1, y2, y3, y4, y5, y6, y7, y8, y9, y10, y11⟩ := cells_12 HB10.out
        clear hB10 hf10 HA9 HK9 HB9 HG9
        go_wp2_with fail
        go_quiet (fail)
        have HM0 : Hid (RmM wA (some ⟨g, 0, none⟩) s k kd sb tb a8 cap8 ms8 0 (w10.drewN nq)) := RmM.other (HA10.out.below (HD.out w10 nq)) (by have := Hc.out; omega) (by omega) (by have := HN8.out; omega) (HK10.out.below (HD.out w10 nq)) (HG10.out.below (HD.out w10 nq)) (by have := Hrr.out; omega) HIs.out
        clear HA10 HK10 HB10 HG10 hst x0 x1 x2 x3 x4 x5 x6 x7 x8 x9 x10 x11 y0 y1 y2 y3 y4 y5 y6 y7 y8 y9 y10 y11
        clear HIs
        go_wp2_with fail
        go_meet
        exact ⟨tb, a8, cap8, _, ms8, rfl, rfl, HN8, HM0⟩
       ·have kn2 : ((N8 : Int) == 0) = false := by simp; omega
        have kn3 : ¬ (N8 : Int) = 0 := by omega
        rw [HTe.out (fun h => kn h.2) (fun h => by have := h.1; omega)] at HIs
        clear HTn HTq HTe HNn HQ
        go_wp2_with fail
        go_quiet (fail)
        have HA9 := hid (HA8.out.below (HD.out w8 nq))
        have HK9 := hid (HK8.out.below (HD.out w8 nq))
        have HB9 := hid (block_bel HB8.out (HD.out w8 nq))
        have HG9 := hid (HG8.out.below (HD.out w8 nq))
        clear HA8 HK8 HB8 HG8 x0 x1 x2 x3 x4 x5 x6 x7 x8 x9 x10 x11
        generalize w8.drewN nq = w9 at *
        obtain ⟨x0, x1, x2, x3, x4, x5, x6, x7, x8, x9, x10, x11⟩ := cells_12 HB9.out
        go_wp2_with fail
        go_quiet (fail)
        have HM0 : Hid (RmM wA (some ⟨g, 0, none⟩) s k kd sb tb a8 cap8 ms8 0 (w9.drewN nq)) := RmM.other (HA9.out.below (HD.out w9 nq)) (by have := Hc.out; omega) (by omega) (by have := HN8.out; omega) (HK9.out.below (HD.out w9 nq)) (HG9.out.below (HD.out w9 nq)) (by have := Hrr.out; omega) HIs.out
        clear HA9 HK9 HB9 HG9 x0 x1 x2 x3 x4 x5 x6 x7 x8 x9 x10 x11
        clear HIs
        go_wp2_with fail
        go_meet
        exact ⟨tb, a8, cap8, _, ms8, rfl, rfl, HN8, HM0⟩
      ·have k62 : (mkd == 6) = false := by simpa using k6
       by_cases k7 : mkd = 7
       ·subst k7
        by_cases ki : ic2 = in8
        ·subst ki
         rw [HTq.out rfl rfl] at HIs
         clear HTn HTq HTe HNn
         go_wp2_with fail
         go_quiet (fail)
         have HA9 := hid (HA8.out.below (HD.out w8 nq))
         have HK9 := hid (HK8.out.below (HD.out w8 nq))
         have HB9 := hid (block_bel HB8.out (HD.out w8 nq))
         have HG9 := hid (HG8.out.below (HD.out w8 nq))
         clear HA8 HK8 HB8 HG8 x0 x1 x2 x3 x4 x5 x6 x7 x8 x9 x10 x11
         generalize w8.drewN nq = w9 at *
         obtain ⟨x0, x1, x2, x3, x4, x5, x6, x7, x8, x9, x10, x11⟩ := cells_12 HB9.out
         have hQ := fun q => HQ.out _ HA9.out q
         clear HQ
         go_wp2_with fail
         go_quiet ((go_at_call 21; exact Calls.quiet_of_same (hQ _)))
         clear hQ
         have HA10 := hid (HA9.out.below (HD.out w9 nq))
         have HK10 := hid (HK9.out.below (HD.out w9 nq))
         have HB10 := hid (block_bel HB9.out (HD.out w9 nq))
         have HG10 := hid (HG9.out.below (HD.out w9 nq))
         clear HA9 HK9 HB9 HG9 x0 x1 x2 x3 x4 x5 x6 x7 x8 x9 x10 x11
         generalize w9.drewN nq = w10 at *
         obtain ⟨x0, x1, x2, x3, x4, x5, x6, x7, x8, x9, x10, x11⟩ := cells_12 HB10.out
         obtain ⟨w11, hst, hB11, hf11⟩ := HA10.out.put (by have := Hc.out; omega) Hate.out false
         have HM0 : Hid (RmM wA (some ⟨g, 0, none⟩) s k kd sb tb a8 cap8 ms8 0 w11) := RmM.other hB11 (by have := Hc.out; omega) (by omega) (by have := HN8.out; omega) (HK10.out.mapT hf11) (HG10.out.mapT HA10.out.th hf11) (by have := Hrr.out; omega) HIs.out
         clear hB11 hf11 HA10 HK10 HB10 HG10
         clear HIs
         go_wp2_with fail
         go_meet
         exact ⟨tb, a8, cap8, _, ms8, rfl, rfl, HN8, HM0⟩
        ·have ki2 : (ic2 == in8) = false := by simpa using ki
         rw [HTe.out (fun h => by have := h.1; omega) (fun h => ki h.2)] at HIs
         clear HTn HTq HTe HNn
         go_wp2_with fail
         go_quiet (fail)
         have HA9 := hid (HA8.out.below (HD.out w8 nq))
         have HK9 := hid (HK8.out.below (HD.out w8 nq))
         have HB9 := hid (block_bel HB8.out (HD.out w8 nq))
         have HG9 := hid (HG8.out.below (HD.out w8 nq))
         clear HA8 HK8 HB8 HG8 x0 x1 x2 x3 x4 x5 x6 x7 x8 x9 x10 x11
         generalize w8.drewN nq = w9 at *
         obtain ⟨x0, x1, x2, x3, x4, x5, x6, x7, x8, x9, x10, x11⟩ := cells_12 HB9.out
         have hQ := fun q => HQ.out _ HA9.out q
         clear HQ
         go_wp2_with fail
         go_quiet ((go_at_call 21; exact Calls.quiet_of_same (hQ _)))
         clear hQ
         have HM0 : Hid (RmM wA (some ⟨g, 0, none⟩) s k kd sb tb a8 cap8 ms8 0 (w9.drewN nq)) := RmM.other (HA9.out.below (HD.out w9 nq)) (by have := Hc.out; omega) (by omega) (by have := HN8.out; omega) (HK9.out.below (HD.out w9 nq)) (HG9.out.below (HD.out w9 nq)) (by have := Hrr.out; omega) HIs.out
         clear HA9 HK9 HB9 HG9 x0 x1 x2 x3 x4 x5 x6 x7 x8 x9 x10 x11
         clear HIs
         go_wp2_with fail
         go_meet
         exact ⟨tb, a8, cap8, _, ms8, rfl, rfl, HN8, HM0⟩
       ·have k72 : (mkd == 7) = false := by simpa using k7
        rw [HTe.out (fun h => k6 h.1) (fun h => k7 h.1)] at HIs
        clear HTn HTq HTe HNn HQ
        go_wp2_with fail
        go_quiet (fail)
        have HA9 := hid (HA8.out.below (HD.out w8 nq))
        have HK9 := hid (HK8.out.below (HD.out w8 nq))
        have HB9 := hid (block_bel HB8.out (HD.out w8 nq))
        have HG9 := hid (HG8.out.below (HD.out w8 nq))
        clear HA8 HK8 HB8 HG8 x0 x1 x2 x3 x4 x5 x6 x7 x8 x9 x10 x11
        generalize w8.drewN nq = w9 at *
        obtain ⟨x0, x1, x2, x3, x4, x5, x6, x7, x8, x9, x10, x11⟩ := cells_12 HB9.out
        go_wp2_with fail
        go_quiet (fail)
        have HM0 : Hid (RmM wA (some ⟨g, 0, none⟩) s k kd sb tb a8 cap8 ms8 0 (w9.drewN nq)) := RmM.other (HA9.out.below (HD.out w9 nq)) (by have := Hc.out; omega) (by omega) (by have := HN8.out; omega) (HK9.out.below (HD.out w9 nq)) (HG9.out.below (HD.out w9 nq)) (by have := Hrr.out; omega) HIs.out
        clear HA9 HK9 HB9 HG9 x0 x1 x2 x3 x4 x5 x6 x7 x8 x9 x10 x11
        clear HIs
        go_wp2_with fail
        go_meet
        exact ⟨tb, a8, cap8, _, ms8, rfl, rfl, HN8, HM0⟩
    ·have h2' : (rr == 2) = false := by simpa using h2
     clear HCr
     have hTh := HTh.out wb
     clear HTh
     go_wp2_with fail
     with_reducible refine hTh.mono ?_
     rintro e w7 ⟨rfl, hb7⟩
     have HSg7 := hid (HSg.out.below hb7)
     have HBm7 := hid (block_bel HBm.out hb7)
     have hA := HAr.out w7 (HBc.out.below hb7)
     clear hTh hb7 HAr HBm HSg x0 x1 x2 x3 x4 x5 x6 x7 x8 x9 x10 x11 y0
     go_wp2_with fail
     with_reducible refine hA.mono ?_
     rintro e w8 ⟨a8, cap8, rfl, H8⟩
     obtain ⟨F8, It8, hB8, hK8, hf8⟩ := H8.out
     have HG8 := hid (HSg7.out.fb hf8 HFn.out.1)
     have HB8 := hid (hf8.one HBm7.out HFn.out.2)
     have HA8 := hid hB8
     have HK8 := hid hK8
     clear hA H8 hB8 hK8 hf8 HSg7 HBm7 HBc
     obtain ⟨ms8, Hms8⟩ : ∃ ms8, Hid (arrM S m2 = ms8) := ⟨_, rfl⟩
     have HIs : Hid (Is15 (arrT S m2 T) (arrS S m2)) := arr_ids S m2 T HT0.out
     have HNn : Hid (mkd = 6 → ms8.length = 0 → ic2 = S.inc) := fun h6 h0 => by
      have := arrM_none (S := S) (m := m2) (by rw [Hm2.out]; exact h6) (by rw [Hms8.out]; exact h0)
      rw [Hm2.out] at this
      exact this
     have hN81 : ms8.length ≤ 1 := by rw [← Hms8.out]; exact arrM_len S m2
     rw [Hms8.out] at HK8
     rw [Hms8.out]
     obtain ⟨N8, HN8⟩ : ∃ N8, Hid (ms8.length = N8) := ⟨_, rfl⟩
     rw [HN8.out] at hN81 HNn
     rw [HN8.out]
     have HTn : Hid (mkd = 6 → N8 = 0 → ic2 = S.inc → arrT S m2 T = fun x => if x = ate then true else T x) := fun h1 h2 h3 => by
      have e1 : m2.kind = mkd ∧ m2.inc = ic2 ∧ m2.att = ate := by rw [Hm2.out]; exact ⟨rfl, rfl, rfl⟩
      unfold arrT
      rw [if_pos ⟨by rw [e1.1]; exact h1, by rw [Hms8.out, HN8.out]; exact h2, by rw [e1.2.1]; exact h3⟩, e1.2.2]
     have HTq : Hid (mkd = 7 → ic2 = S.inc → arrT S m2 T = fun x => if x = ate then false else T x) := fun h1 h3 => by
      have e1 : m2.kind = mkd ∧ m2.inc = ic2 ∧ m2.att = ate := by rw [Hm2.out]; exact ⟨rfl, rfl, rfl⟩
      unfold arrT
      rw [if_neg (fun h' => by have := h'.1; omega), if_pos ⟨by rw [e1.1]; exact h1, by rw [e1.2.1]; exact h3⟩, e1.2.2]
     have HTe : Hid (¬ (mkd = 6 ∧ N8 = 0) → ¬ (mkd = 7 ∧ ic2 = S.inc) → arrT S m2 T = T) := fun h1 h2 => by
      have e1 : m2.kind = mkd ∧ m2.inc = ic2 ∧ m2.att = ate := by rw [Hm2.out]; exact ⟨rfl, rfl, rfl⟩
      unfold arrT
      rw [if_neg (fun h' => h1 ⟨by rw [← e1.1]; exact h'.1, by rw [← HN8.out, ← Hms8.out]; exact h'.2.1⟩), if_neg (fun h' => h2 ⟨by rw [← e1.1]; exact h'.1, by rw [← e1.2.1]; exact h'.2⟩)]
     have HInc : Hid ((arrS S m2).inc = S.inc) := arr_inc S m2
     obtain ⟨in8, Hin8⟩ : ∃ in8, Hid (S.inc = in8) := ⟨_, rfl⟩
     rw [Hin8.out] at HNn HTn HTq HTe HInc
     have HQ : Hid (∀ (W : World), RmB wA (some ⟨g, 0, none⟩) s (32 * k) tb c T (arrS S m2) F8 It8 W → ∀ q, Calls Tryz.prog 21 #[.pointer (some ⟨g, 0, none⟩)] (W.drewN q) fun e w' => e = .returned (.int .u64 in8) ∧ w' = W.drewN q) := fun W h q => by rw [← HInc.out]; exact rm_incq (h.below ⟨rfl, rfl, rfl, Nat.le_refl _, fun _ _ => rfl⟩)
     have r8 := HK8.out.room
     rw [HN8.out] at r8
     have HD : Hid (∀ (W : World) (q : Nat), Below W.heap.size W (W.drewN q)) := fun W q => ⟨rfl, rfl, rfl, Nat.le_refl _, fun _ _ => rfl⟩
     obtain ⟨x0, x1, x2, x3, x4, x5, x6, x7, x8, x9, x10, x11⟩ := cells_12 HB8.out
     clear Hin8 HInc Hms8
     by_cases k6 : mkd = 6
     ·subst k6
      by_cases kn : N8 = 0
      ·subst kn
       have e2 := HNn.out rfl rfl
       subst e2
       rw [HTn.out rfl rfl rfl] at HIs
       have hQ := fun q => HQ.out _ HA8.out q
       clear HTn HTq HTe HNn HQ
       go_wp2_with fail
       go_quiet ((go_at_call 21; exact Calls.quiet_of_same (hQ _)))
       clear hQ
       have HA9 := hid (HA8.out.below (HD.out w8 nq))
       have HK9 := hid (HK8.out.below (HD.out w8 nq))
       have HB9 := hid (block_bel HB8.out (HD.out w8 nq))
       have HG9 := hid (HG8.out.below (HD.out w8 nq))
       clear HA8 HK8 HB8 HG8 x0 x1 x2 x3 x4 x5 x6 x7 x8 x9 x10 x11
       generalize w8.drewN nq = w9 at *
       obtain ⟨x0, x1, x2, x3, x4, x5, x6, x7, x8, x9, x10, x11⟩ := cells_12 HB9.out
       obtain ⟨w10, hst, hB10, hf10⟩ := HA9.out.put (by have := Hc.out; omega) Hate.out true
       have HG10 := hid (HG9.out.mapT HA9.out.th hf10)
       have HB10 := hid (hf10.one HB9.out (HA9.out.th.ne HB9.out))
       have HA10 := hid hB10
       have HK10 := hid (HK9.out.mapT hf10)
       obtain ⟨y0, y1, y2, y3, y4, y5, y6, y7, y8, y9, y10, y11⟩ := cells_12 HB10.out
       clear hB10 hf10 HA9 HK9 HB9 HG9
       go_wp2_with fail
       go_quiet (fail)
       have HM0 : Hid (RmM wA (some ⟨g, 0, none⟩) s k kd sb tb a8 cap8 ms8 0 (w10.drewN nq)) := RmM.other (HA10.out.below (HD.out w10 nq)) (by have := Hc.out; omega) (by omega) (by have := HN8.out; omega) (HK10.out.below (HD.out w10 nq)) (HG10.out.below (HD.out w10 nq)) (by have := Hrr.out; omega) HIs.out
       clear HA10 HK10 HB10 HG10 hst x0 x1 x2 x3 x4 x5 x6 x7 x8 x9 x10 x11 y0 y1 y2 y3 y4 y5 y6 y7 y8 y9 y10 y11
       clear HIs
       go_wp2_with fail
       go_meet
       exact ⟨tb, a8, cap8, _, ms8, rfl, rfl, HN8, HM0⟩
      ·have kn2 : ((N8 : Int) == 0) = false := by simp; omega
       have kn3 : ¬ (N8 : Int) = 0 := by omega
       rw [HTe.out (fun h => kn h.2) (fun h => by have := h.1; omega)] at HIs
       clear HTn HTq HTe HNn HQ
       go_wp2_with fail
       go_quiet (fail)
       have HA9 := hid (HA8.out.below (HD.out w8 nq))
       have HK9 := hid (HK8.out.below (HD.out w8 nq))
       have HB9 := hid (block_bel HB8.out (HD.out w8 nq))
       have HG9 := hid (HG8.out.below (HD.out w8 nq))
       clear HA8 HK8 HB8 HG8 x0 x1 x2 x3 x4 x5 x6 x7 x8 x9 x10 x11
       generalize w8.drewN nq = w9 at *
       obtain ⟨x0, x1, x2, x3, x4, x5, x6, x7, x8, x9, x10, x11⟩ := cells_12 HB9.out
       go_wp2_with fail
       go_quiet (fail)
       have HM0 : Hid (RmM wA (some ⟨g, 0, none⟩) s k kd sb tb a8 cap8 ms8 0 (w9.drewN nq)) := RmM.other (HA9.out.below (HD.out w9 nq)) (by have := Hc.out; omega) (by omega) (by have := HN8.out; omega) (HK9.out.below (HD.out w9 nq)) (HG9.out.below (HD.out w9 nq)) (by have := Hrr.out; omega) HIs.out
       clear HA9 HK9 HB9 HG9 x0 x1 x2 x3 x4 x5 x6 x7 x8 x9 x10 x11
       clear HIs
       go_wp2_with fail
       go_meet
       exact ⟨tb, a8, cap8, _, ms8, rfl, rfl, HN8, HM0⟩
     ·have k62 : (mkd == 6) = false := by simpa using k6
      by_cases k7 : mkd = 7
      ·subst k7
       by_cases ki : ic2 = in8
       ·subst ki
        rw [HTq.out rfl rfl] at HIs
        clear HTn HTq HTe HNn
        go_wp2_with fail
        go_quiet (fail)
        have HA9 := hid (HA8.out.below (HD.out w8 nq))
        have HK9 := hid (HK8.out.below (HD.out w8 nq))
        have HB9 := hid (block_bel HB8.out (HD.out w8 nq))
        have HG9 := hid (HG8.out.below (HD.out w8 nq))
        clear HA8 HK8 HB8 HG8 x0 x1 x2 x3 x4 x5 x6 x7 x8 x9 x10 x11
        generalize w8.drewN nq = w9 at *
        obtain ⟨x0, x1, x2, x3, x4, x5, x6, x7, x8, x9, x10, x11⟩ := cells_12 HB9.out
        have hQ := fun q => HQ.out _ HA9.out q
        clear HQ
        go_wp2_with fail
        go_quiet ((go_at_call 21; exact Calls.quiet_of_same (hQ _)))
        clear hQ
        have HA10 := hid (HA9.out.below (HD.out w9 nq))
        have HK10 := hid (HK9.out.below (HD.out w9 nq))
        have HB10 := hid (block_bel HB9.out (HD.out w9 nq))
        have HG10 := hid (HG9.out.below (HD.out w9 nq))
        clear HA9 HK9 HB9 HG9 x0 x1 x2 x3 x4 x5 x6 x7 x8 x9 x10 x11
        generalize w9.drewN nq = w10 at *
        obtain ⟨x0, x1, x2, x3, x4, x5, x6, x7, x8, x9, x10, x11⟩ := cells_12 HB10.out
        obtain ⟨w11, hst, hB11, hf11⟩ := HA10.out.put (by have := Hc.out; omega) Hate.out false
        have HM0 : Hid (RmM wA (some ⟨g, 0, none⟩) s k kd sb tb a8 cap8 ms8 0 w11) := RmM.other hB11 (by have := Hc.out; omega) (by omega) (by have := HN8.out; omega) (HK10.out.mapT hf11) (HG10.out.mapT HA10.out.th hf11) (by have := Hrr.out; omega) HIs.out
        clear hB11 hf11 HA10 HK10 HB10 HG10
        clear HIs
        go_wp2_with fail
        go_meet
        exact ⟨tb, a8, cap8, _, ms8, rfl, rfl, HN8, HM0⟩
       ·have ki2 : (ic2 == in8) = false := by simpa using ki
        rw [HTe.out (fun h => by have := h.1; omega) (fun h => ki h.2)] at HIs
        clear HTn HTq HTe HNn
        go_wp2_with fail
        go_quiet (fail)
        have HA9 := hid (HA8.out.below (HD.out w8 nq))
        have HK9 := hid (HK8.out.below (HD.out w8 nq))
        have HB9 := hid (block_bel HB8.out (HD.out w8 nq))
        have HG9 := hid (HG8.out.below (HD.out w8 nq))
        clear HA8 HK8 HB8 HG8 x0 x1 x2 x3 x4 x5 x6 x7 x8 x9 x10 x11
        generalize w8.drewN nq = w9 at *
        obtain ⟨x0, x1, x2, x3, x4, x5, x6, x7, x8, x9, x10, x11⟩ := cells_12 HB9.out
        have hQ := fun q => HQ.out _ HA9.out q
        clear HQ
        go_wp2_with fail
        go_quiet ((go_at_call 21; exact Calls.quiet_of_same (hQ _)))
        clear hQ
        have HM0 : Hid (RmM wA (some ⟨g, 0, none⟩) s k kd sb tb a8 cap8 ms8 0 (w9.drewN nq)) := RmM.other (HA9.out.below (HD.out w9 nq)) (by have := Hc.out; omega) (by omega) (by have := HN8.out; omega) (HK9.out.below (HD.out w9 nq)) (HG9.out.below (HD.out w9 nq)) (by have := Hrr.out; omega) HIs.out
        clear HA9 HK9 HB9 HG9 x0 x1 x2 x3 x4 x5 x6 x7 x8 x9 x10 x11
        clear HIs
        go_wp2_with fail
        go_meet
        exact ⟨tb, a8, cap8, _, ms8, rfl, rfl, HN8, HM0⟩
      ·have k72 : (mkd == 7) = false := by simpa using k7
       rw [HTe.out (fun h => k6 h.1) (fun h => k7 h.1)] at HIs
       clear HTn HTq HTe HNn HQ
       go_wp2_with fail
       go_quiet (fail)
       have HA9 := hid (HA8.out.below (HD.out w8 nq))
       have HK9 := hid (HK8.out.below (HD.out w8 nq))
       have HB9 := hid (block_bel HB8.out (HD.out w8 nq))
       have HG9 := hid (HG8.out.below (HD.out w8 nq))
       clear HA8 HK8 HB8 HG8 x0 x1 x2 x3 x4 x5 x6 x7 x8 x9 x10 x11
       generalize w8.drewN nq = w9 at *
       obtain ⟨x0, x1, x2, x3, x4, x5, x6, x7, x8, x9, x10, x11⟩ := cells_12 HB9.out
       go_wp2_with fail
       go_quiet (fail)
       have HM0 : Hid (RmM wA (some ⟨g, 0, none⟩) s k kd sb tb a8 cap8 ms8 0 (w9.drewN nq)) := RmM.other (HA9.out.below (HD.out w9 nq)) (by have := Hc.out; omega) (by omega) (by have := HN8.out; omega) (HK9.out.below (HD.out w9 nq)) (HG9.out.below (HD.out w9 nq)) (by have := Hrr.out; omega) HIs.out
       clear HA9 HK9 HB9 HG9 x0 x1 x2 x3 x4 x5 x6 x7 x8 x9 x10 x11
       clear HIs
       go_wp2_with fail
       go_meet
       exact ⟨tb, a8, cap8, _, ms8, rfl, rfl, HN8, HM0⟩
  case rest =>
  rename World => wd
  obtain ⟨tb2, a, cap, N, ms, rfl, rfl, HN, HM0⟩ := hcut
  clear HTh HAr HStp HCr HBc HSg HBm x0 x1 x2 x3 x4 x5 x6 x7 x8 x9 x10 x11 y0 HT0 Hc HFn Hm2
  have rm0 := HM0.out.room
  rw [HN.out] at rm0
  go_wp2_with fail
  go_loopw [103] (fun z W => ∃ q : Nat, q ≤ N ∧ z = .int .i64 q ∧ Hid (RmM wA (some ⟨g, 0, none⟩) s k kd sb tb2 a cap ms q W)) (fun z _ => N - (intOf z).toNat)
  case atStart => exact ⟨0, Nat.zero_le _, rfl, HM0⟩
  case round =>
  obtain ⟨q, hq, rfl, HM⟩ := hrel
  rename World => wq
  clear HM0
  by_cases hqn : q < N
  ·have g2 : (q : Int) < (N : Int) := by omega
   have hql : q < ms.length := by rw [HN.out]; exact hqn
   obtain ⟨b9, o9, la9, ll9, lc9, rfl, ⟨c0, c1, c2, c3, c4, c5, c6, c7, c8, c9, c10, c11⟩, hOth, hOne⟩ := HM.out.at hql
   have HOth := hid hOth
   have HOne := hid hOne
   clear hOth hOne
   generalize ms[q] = mg at *
   obtain ⟨gk, ga, gi, gn, gc, gw, gl⟩ := mg
   simp only at c0 c3 c4 c5 c6 c7 HOth HOne
   obtain ⟨wx, hwx⟩ : ∃ wx, wx = wq.alloc (.cells #[.int .i64 gk, .int .u64 0, .int .u64 0, .int .u64 ga, .int .u64 gi, .int .u64 gn, .int .u64 gc, .int .i64 gw, .int .u64 0, .slice none 0 0, .int .i64 0, .slice la9 ll9 lc9] 55) := ⟨_, rfl⟩
   have hbx : Below wq.heap.size wq wx := by rw [hwx]; exact (Below.refl _ _).alloc (Nat.le_refl _) _
   have y0 := (HM.out.below hbx).kd0
   obtain ⟨xb, hxb⟩ : ∃ xb, wq.heap.size = xb := ⟨_, rfl⟩
   obtain ⟨x0, x1, x2, x3, x4, x5, x6, x7, x8, x9, x10, x11⟩ := cells_12 (show wx.heap[xb]? = some (.cells #[.int .i64 gk, .int .u64 0, .int .u64 0, .int .u64 ga, .int .u64 gi, .int .u64 gn, .int .u64 gc, .int .i64 gw, .int .u64 0, .slice none 0 0, .int .i64 0, .slice la9 ll9 lc9] 55 (0, 0)) by rw [hwx, ← hxb]; exact heap_alloc_new wq _)
   have HBx := hid hbx
   by_cases h1 : rr = 1
   ·subst h1
    have HO1 := hid (HOne.out Hrr.out)
    have hLk := fun q => (HO1.out.1 (wx.drewN q) (HBx.out.trans ⟨rfl, rfl, rfl, Nat.le_refl _, fun _ _ => rfl⟩)).1
    have hQ := fun q => (HO1.out.1 (wx.drewN q) (HBx.out.trans ⟨rfl, rfl, rfl, Nat.le_refl _, fun _ _ => rfl⟩)).2
    have v0 := y0
    rw [hwx] at v0
    clear HOth HOne hbx HM
    go_wp2_with fail
    rw [← hwx]
    clear hwx hxb v0 c0 c1 c2 c3 c4 c5 c6 c7 c8 c9 c10 c11
    go_quiet ((go_at_call 21; exact Calls.quiet_of_same (hQ _)))
    have HBy : Hid (Below wq.heap.size wq (wx.drewN nq)) := HBx.out.trans ⟨rfl, rfl, rfl, Nat.le_refl _, fun _ _ => rfl⟩
    have f0 : (wx.drewN nq).cell? ⟨xb, 0, none⟩ = some (.int .i64 gk) := x0
    have f3 : (wx.drewN nq).cell? ⟨xb, 3, none⟩ = some (.int .u64 ga) := x3
    clear hLk hQ x0 x1 x2 x3 x4 x5 x6 x7 x8 x9 x10 x11 y0 HBx
    generalize wx.drewN nq = wy at *
    by_cases h9 : gk = 9
    ·subst h9
     obtain ⟨wz, hst, hM9⟩ := HO1.out.2.2 rfl wy HBy.out
     have HM9 := hid hM9
     clear HO1 HBy hM9
     go_wp2_with fail
     go_round
     case rel => exact ⟨q + 1, by omega, by go_num, HM9⟩
     case measure => simp [intOf]; omega
    ·have h9' : (gk == 9) = false := by simpa using h9
     have HM9 := hid (HO1.out.2.1 h9 wy HBy.out)
     clear HO1 HBy
     go_wp2_with fail
     go_round
     case rel => exact ⟨q + 1, by omega, by go_num, HM9⟩
     case measure => simp [intOf]; omega
   ·have h1' : (rr != 1) = true := by simpa using h1
    have h1'' : (rr == 1) = false := by simpa using h1
    have HM9 := hid (HOth.out (by have := Hrr.out; omega) wx HBx.out)
    rw [hwx] at HM9 y0
    clear HOth HOne hbx HM HBx hwx x0 x1 x2 x3 x4 x5 x6 x7 x8 x9 x10 x11
    go_wp2_with fail
    go_round
    case rel => exact ⟨q + 1, by omega, by go_num, HM9⟩
    case measure => simp [intOf]; omega
  ·obtain rfl : q = N := by omega
   have g2 : ¬ (q : Int) < (q : Int) := by omega
   have HS2 : Hid (RmS wA (some ⟨g, 0, none⟩) s (k + 1) tb2 wq) := RmM.done (ms := ms) (by rw [HN.out]; exact HM.out)
   have hAt := HS2.out.att
   clear HM HS2
   go_wp2_with fail
   with_reducible refine hAt.mono ?_
   rintro e w8 ⟨a8, N8, cap8, ids, rfl, H8⟩
   obtain ⟨hr8, hS8, hle8, hst8, hx8⟩ := H8.out
   have HR8 := hid hr8
   have HS8 := hid hS8
   have HX8 := hid hx8
   have HBA : Hid (Below wA.heap.size wA w8) := by obtain ⟨c, T, S, F, It, hB, _⟩ := hS8; exact hB.bel
   have r8 := hr8.room
   have m8 := hr8.most
   have Hl8 := hid hr8.size
   obtain ⟨_, sq1, sq2, sb1, sb2, _⟩ := setB_bds hst8
   have hwqb : IntKind.i64.wrap (s.q + s.b) = s.q + s.b := wrap64_in (by omega) (by omega)
   have hcq : ¬ s.q + s.b < (N8 : Int) := by omega
   have HV8 := hid (Below.refl w8.heap.size w8)
   clear hAt H8 hr8 hS8 hx8
   go_wp2_with fail
   go_loopw [14, 133] (fun u z W => ∃ i : Nat, i ≤ N8 ∧ u = .int .i64 i ∧ z = .int .i64 i ∧ Hid (Below w8.heap.size w8 W)) (fun _ z _ => N8 - (intOf z).toNat)
   case atStart => exact ⟨0, Nat.zero_le _, rfl, rfl, HV8⟩
   case round =>
   obtain ⟨i, hi8, rfl, rfl, HV9⟩ := hrel
   rename World => w9
   clear HV8
   by_cases hin : i < N8
   ·have g3 : (i : Int) < (N8 : Int) := by omega
    obtain ⟨b2, f2, rfl, t2⟩ := (HR8.out.below HV9.out).cell i hin
    have hil : i < ids.length := by rw [Hl8.out]; exact hin
    have hmem : ids[i]?.getD 0 ∈ ids := by rw [List.getElem?_eq_getElem hil]; exact List.getElem_mem hil
    have hlk := (HX8.out _ HV9.out).1 _ hmem
    generalize ids[i]?.getD 0 = idx at *
    clear hmem HX8 HR8 HS8 HBA HC
    go_wp2_with fail
    go_round
    case rel => exact ⟨i + 1, by omega, by go_num, by go_num, HV9⟩
    case measure => simp [intOf]; omega
   ·obtain rfl : i = N8 := by omega
    have g3 : ¬ (i : Int) < (i : Int) := by omega
    have hLd := (HX8.out _ HV9.out).2
    obtain ⟨x0, x1, x2, x3, x4, x5, x6, x7, x8, x9, x10⟩ := cells_11 (HC.out w9 (HBA.out.trans (HV9.out.mono HBA.out.size)))
    have HS9 : Hid (RmS wA (some ⟨g, 0, none⟩) s (k + 1) tb2 w9) := by
     obtain ⟨c, T, S, F, It, hB, h2, h3⟩ := HS8.out
     exact ⟨c, T, S, F, It, hB.below HV9.out, h2, h3⟩
    clear HX8 HR8 HS8 HBA HC HV9
    go_wp2_with fail
    with_reducible refine hLd.mono ?_
    rintro e w10 ⟨rfl, hw10⟩
    rw [hw10]
    clear hw10 hLd
    go_wp2_with fail
    go_round
    case rel => exact ⟨k + 1, tb2, by omega, rfl, by go_num, HS9⟩
    case measure => simp [intOf]; omega
 ·obtain rfl : k = n := by omega
  have q1 : ¬ (k : Int) < (k : Int) := by omega
  have HW0 : Hid (Below w.heap.size w wr) := by obtain ⟨c, T, S, F, It, hB, _⟩ := HS.out; exact HX.out _ hB.bel
  clear HS HC HX HLs HJo HsA
  go_wp2_with fail
  refine (alive15_any _).mono ?_
  rintro e wz ⟨rfl, hb⟩
  have HZ := hid (HW0.out.trans (hb.mono HW0.out.size))
  clear hb
  go_wp2
  go_ret
  exact ⟨rfl, HZ.out⟩

/-! ### The row's step -/
set_option maxRecDepth 1000000 in
theorem lifted (os : Os) (started : os.Started) (H : Type) (enc : TypeId × Value → H) :
  ReturnsInHanded {} Tryz.checked os 5 .any (Rows.engineRoomsSpec.pre6 enc Tryz.prog Tryz.f5 Rows.engineRoomsRow.domain false) (Rows.engineRoomsSpec.post enc Tryz.prog Tryz.f5 false true false false) := by
 refine returnsInHanded_of_change (C := Tryz.checked) own started (by kernel_rfl) Tryz.func5
  (ChangeSpec.witness6 (enc := enc) (C := Tryz.checked) false ⟨#[], #[.agg #[.int .u64 0, .int .i64 0, .int .i64 0, .int .i64 0, .int .i64 0, .int .i64 0, .int .i64 0, .int .i64 0, .int .i64 0, .int .i64 0, .int .i64 0], .slice none 0 0], []⟩ 8 (by kernel_rfl) (by kernel_rfl) (by kernel_rfl) (by kernel_rfl)) ?_
 intro W base args ds gs before hval0 hW hcnd _
 have hval : ∀ (j : Nat) t v, Tryz.f5.params[j]? = some t → args[j]? = some v → Value.okWide Tryz.prog W .any base t v := hval0
 have hW' := hW
 obtain ⟨p, q, hA0, hV, rfl, hfz, hnd⟩ := hW
 have hA : DataW.TrodAll enc Tryz.prog W 0 (fun _ => true) true Tryz.f5.params.toList args.toList ds p := hA0
 rw [Tryz.params5] at hA hval
 obtain ⟨v0, vs0, d0, ds0, p0, q0, hargs, rfl, rfl, h0, r0⟩ := trodAll_cons hA
 obtain ⟨v1, vs1, d1, ds1, p1, q1, rfl, rfl, rfl, h1, r1⟩ := trodAll_cons r0
 obtain ⟨rfl, rfl, rfl⟩ := trodAll_nil r1
 obtain rfl : args = #[v0, v1] := by cases args; simp_all
 obtain ⟨rfl, rfl⟩ := trodVars_none hV
 have k0 := h0
 have lt0 : ∀ x ∈ p0, x.block < W.heap.size := by obtain ⟨m, hm⟩ := k0; exact DataW.trod_lt m _ _ _ hm
 obtain ⟨s, rfl, gs⟩ := sg_open (hval 0 26 v0 rfl rfl) h0
 have k1 := h1
 have lt1 : ∀ x ∈ p1, x.block < W.heap.size := by obtain ⟨m, hm⟩ := k1; exact DataW.trod_lt m _ _ _ hm
 obtain ⟨a1, l1, c1, xs, rfl, ga1⟩ := steps15_open (hval 1 27 v1 rfl rfl) h1
 clear hA0 hval0
 refine (walk s a1 l1 c1 xs W gs ga1).mono fun e W' ⟨he, bel⟩ => ?_
 subst he
 exact ⟨_, rfl, _, _, _, [], _, [], hW', trodAll_mk1 (shut_bool Tryz.underlying4 _), (trodAll_cons_mk (Below.trod laidOut (by kernel_rfl) (of_decide_eq_true (by kernel_rfl)) k0 bel lt0) (trodAll_cons_mk (Below.trod laidOut (by kernel_rfl) (of_decide_eq_true (by kernel_rfl)) k1 bel lt1) trodAll_mk0)), rfl, bel.frame _, fun h => by cases h⟩

theorem over : Rows.engineRoomsRow.holds Tryz.pinned (OpenSpec.ofChange Rows.engineRoomsSpec) :=
 OpenClaim.holds_of_wide 5 Tryz.f5 rfl rfl rfl rfl rfl rfl rfl ⟨rfl, rfl, rfl, rfl, rfl⟩ rfl rfl rfl rfl rfl (by kernel_rfl) Tryz.func5 (by kernel_rfl)
  (of_decide_eq_true (by kernel_rfl)) (by unfold Func.isWrapper; first | (rw [if_pos (by decide +kernel)]; kernel_rfl) | (rw [if_neg (by decide +kernel)]; exact ⟨rfl, rfl⟩))
  (fun os started H enc _ => lifted os started H enc)

theorem proved : Rows.EngineRoomsSaid := over
#print axioms proved
end Go.Proofs.YtjgggialnegddaaGreat.engineRooms
