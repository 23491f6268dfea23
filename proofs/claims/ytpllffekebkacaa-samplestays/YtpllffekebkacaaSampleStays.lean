/-
  Proved: a draw hangs on what it is handed alone, asked again it is the same, and marks stay as they are: SampleStays hands back true for whatever marks, top, heat, seed, place and other marks.
-/
import Derived.Test.YtpllffekebkacaaRows
import Derived.Test.YtpllffekebkacaaSaArgs
import Derived.Deep.QuietTactic
import Derived.BigQuiet
import Derived.WalkKit
import Derived.ProofKit
import Derived.OpenShut
import Derived.ShutString
import Derived.ChangeOld
import Derived.Below
namespace Go.Proofs.Ytpllffekebkacaa.sampleStays
open Go.ChangeShapes Go.WideShapes Go.ChangeAt Go.RowKit
open Go.ChangeMaps (open_string shut_string)
set_option linter.unusedVariables false

theorem own : ownKnob Try.prog.godebug = none := by kernel_rfl
theorem laidOut : laidOutB Try.prog = true := by kernel_rfl

/-! ### The walk -/
set_option maxRecDepth 1000000 in
set_option maxHeartbeats 8000000 in
theorem walk (a0 : Option Addr) (l0 c0 : Nat) (z0 : List Int) (d1 : Dr) (a2 : Option Addr) (l2 c2 : Nat) (z2 : List Int) (w : World) (ga0 : Reads .i64 w a0 l0 c0 z0) (ga2 : Reads .i64 w a2 l2 c2 z2) :
    Calls Try.prog 6 #[.slice a0 l0 c0, .agg (DrV d1), .slice a2 l2 c2] w fun e w' => e = .returned (.bool true) ∧ Below w.heap.size w w' := by
  obtain ⟨wA, hwA⟩ : ∃ wA, wA = w.alloc (.cells (DrV d1) 25) := ⟨_, rfl⟩
  have HB0 : Hid (Below w.heap.size w wA) := by unfold Hid; rw [hwA]; exact (Below.refl _ _).alloc (Nat.le_refl _) _
  have HK : Hid (∀ W : World, Below wA.heap.size wA W → W.cell? ⟨w.heap.size, 0, none⟩ = some (.int .i64 d1.top) ∧ W.cell? ⟨w.heap.size, 1, none⟩ = some (.int .i64 d1.heat) ∧ W.cell? ⟨w.heap.size, 2, none⟩ = some (.int .u64 d1.seed) ∧ W.cell? ⟨w.heap.size, 3, none⟩ = some (.int .u64 d1.place)) := by
    intro W hb
    have e1 : wA.heap[w.heap.size]? = some (.cells (DrV d1) 25 (0, 0)) := by rw [hwA]; exact heap_alloc_new w _
    exact Dr_cells (block_below e1 hb)
  have HR : Hid (∀ W : World, Below wA.heap.size wA W → Reads .i64 W a0 l0 c0 z0) := fun W hb => (ga0.below HB0.out).below hb
  have hF := far11_any a0 l0 c0 z0 wA (ga0.below HB0.out)
  obtain ⟨tt, h, s, p⟩ := d1
  unfold DrV at hwA
  simp only at HK hwA
  unfold DrV
  simp only
  have HR2 : Hid (∀ W : World, Below wA.heap.size wA W → Reads .i64 W a2 l2 c2 z2) := fun W hb => (ga2.below HB0.out).below hb
  have hF2 := far11_any a2 l2 c2 z2 wA (ga2.below HB0.out)
  have r1 := ga0.room
  have m1 := ga0.most
  obtain ⟨i0, hi, hz0, hz1, hz2⟩ := info_parts Try.info2
  clear ga0 ga2
  go_enter Try.func6, Try.ntmps6
  go_wp2_with fail
  rw [← hwA]
  refine hF.mono ?_
  rintro e w' ⟨rfl, rfl⟩
  rename World => wA
  clear hwA hF
  by_cases hl : 200 < l0
  · rw [decide_eq_true hl]
    have HW0 := HB0
    clear HK HR HR2 hF2
    go_wp2_with fail
    refine (alive11_any _).mono ?_
    rintro e wz ⟨rfl, hb⟩
    have HZ := hid (HW0.out.trans (hb.mono HW0.out.size))
    clear hb
    go_wp2
    go_ret
    exact ⟨rfl, HZ.out⟩
  rw [decide_eq_false hl]
  go_wp2_with fail
  refine hF2.mono ?_
  rintro e w' ⟨rfl, rfl⟩
  rename World => wA
  clear hF2
  by_cases hl2 : 200 < l2
  · rw [decide_eq_true hl2]
    have HW0 := HB0
    clear HK HR HR2
    go_wp2_with fail
    refine (alive11_any _).mono ?_
    rintro e wz ⟨rfl, hb⟩
    have HZ := hid (HW0.out.trans (hb.mono HW0.out.size))
    clear hb
    go_wp2
    go_ret
    exact ⟨rfl, HZ.out⟩
  rw [decide_eq_false hl2]
  have HRA := hid (HR.out wA (Below.refl _ _))
  go_wp2_with (at_builtin; refine append_any _ rfl (.const (.slice none 0 0)) (.tmp 17) 22 rfl wA.heap.size 2 i0 (.int .i64 0) 8 Try.underlying22 hi hz0 hz1 hz2 rfl .i64 _ 0 [] rfl (World.ownsRow_nil _ _ _ _) a0 l0 c0 z0 rfl HRA.out (by omega) (by omega) (Nat.le_refl _) ?_; intro vb w5 hOb hb5; obtain ⟨x0, x1, x2, x3⟩ := HK.out _ hb5)
  rw [Nat.zero_add, List.nil_append] at hOb
  obtain ⟨aw, cw, rfl, hrw⟩ := Reads.own (k := .i64) hOb
  have r2 := hrw.room
  have m2 := hrw.most
  have HKK : Hid (∀ W : World, Below w5.heap.size w5 W → W.cell? ⟨w.heap.size, 0, none⟩ = some (.int .i64 tt) ∧ W.cell? ⟨w.heap.size, 1, none⟩ = some (.int .i64 h) ∧ W.cell? ⟨w.heap.size, 2, none⟩ = some (.int .u64 s) ∧ W.cell? ⟨w.heap.size, 3, none⟩ = some (.int .u64 p)) := fun W hb => HK.out W (hb5.trans (hb.mono hb5.size))
  have HRR : Hid (∀ W : World, Below w5.heap.size w5 W → Reads .i64 W a0 l0 c0 z0 ∧ Reads .i64 W a2 l2 c2 z2 ∧ Reads .i64 W aw l0 cw z0) := fun W hb => ⟨HR.out W (hb5.trans (hb.mono hb5.size)), HR2.out W (hb5.trans (hb.mono hb5.size)), hrw.below hb⟩
  have HX : Hid (∀ W : World, Below w5.heap.size w5 W → Below w.heap.size w W) := fun W hW => HB0.out.trans ((hb5.trans (hW.mono hb5.size)).mono HB0.out.size)
  clear HK HR HR2 HB0 HRA hOb hb5 hrw hi hz0 hz1 hz2
  have HD1 := hid fun W (hb : Below w5.heap.size w5 W) => draw_any a0 l0 c0 z0 tt h s p W (HRR.out W hb).1 (by omega)
  have HD2 := hid fun W (hb : Below w5.heap.size w5 W) => draw_any a2 l2 c2 z2 h tt p s W (HRR.out W hb).2.1 (by omega)
  have HD3 := hid fun W (hb : Below w5.heap.size w5 W) => draw_any aw l0 cw z0 tt h s p W (HRR.out W hb).2.2 (by omega)
  generalize drawZ z0 tt h s p = td at *
  generalize drawZ z2 h tt p s = te at *
  have HV : Hid (Below w5.heap.size w5 w5) := Below.refl _ _
  refine (HD1.out _ HV.out).mono ?_
  rintro e w6 ⟨rfl, hb⟩
  replace HV := hid (HV.out.trans (hb.mono HV.out.size))
  clear hb x0 x1 x2 x3 HD1
  obtain ⟨x0, x1, x2, x3⟩ := HKK.out _ HV.out
  go_wp2_with fail
  refine (HD2.out _ HV.out).mono ?_
  rintro e w7 ⟨rfl, hb⟩
  replace HV := hid (HV.out.trans (hb.mono HV.out.size))
  clear hb x0 x1 x2 x3 HD2
  go_wp2_with fail
  go_loopw [41] (fun i W => ∃ k : Nat, k ≤ l0 ∧ i = .int .i64 k ∧ Hid (Below w5.heap.size w5 W)) (fun i _ => l0 - (intOf i).toNat)
  case atStart => exact ⟨0, Nat.zero_le _, rfl, HV⟩
  case round =>
  obtain ⟨k, hk, rfl, HW⟩ := hrel
  rename World => wr
  clear HV
  by_cases hlt : k < l0
  · have hRR := HRR.out _ HW.out
    obtain ⟨b1, o1, rfl, c1⟩ := hRR.1.cell k hlt
    obtain ⟨b2, o2, rfl, c2⟩ := hRR.2.2.cell k hlt
    have q1 : (k : Int) < (l0 : Int) := by omega
    clear hRR HRR HKK HX HD3
    generalize z0[k]?.getD 0 = x at *
    go_wp2_with fail
    go_quiet (fail)
    go_wp2_with fail
    go_round
    case rel => exact ⟨k + 1, by omega, by go_num, HW.out.trans ⟨rfl, rfl, rfl, Nat.le_refl _, fun _ _ => rfl⟩⟩
    case measure => simp [intOf]; omega
  · obtain rfl : k = l0 := by omega
    obtain ⟨x0, x1, x2, x3⟩ := HKK.out _ HW.out
    clear HRR hlt hk
    go_wp2_with fail
    refine (HD3.out _ HW.out).mono ?_
    rintro e w8 ⟨rfl, hb⟩
    have HW0 := hid (HX.out _ (HW.out.trans (hb.mono HW.out.size)))
    clear hb x0 x1 x2 x3 HD3 HW HX HKK
    go_wp2_with fail
    refine (alive11_any _).mono ?_
    rintro e wz ⟨rfl, hb⟩
    have HZ := hid (HW0.out.trans (hb.mono HW0.out.size))
    clear hb
    go_wp2
    go_ret
    exact ⟨rfl, HZ.out⟩

/-! ### The row's step -/
set_option maxRecDepth 1000000 in
theorem lifted (os : Os) (started : os.Started) (H : Type) (enc : TypeId × Value → H) :
    ReturnsInHanded {} Try.checked os 6 .any (Rows.sampleStaysSpec.pre6 enc Try.prog Try.f6 Rows.sampleStaysRow.domain false) (Rows.sampleStaysSpec.post enc Try.prog Try.f6 false true false false) := by
  refine returnsInHanded_of_change (C := Try.checked) own started (by kernel_rfl) Try.func6
    (ChangeSpec.witness6 (enc := enc) (C := Try.checked) false ⟨#[], #[.slice none 0 0, .agg #[.int .i64 0, .int .i64 0, .int .u64 0, .int .u64 0], .slice none 0 0], []⟩ 8 (by kernel_rfl) (by kernel_rfl) (by kernel_rfl) (by kernel_rfl)) ?_
  intro W base args ds gs before hval0 hW hcnd _
  have hval : ∀ (j : Nat) t v, Try.f6.params[j]? = some t → args[j]? = some v → Value.okWide Try.prog W .any base t v := hval0
  have hW' := hW
  obtain ⟨p, q, hA0, hV, rfl, hfz, hnd⟩ := hW
  have hA : DataW.TrodAll enc Try.prog W 0 (fun _ => true) true Try.f6.params.toList args.toList ds p := hA0
  rw [Try.params6] at hA hval
  obtain ⟨v0, vs0, d0, ds0, p0, q0, hargs, rfl, rfl, h0, r0⟩ := trodAll_cons hA
  obtain ⟨v1, vs1, d1, ds1, p1, q1, rfl, rfl, rfl, h1, r1⟩ := trodAll_cons r0
  obtain ⟨v2, vs2, d2, ds2, p2, q2, rfl, rfl, rfl, h2, r2⟩ := trodAll_cons r1
  obtain ⟨rfl, rfl, rfl⟩ := trodAll_nil r2
  obtain rfl : args = #[v0, v1, v2] := by cases args; simp_all
  obtain ⟨rfl, rfl⟩ := trodVars_none hV
  have k0 := h0
  have lt0 : ∀ x ∈ p0, x.block < W.heap.size := by obtain ⟨m, hm⟩ := k0; exact DataW.trod_lt m _ _ _ hm
  obtain ⟨a0, l0, c0, z0, rfl, ga0⟩ := ints_open (hval 0 22 v0 rfl rfl) h0
  have k1 := h1
  have lt1 : ∀ x ∈ p1, x.block < W.heap.size := by obtain ⟨m, hm⟩ := k1; exact DataW.trod_lt m _ _ _ hm
  obtain ⟨d1, rfl⟩ := draws_open (hval 1 25 v1 rfl rfl) h1
  have k2 := h2
  have lt2 : ∀ x ∈ p2, x.block < W.heap.size := by obtain ⟨m, hm⟩ := k2; exact DataW.trod_lt m _ _ _ hm
  obtain ⟨a2, l2, c2, z2, rfl, ga2⟩ := ints_open (hval 2 22 v2 rfl rfl) h2
  clear hA0 hval0
  refine (walk a0 l0 c0 z0 d1 a2 l2 c2 z2 W ga0 ga2).mono fun e W' ⟨he, bel⟩ => ?_
  subst he
  exact ⟨_, rfl, _, _, _, [], _, [], hW', trodAll_mk1 (shut_bool Try.underlying4 _), (trodAll_cons_mk (Below.trod laidOut (by kernel_rfl) (of_decide_eq_true (by kernel_rfl)) k0 bel lt0) (trodAll_cons_mk (Below.trod laidOut (by kernel_rfl) (of_decide_eq_true (by kernel_rfl)) k1 bel lt1) (trodAll_cons_mk (Below.trod laidOut (by kernel_rfl) (of_decide_eq_true (by kernel_rfl)) k2 bel lt2) trodAll_mk0))), rfl, bel.frame _, fun h => by cases h⟩

theorem over : Rows.sampleStaysRow.holds Try.pinned (OpenSpec.ofChange Rows.sampleStaysSpec) :=
  OpenClaim.holds_of_wide 6 Try.f6 rfl rfl rfl rfl rfl rfl rfl ⟨rfl, rfl, rfl, rfl, rfl⟩ rfl rfl rfl rfl rfl (by kernel_rfl) Try.func6 (by kernel_rfl)
    (of_decide_eq_true (by kernel_rfl)) (by unfold Func.isWrapper; first | (rw [if_pos (by decide +kernel)]; kernel_rfl) | (rw [if_neg (by decide +kernel)]; exact ⟨rfl, rfl⟩))
    (fun os started H enc _ => lifted os started H enc)

/-- The statement. -/
theorem proved : Rows.SampleStaysSaid := over
#print axioms proved
end Go.Proofs.Ytpllffekebkacaa.sampleStays
