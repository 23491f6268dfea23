/-
  Proved: the marks of any vector, and the token that comes next, are the document's: SampleMarks hands back true for whatever configuration, vector, seed and place.
-/
import Derived.Test.YtpllffekebkacaaRows
import Derived.Test.YtpllffekebkacaaSaArgs
import Derived.Test.YtpllffekebkacaaSaNext
import Derived.Deep.RegionHeld3
import Derived.Deep.QuietTactic
import Derived.BigQuiet
import Derived.WalkKit
import Derived.ProofKit
import Derived.OpenShut
import Derived.ShutString
import Derived.ChangeOld
import Derived.Below
namespace Go.Proofs.Ytpllffekebkacaa.sampleMarks
open Go.ChangeShapes Go.WideShapes Go.ChangeAt Go.RowKit
open Go.ChangeMaps (open_string shut_string)
set_option linter.unusedVariables false

theorem own : ownKnob Try.prog.godebug = none := by kernel_rfl
theorem laidOut : laidOutB Try.prog = true := by kernel_rfl

/-! ### The walk -/
set_option maxRecDepth 1000000 in
set_option maxHeartbeats 8000000 in
theorem walk (c0 : Cf) (a1 : Option Addr) (l1 c1 : Nat) (z1 : List Int) (d2 : Dr) (w : World) (ga1 : Reads .i64 w a1 l1 c1 z1) :
    Calls Try.prog 4 #[.agg (CfV c0), .slice a1 l1 c1, .agg (DrV d2)] w fun e w' => e = .returned (.bool true) ∧ Below w.heap.size w w' := by
  obtain ⟨wA, hwA⟩ : ∃ wA, wA = (w.alloc (.cells (CfV c0) 32)).alloc (.cells (DrV d2) 25) := ⟨_, rfl⟩
  have HB0 : Hid (Below w.heap.size w wA) := by unfold Hid; rw [hwA]; exact ((Below.refl _ _).alloc (Nat.le_refl _) _).alloc (by simp) _
  have HK : Hid (∀ W : World, Below wA.heap.size wA W → (W.cell? ⟨w.heap.size, 0, none⟩ = some (.int .u64 c0.seed) ∧ W.cell? ⟨w.heap.size, 1, none⟩ = some (.int .i64 c0.vocab) ∧ W.cell? ⟨w.heap.size, 2, none⟩ = some (.int .i64 c0.dim) ∧ W.cell? ⟨w.heap.size, 3, none⟩ = some (.int .i64 c0.layers) ∧ W.cell? ⟨w.heap.size, 4, none⟩ = some (.int .i64 c0.top) ∧ W.cell? ⟨w.heap.size, 5, none⟩ = some (.int .i64 c0.heat)) ∧ W.cell? ⟨w.heap.size + 1, 0, none⟩ = some (.int .i64 d2.top) ∧ W.cell? ⟨w.heap.size + 1, 1, none⟩ = some (.int .i64 d2.heat) ∧ W.cell? ⟨w.heap.size + 1, 2, none⟩ = some (.int .u64 d2.seed) ∧ W.cell? ⟨w.heap.size + 1, 3, none⟩ = some (.int .u64 d2.place)) := by
    intro W hb
    have e1 : wA.heap[w.heap.size]? = some (.cells (CfV c0) 32 (0, 0)) := by rw [hwA, Below.heap_alloc _ _ _ (by simp)]; exact heap_alloc_new w _
    have e2 : wA.heap[w.heap.size + 1]? = some (.cells (DrV d2) 25 (0, 0)) := by
      have := heap_alloc_new (w.alloc (.cells (CfV c0) 32)) (.cells (DrV d2) 25)
      rw [hwA]
      simpa using this
    exact ⟨Cf_cells (block_below e1 hb), Dr_cells (block_below e2 hb)⟩
  have HR : Hid (∀ W : World, Below wA.heap.size wA W → Reads .i64 W a1 l1 c1 z1) := fun W hb => (ga1.below HB0.out).below hb
  have HX : Hid (∀ W : World, Below wA.heap.size wA W → Below w.heap.size w W) := fun W hW => HB0.out.trans (hW.mono HB0.out.size)
  have hNy := fun (h : mayB c0 = true) => new_yes c0 wA h
  have hNn := fun (h : mayB c0 = false) => new_no c0 wA h
  have HF := hid fun W (hb : Below wA.heap.size wA W) => far11_any a1 l1 c1 z1 W (HR.out W hb)
  have HMk := hid fun (h : mayB c0 = true) (hl : l1 ≤ 1000) p W (hp : MdAt W p c0) (hb : Below wA.heap.size wA W) => marks_any p c0 a1 l1 c1 z1 W hp h (HR.out W hb) hl
  have HRM := hid fun (h : mayB c0 = true) (hl : l1 ≤ 1000) W (hb : Below wA.heap.size wA W) => rmarks_any c0 a1 l1 c1 z1 W h (HR.out W hb) hl
  have HNx := hid fun (h : mayB c0 = true) (hl : l1 ≤ 1000) p W (hp : MdAt W p c0) (hb : Below wA.heap.size wA W) => snext_any p c0 a1 l1 c1 z1 d2.seed d2.place W hp h (HR.out W hb) hl
  have HRN := hid fun (h : mayB c0 = true) (hl : l1 ≤ 1000) W (hb : Below wA.heap.size wA W) => rnext_any c0 a1 l1 c1 z1 d2.seed d2.place W h (HR.out W hb) hl
  have HV64 : Hid (mayB c0 = true → c0.vocab.toNat ≤ 64) := fun h => by have := may_parts h; omega
  clear ga1 HB0 HR
  generalize nextZ c0 z1 d2.seed d2.place = td at *
  generalize c0.vocab.toNat = V at *
  generalize rowK (markZ c0 z1) V = ms at *
  obtain ⟨s, v, d, l, tt, h⟩ := c0
  obtain ⟨t2, h2, s2, p2⟩ := d2
  unfold CfV at hNy hNn hwA HRM HRN
  unfold DrV at hwA
  simp only at HK hNy hNn hwA HRM HRN HMk HNx
  unfold CfV DrV
  simp only
  cases hc : mayB ⟨s, v, d, l, tt, h⟩ with
  | false =>
    have hN := hNn hc
    clear hNy hNn HMk HRM HNx HRN HF HV64 hc
    go_enter Try.func4, Try.ntmps4
    go_wp2_with fail
    rw [← hwA]
    refine hN.mono ?_
    rintro e w1 ⟨rfl, hb⟩
    have HW0 := hid (HX.out _ hb)
    clear hN hb hwA HX HK
    go_wp2_with fail
    refine (marks_nil _).mono ?_
    rintro e wy ⟨ya, yc, rfl, hb⟩
    replace HW0 := hid (HW0.out.trans (hb.mono HW0.out.size))
    clear hb
    go_wp2_with fail
    refine (alive11_any _).mono ?_
    rintro e wz ⟨rfl, hb⟩
    have HZ := hid (HW0.out.trans (hb.mono HW0.out.size))
    clear hb
    go_wp2
    go_ret
    exact ⟨rfl, HZ.out⟩
  | true =>
    have hN := hNy hc
    have hV64 := HV64.out hc
    replace HMk := hid (HMk.out hc)
    replace HRM := hid (HRM.out hc)
    replace HNx := hid (HNx.out hc)
    replace HRN := hid (HRN.out hc)
    clear hNy hNn HV64 hc
    go_enter Try.func4, Try.ntmps4
    go_wp2_with fail
    rw [← hwA]
    refine hN.mono ?_
    rintro e w1 ⟨g, rfl, hg, hM, hb⟩
    have hF := HF.out w1 hb
    have HMM : Hid (∀ W : World, Below w1.heap.size w1 W → MdAt W (some ⟨g, 0, none⟩) ⟨s, v, d, l, tt, h⟩) := fun W hW => .inr ⟨g, rfl, block_below hM hW⟩
    have HU : Hid (∀ W : World, Below w1.heap.size w1 W → Below wA.heap.size wA W) := fun W hW => hb.trans (hW.mono hb.size)
    clear hN hb hwA HF hg hM
    go_wp2_with fail
    refine hF.mono ?_
    rintro e w' ⟨rfl, rfl⟩
    rename World => w1
    clear hF
    by_cases hl : 200 < l1
    · rw [decide_eq_true hl]
      have HW0 := hid (HX.out _ (HU.out _ (Below.refl _ _)))
      clear HMk HRM HNx HRN HK HMM HU HX
      go_wp2_with fail
      refine (marks_nil _).mono ?_
      rintro e wy ⟨ya, yc, rfl, hb⟩
      replace HW0 := hid (HW0.out.trans (hb.mono HW0.out.size))
      clear hb
      go_wp2_with fail
      refine (alive11_any _).mono ?_
      rintro e wz ⟨rfl, hb⟩
      have HZ := hid (HW0.out.trans (hb.mono HW0.out.size))
      clear hb
      go_wp2
      go_ret
      exact ⟨rfl, HZ.out⟩
    · rw [decide_eq_false hl]
      replace HMk := hid (HMk.out (by omega))
      replace HRM := hid (HRM.out (by omega))
      replace HNx := hid (HNx.out (by omega))
      replace HRN := hid (HRN.out (by omega))
      have HK1 : Hid (∀ W : World, Below w1.heap.size w1 W → W.cell? ⟨w.heap.size, 0, none⟩ = some (.int .u64 s) ∧ W.cell? ⟨w.heap.size, 1, none⟩ = some (.int .i64 v) ∧ W.cell? ⟨w.heap.size, 2, none⟩ = some (.int .i64 d) ∧ W.cell? ⟨w.heap.size, 3, none⟩ = some (.int .i64 l) ∧ W.cell? ⟨w.heap.size, 4, none⟩ = some (.int .i64 tt) ∧ W.cell? ⟨w.heap.size, 5, none⟩ = some (.int .i64 h)) := fun W hW => (HK.out W (HU.out W hW)).1
      have HK2 : Hid (∀ W : World, Below w1.heap.size w1 W → W.cell? ⟨w.heap.size, 0, none⟩ = some (.int .u64 s) ∧ W.cell? ⟨w.heap.size, 1, none⟩ = some (.int .i64 v) ∧ W.cell? ⟨w.heap.size, 2, none⟩ = some (.int .i64 d) ∧ W.cell? ⟨w.heap.size, 3, none⟩ = some (.int .i64 l) ∧ W.cell? ⟨w.heap.size, 4, none⟩ = some (.int .i64 tt) ∧ W.cell? ⟨w.heap.size, 5, none⟩ = some (.int .i64 h) ∧ W.cell? ⟨w.heap.size + 1, 0, none⟩ = some (.int .i64 t2) ∧ W.cell? ⟨w.heap.size + 1, 1, none⟩ = some (.int .i64 h2) ∧ W.cell? ⟨w.heap.size + 1, 2, none⟩ = some (.int .u64 s2) ∧ W.cell? ⟨w.heap.size + 1, 3, none⟩ = some (.int .u64 p2)) := fun W hW => by
        obtain ⟨⟨b0, b1, b2, b3, b4, b5⟩, b6, b7, b8, b9⟩ := HK.out W (HU.out W hW)
        exact ⟨b0, b1, b2, b3, b4, b5, b6, b7, b8, b9⟩
      have HV : Hid (Below w1.heap.size w1 w1.drew) := (Below.refl _ _).drew
      clear HK
      go_wp2_with fail
      go_region_held3 (fun W : World => W.cell? ⟨w.heap.size, 0, none⟩ = some (.int .u64 s) ∧ W.cell? ⟨w.heap.size, 1, none⟩ = some (.int .i64 v) ∧ W.cell? ⟨w.heap.size, 2, none⟩ = some (.int .i64 d) ∧ W.cell? ⟨w.heap.size, 3, none⟩ = some (.int .i64 l) ∧ W.cell? ⟨w.heap.size, 4, none⟩ = some (.int .i64 tt) ∧ W.cell? ⟨w.heap.size, 5, none⟩ = some (.int .i64 h)) (first | (with_reducible exact HK1.out _ (Below.refl _ _)) | (with_reducible exact HK1.out _ HV.out))
        (first
          | (go_at_call 14; (with_reducible refine (HMk.out _ _ (HMM.out _ HV.out) (HU.out _ HV.out)).mono ?_); rintro e y1 ⟨g1, q1, rfl, ho, hb⟩; replace HV := hid (HV.out.trans (hb.mono HV.out.size)); have HR1 := hid ho.reads; clear hb ho)
          | (go_at_call 15; (with_reducible refine (HRM.out _ (HU.out _ HV.out)).mono ?_); rintro e y2 ⟨u2, rfl, ho, hb⟩; replace HV := hid (HV.out.trans (hb.mono HV.out.size)); obtain ⟨p2', q2, rfl, hr2⟩ := Reads.own (k := .i64) ho; have HR2 := hid hr2; replace HR1 := hid (HR1.out.below hb); clear hb ho hr2))
      have r1 := HR1.out.room
      have m1 := HR1.out.most
      have r2 := HR2.out.room
      have m2 := HR2.out.most
      clear HMk HRM HK1
      go_wp2_with fail
      go_loopw [42] (fun i W => ∃ k : Nat, k ≤ V ∧ i = .int .i64 k ∧ Hid (Below y2.heap.size y2 W)) (fun i _ => V - (intOf i).toNat)
      case atStart => exact ⟨0, Nat.zero_le _, rfl, Below.refl _ _⟩
      case round =>
      obtain ⟨k, hk, rfl, HW⟩ := hrel
      rename World => wr
      by_cases hlt : k < V
      · have k1 := (HR1.out.below HW.out).at hlt
        rw [Nat.zero_add] at k1
        obtain ⟨b2, o2, rfl, c2⟩ := (HR2.out.below HW.out).cell k hlt
        have q1 : (k : Int) < (V : Int) := by omega
        clear HR1 HR2 HNx HRN HK2 HV HMM HU HX
        generalize ms[k]?.getD 0 = x at *
        go_wp2_with fail
        go_quiet (fail)
        go_wp2_with fail
        go_round
        case rel => exact ⟨k + 1, by omega, by go_num, HW.out.trans ⟨rfl, rfl, rfl, Nat.le_refl _, fun _ _ => rfl⟩⟩
        case measure => simp [intOf]; omega
      · obtain rfl : k = V := by omega
        have HVr := hid (HV.out.trans (HW.out.mono HV.out.size))
        have HKr : Hid (∀ W : World, Below wr.heap.size wr W → W.cell? ⟨w.heap.size, 0, none⟩ = some (.int .u64 s) ∧ W.cell? ⟨w.heap.size, 1, none⟩ = some (.int .i64 v) ∧ W.cell? ⟨w.heap.size, 2, none⟩ = some (.int .i64 d) ∧ W.cell? ⟨w.heap.size, 3, none⟩ = some (.int .i64 l) ∧ W.cell? ⟨w.heap.size, 4, none⟩ = some (.int .i64 tt) ∧ W.cell? ⟨w.heap.size, 5, none⟩ = some (.int .i64 h) ∧ W.cell? ⟨w.heap.size + 1, 0, none⟩ = some (.int .i64 t2) ∧ W.cell? ⟨w.heap.size + 1, 1, none⟩ = some (.int .i64 h2) ∧ W.cell? ⟨w.heap.size + 1, 2, none⟩ = some (.int .u64 s2) ∧ W.cell? ⟨w.heap.size + 1, 3, none⟩ = some (.int .u64 p2)) := fun W hW => HK2.out W (HVr.out.trans (hW.mono HVr.out.size))
        have HMr : Hid (∀ W : World, Below wr.heap.size wr W → MdAt W (some ⟨g, 0, none⟩) ⟨s, v, d, l, tt, h⟩) := fun W hW => HMM.out W (HVr.out.trans (hW.mono HVr.out.size))
        have HUr : Hid (∀ W : World, Below wr.heap.size wr W → Below wA.heap.size wA W) := fun W hW => HU.out W (HVr.out.trans (hW.mono HVr.out.size))
        have HZ : Hid (Below wr.heap.size wr wr.drew) := (Below.refl _ _).drew
        clear HR1 HR2 HV HVr HW HK2 HMM HU hlt hk
        go_wp2_with fail
        go_region_held3 (fun W : World => W.cell? ⟨w.heap.size, 0, none⟩ = some (.int .u64 s) ∧ W.cell? ⟨w.heap.size, 1, none⟩ = some (.int .i64 v) ∧ W.cell? ⟨w.heap.size, 2, none⟩ = some (.int .i64 d) ∧ W.cell? ⟨w.heap.size, 3, none⟩ = some (.int .i64 l) ∧ W.cell? ⟨w.heap.size, 4, none⟩ = some (.int .i64 tt) ∧ W.cell? ⟨w.heap.size, 5, none⟩ = some (.int .i64 h) ∧ W.cell? ⟨w.heap.size + 1, 0, none⟩ = some (.int .i64 t2) ∧ W.cell? ⟨w.heap.size + 1, 1, none⟩ = some (.int .i64 h2) ∧ W.cell? ⟨w.heap.size + 1, 2, none⟩ = some (.int .u64 s2) ∧ W.cell? ⟨w.heap.size + 1, 3, none⟩ = some (.int .u64 p2)) (first | (with_reducible exact HKr.out _ (Below.refl _ _)) | (with_reducible exact HKr.out _ HZ.out))
          (first
            | (go_at_call 16; (with_reducible refine (HNx.out _ _ (HMr.out _ HZ.out) (HUr.out _ HZ.out)).mono ?_); rintro e y3 ⟨rfl, hb⟩; replace HZ := hid (HZ.out.trans (hb.mono HZ.out.size)); clear hb)
            | (go_at_call 17; (with_reducible refine (HRN.out _ (HUr.out _ HZ.out)).mono ?_); rintro e y4 ⟨rfl, hb⟩; replace HZ := hid (HZ.out.trans (hb.mono HZ.out.size)); clear hb)
            | (go_at_call 8; (with_reducible refine (alive11_any _).mono ?_); rintro e y5 ⟨rfl, hb⟩; replace HZ := hid (HZ.out.trans (hb.mono HZ.out.size)); clear hb))
        all_goals
          go_wp2_with fail
          go_ret
          exact ⟨rfl, HX.out _ (HUr.out _ HZ.out)⟩

/-! ### The row's step -/
set_option maxRecDepth 1000000 in
theorem lifted (os : Os) (started : os.Started) (H : Type) (enc : TypeId × Value → H) :
    ReturnsInHanded {} Try.checked os 4 .any (Rows.sampleMarksSpec.pre6 enc Try.prog Try.f4 Rows.sampleMarksRow.domain false) (Rows.sampleMarksSpec.post enc Try.prog Try.f4 false true false false) := by
  refine returnsInHanded_of_change (C := Try.checked) own started (by kernel_rfl) Try.func4
    (ChangeSpec.witness6 (enc := enc) (C := Try.checked) false ⟨#[], #[.agg #[.int .u64 0, .int .i64 0, .int .i64 0, .int .i64 0, .int .i64 0, .int .i64 0], .slice none 0 0, .agg #[.int .i64 0, .int .i64 0, .int .u64 0, .int .u64 0]], []⟩ 8 (by kernel_rfl) (by kernel_rfl) (by kernel_rfl) (by kernel_rfl)) ?_
  intro W base args ds gs before hval0 hW hcnd _
  have hval : ∀ (j : Nat) t v, Try.f4.params[j]? = some t → args[j]? = some v → Value.okWide Try.prog W .any base t v := hval0
  have hW' := hW
  obtain ⟨p, q, hA0, hV, rfl, hfz, hnd⟩ := hW
  have hA : DataW.TrodAll enc Try.prog W 0 (fun _ => true) true Try.f4.params.toList args.toList ds p := hA0
  rw [Try.params4] at hA hval
  obtain ⟨v0, vs0, d0, ds0, p0, q0, hargs, rfl, rfl, h0, r0⟩ := trodAll_cons hA
  obtain ⟨v1, vs1, d1, ds1, p1, q1, rfl, rfl, rfl, h1, r1⟩ := trodAll_cons r0
  obtain ⟨v2, vs2, d2, ds2, p2, q2, rfl, rfl, rfl, h2, r2⟩ := trodAll_cons r1
  obtain ⟨rfl, rfl, rfl⟩ := trodAll_nil r2
  obtain rfl : args = #[v0, v1, v2] := by cases args; simp_all
  obtain ⟨rfl, rfl⟩ := trodVars_none hV
  have k0 := h0
  have lt0 : ∀ x ∈ p0, x.block < W.heap.size := by obtain ⟨m, hm⟩ := k0; exact DataW.trod_lt m _ _ _ hm
  obtain ⟨c0, rfl⟩ := conf_open (hval 0 32 v0 rfl rfl) h0
  have k1 := h1
  have lt1 : ∀ x ∈ p1, x.block < W.heap.size := by obtain ⟨m, hm⟩ := k1; exact DataW.trod_lt m _ _ _ hm
  obtain ⟨a1, l1, c1, z1, rfl, ga1⟩ := ints_open (hval 1 22 v1 rfl rfl) h1
  have k2 := h2
  have lt2 : ∀ x ∈ p2, x.block < W.heap.size := by obtain ⟨m, hm⟩ := k2; exact DataW.trod_lt m _ _ _ hm
  obtain ⟨d2, rfl⟩ := draws_open (hval 2 25 v2 rfl rfl) h2
  clear hA0 hval0
  refine (walk c0 a1 l1 c1 z1 d2 W ga1).mono fun e W' ⟨he, bel⟩ => ?_
  subst he
  exact ⟨_, rfl, _, _, _, [], _, [], hW', trodAll_mk1 (shut_bool Try.underlying4 _), (trodAll_cons_mk (Below.trod laidOut (by kernel_rfl) (of_decide_eq_true (by kernel_rfl)) k0 bel lt0) (trodAll_cons_mk (Below.trod laidOut (by kernel_rfl) (of_decide_eq_true (by kernel_rfl)) k1 bel lt1) (trodAll_cons_mk (Below.trod laidOut (by kernel_rfl) (of_decide_eq_true (by kernel_rfl)) k2 bel lt2) trodAll_mk0))), rfl, bel.frame _, fun h => by cases h⟩

theorem over : Rows.sampleMarksRow.holds Try.pinned (OpenSpec.ofChange Rows.sampleMarksSpec) :=
  OpenClaim.holds_of_wide 4 Try.f4 rfl rfl rfl rfl rfl rfl rfl ⟨rfl, rfl, rfl, rfl, rfl⟩ rfl rfl rfl rfl rfl (by kernel_rfl) Try.func4 (by kernel_rfl)
    (of_decide_eq_true (by kernel_rfl)) (by unfold Func.isWrapper; first | (rw [if_pos (by decide +kernel)]; kernel_rfl) | (rw [if_neg (by decide +kernel)]; exact ⟨rfl, rfl⟩))
    (fun os started H enc _ => lifted os started H enc)

/-- The statement. -/
theorem proved : Rows.SampleMarksSaid := over
#print axioms proved
end Go.Proofs.Ytpllffekebkacaa.sampleMarks
