/-
  Proved: a replica that nobody made does nothing: EngineNobody hands back true for whatever message.
-/
import Derived.Test.YtjgggialnegddaaGreatRows
import Derived.Test.YtjgggialnegddaaGreatPn50
import Derived.Test.YtjgggialnegddaaGreatPn32
import Derived.WalkKit
import Derived.ProofKit
import Derived.OpenShut
import Derived.ShutString
import Derived.ChangeOld
import Derived.Below
namespace Go.Proofs.YtjgggialnegddaaGreat.engineNobody
open Go.ChangeShapes Go.WideShapes Go.ChangeAt Go.RowKit
open Go.ChangeMaps (open_string shut_string)
set_option linter.unusedVariables false

theorem own : ownKnob Tryz.prog.godebug = none := by kernel_rfl
theorem laidOut : laidOutB Tryz.prog = true := by kernel_rfl

/-! ### The walk -/
set_option maxRecDepth 1000000 in
set_option maxHeartbeats 8000000 in
theorem walk (m : Ms) (w : World) (gm : MsIn w m ∧ MsOk m) :
  Calls Tryz.prog 6 #[.agg (MsV m)] w fun e w' => e = .returned (.bool true) ∧ Below w.heap.size w w' := by
 obtain ⟨hin, hok⟩ := gm
 have HT := hid fun W : World => theirs_any m W
 have HNo := hid fun (p : Option Addr) (W : World) (h : EnNo W p) => eno_arr p m W h
 have HFa := hid fun (B : Nat) (W : World) (hL : Lst W (some ⟨B, 0, none⟩) 1 1 14 [⟨0, false, m⟩] SpV (fun s => SpOk W s)) => far15_any (some ⟨B, 0, none⟩) 1 1 [⟨0, false, m⟩] W hL
 have HIn := hid fun (W : World) (hb : Below w.heap.size w W) => hin.below hb
 have HOk := hid hok
 clear hin hok
 obtain ⟨kd, st, se, ate, ic, n, ct, wh, ⟨sd, ap, lp, cp, pr, mo⟩, la, ll, lc, li⟩ := m
 obtain ⟨m, hm⟩ : ∃ m : Ms, m = ⟨kd, st, se, ate, ic, n, ct, wh, ⟨sd, ap, lp, cp, pr, mo⟩, la, ll, lc, li⟩ := ⟨_, rfl⟩
 rw [← hm] at HFa HIn HOk
 obtain ⟨wA, hwA⟩ : ∃ wA, wA = w.alloc (.cells #[.int .i64 kd, .int .u64 st, .int .u64 se, .int .u64 ate, .int .u64 ic, .int .u64 n, .int .u64 ct, .int .i64 wh, .int .u64 sd, .slice ap lp cp, .int .i64 mo, .slice la ll lc] 45) := ⟨_, rfl⟩
 have hA : wA.heap[w.heap.size]? = some (.cells #[.int .i64 kd, .int .u64 st, .int .u64 se, .int .u64 ate, .int .u64 ic, .int .u64 n, .int .u64 ct, .int .i64 wh, .int .u64 sd, .slice ap lp cp, .int .i64 mo, .slice la ll lc] 45 (0, 0)) := by rw [hwA]; exact heap_alloc_new w _
 have hbA : Below w.heap.size w wA := by rw [hwA]; exact (Below.refl _ _).alloc (Nat.le_refl _) _
 obtain ⟨wB, hwB⟩ : ∃ wB, wB = wA.alloc (.cells #[.int .u8 0, .bool false, .int .i64 kd, .int .u64 st, .int .u64 se, .int .u64 ate, .int .u64 ic, .int .u64 n, .int .u64 ct, .int .i64 wh, .int .u64 sd, .slice ap lp cp, .int .i64 mo, .slice la ll lc] 47) := ⟨_, rfl⟩
 have hB : wB.heap[wA.heap.size]? = some (.cells #[.int .u8 0, .bool false, .int .i64 kd, .int .u64 st, .int .u64 se, .int .u64 ate, .int .u64 ic, .int .u64 n, .int .u64 ct, .int .i64 wh, .int .u64 sd, .slice ap lp cp, .int .i64 mo, .slice la ll lc] 47 (0, 0)) := by rw [hwB]; exact heap_alloc_new wA _
 have hbB : Below wA.heap.size wA wB := by rw [hwB]; exact (Below.refl _ _).alloc (Nat.le_refl _) _
 have HBB := hid (hbA.trans (hbB.mono hbA.size))
 have hL : Lst wB (some ⟨wA.heap.size, 0, none⟩) 1 1 14 [⟨0, false, m⟩] SpV (fun s => SpOk wB s) := by
  refine ⟨rfl, Nat.le_refl _, by omega, (fun e => by cases e), fun i hi => ⟨wA.heap.size, 0, rfl, fun j hj => ?_⟩, fun i hi => ?_⟩
  ·obtain rfl : i = 0 := by simpa using hi
   rw [Nat.zero_mul, Nat.zero_add, cell_of_row _ _ _ _ _ _ hB]
   simp only [List.getElem_cons_zero, SpV, hm]
  ·obtain rfl : i = 0 := by simpa using hi
   exact ⟨⟨by show (0:Int) ≤ 0; omega, by show (0:Int) ≤ 255; omega⟩, HIn.out _ HBB.out, HOk.out⟩
 have hFar := HFa.out _ wB hL
 have hsA : wA.heap.size = w.heap.size + 1 := by rw [hwA]; simp
 rw [hsA] at hFar
 have HCl : Hid (∀ W : World, Below wB.heap.size wB W → W.heap[w.heap.size]? = some (.cells #[.int .i64 kd, .int .u64 st, .int .u64 se, .int .u64 ate, .int .u64 ic, .int .u64 n, .int .u64 ct, .int .i64 wh, .int .u64 sd, .slice ap lp cp, .int .i64 mo, .slice la ll lc] 45 (0, 0))) := fun W hb => (hb.block _ (lt_of_block (block_bel hA hbB))).trans (block_bel hA hbB)
 have x := cells_12 hA
 obtain ⟨x0, x1, x2, x3, x4, x5, x6, x7, x8, x9, x10, x11⟩ := x
 simp only [show List.take (min 1 30) [(⟨0, false, m⟩ : Sp)] = [⟨0, false, m⟩] from rfl, List.any_cons, List.any_nil, Bool.or_false] at hFar
 generalize farB ⟨0, false, m⟩ = fb at *
 unfold MsV at HT HNo
 simp only at HT HNo
 clear hA hB hbA hbB hL HFa HIn HOk hm
 go_enter Tryz.func6, Tryz.ntmps6
 unfold MsV
 simp only
 rw [hwA] at x0 x1 x2 x3 x4 x5 x6 x7 x8 x9 x10 x11
 go_wp2_with fail
 rw [← hwA, ← hwB]
 refine hFar.mono ?_
 rintro e w0 ⟨rfl, hb0⟩
 have HCm : Hid (∀ W : World, Below w0.heap.size w0 W → W.heap[w.heap.size]? = some (.cells #[.int .i64 kd, .int .u64 st, .int .u64 se, .int .u64 ate, .int .u64 ic, .int .u64 n, .int .u64 ct, .int .i64 wh, .int .u64 sd, .slice ap lp cp, .int .i64 mo, .slice la ll lc] 45 (0, 0))) := fun W hb => HCl.out W (hb0.trans (hb.mono hb0.size))
 have HB1 := hid (HBB.out.trans (hb0.mono HBB.out.size))
 clear hb0 hFar HCl HBB x0 x1 x2 x3 x4 x5 x6 x7 x8 x9 x10 x11 hwA hwB hsA
 clear wA wB
 cases fb with
 | true =>
  clear HCm HT HNo
  go_wp2_with fail
  refine (alive15_any _).mono ?_
  rintro e wz ⟨rfl, hb⟩
  have HZ := hid (HB1.out.trans (hb.mono HB1.out.size))
  clear hb
  go_wp2
  go_ret
  exact ⟨rfl, HZ.out⟩
 | false =>
 obtain ⟨wA, hwA⟩ : ∃ wA, wA = (w0.alloc (.cells zeroR 73)).alloc (.cells #[.pointer none, .pointer (some ⟨w0.heap.size, 0, none⟩)] 28) := ⟨_, rfl⟩
 have hA : Below w0.heap.size w0 wA := by rw [hwA]; exact ((Below.refl _ _).alloc (Nat.le_refl _) _).alloc (by simp) _
 have HB0 := hid (HB1.out.trans (hA.mono HB1.out.size))
 have HX : Hid (∀ W : World, Below wA.heap.size wA W → Below w.heap.size w W) := fun W hW => HB0.out.trans (hW.mono HB0.out.size)
 have HCw : Hid (∀ W : World, Below wA.heap.size wA W → W.heap[w.heap.size]? = some (.cells #[.int .i64 kd, .int .u64 st, .int .u64 se, .int .u64 ate, .int .u64 ic, .int .u64 n, .int .u64 ct, .int .i64 wh, .int .u64 sd, .slice ap lp cp, .int .i64 mo, .slice la ll lc] 45 (0, 0))) := fun W hb => HCm.out W (hA.trans (hb.mono hA.size))
 have HK : Hid (∀ (W : World) (k : Nat), Below wA.heap.size wA W → k < 2 → ∃ p, W.cell? ⟨w0.heap.size + 1, k, none⟩ = some (.pointer p) ∧ ∀ W' : World, Below W.heap.size W W' → EnNo W' p) := by
  intro W k hb hk
  have e1 : wA.heap[w0.heap.size]? = some (.cells zeroR 73 (0, 0)) := by rw [hwA, Below.heap_alloc _ _ _ (by simp)]; exact heap_alloc_new w0 _
  have e2 : wA.heap[w0.heap.size + 1]? = some (.cells #[.pointer none, .pointer (some ⟨w0.heap.size, 0, none⟩)] 28 (0, 0)) := by
   have := heap_alloc_new (w0.alloc (.cells zeroR 73)) (.cells #[.pointer none, .pointer (some ⟨w0.heap.size, 0, none⟩)] 28)
   rw [hwA]
   simpa using this
  have e3 : W.heap[w0.heap.size + 1]? = some (.cells #[.pointer none, .pointer (some ⟨w0.heap.size, 0, none⟩)] 28 (0, 0)) := (hb.block _ (lt_of_block e2)).trans e2
  have e4 : W.heap[w0.heap.size]? = some (.cells zeroR 73 (0, 0)) := (hb.block _ (lt_of_block e1)).trans e1
  rcases (by omega : k = 0 ∨ k = 1) with rfl | rfl
  ·exact ⟨none, by rw [cell_of_row _ _ _ _ _ _ e3]; rfl, fun _ _ => .inl rfl⟩
  ·exact ⟨some ⟨w0.heap.size, 0, none⟩, by rw [cell_of_row _ _ _ _ _ _ e3]; rfl, fun W' hb' => .inr ⟨_, rfl, (hb'.block _ (lt_of_block e4)).trans e4⟩⟩
 rw [show zeroR = #[.pointer none, .pointer none, .int .i64 0, .int .i64 0, .int .i64 0, .int .u64 0, .bool false, .map none, .slice none 0 0, .slice none 0 0] from rfl] at hwA
 clear hA HB1 HCm
 go_wp2_with fail
 rw [← hwA]
 clear hwA
 go_loopw [14] (fun i W => ∃ k : Nat, k ≤ 2 ∧ i = .int .i64 k ∧ Hid (Below wA.heap.size wA W)) (fun i _ => 2 - (intOf i).toNat)
 case atStart => exact ⟨0, by omega, rfl, Below.refl _ _⟩
 case round =>
 obtain ⟨k, hk, rfl, HW⟩ := hrel
 rename World => wr
 by_cases hlt : k < 2
 ·obtain ⟨p, cp', hp⟩ := HK.out wr k HW.out hlt
  have q1 : (k : Int) < 2 := by omega
  have HP := hid hp
  obtain ⟨x0, x1, x2, x3, x4, x5, x6, x7, x8, x9, x10, x11⟩ := cells_12 (HCw.out wr HW.out)
  clear hp HK HCw HX HB0
  go_wp2_with fail
  refine (HT.out _).mono ?_
  rintro e w1 ⟨rfl, hb⟩
  have HV := hid hb
  have hC := HNo.out p w1 (HP.out _ hb)
  clear hb cp' HT HNo x0 x1 x2 x3 x4 x5 x6 x7 x8 x9 x10 x11
  go_wp2_with fail
  refine hC.mono ?_
  rintro e w2 ⟨a2, c2, rfl, hc2, hb⟩
  replace HV := hid (HV.out.trans (hb.mono HV.out.size))
  clear hb hC
  go_wp2_with fail
  refine (eno_step p _ (HP.out _ HV.out)).mono ?_
  rintro e w3 ⟨a3, c3, rfl, hc3, hb⟩
  replace HV := hid (HV.out.trans (hb.mono HV.out.size))
  clear hb
  go_wp2_with fail
  refine (eno_load p _ (HP.out _ HV.out)).mono ?_
  rintro e w4 ⟨rfl, hb⟩
  replace HV := hid (HV.out.trans (hb.mono HV.out.size))
  clear hb
  go_wp2_with fail
  refine (eno_att p _ (HP.out _ HV.out)).mono ?_
  rintro e w5 ⟨a5, c5, rfl, hc5, hb⟩
  replace HV := hid (HV.out.trans (hb.mono HV.out.size))
  clear hb
  go_wp2_with fail
  refine (eno_cached p _ (HP.out _ HV.out)).mono ?_
  rintro e w6 ⟨rfl, hb⟩
  replace HV := hid (HV.out.trans (hb.mono HV.out.size))
  clear hb
  go_wp2_with fail
  refine (eno_crash p _ (HP.out _ HV.out)).mono ?_
  rintro e w7 ⟨rfl, hb⟩
  replace HV := hid (HV.out.trans (hb.mono HV.out.size))
  clear hb
  go_wp2_with fail
  refine (eno_inc p _ (HP.out _ HV.out)).mono ?_
  rintro e w8 ⟨rfl, hb⟩
  replace HV := hid (HV.out.trans (hb.mono HV.out.size))
  clear hb
  go_wp2_with fail
  refine (eno_drains p _ (HP.out _ HV.out)).mono ?_
  rintro e w9 ⟨rfl, hb⟩
  replace HV := hid (HV.out.trans (hb.mono HV.out.size))
  have HW2 := hid (HW.out.trans (HV.out.mono HW.out.size))
  clear hb HV HP HW
  go_wp2_with fail
  go_round
  case rel => exact ⟨k + 1, by omega, by go_num, HW2⟩
  case measure => simp [intOf]; omega
 ·obtain rfl : k = 2 := by omega
  have HW0 := hid (HX.out _ HW.out)
  clear HK HX HW HB0 HCw HT HNo
  go_wp2_with fail
  refine (alive15_any _).mono ?_
  rintro e wz ⟨rfl, hb⟩
  have HZ := hid (HW0.out.trans (hb.mono HW0.out.size))
  clear hb
  go_wp2
  go_ret
  exact ⟨rfl, HZ.out⟩

/-! ### The row's step -/
set_option maxRecDepth 1000000 in
theorem lifted (os : Os) (started : os.Started) (H : Type) (enc : TypeId × Value → H) :
  ReturnsInHanded {} Tryz.checked os 6 .any (Rows.engineNobodySpec.pre6 enc Tryz.prog Tryz.f6 Rows.engineNobodyRow.domain false) (Rows.engineNobodySpec.post enc Tryz.prog Tryz.f6 false true false false) := by
 refine returnsInHanded_of_change (C := Tryz.checked) own started (by kernel_rfl) Tryz.func6
  (ChangeSpec.witness6 (enc := enc) (C := Tryz.checked) false ⟨#[], #[.agg #[.int .i64 0, .int .u64 0, .int .u64 0, .int .u64 0, .int .u64 0, .int .u64 0, .int .u64 0, .int .i64 0, .int .u64 0, .slice none 0 0, .int .i64 0, .slice none 0 0]], []⟩ 8 (by kernel_rfl) (by kernel_rfl) (by kernel_rfl) (by kernel_rfl)) ?_
 intro W base args ds gs before hval0 hW hcnd _
 have hval : ∀ (j : Nat) t v, Tryz.f6.params[j]? = some t → args[j]? = some v → Value.okWide Tryz.prog W .any base t v := hval0
 have hW' := hW
 obtain ⟨p, q, hA0, hV, rfl, hfz, hnd⟩ := hW
 have hA : DataW.TrodAll enc Tryz.prog W 0 (fun _ => true) true Tryz.f6.params.toList args.toList ds p := hA0
 rw [Tryz.params6] at hA hval
 obtain ⟨v0, vs0, d0, ds0, p0, q0, hargs, rfl, rfl, h0, r0⟩ := trodAll_cons hA
 obtain ⟨rfl, rfl, rfl⟩ := trodAll_nil r0
 obtain rfl : args = #[v0] := by cases args; simp_all
 obtain ⟨rfl, rfl⟩ := trodVars_none hV
 have k0 := h0
 have lt0 : ∀ x ∈ p0, x.block < W.heap.size := by obtain ⟨m, hm⟩ := k0; exact DataW.trod_lt m _ _ _ hm
 obtain ⟨m, rfl, gm⟩ := ms_open (hval 0 45 v0 rfl rfl) h0
 clear hA0 hval0
 refine (walk m W gm).mono fun e W' ⟨he, bel⟩ => ?_
 subst he
 exact ⟨_, rfl, _, _, _, [], _, [], hW', trodAll_mk1 (shut_bool Tryz.underlying4 _), (trodAll_cons_mk (Below.trod laidOut (by kernel_rfl) (of_decide_eq_true (by kernel_rfl)) k0 bel lt0) trodAll_mk0), rfl, bel.frame _, fun h => by cases h⟩

theorem over : Rows.engineNobodyRow.holds Tryz.pinned (OpenSpec.ofChange Rows.engineNobodySpec) :=
 OpenClaim.holds_of_wide 6 Tryz.f6 rfl rfl rfl rfl rfl rfl rfl ⟨rfl, rfl, rfl, rfl, rfl⟩ rfl rfl rfl rfl rfl (by kernel_rfl) Tryz.func6 (by kernel_rfl)
  (of_decide_eq_true (by kernel_rfl)) (by unfold Func.isWrapper; first | (rw [if_pos (by decide +kernel)]; kernel_rfl) | (rw [if_neg (by decide +kernel)]; exact ⟨rfl, rfl⟩))
  (fun os started H enc _ => lifted os started H enc)

theorem proved : Rows.EngineNobodySaid := over
#print axioms proved
end Go.Proofs.YtjgggialnegddaaGreat.engineNobody
