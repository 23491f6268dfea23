/-
  Proved: a cache that nobody made has nothing, and there is none of no model: KvNobody hands back true for whatever tokens and numbers.
-/
import Derived.Test.YtdomjdfancpbbaaGreatRows
import Derived.Test.YtdomjdfancpbbaaGreatPk19
import Derived.WalkKit
import Derived.ProofKit
import Derived.OpenShut
import Derived.ShutString
import Derived.ChangeOld
import Derived.Below
namespace Go.Proofs.YtdomjdfancpbbaaGreat.kvNobody
open Go.ChangeShapes Go.WideShapes Go.ChangeAt Go.RowKit
open Go.ChangeMaps (open_string shut_string)
set_option linter.unusedVariables false

theorem own : ownKnob Tryz.prog.godebug = none := by kernel_rfl
theorem laidOut : laidOutB Tryz.prog = true := by kernel_rfl

/-! ### The walk -/
set_option maxRecDepth 1000000 in
set_option maxHeartbeats 8000000 in
theorem walk (a0 : Option Addr) (l0 c0 : Nat) (xs0 : List Int) (n1 : Int) (n2 : Int) (w : World) (ga0 : Reads .i64 w a0 l0 c0 xs0) (gn1 : -9223372036854775808 ≤ n1 ∧ n1 ≤ 9223372036854775807) (gn2 : -9223372036854775808 ≤ n2 ∧ n2 ≤ 9223372036854775807) :
    Calls Tryz.prog 6 #[.slice a0 l0 c0, .int .i64 n1, .int .i64 n2] w fun e w' => e = .returned (.bool true) ∧ Below w.heap.size w w' := by
  have r1 := ga0.room
  have m1 := ga0.most
  have hN := knew_nil n1 n2 w
  have HNw := hid fun g W (h : MdAt W (some ⟨g, 0, none⟩) c14) => knew_yes (some ⟨g, 0, none⟩) c14 2 2 W h may14 (by decide) (by decide)
  simp only [show ((2 : Nat) : Int) = 2 from rfl] at HNw
  clear ga0
  go_enter Tryz.func6, Tryz.ntmps6
  go_wp2_with fail
  refine hN.mono ?_
  rintro e w0 ⟨rfl, hb0⟩
  have HB1 := hid hb0
  clear hN hb0
  obtain ⟨wA, hwA⟩ : ∃ wA, wA = (w0.alloc (.cells zeroK 63)).alloc (.cells #[.pointer none, .pointer (some ⟨w0.heap.size, 0, none⟩)] 25) := ⟨_, rfl⟩
  have hA : Below w0.heap.size w0 wA := by rw [hwA]; exact ((Below.refl _ _).alloc (Nat.le_refl _) _).alloc (by simp) _
  have HB0 := hid (HB1.out.trans (hA.mono HB1.out.size))
  have HX : Hid (∀ W : World, Below wA.heap.size wA W → Below w.heap.size w W) := fun W hW => HB0.out.trans (hW.mono HB0.out.size)
  have HK : Hid (∀ (W : World) (k : Nat), Below wA.heap.size wA W → k < 2 → ∃ p, W.cell? ⟨w0.heap.size + 1, k, none⟩ = some (.pointer p) ∧ ∀ W' : World, Below W.heap.size W W' → KvNo W' p) := by
    intro W k hb hk
    have e1 : wA.heap[w0.heap.size]? = some (.cells zeroK 63 (0, 0)) := by rw [hwA, Below.heap_alloc _ _ _ (by simp)]; exact heap_alloc_new w0 _
    have e2 : wA.heap[w0.heap.size + 1]? = some (.cells #[.pointer none, .pointer (some ⟨w0.heap.size, 0, none⟩)] 25 (0, 0)) := by
      have := heap_alloc_new (w0.alloc (.cells zeroK 63)) (.cells #[.pointer none, .pointer (some ⟨w0.heap.size, 0, none⟩)] 25)
      rw [hwA]
      simpa using this
    have e3 : W.heap[w0.heap.size + 1]? = some (.cells #[.pointer none, .pointer (some ⟨w0.heap.size, 0, none⟩)] 25 (0, 0)) := (hb.block _ (lt_of_block e2)).trans e2
    have e4 : W.heap[w0.heap.size]? = some (.cells zeroK 63 (0, 0)) := (hb.block _ (lt_of_block e1)).trans e1
    rcases (by omega : k = 0 ∨ k = 1) with rfl | rfl
    · exact ⟨none, by rw [cell_of_row _ _ _ _ _ _ e3]; rfl, fun _ _ => .inl rfl⟩
    · exact ⟨some ⟨w0.heap.size, 0, none⟩, by rw [cell_of_row _ _ _ _ _ _ e3]; rfl, fun W' hb' => .inr ⟨_, rfl, (hb'.block _ (lt_of_block e4)).trans e4⟩⟩
  unfold zeroK at hwA
  clear hA HB1
  go_wp2_with fail
  rw [← hwA]
  clear hwA
  go_loopw [31] (fun i W => ∃ k : Nat, k ≤ 2 ∧ i = .int .i64 k ∧ Hid (Below wA.heap.size wA W)) (fun i _ => 2 - (intOf i).toNat)
  case atStart => exact ⟨0, by omega, rfl, Below.refl _ _⟩
  case round =>
  obtain ⟨k, hk, rfl, HW⟩ := hrel
  rename World => wr
  by_cases hlt : k < 2
  · obtain ⟨p, cp, hp⟩ := HK.out wr k HW.out hlt
    have q1 : (k : Int) < 2 := by omega
    have HP := hid hp
    clear hp HK HNw
    go_wp2_with fail
    refine (kno_clear p _ (HP.out _ (Below.refl _ _))).mono ?_
    rintro e w1 ⟨rfl, hb⟩
    have HV := hid hb
    clear hb cp
    go_wp2_with fail
    refine (kno_find p a0 l0 c0 _ (HP.out _ HV.out) ⟨r1, m1⟩).mono ?_
    rintro e w2 ⟨rfl, hb⟩
    replace HV := hid (HV.out.trans (hb.mono HV.out.size))
    clear hb
    go_wp2_with fail
    refine (kno_put p _ (HP.out _ HV.out)).mono ?_
    rintro e w3 ⟨rfl, hb⟩
    replace HV := hid (HV.out.trans (hb.mono HV.out.size))
    clear hb
    go_wp2_with fail
    refine (kno_len p _ (HP.out _ HV.out)).mono ?_
    rintro e w4 ⟨rfl, hb⟩
    replace HV := hid (HV.out.trans (hb.mono HV.out.size))
    clear hb
    go_wp2_with fail
    refine (kno_has p a0 l0 c0 _ (HP.out _ HV.out) ⟨r1, m1⟩).mono ?_
    rintro e w5 ⟨rfl, hb⟩
    replace HV := hid (HV.out.trans (hb.mono HV.out.size))
    clear hb
    go_wp2_with fail
    refine (kno_pages p _ (HP.out _ HV.out)).mono ?_
    rintro e w6 ⟨a6, c6, rfl, hc6, hb⟩
    replace HV := hid (HV.out.trans (hb.mono HV.out.size))
    have HW2 := hid (HW.out.trans (HV.out.mono HW.out.size))
    clear hb HV HP HW
    go_wp2_with fail
    go_round
    case rel => exact ⟨k + 1, by omega, by go_num, HW2⟩
    case measure => simp [intOf]; omega
  · obtain rfl : k = 2 := by omega
    have HW0 := hid (HX.out _ HW.out)
    clear HK HX HW HB0
    go_wp2_with fail
    refine (small14_any _).mono ?_
    rintro e w1 ⟨gm, rfl, hg, hgl, hM, hb⟩
    have HM := hid hM
    replace HW0 := hid (HW0.out.trans (hb.mono HW0.out.size))
    clear hg hgl hM hb
    go_wp2_with fail
    refine (HNw.out _ _ HM.out).mono ?_
    rintro e w2 ⟨g, F, rfl, hK, hF, hb⟩
    have hC := kput_nil w2 hK (by decide)
    have HLo : Hid (∀ x, F x → w.heap.size ≤ x) := fun x hx => Nat.le_trans HW0.out.size (hF x hx)
    replace HW0 := hid (HW0.out.trans (hb.mono HW0.out.size))
    clear hK hF hb HNw HM
    go_wp2_with fail
    refine hC.mono ?_
    rintro e w3 ⟨rfl, hb⟩
    replace HW0 := hid (HW0.out.trans (hb.to HLo.out HW0.out.size))
    clear hb hC HLo
    go_wp2_with fail
    refine (alive14_any _).mono ?_
    rintro e wz ⟨rfl, hb⟩
    have HZ := hid (HW0.out.trans (hb.mono HW0.out.size))
    clear hb
    go_wp2
    go_ret
    exact ⟨rfl, HZ.out⟩

/-! ### The row's step -/
set_option maxRecDepth 1000000 in
theorem lifted (os : Os) (started : os.Started) (H : Type) (enc : TypeId × Value → H) :
    ReturnsInHanded {} Tryz.checked os 6 .any (Rows.kvNobodySpec.pre6 enc Tryz.prog Tryz.f6 Rows.kvNobodyRow.domain false) (Rows.kvNobodySpec.post enc Tryz.prog Tryz.f6 false true false false) := by
  refine returnsInHanded_of_change (C := Tryz.checked) own started (by kernel_rfl) Tryz.func6
    (ChangeSpec.witness6 (enc := enc) (C := Tryz.checked) false ⟨#[], #[.slice none 0 0, .int .i64 0, .int .i64 0], []⟩ 8 (by kernel_rfl) (by kernel_rfl) (by kernel_rfl) (by kernel_rfl)) ?_
  intro W base args ds gs before hval0 hW hcnd _
  have hval : ∀ (j : Nat) t v, Tryz.f6.params[j]? = some t → args[j]? = some v → Value.okWide Tryz.prog W .any base t v := hval0
  have hW' := hW
  obtain ⟨p, q, hA0, hV, rfl, hfz, hnd⟩ := hW
  have hA : DataW.TrodAll enc Tryz.prog W 0 (fun _ => true) true Tryz.f6.params.toList args.toList ds p := hA0
  rw [Tryz.params6] at hA hval
  obtain ⟨v0, vs0, d0, ds0, p0, q0, hargs, rfl, rfl, h0, r0⟩ := trodAll_cons hA
  obtain ⟨v1, vs1, d1, ds1, p1, q1, rfl, rfl, rfl, h1, r1⟩ := trodAll_cons r0
  obtain ⟨v2, vs2, d2, ds2, p2, q2, rfl, rfl, rfl, h2, r2⟩ := trodAll_cons r1
  obtain ⟨rfl, rfl, rfl⟩ := trodAll_nil r2
  obtain rfl : args = #[v0, v1, v2] := by cases args; simp_all
  obtain ⟨rfl, rfl⟩ := trodVars_none hV
  have k0 := h0
  have lt0 : ∀ x ∈ p0, x.block < W.heap.size := by obtain ⟨m, hm⟩ := k0; exact DataW.trod_lt m _ _ _ hm
  obtain ⟨a0, l0, c0, xs0, rfl, ga0⟩ := nums_open (hval 0 34 v0 rfl rfl) h0
  have k1 := h1
  have lt1 : ∀ x ∈ p1, x.block < W.heap.size := by obtain ⟨m, hm⟩ := k1; exact DataW.trod_lt m _ _ _ hm
  obtain ⟨n1, rfl, gn1⟩ := pint_open (hval 1 3 v1 rfl rfl) h1
  have k2 := h2
  have lt2 : ∀ x ∈ p2, x.block < W.heap.size := by obtain ⟨m, hm⟩ := k2; exact DataW.trod_lt m _ _ _ hm
  obtain ⟨n2, rfl, gn2⟩ := pint_open (hval 2 3 v2 rfl rfl) h2
  clear hA0 hval0
  refine (walk a0 l0 c0 xs0 n1 n2 W ga0 gn1 gn2).mono fun e W' ⟨he, bel⟩ => ?_
  subst he
  exact ⟨_, rfl, _, _, _, [], _, [], hW', trodAll_mk1 (shut_bool Tryz.underlying4 _), (trodAll_cons_mk (Below.trod laidOut (by kernel_rfl) (of_decide_eq_true (by kernel_rfl)) k0 bel lt0) (trodAll_cons_mk (Below.trod laidOut (by kernel_rfl) (of_decide_eq_true (by kernel_rfl)) k1 bel lt1) (trodAll_cons_mk (Below.trod laidOut (by kernel_rfl) (of_decide_eq_true (by kernel_rfl)) k2 bel lt2) trodAll_mk0))), rfl, bel.frame _, fun h => by cases h⟩

theorem over : Rows.kvNobodyRow.holds Tryz.pinned (OpenSpec.ofChange Rows.kvNobodySpec) :=
  OpenClaim.holds_of_wide 6 Tryz.f6 rfl rfl rfl rfl rfl rfl rfl ⟨rfl, rfl, rfl, rfl, rfl⟩ rfl rfl rfl rfl rfl (by kernel_rfl) Tryz.func6 (by kernel_rfl)
    (of_decide_eq_true (by kernel_rfl)) (by unfold Func.isWrapper; first | (rw [if_pos (by decide +kernel)]; kernel_rfl) | (rw [if_neg (by decide +kernel)]; exact ⟨rfl, rfl⟩))
    (fun os started H enc _ => lifted os started H enc)

/-- The statement. -/
theorem proved : Rows.KvNobodySaid := over
#print axioms proved
end Go.Proofs.YtdomjdfancpbbaaGreat.kvNobody
