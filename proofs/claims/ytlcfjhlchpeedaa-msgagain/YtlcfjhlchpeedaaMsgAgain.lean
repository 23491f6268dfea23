/-
  Proved: what is read may be, and its load is the same: MsgAgain hands back true for whatever bytes.
-/
import Derived.Test.YtlcfjhlchpeedaaRows
import Derived.Test.YtlcfjhlchpeedaaAlive
import Derived.WalkKit
import Derived.ProofKit
import Derived.OpenShut
import Derived.ShutString
import Derived.ChangeOld
import Derived.Below
namespace Go.Proofs.Ytlcfjhlchpeedaa.msgAgain
open Go.ChangeShapes Go.WideShapes Go.ChangeAt Go.RowKit
open Go.ChangeMaps (open_string shut_string)
set_option linter.unusedVariables false

theorem own : ownKnob Try.prog.godebug = none := by kernel_rfl
theorem laidOut : laidOutB Try.prog = true := by kernel_rfl

/-- WHAT THE WALK IS TOLD OF A SLICE OF INTEGERS THAT CAME IN: it is nil; or it leads to a row of 'cap' cells, the numbers 'zs' (the first 'len' are its elements, the rest its spare room), each fitting its kind. -/
def IsRow (k : IntKind) (w : World) (a : Option Addr) (len cap : Nat) (zs : List Int) : Prop :=
  (a = none ∧ len = 0 ∧ cap = 0 ∧ zs = []) ∨
  ∃ x, a = some x ∧ len ≤ cap ∧ cap ≤ maxLen ∧ zs.length = cap ∧ (∀ i, i < zs.length → w.cell? (x.add i) = some (.int k (zs.getD i 0))) ∧ ∀ n ∈ zs, (Lit.int k n).wf = true

/-! ### The walk -/
open M in
set_option maxHeartbeats 2000000 in
theorem walk (a0 : Option Addr) (len0 cap0 : Nat) (z0 : List Int) (w : World) (w0 : IsRow .u8 w a0 len0 cap0 z0) :
    Calls Try.prog 6 #[.slice a0 len0 cap0] w fun e w' => e = .returned (.bool true) ∧ Below w.heap.size w w' := by
  obtain ⟨hr, hw⟩ := Reads.row w0
  have hz := bytes_of_wf hw
  generalize z0.take len0 = zs at *
  clear w0 hw
  by_cases hlen : len0 ≤ 2000
  · have hR := read_any a0 len0 cap0 zs w hr hz (by omega)
    have HRD := hid hr
    have HZ := hid hz
    unfold ReadOut at hR
    have HFit := hid (read_fits hz)
    by_cases he : (readF zs).2 = 0
    · obtain ⟨hmay, hload⟩ := read_ok hz he
      have HMay := hid hmay
      have HLoad := hid hload
      rw [he] at hR
      generalize (readF zs).1 = m at *
      have HI := hid (str_eq hz hz)
      clear hr hz he hmay hload
      unfold MV at hR
      go_enter Try.func6, Try.ntmps6
      go_wp2_with fail
      refine hR.mono ?_
      rintro x w1 ⟨p, q, rfl, hin, hb1, _⟩
      have hin2 := hin.alloc (.cells (MV m p q) 34)
      have hL := load_any m p q _ hin2 HFit.out
      have HB1 : Hid (Below w.heap.size w (w1.alloc (.cells (MV m p q) 34))) := hb1.alloc hb1.size _
      have HC1 : Hid ((w1.alloc (.cells (MV m p q) 34)).heap[w1.heap.size]? = some (.cells (MV m p q) 34)) := heap_alloc_new w1 _
      have HIN := hid hin2
      clear hR hin hin2 hb1
      unfold MV at hL
      go_wp2_with fail
      refine hL.mono ?_
      rintro x w2 (⟨_, ⟨v2, rfl, how2⟩, hb2⟩ | ⟨h, _⟩)
      · have HB2 := hid (HB1.out.trans (hb2.mono HB1.out.size))
        have HC2 := hid (block_below HC1.out hb2)
        have hM := may_any m p q w2 (HIN.out.below hb2)
        rw [HMay.out] at hM
        rw [HLoad.out, HRD.out.size] at how2
        obtain ⟨a2, c2, rfl, hr2⟩ := Reads.own how2
        have HR2 := hid hr2
        obtain ⟨c0, c1, c2', c3, c4, c5, c6, c7, c8, c9, c10, c11⟩ := MV_cells HC2.out
        clear hL how2 hr2 hb2 HC1 HIN HB1
        unfold MV at hM
        go_wp2_with fail
        refine hM.mono ?_
        rintro x w3 ⟨rfl, hb3⟩
        have HB3 := hid (HB2.out.trans (hb3.mono HB2.out.size))
        have cv1 := (HR2.out.below hb3).conv (P := Try.prog) 30 9 5 Try.underlying30 Try.underlying5 Try.underlying9
        have cv2 := (HRD.out.below HB3.out).conv (P := Try.prog) 30 9 5 Try.underlying30 Try.underlying5 Try.underlying9
        have hI := HI.out
        simp only [decide_true] at hI
        clear hM hb3 c0 c1 c2' c3 c4 c5 c6 c7 c8 c9 c10 c11 HR2 HRD HI
        go_wp2_with fail
        refine (alive_any w3).mono ?_
        rintro x w4 ⟨rfl, hb4⟩
        have HB4 := hid (HB3.out.trans (hb4.mono HB3.out.size))
        clear cv1 cv2 hb4
        go_wp2
        go_ret
        exact ⟨rfl, HB4.out⟩
      · rw [HMay.out] at h; cases h
    · have hbad := read_bad he
      rw [hbad] at hR
      generalize (readF zs).2 = f at *
      clear hr hz hbad HFit
      unfold MV at hR
      simp only [zeroM] at hR
      go_enter Try.func6, Try.ntmps6
      go_wp2_with fail
      refine hR.mono ?_
      rintro x w1 ⟨p, q, rfl, hin, hb1, _⟩
      have hin2 : MsgIn (w1.alloc (.cells (MV (zeroM 0) p q) 34)) (zeroM 0) p q := MsgIn.alloc hin _
      have hS := same_any (zeroM 0) (zeroM 0) p q ⟨none, 0, 0⟩ ⟨none, 0, 0⟩ _ hin2 (zero_in _ 0)
      rw [(sameB_iff (zeroM 0) (zeroM 0)).2 rfl] at hS
      have HB1 : Hid (Below w.heap.size w (w1.alloc (.cells (MV (zeroM 0) p q) 34))) := hb1.alloc hb1.size _
      unfold MV at hS HB1
      simp only [zeroM] at hS HB1
      clear hR hin hin2 hb1
      go_wp2_with fail
      refine hS.mono ?_
      rintro x w2 ⟨rfl, hb2⟩
      have HB2 := hid (HB1.out.trans (hb2.mono HB1.out.size))
      clear hS hb2 HB1
      go_wp2_with fail
      refine (alive_any w2).mono ?_
      rintro x w4 ⟨rfl, hb4⟩
      have HB4 := hid (HB2.out.trans (hb4.mono HB2.out.size))
      clear hb4
      go_wp2
      go_ret
      exact ⟨rfl, HB4.out⟩
  · clear hr hz
    go_enter Try.func6, Try.ntmps6
    go_wp2_with fail
    refine (alive_any w).mono ?_
    rintro x w1 ⟨rfl, hb1⟩
    go_wp2
    go_ret
    exact ⟨rfl, hb1⟩

/-! ### THE ROW's STEP: WRITTEN OUT: LEAVE IT -/
set_option maxRecDepth 100000 in
theorem lifted (os : Os) (started : os.Started) (H : Type) (enc : TypeId × Value → H) :
    ReturnsInHanded {} Try.checked os 6 .any (Rows.msgAgainSpec.pre6 enc Try.prog Try.f6 Rows.msgAgainRow.domain false) (Rows.msgAgainSpec.post enc Try.prog Try.f6 false true false false) := by
  refine returnsInHanded_of_change (C := Try.checked) own started (by kernel_rfl) Try.func6
    (ChangeSpec.witness6 (enc := enc) (C := Try.checked) false ⟨#[], #[.slice none 0 0], []⟩ 8 (by kernel_rfl) (by kernel_rfl) (by kernel_rfl) (by kernel_rfl)) ?_
  intro W base args ds gs before hval0 hW hcnd _
  have hval : ∀ (j : Nat) t v, Try.f6.params[j]? = some t → args[j]? = some v → Value.okWide Try.prog W .any base t v := hval0
  have hW' := hW
  obtain ⟨p, q, hA0, hV, rfl, hfz, hnd⟩ := hW
  have hA : DataW.TrodAll enc Try.prog W 0 (fun _ => true) true Try.f6.params.toList args.toList ds p := hA0
  rw [Try.params6] at hA hval
  obtain ⟨v0, vs0, d0, ds0, p0, q0, hargs, rfl, rfl, h0, r0⟩ := trodAll_cons hA
  obtain ⟨rfl, rfl, rfl⟩ := trodAll_nil r0
  obtain rfl : args = #[v0] := by cases args; simp_all
  obtain ⟨rfl, rfl⟩ := trodVars_none hV
  obtain ⟨a0, len0, cap0, rfl⟩ := okWide_slice Try.underlying30 (hval 0 30 v0 rfl rfl)
  have k0 := h0
  have lt0 : ∀ x ∈ p0, x.block < W.heap.size := by obtain ⟨m, hm⟩ := k0; exact DataW.trod_lt m _ _ _ hm
  obtain ⟨z0, w0⟩ : ∃ zs, IsRow .u8 W a0 len0 cap0 zs := by
    obtain ⟨fuel, hf⟩ := h0
    rcases open_ints Try.underlying30 Try.underlying5 (by kernel_rfl) hf with ⟨hcs, _⟩ | ⟨x, l, c, zs, hcs, _, hl, hm, hz, _, hcell, hwz⟩
    · simp [Value.cells] at hcs
      obtain ⟨rfl, rfl, rfl⟩ := hcs
      exact ⟨[], .inl ⟨rfl, rfl, rfl, rfl⟩⟩
    · simp [Value.cells] at hcs
      obtain ⟨rfl, rfl, rfl⟩ := hcs
      exact ⟨zs, .inr ⟨_, rfl, hl, hm, by simpa using hz, hcell, hwz⟩⟩
  clear hA0 hval0
  refine (walk a0 len0 cap0 z0 W w0).mono fun e W' ⟨he, bel⟩ => ?_
  subst he
  exact ⟨_, rfl, _, _, _, [], _, [], hW', trodAll_mk1 (shut_bool Try.underlying4 _), (trodAll_cons_mk (Below.trod laidOut (by kernel_rfl) (of_decide_eq_true (by kernel_rfl)) k0 bel lt0) trodAll_mk0), rfl, bel.frame _, fun h => by cases h⟩

theorem over : Rows.msgAgainRow.holds Try.pinned (OpenSpec.ofChange Rows.msgAgainSpec) :=
  OpenClaim.holds_of_wide 6 Try.f6 rfl rfl rfl rfl rfl rfl rfl ⟨rfl, rfl, rfl, rfl, rfl⟩ rfl rfl rfl rfl rfl (by kernel_rfl) Try.func6 (by kernel_rfl)
    (of_decide_eq_true (by kernel_rfl)) (by unfold Func.isWrapper; first | (rw [if_pos (by decide +kernel)]; kernel_rfl) | (rw [if_neg (by decide +kernel)]; exact ⟨rfl, rfl⟩))
    (fun os started H enc _ => lifted os started H enc)

/-- ████ THE STATEMENT ████ -/
theorem proved : Rows.MsgAgainSaid := over
#print axioms proved
end Go.Proofs.Ytlcfjhlchpeedaa.msgAgain
