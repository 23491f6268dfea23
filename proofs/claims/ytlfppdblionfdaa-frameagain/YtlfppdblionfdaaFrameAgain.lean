/-
  Proved: for any bytes, the loads that frame.All tells are laid by frame.Lay, without an error, as the bytes that All says it went through; the law FrameAgain returns true, and its argument reads as before. No condition.
-/
import Derived.Test.YtlfppdblionfdaaRows
import Derived.Test.YtlfppdblionfdaaAlls
import Derived.Deep.RegionHeld
import Derived.WalkKit
import Derived.ProofKit
import Derived.OpenShut
import Derived.ShutString
import Derived.ChangeOld
import Derived.Below
namespace Go.Proofs.Ytlfppdblionfdaa.frameAgain
open Go.ChangeShapes Go.WideShapes Go.ChangeAt Go.RowKit
open Go.ChangeMaps (open_string shut_string)
set_option linter.unusedVariables false

theorem own : ownKnob Try.prog.godebug = none := by kernel_rfl
theorem laidOut : laidOutB Try.prog = true := by kernel_rfl

/-- WHAT THE WALK IS TOLD OF A SLICE OF INTEGERS THAT CAME IN: it is nil; or it leads to a row of 'cap' cells, the numbers 'zs' (the first 'len' are its elements, the rest its spare room), each fitting its kind. -/
def IsRow (k : IntKind) (w : World) (a : Option Addr) (len cap : Nat) (zs : List Int) : Prop :=
  (a = none ∧ len = 0 ∧ cap = 0 ∧ zs = []) ∨
  ∃ x, a = some x ∧ len ≤ cap ∧ cap ≤ maxLen ∧ zs.length = cap ∧ (∀ i, i < zs.length → w.cell? (x.add i) = some (.int k (zs.getD i 0))) ∧ ∀ n ∈ zs, (Lit.int k n).wf = true

/-! ### The walk -/
open M in
set_option maxHeartbeats 2000000 in
theorem walk (a0 : Option Addr) (len0 cap0 : Nat) (z0 : List Int) (w : World) (w0 : IsRow .u8 w a0 len0 cap0 z0) :
    Calls Try.prog 6 #[.slice a0 len0 cap0] w fun e w' => e = .returned (.bool true) ∧ Below w.heap.size w w' := by
  obtain ⟨hr, hwf⟩ := Reads.row (show IsRow' .u8 w a0 len0 cap0 z0 from w0)
  have hz := bytes_of_wf hwf
  have hlm : len0 ≤ 9223372036854775807 := Nat.le_trans hr.room hr.most
  clear w0 hwf
  generalize z0.take len0 = zs at *
  by_cases hl : 3000 < len0
  · clear hr hz
    go_enter Try.func6, Try.ntmps6
    go_wp2_with fail
    refine (alive_any _).mono ?_
    rintro e w' ⟨rfl, b⟩
    go_wp2
    go_ret
    exact ⟨rfl, b⟩
  obtain ⟨i0, hi, hy0, hy1, hy2⟩ := info_parts Try.info5
  have hA := all_any a0 len0 cap0 zs w hr hz (by omega)
  obtain ⟨q, hq, hqe, hfl, hxs, hq8⟩ := all_lay zs.length zs hz
  rw [hr.size] at hqe
  unfold ToldAll at hA
  rw [hq] at hA
  have hls : (allF zs.length zs).1.length ≤ 3000 := by omega
  generalize allF zs.length zs = p3 at *
  obtain ⟨ls, t, h⟩ := p3
  simp only at hA hfl hxs hq8 hls
  have HF := hid hfl
  have HX := hid hxs
  have HZ := hid hz
  have HR := hid hr
  have HL : Hid (zs.length = len0) := hr.size
  have hroom := hr.room
  have hmost := hr.most
  clear hq hfl hxs hr hz hq8
  go_enter Try.func6, Try.ntmps6
  go_wp2_with fail
  refine hA.mono ?_
  rintro e w1 ⟨a1, n1, c1, rfl, hp1, hb1⟩
  have hs1 := hb1.size
  have HN : Hid (ls.length = n1) := hp1.size
  have hn1 : n1 ≤ 3000 := by have := HN.out; omega
  have HP := hid hp1
  clear hp1 hA hls
  go_wp2_with fail
  go_loopw [6, 23] (fun u i wr => ∃ (k m : Nat), k ≤ n1 ∧ i = .int .i64 k ∧ m ≤ 2100 * k ∧ Hid (wr.ownsRow w1.heap.size 5 1 u m (((ls.take k).map layL).flatten.map (Value.int .u8))) ∧ Below w1.heap.size w1 wr) (fun _ i _ => n1 - (intOf i).toNat)
  case atStart => exact ⟨0, 0, by omega, rfl, by omega, World.ownsRow_nil _ _ _ _, Below.refl _ _⟩
  case round =>
    obtain ⟨k, m, hk, rfl, hm, HW, hb⟩ := hrel
    have hsr := hb.size
    have hb0r : Below w.heap.size w wr := hb1.trans (hb.mono hs1)
    by_cases hlt : k < n1
    · obtain ⟨b, off, a7, l7, c7, rfl, hc, hr7⟩ := (HP.out.below hb).cell k hlt
      have hlk : k < ls.length := by rw [HN.out]; exact hlt
      obtain ⟨hx1, hx2⟩ := HX.out (ls[k]?.getD []) (by rw [List.getElem?_eq_getElem hlk]; exact List.getElem_mem hlk)
      have hlen : l7 ≤ 2048 := by rw [← hr7.size]; exact hx1
      have hL := lay_ok a7 l7 c7 _ wr hr7 hx2 hlen
      have hll : (layL (ls[k]?.getD [])).length ≤ 2100 := by
        have := encZ_len2 hx1
        rw [layL_len]; omega
      have HS : Hid (((ls.take (k + 1)).map layL).flatten = ((ls.take k).map layL).flatten ++ layL (ls[k]?.getD [])) := by
        unfold Hid
        rw [List.take_succ_eq_append_getElem hlk, List.map_append, List.flatten_append]
        simp [hlk]
      clear hr7 hx1 hx2
      generalize layL (ls[k]?.getD []) = us at *
      go_wp2_with fail
      refine hL.mono ?_
      rintro e w3 ⟨v3, rfl, how3, hb3⟩
      obtain ⟨a3, c3, rfl, hr3⟩ := Reads.own how3
      have how := own_stays HW.out hb3
      have hs3 := hb3.size
      clear hL how3 hc
      go_wp2_with (at_builtin; refine append_any _ rfl (.tmp 34) (.tmp 35) 22 rfl w1.heap.size 5 i0 (.int .u8 0) 1 Try.underlying22 hi hy0 hy1 hy2 rfl .u8 _ m _ rfl how a3 _ c3 us rfl hr3 (by omega) (by omega) (by omega) ?_; intro v4 w4 how4 hb4)
      rw [← HS.out] at how4
      have HW4 := hid how4
      clear how4 how hr3
      go_wp2_with fail
      go_roundw
      case rel => exact ⟨k + 1, _, by omega, by go_num, by omega, HW4, hb.trans ((hb3.mono hsr).trans hb4)⟩
      case measure => simp [intOf]; omega
    · have HT : Hid (((ls.take k).map layL).flatten = zs.take q) := by
        unfold Hid
        rw [List.take_of_length_le (by have := HN.out; omega)]
        exact HF.out
      have how := HW.out
      rw [HT.out] at how
      obtain ⟨a5, c5, rfl, hr5⟩ := Reads.own how
      have hbd : Below wr.heap.size wr wr.drew := (Below.refl _ _).drew
      have hb0d : Below w.heap.size w wr.drew := hb0r.drew
      have hd1 : decide ((0 : Int) ≤ (q : Int)) = true := decide_eq_true (by omega)
      have hd2 : decide ((q : Int) ≤ (len0 : Int)) = true := decide_eq_true (by omega)
      have cv5 := hr5.conv (P := Try.prog) 22 9 5 Try.underlying22 Try.underlying5 Try.underlying9
      have cv5d := (hr5.below hbd).conv (P := Try.prog) 22 9 5 Try.underlying22 Try.underlying5 Try.underlying9
      have hR0 := HR.out.below hb0r
      have hR0d := HR.out.below hb0d
      clear how HW hr5
      cases a0 with
      | none =>
        obtain ⟨rfl, rfl⟩ := HR.out.bare rfl
        obtain rfl : q = 0 := by omega
        have cv0 := (Reads.nil .u8 wr).conv (P := Try.prog) 22 9 5 Try.underlying22 Try.underlying5 Try.underlying9
        have cv0d := (Reads.nil .u8 wr.drew).conv (P := Try.prog) 22 9 5 Try.underlying22 Try.underlying5 Try.underlying9
        rw [List.take_zero] at cv5 cv5d
        clear hR0 hR0d
        go_wp2_with fail
        go_region_held (fun _ => True) (trivial) (first | (go_at_call 9; refine (alive_any _).mono ?_; rintro e wa ⟨rfl, hba⟩))
        all_goals
          go_wp2
          go_ret
          exact ⟨rfl, hb0d.trans (hba.mono hb0d.size)⟩
      | some ad =>
        have hh := (hR0.head (p := q) hqe (by simp)).conv (P := Try.prog) 22 9 5 Try.underlying22 Try.underlying5 Try.underlying9
        have hhd := (hR0d.head (p := q) hqe (by simp)).conv (P := Try.prog) 22 9 5 Try.underlying22 Try.underlying5 Try.underlying9
        clear hR0 hR0d
        go_wp2_with fail
        go_region_held (fun _ => True) (trivial) (first | (go_at_call 9; refine (alive_any _).mono ?_; rintro e wa ⟨rfl, hba⟩))
        all_goals
          go_wp2
          go_ret
          exact ⟨rfl, hb0d.trans (hba.mono hb0d.size)⟩

/-! ### THE ROW's STEP: WRITTEN OUT: LEAVE IT -/
set_option maxRecDepth 100000 in
theorem lifted (os : Os) (started : os.Started) (H : Type) (enc : TypeId × Value → H) :
    ReturnsInHanded {} Try.checked os 6 .any (Rows.frameAgainSpec.pre6 enc Try.prog Try.f6 Rows.frameAgainRow.domain false) (Rows.frameAgainSpec.post enc Try.prog Try.f6 false true false false) := by
  refine returnsInHanded_of_change (C := Try.checked) own started (by kernel_rfl) Try.func6
    (ChangeSpec.witness6 (enc := enc) (C := Try.checked) false ⟨#[], #[.slice none 0 0], []⟩ 8 (by kernel_rfl) (by kernel_rfl) (by kernel_rfl) (by kernel_rfl)) ?_
  intro W base args ds gs before hval0 hW hcnd _
  have hval : ∀ (j : Nat) t v, Try.f6.params[j]? = some t → args[j]? = some v → Value.okWide Try.prog W .any base t v := hval0
  have hW' := hW
  obtain ⟨p, q, hA0, hV, rfl, hfz, hnd⟩ := hW
  have hA : DataW.TrodAll enc Try.prog W 0 (fun _ => true) true Try.f6.params.toList args.toList ds p := hA0
  rw [Try.params6] at hA hval
  obtain ⟨v0, vs0, d0, ds0, p0, q0, hargs, rfl, rfl, h0, r0⟩ := trodAll_cons hA
  obtain ⟨rfl, rfl, rfl⟩ := trodAll_nil r0
  obtain rfl : args = #[v0] := by cases args; simp_all
  obtain ⟨rfl, rfl⟩ := trodVars_none hV
  obtain ⟨a0, len0, cap0, rfl⟩ := okWide_slice Try.underlying22 (hval 0 22 v0 rfl rfl)
  have k0 := h0
  have lt0 : ∀ x ∈ p0, x.block < W.heap.size := by obtain ⟨m, hm⟩ := k0; exact DataW.trod_lt m _ _ _ hm
  obtain ⟨z0, w0⟩ : ∃ zs, IsRow .u8 W a0 len0 cap0 zs := by
    obtain ⟨fuel, hf⟩ := h0
    rcases open_ints Try.underlying22 Try.underlying5 (by kernel_rfl) hf with ⟨hcs, _⟩ | ⟨x, l, c, zs, hcs, _, hl, hm, hz, _, hcell, hwz⟩
    · simp [Value.cells] at hcs
      obtain ⟨rfl, rfl, rfl⟩ := hcs
      exact ⟨[], .inl ⟨rfl, rfl, rfl, rfl⟩⟩
    · simp [Value.cells] at hcs
      obtain ⟨rfl, rfl, rfl⟩ := hcs
      exact ⟨zs, .inr ⟨_, rfl, hl, hm, by simpa using hz, hcell, hwz⟩⟩
  clear hA0 hval0
  refine (walk a0 len0 cap0 z0 W w0).mono fun e W' ⟨he, bel⟩ => ?_
  subst he
  exact ⟨_, rfl, _, _, _, [], _, [], hW', trodAll_mk1 (shut_bool Try.underlying4 _), (trodAll_cons_mk (Below.trod laidOut (by kernel_rfl) (of_decide_eq_true (by kernel_rfl)) k0 bel lt0) trodAll_mk0), rfl, bel.frame _, fun h => by cases h⟩

theorem over : Rows.frameAgainRow.holds Try.pinned (OpenSpec.ofChange Rows.frameAgainSpec) :=
  OpenClaim.holds_of_wide 6 Try.f6 rfl rfl rfl rfl rfl rfl rfl ⟨rfl, rfl, rfl, rfl, rfl⟩ rfl rfl rfl rfl rfl (by kernel_rfl) Try.func6 (by kernel_rfl)
    (of_decide_eq_true (by kernel_rfl)) (by unfold Func.isWrapper; first | (rw [if_pos (by decide +kernel)]; kernel_rfl) | (rw [if_neg (by decide +kernel)]; exact ⟨rfl, rfl⟩))
    (fun os started H enc _ => lifted os started H enc)

/-- ████ THE STATEMENT ████ -/
theorem proved : Rows.FrameAgainSaid := over
#print axioms proved
end Go.Proofs.Ytlfppdblionfdaa.frameAgain
