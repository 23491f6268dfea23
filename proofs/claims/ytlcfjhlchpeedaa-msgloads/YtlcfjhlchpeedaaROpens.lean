/-
  Contracts: the document's Open refuses bytes that are fewer than 4, and bytes that are not sealed; else it hands back the bytes ahead of the sum, in memory of the call's own.
-/
import Derived.Test.YtlcfjhlchpeedaaSeals
import Derived.Deep.RegionHeld
import Derived.Deep.DeepCutAuto
namespace Go.Proofs.Ytlcfjhlchpeedaa
open Go.RowKit
open M
set_option linter.unusedVariables false
set_option maxRecDepth 1000000

theorem ropen_short (a : Option Addr) (len cap : Nat) (w : World) (h : len < 4) :
    Calls Try.prog 70 #[.slice a len cap] w fun e w' => e = .returned (.tuple #[.slice none 0 0, .int .i64 4]) ∧ w' = w := by
  go_enter Try.func70, Try.ntmps70
  go_wp2
  go_ret2
  exact ⟨rfl, rfl⟩

set_option maxHeartbeats 1000000 in
theorem ropen_bad (b off n cap : Nat) (zs : List Int) (w : World) (hr : Reads .u8 w (some ⟨b, off, none⟩) (n + 4) cap zs) (hz : IsBytes zs) (hlen : n ≤ 10000) (hs : ¬ Sealed zs) :
    Calls Try.prog 70 #[.slice (some ⟨b, off, none⟩) (n + 4) cap] w fun e w' => e = .returned (.tuple #[.slice none 0 0, .int .i64 8]) ∧ Below w.heap.size w w' := by
  have hrm := hr.room
  have hmo := hr.most
  have hsz := hr.size
  have hh := hr.head (p := n) (by omega) (by simp)
  have hbd : Below w.heap.size w w.drew := (Below.refl _ _).drew
  have hS := rseal_any (some ⟨b, off, none⟩) n cap (zs.take n) w.drew (hh.below hbd) (hz.take n) (by omega)
  have hne : ¬ zs.take n ++ text (crc (zs.take n)) = zs := by
    intro e
    apply hs
    rw [← e]
    exact sealed_seal _
  have HD : Hid (((strOfNums (zs.take n ++ text (crc (zs.take n)))).toList != (strOfNums zs).toList) = true) := by
    unfold Hid
    have : ((strOfNums (zs.take n ++ text (crc (zs.take n)))).toList == (strOfNums zs).toList) = false := by
      rw [str_eq ((hz.take n).append (text_bytes _)) hz, decide_eq_false hne]
    rw [bne, this]; rfl
  have HH := hid hh
  have HC := hid hS
  have HR := hid hr
  have cw := hr.conv (P := Try.prog) 30 9 5 Try.underlying30 Try.underlying5 Try.underlying9
  have cd := (hr.below hbd).conv (P := Try.prog) 30 9 5 Try.underlying30 Try.underlying5 Try.underlying9
  clear hr hz hs hh hne hS hsz
  go_enter Try.func70, Try.ntmps70
  go_wp2_with fail
  go_cut [18] (fun v wx => v = .bool true ∧ Below w.heap.size w wx)
  case first =>
    go_region_held (fun W : World => (convert 30 9 (.slice (some ⟨b, off, none⟩) (n + 4) cap)).run Try.prog W = .ok (.string (strOfNums zs)) W) (first | exact cd | assumption) (first | (go_at_call 52; refine HC.out.mono ?_; rintro e wp ⟨vp, rfl, howp, hbp0⟩; have hbp : Below w.heap.size w wp := hbd.trans hbp0; obtain ⟨ap, cp, rfl, hrp⟩ := Reads.own howp; have cvp := hrp.conv (P := Try.prog) 30 9 5 Try.underlying30 Try.underlying5 Try.underlying9; have cvb := (HR.out.below hbp).conv (P := Try.prog) 30 9 5 Try.underlying30 Try.underlying5 Try.underlying9))
    all_goals
      go_wp2_with fail
      go_meet
      case rel => exact ⟨congrArg Value.bool HD.out, hbp⟩
  case rest =>
    obtain ⟨rfl, hbc⟩ := hcut
    go_wp2
    go_ret2
    exact ⟨rfl, hbc⟩

set_option maxHeartbeats 1000000 in
theorem ropen_ok (b off n cap : Nat) (zs : List Int) (w : World) (hr : Reads .u8 w (some ⟨b, off, none⟩) (n + 4) cap zs) (hz : IsBytes zs) (hlen : n ≤ 10000) (hs : Sealed zs) :
    Calls Try.prog 70 #[.slice (some ⟨b, off, none⟩) (n + 4) cap] w fun e w' => ∃ v', e = .returned (.tuple #[v', .int .i64 0]) ∧ w'.ownsRow w.heap.size 5 1 v' n ((zs.take n).map (Value.int .u8)) ∧ Below w.heap.size w w' := by
  have hrm := hr.room
  have hmo := hr.most
  have hsz := hr.size
  have hh := hr.head (p := n) (by omega) (by simp)
  have hbd : Below w.heap.size w w.drew := (Below.refl _ _).drew
  have hS := rseal_any (some ⟨b, off, none⟩) n cap (zs.take n) w.drew (hh.below hbd) (hz.take n) (by omega)
  have hne : zs.take n ++ text (crc (zs.take n)) = zs := by
    have := hs.2
    rw [hsz, Nat.add_sub_cancel] at this
    rw [this, List.take_append_drop]
  have HD : Hid (((strOfNums (zs.take n ++ text (crc (zs.take n)))).toList != (strOfNums zs).toList) = false) := by
    unfold Hid; rw [hne]; simp
  have HH := hid hh
  have HC := hid hS
  have HR := hid hr
  have cw := hr.conv (P := Try.prog) 30 9 5 Try.underlying30 Try.underlying5 Try.underlying9
  have cd := (hr.below hbd).conv (P := Try.prog) 30 9 5 Try.underlying30 Try.underlying5 Try.underlying9
  clear hr hz hs hh hne hS hsz
  obtain ⟨i0, hi, hz0, hz1, hz2⟩ := info_parts Try.info5
  go_enter Try.func70, Try.ntmps70
  go_wp2_with fail
  go_cut [18] (fun v wx => v = .bool false ∧ Below w.heap.size w wx)
  case first =>
    go_region_held (fun W : World => (convert 30 9 (.slice (some ⟨b, off, none⟩) (n + 4) cap)).run Try.prog W = .ok (.string (strOfNums zs)) W) (first | exact cd | assumption) (first | (go_at_call 52; refine HC.out.mono ?_; rintro e wp ⟨vp, rfl, howp, hbp0⟩; have hbp : Below w.heap.size w wp := hbd.trans hbp0; obtain ⟨ap, cp, rfl, hrp⟩ := Reads.own howp; have cvp := hrp.conv (P := Try.prog) 30 9 5 Try.underlying30 Try.underlying5 Try.underlying9; have cvb := (HR.out.below hbp).conv (P := Try.prog) 30 9 5 Try.underlying30 Try.underlying5 Try.underlying9))
    all_goals
      go_wp2_with fail
      go_meet
      case rel => exact ⟨congrArg Value.bool HD.out, hbp⟩
  case rest =>
    obtain ⟨rfl, hbc⟩ := hcut
    have hsc := hbc.size
    have hrc := HH.out.below hbc
    clear HC HH HR cw cd
    go_wp2_with (at_builtin; refine append_any _ rfl (.const (.slice none 0 0)) (.tmp 21) 30 rfl w.heap.size 5 i0 (.int .u8 0) 1 Try.underlying30 hi hz0 hz1 hz2 rfl .u8 _ 0 [] rfl (World.ownsRow_nil _ _ _ _) _ n cap (zs.take n) rfl hrc (by omega) (by omega) (by omega) ?_; intro v1 w1 how1 hb1)
    go_ret2
    exact ⟨_, rfl, by simpa using how1, hbc.trans hb1⟩

end Go.Proofs.Ytlcfjhlchpeedaa
