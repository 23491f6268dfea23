/-
  The texts Ups of this proof.
-/
import Derived.Test.YtjgggialnegddaaGreatPq10
set_option linter.unusedVariables false
set_option maxRecDepth 1000000
namespace Go.Proofs.YtjgggialnegddaaGreat
open Go.RowKit
structure HpAt (base B g cap : Nat) (ms : List Mk) (W : World) : Prop where
 var : W.heap[B]? = some (.cells #[.slice (some ⟨g, 0, none⟩) ms.length cap] 269 (0, 0))
 own : OwnM base g ms.length cap ms W
 ne : B ≠ g
theorem HpAt.below {base B g cap : Nat} {ms : List Mk} {W W' : World} (h : HpAt base B g cap ms W) (hb : Below W.heap.size W W') : HpAt base B g cap ms W' :=
 ⟨(hb.block _ (lt_of_block h.var)).trans h.var, h.own.stays hb, h.ne⟩
abbrev hv (B : Nat) : Value := .iface 271 (.pointer (some ⟨B, 0, none⟩))
theorem Tryz.meth (name : String) (f : Nat) (h : (Tryz.prog.info? 271).map (fun i => (i.methods.find? (·.name == name)).map (fun m => (m.path, m.func))) = some (some (#[], some (f, false)))) :
  ∃ i m, Tryz.prog.info? 271 = some i ∧ i.methods.find? (·.name == name) = some m ∧ m.path = #[] ∧ m.func = some (f, false) := by
 cases hi : Tryz.prog.info? 271 with
 | none => rw [hi] at h; simp at h
 | some i =>
  rw [hi] at h
  simp only [Option.map_some, Option.some.injEq] at h
  cases hm : i.methods.find? (·.name == name) with
  | none => rw [hm] at h; simp at h
  | some m =>
   rw [hm] at h
   simp at h
   exact ⟨i, m, rfl, hm, h.1, h.2⟩
theorem wrapnil (x : TypeId) (a : Addr) (s : String) (w : World) : (Builtin.ssaWrapNilChk_ #[x] x #[.pointer (some a), strVal "", strVal s]).run Tryz.prog w = .ok (.pointer (some a)) w := by kernel_rfl
theorem meth_val (name : String) (f : Nat) (h : (Tryz.prog.info? 271).map (fun i => (i.methods.find? (·.name == name)).map (fun m => (m.path, m.func))) = some (some (#[], some (f, false)))) (B : Nat) (w : World) (v : Value) (hc : w.cell? ⟨B, 0, none⟩ = some v) :
  (method 403 271 (.pointer (some ⟨B, 0, none⟩)) name).run Tryz.prog w = .ok (f, v) w := by
 obtain ⟨i, m, hi, hm, hp, hf⟩ := Tryz.meth name f h
 unfold method
 simp [go_sem, typeInfo, hi, hm, hp, hf, follow, receiverAt, Place.get, wrapnil, loadVar, hc]
theorem meth_less (B : Nat) (w : World) (v : Value) (hc : w.cell? ⟨B, 0, none⟩ = some v) : (method 403 271 (.pointer (some ⟨B, 0, none⟩)) "Less").run Tryz.prog w = .ok (272, v) w := meth_val "Less" 272 (by kernel_rfl) B w v hc
theorem meth_swap (B : Nat) (w : World) (v : Value) (hc : w.cell? ⟨B, 0, none⟩ = some v) : (method 403 271 (.pointer (some ⟨B, 0, none⟩)) "Swap").run Tryz.prog w = .ok (273, v) w := meth_val "Swap" 273 (by kernel_rfl) B w v hc
theorem meth_len (B : Nat) (w : World) (v : Value) (hc : w.cell? ⟨B, 0, none⟩ = some v) : (method 403 271 (.pointer (some ⟨B, 0, none⟩)) "Len").run Tryz.prog w = .ok (271, v) w := meth_val "Len" 271 (by kernel_rfl) B w v hc
theorem meth_push (a : Addr) (w : World) : (method 403 271 (.pointer (some a)) "Push").run Tryz.prog w = .ok (276, .pointer (some a)) w := by kernel_rfl
theorem meth_pop (a : Addr) (w : World) : (method 403 271 (.pointer (some a)) "Pop").run Tryz.prog w = .ok (275, .pointer (some a)) w := by kernel_rfl
theorem HpAt.less {base B g cap : Nat} {ms : List Mk} {W : World} (h : HpAt base B g cap ms W) (i j : Nat) (hi : i < ms.length) (hj : j < ms.length) (hn : ms.length ≤ 1001) :
  Calls Tryz.prog 272 #[.slice (some ⟨g, 0, none⟩) ms.length cap, .int .i64 i, .int .i64 j] W fun e w' => e = .returned (.bool (belowB (gx ms i) (gx ms j))) ∧ HpAt base B g cap ms w' ∧ But [B, g] W w' :=
 (less_any base g ms.length cap i j ms W h.own hi hj hn).mono fun e w' ⟨h1, h2⟩ => ⟨h1, h.below h2, But.of h2⟩
theorem HpAt.swap {base B g cap : Nat} {ms : List Mk} {W : World} (h : HpAt base B g cap ms W) (i j : Nat) (hi : i < ms.length) (hj : j < ms.length) (hn : ms.length ≤ 1001) :
  Calls Tryz.prog 273 #[.slice (some ⟨g, 0, none⟩) ms.length cap, .int .i64 i, .int .i64 j] W fun e w' => e = .returned (.tuple #[]) ∧ HpAt base B g cap (swp ms i j) w' ∧ But [B, g] W w' :=
 (swap_any base g ms.length cap i j ms W h.own hi hj hn).mono fun e w' ⟨h1, h2, h3⟩ => ⟨h1, ⟨by rw [swp_len]; exact h3.one h.var (by simpa using h.ne), by rw [swp_len]; exact h2, h.ne⟩, h3.mono (by simp)⟩
set_option maxHeartbeats 1000000 in
theorem up_any (base B g cap : Nat) (ms : List Mk) (j : Nat) (w : World) (h : HpAt base B g cap ms w) (hj : j < ms.length) (hn : ms.length ≤ 1001) (hU : UpAt ms ms.length j) :
  Calls Tryz.prog 117 #[hv B, .int .i64 j] w fun e w' => e = .returned (.tuple #[]) ∧ (∃ ns, ns.Perm ms ∧ HeapN ns ns.length ∧ HpAt base B g cap ns w') ∧ But [B, g] w w' := by
 have H := hid h
 have HU := hid hU
 clear h hU
 go_enter Tryz.func117, Tryz.ntmps117
 go_wp2_with fail
 go_loopw [1] (fun i W => ∃ (k : Nat) (ns : List Mk), i = .int .i64 k ∧ k < ns.length ∧ Hid (ns.Perm ms) ∧ Hid (UpAt ns ns.length k) ∧ Hid (HpAt base B g cap ns W) ∧ Hid (But [B, g] w W)) (fun i _ => (intOf i).toNat)
 case atStart => exact ⟨j, ms, rfl, hj, List.Perm.refl _, HU, H, But.refl _ _⟩
 case round =>
  obtain ⟨k, ns, rfl, hk, HP, HUk, HH, HB⟩ := hrel
  have hl : ns.length ≤ 1001 := by have := HP.out.length_eq; omega
  by_cases h0 : k = 0
  ·subst h0
   have HD : Hid (HeapN ns ns.length) := HUk.out.done (fun h => absurd h (by omega))
   go_wp2
   go_end0
   exact ⟨rfl, ⟨ns, HP.out, HD.out, HH.out⟩, HB.out⟩
  ·obtain ⟨p, hp⟩ : ∃ p : Nat, ((k : Int) - 1) / 2 = (p : Int) := ⟨(k - 1) / 2, by omega⟩
   have hp' : (k - 1) / 2 = p := by omega
   have hne : ¬ (p : Int) = (k : Int) := by omega
   have hne' : ((p : Int) == (k : Int)) = false := by simpa using hne
   have hml := meth_less B wr _ (cell_of_one HH.out.var)
   have hL := HH.out.less k p hk (by omega) hl
   by_cases hb : ltM (gx ns k) (gx ns p)
   ·have hbb : belowB (gx ns k) (gx ns p) = true := belowB_yes hb
    have HS : Hid (UpAt (swp ns p k) (swp ns p k).length p) := by
     have := HUk.out.step (by omega) hk (Nat.le_refl _) (by rw [hp']; exact hb)
     rw [hp'] at this
     rw [swp_len]
     exact this
    have HPS : Hid ((swp ns p k).Perm ms) := (swp_perm (by omega) hk).trans HP.out
    rw [hbb] at hL
    clear hb hbb HH
    go_wp2_with fail
    refine hL.mono ?_
    rintro e w2 ⟨rfl, hH2, hB2⟩
    have hms := meth_swap B w2 _ (cell_of_one hH2.var)
    have hS := hH2.swap p k (by omega) hk hl
    have HB2 := hid (HB.out.trans hB2)
    clear hH2 hB2 hL hml
    go_wp2_with fail
    refine hS.mono ?_
    rintro e w3 ⟨rfl, hH3, hB3⟩
    have HH3 := hid hH3
    have HB3 := hid (HB2.out.trans hB3)
    clear hH3 hB3 hS hms
    go_wp2_with fail
    go_round
    case rel => exact ⟨p, swp ns p k, rfl, by rw [swp_len]; omega, HPS, HS, HH3, HB3⟩
    case measure => simp [intOf]; omega
   ·have hbb : belowB (gx ns k) (gx ns p) = false := belowB_no hb
    have HD : Hid (HeapN ns ns.length) := HUk.out.done (fun _ => by rw [hp']; exact hb)
    rw [hbb] at hL
    clear hb hbb HH
    go_wp2_with fail
    refine hL.mono ?_
    rintro e w2 ⟨rfl, hH2, hB2⟩
    have HH2 := hid hH2
    have HB2 := hid (HB.out.trans hB2)
    clear hH2 hB2 hL hml
    go_wp2
    go_end0
    exact ⟨rfl, ⟨ns, HP.out, HD.out, HH2.out⟩, HB2.out⟩
end Go.Proofs.YtjgggialnegddaaGreat
