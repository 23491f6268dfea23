/-
  The texts KvW4 of this proof.
-/
import Derived.Test.YtjgggialnegddaaGreatPn35
import Derived.BigQuiet
set_option linter.unusedVariables false
set_option maxRecDepth 1000000
namespace Go.Proofs.YtjgggialnegddaaGreat
open Go.RowKit Go.Maps
section
variable {B bb r : Nat} {pp : Option Addr} {L : Lay} {c : Cf} {pg sz : Nat} {tm : Int} {T : List (List Int)}
theorem KvB.used {W : World} (h : KvB W B bb r pp L c pg sz tm T) (m : Int) : m ∈ usedL L.hs ↔ ∃ x ∈ T, L.pgs x = m := by
 unfold usedL
 rw [usedK_mem, h.hsl]
 constructor
 ·rintro ⟨i, h1, h2, h3⟩
  rcases h.held i h1 with ⟨h4, _⟩ | ⟨_, x, hx, h5⟩
  ·omega
  ·exact ⟨x, hx, by rw [h5, h2]⟩
 ·rintro ⟨x, hx, rfl⟩
  obtain ⟨p0, p1⟩ := h.pgb x hx
  refine ⟨(L.pgs x).toNat, by omega, by omega, ?_⟩
  rcases h.held (L.pgs x).toNat (by omega) with ⟨_, h5⟩ | ⟨h4, _⟩
  ·exact absurd (by omega) (h5 x hx)
  ·omega
structure OldO (L : Lay) (T : List (List Int)) (sz : Nat) (U : List Int) (k : Nat) (o : Option (List Int)) : Prop where
 none : o = .none → ∀ i, i < k → ∀ y ∈ T, L.pgs y = U[i]?.getD 0 → lfB T sz y = false
 some : ∀ x, o = .some x → x ∈ T ∧ lfB T sz x = true ∧ ∀ i, i < k → ∀ y ∈ T, L.pgs y = U[i]?.getD 0 → lfB T sz y = true → L.us x ≤ L.us y
theorem OldO.zero (L : Lay) (T : List (List Int)) (sz : Nat) (U : List Int) : OldO L T sz U 0 .none := ⟨(fun _ i hi => by omega), (fun x hx => by cases hx)⟩
theorem OldO.stay {L : Lay} {T : List (List Int)} {sz : Nat} {U : List Int} {k : Nat} {o : Option (List Int)} (h : OldO L T sz U k o) (hn : ∀ y ∈ T, L.pgs y = U[k]?.getD 0 → lfB T sz y = true → ∃ x, o = .some x ∧ L.us x ≤ L.us y) : OldO L T sz U (k + 1) o := by
 refine ⟨fun ho i hi y hy hp => ?_, fun x hx => ⟨(h.some x hx).1, (h.some x hx).2.1, fun i hi y hy hp hl => ?_⟩⟩
 ·rcases Nat.lt_or_ge i k with hlt | hge
  ·exact h.none ho i hlt y hy hp
  ·rw [show i = k by omega] at hp
   rw [Bool.eq_false_iff]
   intro hl
   obtain ⟨x, hx, _⟩ := hn y hy hp hl
   rw [ho] at hx
   cases hx
 ·rcases Nat.lt_or_ge i k with hlt | hge
  ·exact (h.some x hx).2.2 i hlt y hy hp hl
  ·rw [show i = k by omega] at hp
   obtain ⟨x', hx', hle⟩ := hn y hy hp hl
   rw [hx] at hx'
   cases hx'
   exact hle
theorem OldO.put {L : Lay} {T : List (List Int)} {sz : Nat} {U : List Int} {k : Nat} {o : Option (List Int)} (h : OldO L T sz U k o) {x : List Int} (hx : x ∈ T) (hl : lfB T sz x = true) (hn : ∀ y ∈ T, L.pgs y = U[k]?.getD 0 → y = x) (ho : ∀ z, o = .some z → L.us x ≤ L.us z) : OldO L T sz U (k + 1) (.some x) := by
 refine ⟨(fun e => by cases e), fun x' e => ?_⟩
 cases e
 refine ⟨hx, hl, fun i hi y hy hp hly => ?_⟩
 rcases Nat.lt_or_ge i k with hlt | hge
 ·cases o with
  | none => rw [h.none rfl i hlt y hy hp] at hly; cases hly
  | some z => exact Int.le_trans (ho z rfl) ((h.some z rfl).2.2 i hlt y hy hp hly)
 ·rw [show i = k by omega] at hp
  rw [hn y hy hp]
  exact Int.le_refl _
def oP (nd : List Int → Nat) : Option (List Int) → Option Addr
 | .none => .none
 | .some x => .some ⟨nd x, 0, .none⟩
set_option maxHeartbeats 4000000 in
theorem kold_any {w : World} (h : KvB w B bb r pp L c pg sz tm T) (hz : 1 ≤ sz ∧ sz ≤ 16) :
  Calls Tryz.prog 155 #[.pointer (some ⟨B, 0, none⟩), .func (.func 156) #[] #[]] w fun e w' => ∃ o, e = .returned (.pointer (oP L.nd o)) ∧ OldO L T sz (usedL L.hs) (usedL L.hs).length o ∧ Below w.heap.size w w' := by
 have hU := pused_any pp L.hs w h.pool
 have HUm := hid h.used
 have c1 := h.cells.2.1
 have HKv := hid fun (W : World) (hb : Below w.heap.size w W) => h.below hb
 have HLf := hid fun (W : World) (x : List Int) (hx : x ∈ T) => fun (hb : Below w.heap.size w W) => (kleaf_any (h.below hb) hz.2 (.inr hx)).mono (R' := fun e w' => e = .returned (.bool (lfB T sz x)) ∧ w' = W) fun e w' ⟨h1, h2⟩ => ⟨h1, h2.symm⟩
 obtain ⟨U, hUe⟩ : ∃ U, usedL L.hs = U := ⟨_, rfl⟩
 rw [hUe] at hU HUm ⊢
 obtain ⟨n, hne⟩ : ∃ n, U.length = n := ⟨_, rfl⟩
 rw [hne] at hU ⊢
 have HNe := hid hne
 have hn : n ≤ 256 := by
  rw [← hne, ← hUe]
  have h1 := usedK_len L.hs L.hs.length
  have h2 := h.pool.ok.2.1
  unfold usedL
  omega
 clear h hUe hne
 go_enter Tryz.func155, Tryz.ntmps155
 go_wp2_with fail
 refine hU.mono ?_
 rintro e w2 ⟨a, cap, rfl, hr, hb⟩
 have r1 := hr.room
 have m1 := hr.most
 have HR := hid fun (W : World) (hb : Below w2.heap.size w2 W) => hr.below hb
 have HB2 := hid hb
 clear hU hr hb c1
 go_wp2_with fail
 go_loopw [5, 15] (fun v i W => ∃ (k : Nat) (o : Option (List Int)), k ≤ n ∧ v = .pointer (oP L.nd o) ∧ i = .int .i64 k ∧ Hid (OldO L T sz U k o) ∧ Hid (Below w2.heap.size w2 W)) (fun _ i _ => n - (intOf i).toNat)
 case atStart => exact ⟨0, .none, by omega, rfl, rfl, OldO.zero _ _ _ _, Below.refl _ _⟩
 case round =>
 obtain ⟨k, o, hk, rfl, rfl, HO, HV⟩ := hrel
 rename World => wr
 by_cases hlt : k < n
 ·have q1 : (k : Int) < (n : Int) := by omega
  obtain ⟨b, off, rfl, ck⟩ := (HR.out _ HV.out).cell k hlt
  have HVw := hid (HB2.out.trans (HV.out.mono HB2.out.size))
  have hK := HKv.out _ HVw.out
  obtain ⟨x, hx, hpx⟩ := (HUm.out (U[k]?.getD 0)).1 (by rw [List.getElem?_eq_getElem (by rw [HNe.out]; exact hlt)]; exact List.getElem_mem _)
  obtain ⟨p0, p1⟩ := hK.pgb x hx
  have hat := hK.at' x hx
  obtain ⟨m, hm⟩ : ∃ m : Nat, L.pgs x = m := ⟨(L.pgs x).toNat, by omega⟩
  rw [hm, Int.toNat_natCast] at hat
  rw [← hpx, hm] at ck
  rw [hm] at p1
  have hmp : m < pg := by omega
  have cb : wr.cell? ⟨bb, m, none⟩ = some (.pointer (some ⟨L.nd x, 0, none⟩)) := by
   have hl : L.vs.length = pg := by have := hK.row.1; simpa using this
   rw [World.ownsRow.cellAt hK.row m (by omega)]
   exact hat
  have c3 := hK.cells.2.2.2.1
  have n20 := (hK.ncells hz.2 (.inr hx)).2.2.2.2
  have HOne : Hid (∀ y ∈ T, L.pgs y = U[k]?.getD 0 → y = x) := fun y hy e => hK.pgi y hy x hx (by rw [hpx]; exact e)
  have HLq : Hid (∀ q : Nat, Calls Tryz.prog 156 #[.pointer (some ⟨L.nd x, 0, none⟩)] (wr.drewN q) fun e w' => e = .returned (.bool (lfB T sz x)) ∧ w' = wr.drewN q) := fun q => HLf.out (wr.drewN q) x hx (HVw.out.trans ((bel_dr wr q).mono HVw.out.size))
  have HVq : Hid (∀ q : Nat, Below w2.heap.size w2 (wr.drewN q)) := fun q => HV.out.trans ((bel_dr wr q).mono HV.out.size)
  have HX := hid hx
  have HN : Hid (∀ z, z ∈ T → wr.cell? ⟨L.nd z, 20, none⟩ = some (.int .u64 (L.us z))) := fun z hz' => (hK.ncells hz.2 (.inr hz')).2.2.2.2
  clear hK hpx hm hat HLf HKv HUm HR HV p0 p1
  cases hl : lfB T sz x with
  | false =>
   have HO2 : Hid (OldO L T sz U (k + 1) o) := HO.out.stay fun y hy e hy2 => by rw [HOne.out y hy e, hl] at hy2; cases hy2
   rw [hl] at HLq
   clear HO HOne hl
   go_wp2_with fail
   go_quiet ((go_at_call 156; exact Calls.quiet_of_same (HLq.out _)))
   go_wp2_with fail
   go_round
   case rel => exact ⟨k + 1, o, by omega, rfl, by go_num, HO2, HVq.out _⟩
   case measure => simp [intOf]; omega
  | true =>
   rw [hl] at HLq
   cases o with
   | none =>
    have HO2 : Hid (OldO L T sz U (k + 1) (.some x)) := HO.out.put HX.out hl HOne.out (fun z e => by cases e)
    simp only [oP]
    clear HO HOne hl HN
    go_wp2_with fail
    go_quiet ((go_at_call 156; exact Calls.quiet_of_same (HLq.out _)))
    go_wp2_with fail
    go_round
    case rel => exact ⟨k + 1, .some x, by omega, rfl, by go_num, HO2, HVq.out _⟩
    case measure => simp [intOf]; omega
   | some z =>
    have nz := HN.out z (HO.out.some z rfl).1
    simp only [oP]
    by_cases hlt2 : L.us x < L.us z
    ·have HO2 : Hid (OldO L T sz U (k + 1) (.some x)) := HO.out.put HX.out hl HOne.out (fun z' e => by cases e; exact Int.le_of_lt hlt2)
     have hd : decide (L.us x < L.us z) = true := decide_eq_true hlt2
     clear HO HOne hl HN
     generalize L.us x = ux at *
     generalize L.us z = uz at *
     go_wp2_with fail
     go_quiet ((go_at_call 156; exact Calls.quiet_of_same (HLq.out _)))
     go_wp2_with fail
     go_round
     case rel => exact ⟨k + 1, .some x, by omega, rfl, by go_num, HO2, HVq.out _⟩
     case measure => simp [intOf]; omega
    ·have HO2 : Hid (OldO L T sz U (k + 1) (.some z)) := HO.out.stay (fun y hy e hy2 => ⟨z, rfl, by rw [HOne.out y hy e]; omega⟩)
     have hd : decide (L.us x < L.us z) = false := decide_eq_false hlt2
     clear HO HOne hl HN
     generalize L.us x = ux at *
     generalize L.us z = uz at *
     go_wp2_with fail
     go_quiet ((go_at_call 156; exact Calls.quiet_of_same (HLq.out _)))
     go_wp2_with fail
     go_round
     case rel => exact ⟨k + 1, .some z, by omega, rfl, by go_num, HO2, HVq.out _⟩
     case measure => simp [intOf]; omega
 ·obtain rfl : k = n := by omega
  have HV3 : Hid (Below w.heap.size w wr) := HB2.out.trans (HV.out.mono HB2.out.size)
  clear HR HV HB2 HKv HLf HUm
  go_wp2
  go_ret
  exact ⟨o, rfl, HO.out, HV3.out⟩
end
end Go.Proofs.YtjgggialnegddaaGreat
