/-
  Package member: Live, Add.
-/
import Derived.Test.YtlhhkgjolilpiaaMbOp3
namespace Go.Proofs.Ytlhhkgjolilpiaa
open Go.RowKit
set_option linter.unusedVariables false
set_option maxRecDepth 1000000
variable {W W' w w' : World} {b M g : Nat} {f : Int → Nat} {S S' : Ml} {r q r' : Mr} {n t v wt s i : Int}

/-- Those that have come, and don't drain. -/
def cntL (L : List Mr) (lf : Int → Bool) : Nat := (L.filter fun r => decide (r.st ≠ 3) && !lf r.n).length
theorem cntL_le (L : List Mr) (lf : Int → Bool) : cntL L lf ≤ L.length := List.length_filter_le _ _
theorem cntL_none {L : List Mr} {lf : Int → Bool} (h : ∀ r ∈ L, lf r.n = true) : cntL L lf = 0 := by
  unfold cntL
  rw [List.length_eq_zero_iff, List.filter_eq_nil_iff]
  intro r hr
  rw [h r hr]
  simp
theorem cntL_all {L : List Mr} {lf : Int → Bool} (h : ∀ r ∈ L, lf r.n = false) : cntL L lf = liveL L := by
  unfold cntL liveL
  congr 1
  refine List.filter_congr fun r hr => ?_
  rw [h r hr]
  simp
theorem cntL_step {L : List Mr} (hn : (L.map Mr.n).Nodup) {lf : Int → Bool} {r : Mr} (hr : r ∈ L) (hl : lf r.n = true) : cntL L (fun x => lf x && decide (x ≠ r.n)) = cntL L lf + (if r.st ≠ 3 then 1 else 0) := by
  induction L with
  | nil => simp at hr
  | cons x L ih =>
    rw [List.map_cons, List.nodup_cons] at hn
    by_cases e : x.n = r.n
    · have hne : ∀ y ∈ L, y.n ≠ r.n := fun y hy h => hn.1 (List.mem_map.2 ⟨y, hy, h.trans e.symm⟩)
      have hx : x = r := by
        rcases List.mem_cons.1 hr with h | h
        · exact h.symm
        · exact absurd rfl (hne r h)
      subst hx
      have ht : cntL L (fun y => lf y && decide (y ≠ x.n)) = cntL L lf := by
        unfold cntL
        congr 1
        refine List.filter_congr fun y hy => ?_
        simp [hne y hy]
      have h1 : cntL (x :: L) (fun y => lf y && decide (y ≠ x.n)) = cntL L (fun y => lf y && decide (y ≠ x.n)) + (if x.st ≠ 3 then 1 else 0) := by
        unfold cntL
        rw [List.filter_cons]
        by_cases h3 : x.st = 3 <;> simp [h3]
      have h2 : cntL (x :: L) lf = cntL L lf := by
        unfold cntL
        rw [List.filter_cons, hl]
        simp
      rw [h1, h2, ht]
    · have hr' : r ∈ L := by
        rcases List.mem_cons.1 hr with h | h
        · exact absurd (by rw [h]) e
        · exact h
      have ih := ih hn.2 hr'
      have h1 : ∀ lg : Int → Bool, cntL (x :: L) lg = cntL L lg + (if (decide (x.st ≠ 3) && !lg x.n) = true then 1 else 0) := fun lg => by
        unfold cntL
        rw [List.filter_cons]
        split <;> simp
      rw [h1, h1, ih]
      simp [e]
      omega
set_option maxHeartbeats 4000000 in
theorem mlive_any (h : MlAt w b M f S) (ok : MlOk S) : Calls Try.prog 22 #[.pointer (some ⟨b, 0, none⟩)] w fun e w' => e = .returned (.int .i64 (liveL S.L)) ∧ Hid (Below w.heap.size w w') := by
  have hM := mmade_yes h
  have c2 := h.cs.map
  obtain ⟨W2, cnt0, hrg, hrs, hbr, hsz⟩ := h.map.range
  have HN := hid ok.ris.nodup
  have HF := hid fun (W : World) (hb : Below w.heap.size w W) (r : Mr) (hr : r ∈ S.L) => (h.below hb).rc hr
  have hlen := ok.len
  have HU := hid fun (r : Mr) (hr : r ∈ S.L) => h.map.oks _ (List.mem_map.2 ⟨r, hr, rfl⟩)
  obtain ⟨lf0, Hlf0⟩ : ∃ lf0 : Int → Bool, Hid (lf0 = fun x => (lkQ (ents f S.L) x).isSome) := ⟨_, rfl⟩
  have hc0 : cntL S.L lf0 = 0 := cntL_none fun r hr => by
    rw [Hlf0.out]
    show (lkQ (ents f S.L) r.n).isSome = true
    rw [lkQ_ents, gtL_mem ok.ris hr]
    rfl
  obtain ⟨nl, Hnl⟩ : ∃ nl, Hid ((ents f S.L).length = nl) := ⟨_, rfl⟩
  obtain ⟨rr, Hrr⟩ : ∃ rr, Hid (w.heap.size = rr) := ⟨_, rfl⟩
  have HR1 : Hid (RqAt W2 M rr nl (ents f S.L) lf0 cnt0 ∧ Below w.heap.size w W2 ∧ (0 : Int) = (cntL S.L lf0 : Nat)) := by
    rw [Hlf0.out, ← Hrr.out, ← Hnl.out, ← Hlf0.out, hc0]
    refine ⟨?_, hbr, rfl⟩
    rw [Hlf0.out]
    exact hrs
  rw [Hrr.out] at hrg
  clear hrs hbr h Hlf0 hsz hc0 ok
  go_enter Try.func22, Try.ntmps22
  go_wp2_with fail
  refine hM.mono ?_
  rintro e w1 ⟨rfl, rfl⟩
  clear hM
  go_wp2_with fail
  go_loopw [3] (fun x W' => ∃ (lf : Int → Bool) (cnt : Nat) (c : Int), x = .int .i64 c ∧ Hid (RqAt W' M rr nl (ents f S.L) lf cnt ∧ Below w1.heap.size w1 W' ∧ c = (cntL S.L lf : Nat))) (fun _ W' => W'.rangeLeft M rr)
  case atStart => exact ⟨lf0, cnt0, 0, rfl, HR1⟩
  case round =>
  obtain ⟨lf, cnt, c, rfl, HI⟩ := hrel
  rename World => w3
  clear HR1 hrg c2
  have hcb : 0 ≤ c ∧ c ≤ 8 := by
    have h1 := HI.out.2.2
    have h2 := cntL_le S.L lf
    omega
  rcases HI.out.1.next 0 with ⟨hp, hrun⟩ | ⟨e, w4, cnt', hbL, hbU, hlb, hrun, hrs', hlt, hfb, hsz4, hen⟩
  · have HE : Hid (c = (liveL S.L : Nat) ∧ Below w1.heap.size w1 w3) := ⟨by rw [HI.out.2.2, cntL_all fun r hr => hp _ (HU.out r hr)], HI.out.2.1⟩
    clear hp HI
    go_wp2_with fail
    go_ret
    exact ⟨by rw [← HE.out.1]; rfl, HE.out.2⟩
  · obtain ⟨r, hr, rfl⟩ := List.mem_map.1 hbL
    have hb4 : Below w1.heap.size w1 w4 := HI.out.2.1.trans (hfb.to (fun k hk => by rw [show k = rr from hk, ← Hrr.out]; exact Nat.le_refl _) HI.out.2.1.size)
    have c1 := (HF.out w4 hb4 r hr).st
    have HLt : Hid (cnt' < w3.rangeLeft M rr) := by unfold Hid; rw [HI.out.1.left]; exact hlt
    have HS := hid (cntL_step HN.out hr hlb)
    have HX := hid (And.intro hrs' (And.intro hb4 HI.out.2.2))
    simp only at hrun hen
    clear hrs' hlt hfb hbU hlb HI hb4 hbL hsz4
    by_cases h3 : r.st = 3
    · rw [h3] at c1
      have HS2 : Hid (cntL S.L (fun x => lf x && decide (x ≠ r.n)) = cntL S.L lf) := by
        have := HS.out
        rw [if_neg (fun e => e h3)] at this
        exact this
      clear HS h3 hr
      generalize f r.n = g at *
      go_wp2_with fail
      go_round
      case rel => exact ⟨_, cnt', c, rfl, HX.out.1, HX.out.2.1, by rw [HX.out.2.2, HS2.out]⟩
      case measure => rw [HX.out.1.left]; exact HLt.out
    · have d1 : (r.st == 3) = false := by simp [h3]
      have d2 : (r.st != 3) = true := by simp [h3]
      have HS2 : Hid (cntL S.L (fun x => lf x && decide (x ≠ r.n)) = cntL S.L lf + 1) := by
        have := HS.out
        rw [if_pos h3] at this
        exact this
      have v1 : IntKind.i64.wrap (c + 1) = c + 1 := by rw [IntKind.wrap_i64]; omega
      clear HS h3 hr
      generalize f r.n = g at *
      generalize r.st = rst at *
      go_wp2_with fail
      go_round
      case rel => exact ⟨_, cnt', c + 1, rfl, HX.out.1, HX.out.2.1, by rw [HX.out.2.2, HS2.out]; rfl⟩
      case measure => rw [HX.out.1.left]; exact HLt.out
end Go.Proofs.Ytlhhkgjolilpiaa
