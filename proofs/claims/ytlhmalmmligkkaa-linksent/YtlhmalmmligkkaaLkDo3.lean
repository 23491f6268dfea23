/-
  Package link: Twice, Turn, Clear, Counts; what is asked of a place that is none, and of a link that nobody made.
-/
import Derived.Test.YtlhmalmmligkkaaLkDo2
import Derived.Deep.RegionHeld3
namespace Go.Proofs.Ytlhmalmmligkkaa
open Go.RowKit
set_option linter.unusedVariables false
set_option maxRecDepth 1000000
variable {B b : Nat} {w w' : World} {v : Value} {us : List Value} {S : Lm}

theorem ltwice_full (h : LkAt B w b v us S) {i : Nat} {u : Value} (hu : us[i]? = some u) (hf : S.room ≤ S.ms.length) :
    Calls Try.prog 16 #[.pointer (some ⟨b, 0, none⟩), .int .i64 i] w fun e w' => e = .returned (.int .i64 9) ∧ Hid (Below w.heap.size w w') := by
  have hT := lask_look h hu
  have hL := lfull_any h
  rw [decide_eq_true hf] at hL
  unfold lookV at hT
  clear h hu
  go_enter Try.func16, Try.ntmps16
  go_wp2_with fail
  with_reducible refine hT.mono ?_
  rintro e w1 ⟨rfl, rfl⟩
  go_wp2_with fail
  with_reducible refine hL.mono ?_
  rintro e w2 ⟨rfl, hb⟩
  go_wp2_with fail
  go_ret
  exact ⟨rfl, hb⟩
theorem ltwice_room (h : LkAt B w b v us S) {i : Nat} {u : Value} {zs : List Int} (hu : us[i]? = some u) (hz : S.ms[i]? = some zs) (hf : ¬ S.room ≤ S.ms.length) :
    Calls Try.prog 16 #[.pointer (some ⟨b, 0, none⟩), .int .i64 i] w fun e w' => e = .returned (.int .i64 0) ∧ Hid (Goes B w b v us (S.put (S.ms ++ [zs])) w') := by
  have hT := lask_look h hu
  have hL := lfull_any h
  rw [decide_eq_false hf] at hL
  have hm := h.msg i u zs hu hz
  obtain ⟨a, c, rfl, hr⟩ := hm.reads
  have HC : Hid (∀ w2 : World, Below w.heap.size w w2 → Calls Try.prog 37 #[.slice a zs.length c] w2 fun e w' => ∃ u, e = .returned u ∧ MsgAt w2.heap.size w' u zs ∧ Hid (Below w2.heap.size w2 w')) := fun w2 hb => clone_any a zs.length c zs w2 (hr.below hb) hm.bs hm.len
  have HA : Hid (∀ (w2 w3 : World) (u : Value), Below w.heap.size w w2 → MsgAt w2.heap.size w3 u zs → Below w2.heap.size w2 w3 → Calls Try.prog 36 #[.pointer (some ⟨b, 0, none⟩), u] w3 fun e w' => e = .returned (.tuple #[]) ∧ Hid (Goes B w b v us (S.put (S.ms ++ [zs])) w')) := fun w2 w3 u hb hm hb3 =>
    ladd_new h (hb.trans (hb3.mono hb.size)) (hm.low hb.size) (by omega)
  unfold lookV at hT
  clear h hu hz hm hr
  generalize zs.length = n at *
  go_enter Try.func16, Try.ntmps16
  go_wp2_with fail
  with_reducible refine hT.mono ?_
  rintro e w1 ⟨rfl, rfl⟩
  go_wp2_with fail
  with_reducible refine hL.mono ?_
  rintro e w2 ⟨rfl, hb⟩
  go_wp2_with fail
  with_reducible refine (HC.out _ hb.out).mono ?_
  rintro e w3 ⟨u3, rfl, hm, hb3⟩
  have Hm := hid hm
  clear hm
  go_wp2_with fail
  with_reducible refine (HA.out _ _ _ hb.out Hm.out hb3.out).mono ?_
  rintro e w4 ⟨rfl, H⟩
  go_wp2_with fail
  go_ret
  exact ⟨rfl, H⟩
/-- A message is turned. -/
theorem lturn_end (h : LkAt B w b v us S) {i : Nat} {u : Value} {zs : List Int} (hu : us[i]? = some u) (hz : S.ms[i]? = some zs) {u' : Value} {ys : List Int} {w1 : World} (hb : Below w.heap.size w w1) (hm : MsgAt w.heap.size w1 u' ys) {g cap : Nat} (hv : v = .slice (some ⟨g, 0, none⟩) S.ms.length cap) :
    LkAt B (w1.setCell ⟨g, i, none⟩ u') b v (us.set i u') (S.put (S.ms.set i ys)) ∧ Fb (rwF b v) w (w1.setCell ⟨g, i, none⟩ u') ∧ ∀ k, lkF b v (us.set i u') k → lkF b v us k ∨ w.heap.size ≤ k := by
  have hB : B ≤ w.heap.size := by have := h.hb; have := h.blt; omega
  have h1 := h.below hb
  have hvg : v.ownBlock = some g := by rw [hv]; rfl
  have hf : Fb (rwF b v) w1 (w1.setCell ⟨g, i, none⟩ u') := Fb.set (F := rwF b v) (p := ⟨g, i, none⟩) (.inr hvg) _
  have hgb : b ≠ g := fun e => h.vb (by rw [hvg, e])
  have hr : (w1.setCell ⟨g, i, none⟩ u').ownsRow B 36 1 v (us.set i u').length (us.set i u') := by
    have := h1.row
    rw [List.length_set]
    rw [hv, h.len] at this ⊢
    exact (this.stored i u').1
  refine ⟨h1.turn ((Below.heap_setCell w1 ⟨g, i, none⟩ u' b (show b ≠ g from hgb)).trans h1.blk) hr (by rw [List.length_set, List.length_set]; exact h.len) (fun j x xs hx hy => ?_) (nd_set h.nd (new_off h hm (Nat.le_refl _)) i) (by rw [List.length_set]; exact h.ok.ms), (Fb.of hb : Fb (rwF b v) w w1).trans hf fun k hk => .inl hk, fun k hk => ?_⟩
  · have hx2 : MsgAt B w1 x xs := by
      rw [List.getElem?_set] at hx hy
      by_cases hij : i = j
      · rw [if_pos hij] at hx hy
        have hl : j < us.length := by rw [← hij]; exact (List.getElem?_eq_some_iff.1 hu).1
        rw [if_pos (by omega)] at hx
        rw [if_pos (by rw [← h.len]; omega)] at hy
        cases hx
        cases hy
        exact hm.low hB
      · rw [if_neg hij] at hx hy
        exact h1.msg j x xs hx hy
    exact hx2.same fun k hk => hf.block k (hx2.lt hk).2 (h1.off hx2 hk)
  · rcases hk with e | ⟨x, hx, e⟩
    · exact .inl (.inl e)
    · rcases List.mem_or_eq_of_mem_set hx with hx | rfl
      · exact .inl (.inr ⟨x, hx, e⟩)
      · exact .inr (hm.lt e).1
set_option maxHeartbeats 2000000 in
theorem lturn_yes (h : LkAt B w b v us S) {i : Nat} {u : Value} {zs : List Int} (hu : us[i]? = some u) (hz : S.ms[i]? = some zs) {p mask : Int} (hp : isI p) (hk : isW mask) :
    Calls Try.prog 20 #[.pointer (some ⟨b, 0, none⟩), .int .i64 i, .int .i64 p, .int .u32 mask] w fun e w' => e = .returned (.int .i64 0) ∧ Hid (Goes B w b v us (S.put (S.ms.set i (burstL zs p mask 32))).spun w') := by
  have hT := lask_look h hu
  have hi : i < S.ms.length := (List.getElem?_eq_some_iff.1 hz).1
  obtain ⟨g, cap, hv, v1, v2⟩ := h.form (by omega)
  have c1 := h.cells.2.1
  have hm := h.msg i u zs hu hz
  have hc := h.ok.tu
  have r1 := h.ok.r1
  have r2 := h.ok.ms
  obtain ⟨a, c, rfl, hr⟩ := hm.reads
  have HB := hid (burst_any a zs.length c zs p mask w.drew (hr.below (Below.refl _ _).drew) hm.bs hm.len hp.1 hp.2 hk.1 hk.2)
  have HM : Hid (∀ (w1 : World) (u' : Value), w1.ownsRow w.heap.size 5 1 u' zs.length ((burstL zs p mask 32).map (Value.int .u8)) → MsgAt w.heap.size w1 u' (burstL zs p mask 32)) := fun w1 u' ho => ⟨by rw [burstL_len]; exact ho, burstL_bytes hm.bs _ _ _, by rw [burstL_len]; exact hm.len⟩
  have HE : Hid (∀ (w1 : World) (u' : Value), Below w.heap.size w w1 → MsgAt w.heap.size w1 u' (burstL zs p mask 32) → _) := fun w1 u' hb hm' => lturn_end h hu hz hb hm' hv
  have HK : Hid (∀ w1 : World, Below w.heap.size w w1 → w1.cell? ⟨b, 1, none⟩ = some v ∧ w1.cell? ⟨g, i, none⟩ = some (.slice a zs.length c) ∧ w1.frozen? ⟨g, i, none⟩ = false) := fun w1 hb => by
    have h1 := h.below hb
    have hr1 := h1.row
    rw [hv, h.len] at hr1
    exact ⟨h1.cells.2.1, h1.at hv hu, hr1.frozenAt i⟩
  have HK2 : Hid (∀ (w1 : World) (x : Value), Below w.heap.size w w1 → (w1.setCell ⟨g, i, none⟩ x).cell? ⟨b, 1, none⟩ = some v) := fun w1 x hb => by
    have h1 := (Below.heap_setCell w1 ⟨g, i, none⟩ x b (show b ≠ g from fun e => h.vb (by rw [hv, e]; rfl))).trans (h.below hb).blk
    rw [cell_of_row _ _ _ _ _ _ h1]; rfl
  have hi0 : (0 : Int) ≤ (i : Int) := by omega
  have hi1 : (i : Int) < (S.ms.length : Int) := by omega
  unfold lookV at hT
  clear h hu hz hm hr
  subst hv
  generalize S.ms.length = n at *
  generalize zs.length = m at *
  go_enter Try.func20, Try.ntmps20
  go_wp2_with fail
  with_reducible refine hT.mono ?_
  rintro e w1 ⟨rfl, rfl⟩
  go_wp2_with fail
  clear c1 hT
  have HV : Hid (Below w1.heap.size w1 w1.drew) := (Below.refl _ _).drew
  go_region_held3 (fun W : World => W.cell? ⟨b, 1, none⟩ = some (.slice (some ⟨g, 0, none⟩) n cap)) (first | (with_reducible exact (HK.out _ (Below.refl _ _)).1) | (with_reducible exact (HK.out _ HV.out).1) | (with_reducible exact (HK.out _ HV2.out).1) | (with_reducible exact HK2.out _ _ HV2.out))
    (first
      | (go_at_call 38; (with_reducible refine HB.out.mono ?_); rintro e w2 ⟨u2, rfl, ho, hb⟩; obtain ⟨p2, d2, rfl, _⟩ := Reads.own (k := .u8) ho; have HV2 := hid (HV.out.trans hb); have HM2 := hid (HM.out _ _ ho); obtain ⟨_, c7, f7⟩ := HK.out _ HV2.out; clear hb ho HB)
      | fail)
  all_goals
    have HX := hid (HE.out _ _ HV2.out HM2.out)
    clear HE HK HK2 HM HM2 c7 f7
    generalize w2.setCell ⟨g, i, none⟩ (.slice p2 m d2) = w3 at *
    obtain ⟨_, _, _, _, _, _, _, _, c8, c9⟩ := HX.out.1.cells
    change w3.cell? _ = some (.int .u32 S.tu) at c8
    have hU := cup_any S.tu 1 w3 hc ⟨by decide, by decide⟩
    go_wp2_with fail
    with_reducible refine hU.mono ?_
    rintro e w4 ⟨rfl, hb⟩
    have h4 := HX.out.1.below hb.out
    obtain ⟨_, _, _, _, _, _, _, _, d8, d9⟩ := h4.cells
    have f8 := h4.frozen 8
    have f9 := h4.frozen 9
    have H4 := hid h4
    change w4.cell? _ = some (.int .u32 S.tu) at d8
    clear h4 c8 c9
    go_wp2_with fail
    go_ret
    refine ⟨rfl, _, _, H4.out.spun, ?_, HX.out.2.2⟩
    exact (HX.out.2.1.trans (Fb.of hb.out : Fb (rwF b _) w3 w4) fun k hk => .inl hk).trans (fb_at w4 _ _ _) fun k hk => .inl hk
theorem lclear_any (h : LkAt B w b v us S) : Calls Try.prog 22 #[.pointer (some ⟨b, 0, none⟩)] w fun e w' => e = .returned (.int .i64 S.ms.length) ∧ Hid (Goes B w b v us ((S.put []).lost S.ms.length) w') := by
  have hM := lmade_yes h
  have c1 := h.cells.2.1
  have hlen := h.vlen
  obtain ⟨_, _, _, _, _, _, c6, c7, _⟩ := h.cells
  have f1 := h.frozen 1
  have r1 := h.ok.r1
  have r2 := h.ok.ms
  have hc := h.ok.dr
  have hu : IntKind.u32.wrap (S.ms.length : Int) = (S.ms.length : Int) := by rw [IntKind.wrap_u32]; omega
  have HE : Hid (∀ w2, w2 = w.setCell ⟨b, 1, none⟩ (.slice none 0 0) → LkAt B w2 b (.slice none 0 0) [] (S.put []) ∧ Fb (rwF b v) w w2) := fun w2 e => by
    rw [e]
    exact ⟨h.turn (row_set h.blk) (World.ownsRow_nil _ _ _ _) rfl (fun i u zs hu => by simp at hu) (by simp) (Nat.zero_le _), Fb.set (F := rwF b v) (p := ⟨b, 1, none⟩) (.inl rfl) _⟩
  have HN := hid (show (S.ms.length : Int) ≤ 256 by omega)
  have HN0 := hid (show (0 : Int) ≤ (S.ms.length : Int) by omega)
  clear h r2
  generalize S.ms.length = n at *
  go_enter Try.func22, Try.ntmps22
  go_wp2_with fail
  with_reducible refine hM.mono ?_
  rintro e w1 ⟨rfl, rfl⟩
  go_wp2_with fail
  generalize hw2 : w1.setCell ⟨b, 1, none⟩ (.slice none 0 0) = w2 at *
  have H2 := hid (HE.out w2 rfl)
  have hU := cup_any S.dr n w2 hc ⟨HN0.out, by have := HN.out; omega⟩
  clear c1 f1 hw2 hlen HE c6 c7
  with_reducible refine hU.mono ?_
  rintro e w3 ⟨rfl, hb⟩
  have h3 := H2.out.1.below hb.out
  obtain ⟨_, _, _, _, _, _, d6, d7, _⟩ := h3.cells
  have f6 := h3.frozen 6
  have f7 := h3.frozen 7
  have H3 := hid h3
  change w3.cell? _ = some (.int .u32 S.dr) at d6
  clear h3
  go_wp2_with fail
  go_ret
  refine ⟨rfl, _, _, H3.out.lost HN0.out, ?_, fun k hk => ?_⟩
  · exact (H2.out.2.trans (Fb.of hb.out : Fb (rwF b v) w2 w3) fun k hk => .inl hk).trans (fb_at w3 _ _ _) fun k hk => .inl hk
  · rcases hk with (rfl | e) | ⟨x, hx, _⟩
    · exact .inl (.inl (.inl rfl))
    · cases e
    · simp at hx
theorem lcounts_any (h : LkAt B w b v us S) : Calls Try.prog 25 #[.pointer (some ⟨b, 0, none⟩)] w fun e w' => e = .returned (.agg #[.int .u32 S.se, .int .u32 S.ca, .int .u32 S.dr, .int .u32 S.tu]) ∧ Hid (Below w.heap.size w w') := by
  obtain ⟨w0, hw0⟩ : ∃ w0, w0 = w.alloc (.cells #[.int .u32 0, .int .u32 0, .int .u32 0, .int .u32 0] 51) := ⟨_, rfl⟩
  have hb0 : Below w.heap.size w w0 := by rw [hw0]; exact (Below.refl _ _).alloc (Nat.le_refl _) _
  have hM := lmade_yes (h.below hb0)
  have HK : Hid (∀ W, Below w0.heap.size w0 W → W.cell? ⟨b, 2, none⟩ = some (.int .u32 S.se) ∧ W.cell? ⟨b, 3, none⟩ = some (.int .u32 4294967295) ∧ W.cell? ⟨b, 4, none⟩ = some (.int .u32 S.ca) ∧ W.cell? ⟨b, 5, none⟩ = some (.int .u32 4294967295) ∧ W.cell? ⟨b, 6, none⟩ = some (.int .u32 S.dr) ∧ W.cell? ⟨b, 7, none⟩ = some (.int .u32 4294967295) ∧ W.cell? ⟨b, 8, none⟩ = some (.int .u32 S.tu) ∧ W.cell? ⟨b, 9, none⟩ = some (.int .u32 4294967295)) := fun W hb => by
    obtain ⟨_, _, a⟩ := ((h.below hb0).below hb).cells
    exact a
  have hcc : w0.heap[w.heap.size]? = some (.cells #[.int .u32 0, .int .u32 0, .int .u32 0, .int .u32 0] 51 (0, 0)) := by rw [hw0]; exact heap_alloc_new w _
  have hbl := h.blt
  have HT : Hid (∀ W, Below w0.heap.size w0 W → W.cell? ⟨w.heap.size, 0, none⟩ = some (.int .u32 0) ∧ W.cell? ⟨w.heap.size, 1, none⟩ = some (.int .u32 0) ∧ W.cell? ⟨w.heap.size, 2, none⟩ = some (.int .u32 0) ∧ W.cell? ⟨w.heap.size, 3, none⟩ = some (.int .u32 0) ∧ W.frozen? ⟨w.heap.size, 0, none⟩ = false ∧ W.frozen? ⟨w.heap.size, 1, none⟩ = false ∧ W.frozen? ⟨w.heap.size, 2, none⟩ = false ∧ W.frozen? ⟨w.heap.size, 3, none⟩ = false) := fun W hb => by
    have h2 := block_bel hcc hb
    refine ⟨?_, ?_, ?_, ?_, frozen_of_row _ _ 0 _ _ h2, frozen_of_row _ _ 1 _ _ h2, frozen_of_row _ _ 2 _ _ h2, frozen_of_row _ _ 3 _ _ h2⟩ <;> (rw [cell_of_row _ _ _ _ _ _ h2]; rfl)
  have HS : Hid (∀ W (x0 x1 x2 x3 : Value), Below w0.heap.size w0 W → Below w.heap.size w ((((W.setCell ⟨w.heap.size, 0, none⟩ x0).setCell ⟨w.heap.size, 1, none⟩ x1).setCell ⟨w.heap.size, 2, none⟩ x2).setCell ⟨w.heap.size, 3, none⟩ x3)) := fun W x0 x1 x2 x3 hb =>
    ((((hb0.trans (hb.mono hb0.size)).setCell (by exact Nat.le_refl _) x0).setCell (by exact Nat.le_refl _) x1).setCell (by exact Nat.le_refl _) x2).setCell (by exact Nat.le_refl _) x3
  have HKs : Hid (∀ W (x0 x1 x2 x3 : Value), Below w0.heap.size w0 W → _) := fun W x0 x1 x2 x3 hb => (h.below (HS.out W x0 x1 x2 x3 hb)).cells.2.2
  clear h
  generalize hgt : w.heap.size = gt at *
  go_enter Try.func25, Try.ntmps25
  go_wp2_with fail
  rw [← hw0]
  with_reducible refine hM.mono ?_
  rintro e w1 ⟨rfl, rfl⟩
  clear hw0 hcc hM
  go_wp2_with fail
  have HV : Hid (Below w1.heap.size w1 w1.drew) := (Below.refl _ _).drew
  go_region_held3 (fun W : World => W.cell? ⟨b, 2, none⟩ = some (.int .u32 S.se) ∧ W.cell? ⟨b, 3, none⟩ = some (.int .u32 4294967295) ∧ W.cell? ⟨b, 4, none⟩ = some (.int .u32 S.ca) ∧ W.cell? ⟨b, 5, none⟩ = some (.int .u32 4294967295) ∧ W.cell? ⟨b, 6, none⟩ = some (.int .u32 S.dr) ∧ W.cell? ⟨b, 7, none⟩ = some (.int .u32 4294967295) ∧ W.cell? ⟨b, 8, none⟩ = some (.int .u32 S.tu) ∧ W.cell? ⟨b, 9, none⟩ = some (.int .u32 4294967295)) (first | (with_reducible exact HK.out _ HV.out) | (with_reducible exact HKs.out _ _ _ _ _ HV.out) | (with_reducible exact HK.out _ (Below.refl _ _)))
    (first
      | (go_at_call 41; (with_reducible refine (cn_any _ _ _).mono ?_); rintro e w' ⟨rfl, hb⟩; replace HV := hid (HV.out.trans (hb.out.mono HV.out.size)); obtain ⟨a0, a1, a2, a3, b0, b1, b2, b3⟩ := HT.out _ HV.out; clear hb)
      | fail)
  all_goals
    have HX := hid (HS.out _ (.int .u32 S.se) (.int .u32 S.ca) (.int .u32 S.dr) (.int .u32 S.tu) HV.out)
    clear HK HT HS HKs
    go_wp2_with fail
    refine bodyPost_ret (v := .agg #[.int .u32 S.se, .int .u32 S.ca, .int .u32 S.dr, .int .u32 S.tu]) (by simp [results, Try.results25, go_sem, *]) rfl ⟨rfl, ?_⟩
    exact HX.out
section None
variable {p : Value} {i E : Int}
theorem ldeliver_no (hA : ∀ f, Calls Try.prog 28 #[p, .int .i64 i, f] w fun e w' => e = .returned (.tuple #[.slice none 0 0, .int .i64 E]) ∧ w' = w) (hE : E ≠ 0) : Calls Try.prog 12 #[p, .int .i64 i] w fun e w' => e = .returned (.tuple #[.slice none 0 0, .int .i64 E]) ∧ w' = w := by
  go_enter Try.func12, Try.ntmps12
  go_wp2_with fail
  with_reducible refine (hA _).mono ?_
  rintro e w1 ⟨rfl, rfl⟩
  go_wp2_with fail
  go_ret2
  exact ⟨rfl, rfl⟩
theorem ldrop_no (hA : ∀ f, Calls Try.prog 28 #[p, .int .i64 i, f] w fun e w' => e = .returned (.tuple #[.slice none 0 0, .int .i64 E]) ∧ w' = w) (hE : E ≠ 0) : Calls Try.prog 14 #[p, .int .i64 i] w fun e w' => e = .returned (.int .i64 E) ∧ w' = w := by
  go_enter Try.func14, Try.ntmps14
  go_wp2_with fail
  with_reducible refine (hA _).mono ?_
  rintro e w1 ⟨rfl, rfl⟩
  go_wp2_with fail
  go_ret
  exact ⟨rfl, rfl⟩
theorem ltwice_no (hA : ∀ f, Calls Try.prog 28 #[p, .int .i64 i, f] w fun e w' => e = .returned (.tuple #[.slice none 0 0, .int .i64 E]) ∧ w' = w) (hE : E ≠ 0) : Calls Try.prog 16 #[p, .int .i64 i] w fun e w' => e = .returned (.int .i64 E) ∧ w' = w := by
  go_enter Try.func16, Try.ntmps16
  go_wp2_with fail
  with_reducible refine (hA _).mono ?_
  rintro e w1 ⟨rfl, rfl⟩
  go_wp2_with fail
  go_ret
  exact ⟨rfl, rfl⟩
theorem llater_no (hA : ∀ f, Calls Try.prog 28 #[p, .int .i64 i, f] w fun e w' => e = .returned (.tuple #[.slice none 0 0, .int .i64 E]) ∧ w' = w) (hE : E ≠ 0) : Calls Try.prog 18 #[p, .int .i64 i] w fun e w' => e = .returned (.int .i64 E) ∧ w' = w := by
  go_enter Try.func18, Try.ntmps18
  go_wp2_with fail
  with_reducible refine (hA _).mono ?_
  rintro e w1 ⟨rfl, rfl⟩
  go_wp2_with fail
  go_ret
  exact ⟨rfl, rfl⟩
theorem lturn_no (hA : ∀ f, Calls Try.prog 28 #[p, .int .i64 i, f] w fun e w' => e = .returned (.tuple #[.slice none 0 0, .int .i64 E]) ∧ w' = w) (hE : E ≠ 0) (pl mask : Int) : Calls Try.prog 20 #[p, .int .i64 i, .int .i64 pl, .int .u32 mask] w fun e w' => e = .returned (.int .i64 E) ∧ w' = w := by
  go_enter Try.func20, Try.ntmps20
  go_wp2_with fail
  with_reducible refine (hA _).mono ?_
  rintro e w1 ⟨rfl, rfl⟩
  go_wp2_with fail
  go_ret
  exact ⟨rfl, rfl⟩
theorem lsend_no (hM : Calls Try.prog 40 #[p] w fun e w' => e = .returned (.bool false) ∧ w' = w) (a : Option Addr) (len cap : Nat) : Calls Try.prog 23 #[p, .slice a len cap] w fun e w' => e = .returned (.int .i64 2) ∧ w' = w := by
  go_enter Try.func23, Try.ntmps23
  go_wp2_with fail
  with_reducible refine hM.mono ?_
  rintro e w1 ⟨rfl, rfl⟩
  go_wp2_with fail
  go_ret
  exact ⟨rfl, rfl⟩
theorem llen_no (hM : Calls Try.prog 40 #[p] w fun e w' => e = .returned (.bool false) ∧ w' = w) : Calls Try.prog 26 #[p] w fun e w' => e = .returned (.int .i64 0) ∧ w' = w := by
  go_enter Try.func26, Try.ntmps26
  go_wp2_with fail
  with_reducible refine hM.mono ?_
  rintro e w1 ⟨rfl, rfl⟩
  go_wp2_with fail
  go_ret
  exact ⟨rfl, rfl⟩
theorem lclear_no (hM : Calls Try.prog 40 #[p] w fun e w' => e = .returned (.bool false) ∧ w' = w) : Calls Try.prog 22 #[p] w fun e w' => e = .returned (.int .i64 0) ∧ w' = w := by
  go_enter Try.func22, Try.ntmps22
  go_wp2_with fail
  with_reducible refine hM.mono ?_
  rintro e w1 ⟨rfl, rfl⟩
  go_wp2_with fail
  go_ret
  exact ⟨rfl, rfl⟩
theorem lcounts_no (hM : ∀ w1, Below w.heap.size w w1 → Calls Try.prog 40 #[p] w1 fun e w' => e = .returned (.bool false) ∧ w' = w1) : Calls Try.prog 25 #[p] w fun e w' => e = .returned (.agg #[.int .u32 0, .int .u32 0, .int .u32 0, .int .u32 0]) ∧ Hid (Below w.heap.size w w') := by
  have hb : Below w.heap.size w (w.alloc (.cells #[.int .u32 0, .int .u32 0, .int .u32 0, .int .u32 0] 51)) := (Below.refl _ _).alloc (Nat.le_refl _) _
  have hM2 := hM _ hb
  clear hM
  go_enter Try.func25, Try.ntmps25
  go_wp2_with fail
  with_reducible refine hM2.mono ?_
  rintro e w1 ⟨rfl, rfl⟩
  go_wp2_with fail
  refine bodyPost_ret (v := .agg #[.int .u32 0, .int .u32 0, .int .u32 0, .int .u32 0]) (by simp [results, Try.results25, go_sem]) rfl ⟨rfl, ?_⟩
  exact hb
end None
end Go.Proofs.Ytlhmalmmligkkaa
