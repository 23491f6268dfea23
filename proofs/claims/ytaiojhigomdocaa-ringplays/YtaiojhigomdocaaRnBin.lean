/-
  slices.BinarySearchFunc over points; stands: which point is the first one from a place on.
-/
import Derived.Test.YtaiojhigomdocaaRnOps
namespace Go.Proofs.Ytaiojhigomdocaa
open Go.RowKit Go.Maps Go.Shelf Go.Sort
set_option linter.unusedVariables false
set_option maxRecDepth 1000000

open Classical in
/-- How many points come ahead of t. -/
noncomputable def cntP (P : List (Int × Int)) (t : Int × Int) : Nat := P.countP fun p => decide (ptlt p t)
theorem ptlt_nt {a b c : Int × Int} (h1 : ¬ ptlt a b) (h2 : ¬ ptlt b c) : ¬ ptlt a c := by unfold ptlt at *; omega
theorem cnt_iff {t : Int × Int} : ∀ {P : List (Int × Int)}, P.Pairwise (fun x y => ¬ ptlt y x) → ∀ i p, P[i]? = some p → (ptlt p t ↔ i < cntP P t)
  | [], _, i, p, h => by simp at h
  | q :: r, hs, i, p, h => by
    rw [List.pairwise_cons] at hs
    by_cases hq : ptlt q t
    · have hc : cntP (q :: r) t = cntP r t + 1 := by simp [cntP, hq]
      cases i with
      | zero => simp at h; subst h; simp [hq, hc]
      | succ i => rw [cnt_iff hs.2 i p (by simpa using h), hc]; omega
    · have hall : ∀ y ∈ q :: r, ¬ ptlt y t := fun y hy => by
        rcases List.mem_cons.1 hy with rfl | hy
        · exact hq
        · exact ptlt_nt (hs.1 y hy) hq
      have hc : cntP (q :: r) t = 0 := by
        unfold cntP
        rw [List.countP_eq_zero]
        intro y hy
        simpa using hall y hy
      rw [hc]
      have hm : p ∈ q :: r := List.mem_of_getElem? h
      simp [hall p hm]
theorem cnt_le (P : List (Int × Int)) (t : Int × Int) : cntP P t ≤ P.length := List.countP_le_length
theorem cf_lt (x y : Int × Int) : cfZ x y < 0 ↔ ptlt x y := by
  rw [← lt_cf]
  unfold ltOf
  simp
theorem bel_grow (W : World) (q : Nat) (os : Array Obj) : RowKit.Below W.heap.size W (grow (W.drewN q) os) :=
  ⟨rfl, rfl, rfl, by simp [grow, World.drewN], fun k hk => by
    show ((W.drewN q).heap ++ os)[k]? = _
    rw [Array.getElem?_append_left (by simpa [World.drewN] using hk)]
    rfl⟩
theorem ucompareB (x y : Int × Int) (W : World) : Calls Try.prog 43 #[.agg #[.int .u64 x.1, .int .u64 x.2], .agg #[.int .u64 y.1, .int .u64 y.2]] W fun e w' => e = .returned (.int .i64 (cfZ x y)) ∧ RowKit.Below W.heap.size W w' :=
  (ucompare x y W).mono fun e w' h => ⟨h.1, by obtain ⟨q, os, rfl⟩ := h.2; exact bel_grow W q os⟩
set_option maxHeartbeats 4000000 in
theorem ubin {base : Nat} {W : World} {v : Value} {P : List (Int × Int)} (h : PtAt base W v P) (hs : P.Pairwise fun x y => ¬ ptlt y x) (hn : P.length ≤ 100000) (a b : Int) :
    Calls Try.prog 47 #[v, .agg #[.int .u64 a, .int .u64 b], .func (.func 43) #[] #[]] W fun r w' => ∃ u : Value, r = .returned (.tuple #[.int .i64 (cntP P (a, b)), u]) ∧ Hid (Below W.heap.size W w') := by
  obtain ⟨c, Hc⟩ : ∃ c, Hid (cntP P (a, b) = c) := ⟨_, rfl⟩
  rw [Hc.out]
  obtain ⟨n, Hn⟩ : ∃ n, Hid (P.length = n) := ⟨_, rfl⟩
  have hcn : c ≤ n := by rw [← Hc.out, ← Hn.out]; exact cnt_le _ _
  have hn' : n ≤ 100000 := by rw [← Hn.out]; exact hn
  have HC : Hid (∀ i p, P[i]? = some p → (cfZ p (a, b) < 0 ↔ i < c)) := fun i p hp => by
    rw [cf_lt, cnt_iff hs i p hp, Hc.out]
  obtain ⟨ao, cap, hv⟩ : ∃ ao cap, v = .slice ao n cap := by
    rcases h.isSl with ⟨rfl, rfl⟩ | ⟨g, cap, rfl, _⟩
    · exact ⟨none, 0, by rw [← Hn.out]; rfl⟩
    · exact ⟨some ⟨g, 0, none⟩, cap, by rw [Hn.out]⟩
  subst hv
  obtain ⟨wA, hwA⟩ : ∃ wA, wA = W.alloc (.cells #[.int .u64 a, .int .u64 b] 74) := ⟨_, rfl⟩
  have hbA : Below W.heap.size W wA := by rw [hwA]; exact (Below.refl _ _).alloc (Nat.le_refl _) _
  have htA : wA.heap[W.heap.size]? = some (.cells #[.int .u64 a, .int .u64 b] 74 (0, 0)) := by rw [hwA]; exact heap_alloc_new W _
  have HT : Hid (∀ W' : World, Below wA.heap.size wA W' → W'.cell? ⟨W.heap.size, 0, none⟩ = some (.int .u64 a) ∧ W'.cell? ⟨W.heap.size, 1, none⟩ = some (.int .u64 b)) := fun W' hb => cells_two (block_bel htA hb)
  have HP : Hid (∀ W' : World, Below wA.heap.size wA W' → ∀ i p, P[i]? = some p → ∃ g, ao = some ⟨g, 0, none⟩ ∧ W'.cell? ⟨g, i * 2, none⟩ = some (.int .u64 p.1) ∧ W'.cell? ⟨g, i * 2 + 1, none⟩ = some (.int .u64 p.2)) := by
    intro W' hb i p hp
    have hb2 : Below W.heap.size W W' := hbA.trans (hb.mono hbA.size)
    rcases h.isSl with ⟨h1, rfl⟩ | ⟨g, cap', h1, _, hlt, _⟩
    · simp at hp
    · obtain ⟨rfl, hnn, rfl⟩ : ao = some ⟨g, 0, none⟩ ∧ n = P.length ∧ cap = cap' := by simpa using h1
      have h' : PtAt base W' (.slice (some ⟨g, 0, none⟩) n cap) P := h.same fun b hb3 => by
        obtain ⟨cur, hc⟩ := h.blk hb3
        exact hb2.block b (lt_of_block hc)
      exact ⟨g, rfl, h'.cell (flatP_get P i p hp).1, h'.cell (flatP_get P i p hp).2⟩
  have HE : Hid (∀ W' : World, Below wA.heap.size wA W' → Below W.heap.size W W') := fun W' hb => hbA.trans (hb.mono hbA.size)
  have HX : Hid (∀ i, i < n → ∃ p, P[i]? = some p) := fun i hi => ⟨P[i]'(by rw [Hn.out]; exact hi), List.getElem?_eq_getElem _⟩
  clear h hs hbA htA hn Hc
  go_enter Try.func47, Try.ntmps47
  go_wp2_with fail
  rw [← hwA]
  have HV0 := hid (Below.refl wA.heap.size wA)
  clear hwA
  obtain ⟨gt, Hgt⟩ : ∃ gt, Hid (W.heap.size = gt) := ⟨_, rfl⟩
  rw [Hgt.out] at HT HE ⊢
  go_loopw [9, 10] (fun z y W' => ∃ i j : Nat, i ≤ c ∧ c ≤ j ∧ j ≤ n ∧ z = .int .i64 i ∧ y = .int .i64 j ∧ Hid (Below wA.heap.size wA W')) (fun z y _ => (intOf y).toNat - (intOf z).toNat)
  case atStart => exact ⟨0, n, by omega, by omega, by omega, rfl, rfl, HV0⟩
  case round =>
  obtain ⟨i, j, hi, hj, hjn, rfl, rfl, HV⟩ := hrel
  rename World => w1
  clear HV0
  by_cases hij : i < j
  · have g1 : (i : Int) < (j : Int) := by omega
    obtain ⟨q, hq⟩ : ∃ q : Nat, (i : Int) + (j : Int) = (q : Int) := ⟨i + j, by omega⟩
    obtain ⟨m, hm⟩ : ∃ m : Nat, (q : Int) / 2 = (m : Int) := ⟨q / 2, by omega⟩
    have hwq : IntKind.u64.wrap (q : Int) = (q : Int) := by rw [IntKind.wrap_u64]; omega
    have hwm : IntKind.u64.wrap (m : Int) = (m : Int) := by rw [IntKind.wrap_u64]; omega
    have hwq2 : IntKind.i64.wrap (q : Int) = (q : Int) := wrap64_in (by omega) (by omega)
    have hwm2 : IntKind.i64.wrap (m : Int) = (m : Int) := wrap64_in (by omega) (by omega)
    obtain ⟨p, hp⟩ := HX.out m (by omega)
    obtain ⟨g, hao, cp1, cp2⟩ := HP.out _ HV.out m p hp
    subst hao
    have HCm := hid (HC.out m p hp)
    have bm : (m : Int) < (n : Int) := by omega
    obtain ⟨r, Hr⟩ : ∃ r, Hid (cfZ p (a, b) = r) := ⟨_, rfl⟩
    have hQ := fun W' : World => ucompareB p (a, b) W'
    rw [Hr.out] at hQ
    rw [Hr.out] at HCm
    obtain ⟨p1, p2⟩ := p
    have HQ := hid hQ
    have HK : Hid (∀ W' : World, RowKit.Below wA.heap.size wA W' → W'.cell? ⟨g, m * 2, none⟩ = some (.int .u64 p1) ∧ W'.cell? ⟨g, m * 2 + 1, none⟩ = some (.int .u64 p2) ∧ W'.cell? ⟨gt, 0, none⟩ = some (.int .u64 a) ∧ W'.cell? ⟨gt, 1, none⟩ = some (.int .u64 b)) := fun W' hb => by
      obtain ⟨g', hg', e1, e2⟩ := HP.out W' hb m (p1, p2) hp
      cases hg'
      exact ⟨e1, e2, (HT.out W' hb).1, (HT.out W' hb).2⟩
    have HVd : Hid (RowKit.Below wA.heap.size wA w1.drew) := HV.out.drew
    clear hQ cp1 cp2 hp Hr
    go_wp2_with fail
    go_region_held3 (fun W' : World => W'.cell? ⟨g, m * 2, none⟩ = some (.int .u64 p1) ∧ W'.cell? ⟨g, m * 2 + 1, none⟩ = some (.int .u64 p2) ∧ W'.cell? ⟨gt, 0, none⟩ = some (.int .u64 a) ∧ W'.cell? ⟨gt, 1, none⟩ = some (.int .u64 b))
      (first | (with_reducible exact HK.out _ HV.out) | (with_reducible exact HK.out _ HVd.out) | (with_reducible exact HK.out _ HV2.out))
      (first | (refine (HQ.out _).mono ?_; rintro e w2 ⟨rfl, hb2⟩; have HV2 := hid (HVd.out.trans (hb2.mono HVd.out.size)); clear hb2))
    by_cases hr : r < 0
    · have hmc := HCm.out.1 hr
      clear HK HQ HV HVd HCm
      go_wp2_with fail
      go_round
      case rel => exact ⟨m + 1, j, by omega, by omega, by omega, by go_num, rfl, HV2⟩
      case measure => simp [intOf]; omega
    · have hmc : ¬ m < c := fun hh => hr (HCm.out.2 hh)
      clear HK HQ HV HVd HCm
      go_wp2_with fail
      go_round
      case rel => exact ⟨i, m, by omega, by omega, by omega, rfl, rfl, HV2⟩
      case measure => simp [intOf]; omega
  · have g1 : ¬ (i : Int) < (j : Int) := by omega
    obtain rfl : i = c := by omega
    have HVd : Hid (RowKit.Below wA.heap.size wA w1.drew) := HV.out.drew
    by_cases hin : i < n
    · have g2 : (i : Int) < (n : Int) := by omega
      have g3 : decide ((i : Int) < (n : Int)) = true := decide_eq_true g2
      obtain ⟨p, hp⟩ := HX.out i hin
      obtain ⟨g, hao, cp1, cp2⟩ := HP.out _ HV.out i p hp
      subst hao
      obtain ⟨r, Hr⟩ : ∃ r, Hid (cfZ p (a, b) = r) := ⟨_, rfl⟩
      have hQ := fun W' : World => ucompareB p (a, b) W'
      rw [Hr.out] at hQ
      obtain ⟨p1, p2⟩ := p
      have HQ := hid hQ
      have HK : Hid (∀ W' : World, RowKit.Below wA.heap.size wA W' → W'.cell? ⟨g, i * 2, none⟩ = some (.int .u64 p1) ∧ W'.cell? ⟨g, i * 2 + 1, none⟩ = some (.int .u64 p2) ∧ W'.cell? ⟨gt, 0, none⟩ = some (.int .u64 a) ∧ W'.cell? ⟨gt, 1, none⟩ = some (.int .u64 b)) := fun W' hb => by
        obtain ⟨g', hg', e1, e2⟩ := HP.out W' hb i (p1, p2) hp
        cases hg'
        exact ⟨e1, e2, (HT.out W' hb).1, (HT.out W' hb).2⟩
      clear hQ cp1 cp2 hp Hr
      go_wp2_with fail
      go_region_held3 (fun W' : World => W'.cell? ⟨g, i * 2, none⟩ = some (.int .u64 p1) ∧ W'.cell? ⟨g, i * 2 + 1, none⟩ = some (.int .u64 p2) ∧ W'.cell? ⟨gt, 0, none⟩ = some (.int .u64 a) ∧ W'.cell? ⟨gt, 1, none⟩ = some (.int .u64 b))
        (first | (with_reducible exact HK.out _ HV.out) | (with_reducible exact HK.out _ HVd.out) | (with_reducible exact HK.out _ HV2.out))
        (first | (refine (HQ.out _).mono ?_; rintro e w2 ⟨rfl, hb2⟩; have HV2 := hid (HVd.out.trans (hb2.mono HVd.out.size)); clear hb2))
      have HF := hid (HE.out _ HV2.out)
      clear HK HQ HV HVd
      go_wp2_with fail
      go_ret2
      exact ⟨_, rfl, by rw [Hgt.out]; exact HF⟩
    · have g2 : ¬ (i : Int) < (n : Int) := by omega
      have g3 : decide ((i : Int) < (n : Int)) = false := decide_eq_false g2
      go_wp2_with fail
      go_quiet (fail)
      have HF := hid (HE.out _ (HV.out.trans (⟨rfl, rfl, rfl, Nat.le_refl _, fun _ _ => rfl⟩ : RowKit.Below wA.heap.size w1 (w1.drewN nq))))
      go_wp2_with fail
      go_ret2
      exact ⟨_, rfl, by rw [Hgt.out]; exact HF⟩
set_option maxHeartbeats 4000000 in
theorem stands_any {W : World} {B : Nat} {s : Int} {e M : Nat} {v : Value} {L : List Int} {P : List (Int × Int)} (h : RnAt W B s e M v L P) (x : Int) :
    Calls Try.prog 33 #[.pointer (some ⟨B, 0, none⟩), .int .u64 x] W fun r w' => r = .returned (.int .i64 (cntP P (atZ s x, 0))) ∧ Hid (RowKit.Below W.heap.size W w') := by
  obtain ⟨c, Hc⟩ : ∃ c, Hid (cntP P (atZ s x, 0) = c) := ⟨_, rfl⟩
  rw [Hc.out]
  obtain ⟨a, Ha⟩ : ∃ a, Hid (atZ s x = a) := ⟨_, rfl⟩
  have hA := fun W' : World => at_any s x W'
  rw [Ha.out] at hA
  rw [Ha.out] at Hc
  have HA := hid hA
  have HB := hid fun (W' : World) (hb : RowKit.Below W.heap.size W W') => ubin (h.below hb).row h.srt (by have := h.pmax; omega) a 0
  rw [Hc.out] at HB
  have HK : Hid (∀ W' : World, RowKit.Below W.heap.size W W' → W'.cell? ⟨B, 0, none⟩ = some (.int .u64 s) ∧ W'.cell? ⟨B, 3, none⟩ = some v) := fun W' hb => ⟨(h.below hb).obj.cells.1, (h.below hb).obj.cells.2.2.2⟩
  have HV := hid (RowKit.Below.refl W.heap.size W)
  have HVd : Hid (RowKit.Below W.heap.size W W.drew) := HV.out.drew
  clear h hA Hc
  go_enter Try.func33, Try.ntmps33
  go_wp2_with fail
  go_region_held3 (fun W' : World => W'.cell? ⟨B, 0, none⟩ = some (.int .u64 s) ∧ W'.cell? ⟨B, 3, none⟩ = some v)
    (first | (with_reducible exact HK.out _ HV.out) | (with_reducible exact HK.out _ HVd.out) | (with_reducible exact HK.out _ HV2.out))
    (first
      | (go_at_call 41; (with_reducible refine (HA.out _).mono ?_); rintro r w1 ⟨rfl, rfl⟩)
      | (go_at_call 47; (with_reducible refine (HB.out _ HVd.out).mono ?_); rintro r w2 ⟨u, rfl, Hb2⟩; have HV2 := hid (HVd.out.trans (Hb2.out.mono HVd.out.size)); clear Hb2))
  clear HK HA HB
  go_wp2_with fail
  go_ret
  exact ⟨rfl, HV2⟩
end Go.Proofs.Ytaiojhigomdocaa
