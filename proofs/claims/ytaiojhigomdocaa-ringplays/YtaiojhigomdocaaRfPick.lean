/-
  The document's ring: load, Bound, Pick.
-/
import Derived.Test.YtaiojhigomdocaaRfOrd
namespace Go.Proofs.Ytaiojhigomdocaa
open Go.RowKit Go.Maps Go.Shelf Go.Sort
set_option linter.unusedVariables false
set_option maxRecDepth 1000000

theorem rload_any {W : World} {m : Nat} {f : Int → Int} (hl : LdAt W m f) {x : Int} (hx : isU x) :
    Calls Try.prog 30 #[.map (some m), .int .u64 x] W fun r w' => r = .returned (.int .i64 (cntZ (f x))) ∧ w' = W := by
  have hk := hl.look hx
  obtain ⟨q, Hq⟩ : ∃ q, Hid (cntZ (f x) = q) := ⟨_, rfl⟩
  have hq : min (max (f x) 0) 1048576 = q := Hq.out
  rw [Hq.out]
  clear hl
  go_enter Try.func30, Try.ntmps30
  go_wp2
  go_ret
  exact ⟨rfl, rfl⟩
theorem ceil_eq {t d : Int} (hd : 0 < d) : (t + d - 1) / d = if t % d = 0 then t / d else t / d + 1 := by
  have e := Int.emod_add_mul_ediv t d
  have h1 := Int.emod_nonneg t (show d ≠ 0 by omega)
  have h2 := Int.emod_lt_of_pos t hd
  have e2 : t + d - 1 = (t % d + d - 1) + d * (t / d) := by omega
  rw [e2, Int.add_mul_ediv_left _ _ (show d ≠ 0 by omega)]
  split
  · rename_i h0
    rw [h0, Int.ediv_eq_zero_of_lt (by omega) (by omega)]
    omega
  · rename_i h0
    have e3 : t % d + d - 1 = (t % d - 1) + d * 1 := by omega
    rw [e3, Int.add_mul_ediv_left _ _ (show d ≠ 0 by omega), Int.ediv_eq_zero_of_lt (by omega) (by omega)]
    omega
set_option maxHeartbeats 4000000 in
theorem rbound_any {W : World} {B : Nat} {s : Int} {e : Nat} {u : Value} {l : List Int} (h : RfAt W B s e u l) (hU : ∀ y ∈ l, isU y) {m : Nat} {f : Int → Int} (hl : LdAt W m f) (fac : Int) :
    Calls Try.prog 23 #[.pointer (some ⟨B, 0, none⟩), .map (some m), .int .i64 fac] W fun r w' => r = .returned (.int .i64 (bndZ f fac l)) ∧ w' = W := by
  obtain ⟨a, cap, hu, hr⟩ := h.row.reads
  obtain ⟨n, Hn⟩ : ∃ n, Hid (l.length = n) := ⟨_, rfl⟩
  have hn : n ≤ 64 := by rw [← Hn.out]; exact h.len
  rw [Hn.out] at hu hr
  subst hu
  have c2 := h.obj.cells.2.2
  have HC := hid hr.cell
  have HRm : Hid (n ≤ cap ∧ cap ≤ 9223372036854775807) := ⟨hr.room, hr.most⟩
  have HU := hid hU
  have HLd := hid fun (x : Int) (hx : isU x) => rload_any hl hx
  obtain ⟨Z, HZ⟩ : ∃ q, Hid (bndZ f fac l = q) := ⟨_, rfl⟩
  rw [HZ.out]
  clear h hr hU hl
  by_cases h0 : n = 0
  · obtain rfl : 0 = Z := by rw [← HZ.out]; unfold bndZ; rw [if_pos (by rw [Hn.out]; exact h0)]
    subst h0
    go_enter Try.func23, Try.ntmps23
    go_wp2
    go_ret
    exact ⟨rfl, rfl⟩
  · have g0 : ¬ (n : Int) = 0 := by omega
    have g0' : ((n : Int) == 0) = false := by simp; omega
    obtain ⟨fc, Hfc⟩ : ∃ fc, Hid (facZ fac = fc) := ⟨_, rfl⟩
    have hfc : 100 ≤ fc ∧ fc ≤ 10000 := by rw [← Hfc.out]; unfold facZ; omega
    have hmx : min (max fac 100) 10000 = fc := Hfc.out
    have HSb : Hid (∀ k, 0 ≤ sumZ f (l.take k) ∧ sumZ f (l.take k) ≤ 67108864) := fun k => by
      have h1 := sumZ_bd f (l.take k)
      have h2 := List.length_take_le' k l
      have h3 := Hn.out
      have : (l.take k).length ≤ 64 := by omega
      omega
    go_enter Try.func23, Try.ntmps23
    go_wp2_with fail
    go_loopw [7, 8] (fun y z W' => ∃ (k : Nat) (t : Int), k ≤ n ∧ y = .int .i64 t ∧ z = .int .i64 k ∧ Hid (sumZ f (l.take k) + 1 = t) ∧ W' = W) (fun _ z _ => n - (intOf z).toNat)
    case atStart => exact ⟨0, 1, by omega, rfl, rfl, by unfold Hid; simp [sumZ], rfl⟩
    case round =>
    obtain ⟨k, t, hk, rfl, rfl, HT, rfl⟩ := hrel
    have ht : 1 ≤ t ∧ t ≤ 67108865 := by have := HSb.out k; have := HT.out; omega
    by_cases hkn : k < n
    · have g1 : (k : Int) < (n : Int) := by omega
      obtain ⟨b, off, rfl, hc⟩ := HC.out k hkn
      obtain ⟨y, Hy⟩ : ∃ y, Hid (l[k]? = some y) := ⟨l[k]'(by rw [Hn.out]; exact hkn), List.getElem?_eq_getElem _⟩
      rw [Hy.out] at hc
      have hc' : wr.cell? ⟨b, off + k, none⟩ = some (.int .u64 y) := hc
      have hLd := HLd.out y (HU.out y (List.mem_of_getElem? Hy.out))
      obtain ⟨q, Hq⟩ : ∃ q, Hid (cntZ (f y) = q) := ⟨_, rfl⟩
      have hq := cntZ_bd (f y)
      rw [Hq.out] at hLd hq
      obtain ⟨t2, ht2⟩ : ∃ t2, t + q = t2 := ⟨_, rfl⟩
      have hw : IntKind.i64.wrap t2 = t2 := wrap64_in (by omega) (by omega)
      have HT2 : Hid (sumZ f (l.take (k + 1)) + 1 = t2) := by
        unfold Hid
        rw [List.take_add_one, Hy.out, sumZ_app]
        show sumZ f (l.take k) + sumZ f [y] + 1 = t2
        simp only [sumZ]
        rw [Hq.out]
        have := HT.out
        omega
      clear hc
      go_wp2_with fail
      refine hLd.mono ?_
      rintro r w3 ⟨rfl, rfl⟩
      clear hLd
      go_wp2_with fail
      go_round
      case rel => exact ⟨k + 1, t2, by omega, rfl, by go_num, HT2, by first | rfl | trivial⟩
      case measure => simp [intOf]; omega
    · have g1 : ¬ (k : Int) < (n : Int) := by omega
      obtain rfl : k = n := by omega
      obtain ⟨d, Hd⟩ : ∃ d, Hid (100 * (k : Int) = d) := ⟨_, rfl⟩
      have hd : 100 ≤ d ∧ d ≤ 6400 := by have := Hd.out; omega
      obtain ⟨tm, Htm⟩ : ∃ tm, Hid (t * fc = tm) := ⟨_, rfl⟩
      have htm : 0 ≤ tm ∧ tm ≤ 671088650000 := by
        rw [← Htm.out]
        refine ⟨Int.mul_nonneg (by omega) (by omega), ?_⟩
        exact Int.le_trans (Int.mul_le_mul_of_nonneg_right ht.2 (by omega)) (Int.le_trans (Int.mul_le_mul_of_nonneg_left hfc.2 (by omega)) (by omega))
      obtain ⟨qq, Hqq⟩ : ∃ qq, Hid (tm / d = qq) := ⟨_, rfl⟩
      have hqq : 0 ≤ qq ∧ qq ≤ 671088650000 := by
        rw [← Hqq.out]
        exact ⟨Int.ediv_nonneg (by omega) (by omega), Int.le_trans (Int.ediv_le_self _ (by omega)) (by omega)⟩
      obtain ⟨rr, Hrr⟩ : ∃ rr, Hid (tm % d = rr) := ⟨_, rfl⟩
      have hrr : 0 ≤ rr ∧ rr < 6400 := by
        rw [← Hrr.out]
        exact ⟨Int.emod_nonneg _ (by omega), Int.lt_of_lt_of_le (Int.emod_lt_of_pos _ (by omega)) hd.2⟩
      have w2 : IntKind.i64.wrap (t * fc) = tm := by rw [Htm.out]; exact wrap64_in (by omega) (by omega)
      have w3 : IntKind.i64.wrap (100 * (k : Int)) = d := by rw [Hd.out]; exact wrap64_in (by omega) (by omega)
      have w6 : tm.tdiv d = qq := by rw [Int.tdiv_eq_ediv_of_nonneg (by omega)]; exact Hqq.out
      have w8 : tm.tmod d = rr := by rw [Int.tmod_eq_emod_of_nonneg (by omega)]; exact Hrr.out
      have w7 : IntKind.i64.wrap qq = qq := wrap64_in (by omega) (by omega)
      have w9 : IntKind.i64.wrap rr = rr := wrap64_in (by omega) (by omega)
      have w10 : IntKind.i64.wrap (qq + 1) = qq + 1 := wrap64_in (by omega) (by omega)
      have hd0 : ¬ d = 0 := by omega
      have hd0' : (d == 0) = false := by simp; omega
      have HE : Hid (Z = if rr = 0 then qq else qq + 1) := by
        have h2 := HT.out
        rw [List.take_of_length_le (by rw [Hn.out]; exact Nat.le_refl _)] at h2
        unfold Hid
        rw [← HZ.out]
        unfold bndZ
        rw [if_neg (by rw [Hn.out]; exact h0), h2, Hfc.out, Htm.out, Hn.out, Hd.out, ceil_eq (by omega), Hqq.out, Hrr.out]
      by_cases hr0 : rr = 0
      · have HE2 : Hid (Z = qq) := by
          have := HE.out
          rw [if_pos hr0] at this
          exact this
        subst hr0
        go_wp2_with fail
        go_ret
        exact ⟨by rw [HE2.out]; rfl, rfl⟩
      · have HE2 : Hid (Z = qq + 1) := by
          have := HE.out
          rw [if_neg hr0] at this
          exact this
        have hr0' : (rr == 0) = false := by simp; omega
        go_wp2_with fail
        go_ret
        exact ⟨by rw [HE2.out]; rfl, rfl⟩
set_option maxHeartbeats 4000000 in
theorem rpick_any {W : World} {B : Nat} {s : Int} {e : Nat} {u : Value} {l : List Int} (h : RfAt W B s e u l) (hs : l.Pairwise (· < ·)) (hU : ∀ y ∈ l, isU y) {m : Nat} {f : Int → Int} (hl : LdAt W m f) (x fac : Int) {R : List Int} (hR : R.Pairwise (nlt fun y => nearZ s e y (atZ s x))) (hp : R.Perm l) :
    Calls Try.prog 17 #[.pointer (some ⟨B, 0, none⟩), .int .u64 x, .map (some m), .int .i64 fac] W fun r w' => r = .returned (.tuple #[.int .u64 (pickZ f (bndZ f fac l) R).1, .int .i64 (pickZ f (bndZ f fac l) R).2]) ∧ Hid (RowKit.Below W.heap.size W w') := by
  have hO := rorder_any h hs x hR hp
  obtain ⟨n, Hn⟩ : ∃ n, Hid (R.length = n) := ⟨_, rfl⟩
  have hn : n ≤ 64 := by rw [← Hn.out, hp.length_eq]; exact h.len
  rw [Hn.out] at hO
  have HB := hid fun (W' : World) (hb : RowKit.Below W.heap.size W W') => rbound_any (h.below hb) hU (hl.below hb) fac
  obtain ⟨b, Hb⟩ : ∃ b, Hid (bndZ f fac l = b) := ⟨_, rfl⟩
  rw [Hb.out] at HB ⊢
  have HLd := hid fun (W' : World) (hb : RowKit.Below W.heap.size W W') (x : Int) (hx : x ∈ R) => rload_any (hl.below hb) (hU x (hp.mem_iff.1 hx))
  obtain ⟨Z, HZ⟩ : ∃ Z, Hid (pickZ f b R = Z) := ⟨_, rfl⟩
  rw [HZ.out]
  clear h hs hU hl hR hp
  go_enter Try.func17, Try.ntmps17
  go_wp2_with fail
  refine hO.mono ?_
  rintro r w3 ⟨u3, rfl, H3⟩
  clear hO
  obtain ⟨a, cap, rfl, hr⟩ := Reads.own (k := .u64) H3.out.1
  have HB3 := hid H3.out.2
  have HRd := hid hr
  have hB := HB.out _ HB3.out
  clear hr H3 HB
  go_wp2_with fail
  refine hB.mono ?_
  rintro r w4 ⟨rfl, rfl⟩
  clear hB
  go_wp2_with fail
  go_loopw [12] (fun z W' => ∃ k : Nat, k ≤ n ∧ z = .int .i64 k ∧ Hid ((R.take k).find? (fun y => decide (cntZ (f y) < b)) = none) ∧ W' = w4) (fun z _ => n - (intOf z).toNat)
  case atStart => exact ⟨0, by omega, rfl, by unfold Hid; simp, rfl⟩
  case round =>
  obtain ⟨k, hk, rfl, HF, rfl⟩ := hrel
  by_cases hkn : k < n
  · have g1 : (k : Int) < (n : Int) := by omega
    obtain ⟨g, off, rfl, hc⟩ := HRd.out.cell k hkn
    obtain ⟨y, Hy⟩ : ∃ y, Hid (R[k]? = some y) := ⟨R[k]'(by rw [Hn.out]; exact hkn), List.getElem?_eq_getElem _⟩
    rw [Hy.out] at hc
    have hc' : wr.cell? ⟨g, off + k, none⟩ = some (.int .u64 y) := hc
    have hLd := HLd.out _ HB3.out y (List.mem_of_getElem? Hy.out)
    obtain ⟨q, Hq⟩ : ∃ q, Hid (cntZ (f y) = q) := ⟨_, rfl⟩
    rw [Hq.out] at hLd
    have HS := hid (find_snoc HF.out Hy.out)
    have HRm : Hid (n ≤ cap ∧ cap ≤ 9223372036854775807) := ⟨HRd.out.room, HRd.out.most⟩
    clear hc
    go_wp2_with fail
    refine hLd.mono ?_
    rintro r w5 ⟨rfl, rfl⟩
    clear hLd
    by_cases hq : q < b
    · obtain rfl : (y, 0) = Z := by
        rw [← HZ.out]
        unfold pickZ
        rw [HS.out.1 (by simp [Hq.out, hq])]
      go_wp2_with fail
      go_ret2
      exact ⟨rfl, HB3⟩
    · have HN : Hid ((R.take (k + 1)).find? (fun y => decide (cntZ (f y) < b)) = none) := HS.out.2 (by simp [Hq.out, hq])
      go_wp2_with fail
      go_round
      case rel => exact ⟨k + 1, by omega, by go_num, HN, by first | rfl | trivial⟩
      case measure => simp [intOf]; omega
  · have g1 : ¬ (k : Int) < (n : Int) := by omega
    obtain rfl : (0, 6) = Z := by
      rw [← HZ.out]
      have := HF.out
      rw [List.take_of_length_le (by rw [Hn.out]; omega)] at this
      unfold pickZ
      rw [this]
    go_wp2_with fail
    go_ret2
    exact ⟨rfl, HB3⟩
end Go.Proofs.Ytaiojhigomdocaa
