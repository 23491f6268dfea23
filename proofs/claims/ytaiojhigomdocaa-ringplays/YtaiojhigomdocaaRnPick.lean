/-
  boundOf, Bound, Pick.
-/
import Derived.Test.YtaiojhigomdocaaRnLd
namespace Go.Proofs.Ytaiojhigomdocaa
open Go.RowKit Go.Maps Go.Shelf Go.Sort
set_option linter.unusedVariables false
set_option maxRecDepth 1000000

theorem nodup_len : ∀ (l L : List Int), l.Nodup → (∀ x ∈ l, x ∈ L) → l.length ≤ L.length
  | [], L, _, _ => by simp
  | x :: l, L, hnd, hs => by
    rw [List.nodup_cons] at hnd
    have hx : x ∈ L := hs x (by simp)
    have hl := List.length_erase_of_mem hx
    have hpos : 0 < L.length := List.length_pos_of_mem hx
    have := nodup_len l (L.erase x) hnd.2 (fun z hz => (List.mem_erase_of_ne (fun e : z = x => hnd.1 (by rw [← e]; exact hz))).2 (hs z (by simp [hz])))
    simp
    omega
theorem RsAt.len {W : World} {M r : Nat} {L ss : List Int} {cnt : Nat} (h : RsAt W M r L ss cnt) : ss.length ≤ L.length := by
  obtain ⟨D, left, h1, h2, h3, h4, h5⟩ := h
  refine nodup_len ss L h2.1 fun x hx => ?_
  have := ((h2.2.2 x (h2.2.1 x hx)).1 hx).1
  rw [h3 x (h2.2.1 x hx)] at this
  simpa using this
set_option maxHeartbeats 2000000 in
theorem boundOf_any (a fac : Int) (n : Nat) (W : World) (ha : 0 ≤ a ∧ a ≤ 67108864) (hn : 1 ≤ n ∧ n ≤ 64) :
    Calls Try.prog 37 #[.int .i64 a, .int .i64 fac, .int .i64 n] W fun r w' => r = .returned (.int .i64 (((a + 1) * facZ fac + 100 * n - 1) / (100 * n))) ∧ w' = W := by
  obtain ⟨fc, Hfc⟩ : ∃ fc, Hid (facZ fac = fc) := ⟨_, rfl⟩
  rw [Hfc.out]
  have hfc : 100 ≤ fc ∧ fc ≤ 10000 := by rw [← Hfc.out]; unfold facZ; omega
  obtain ⟨a1, Ha1⟩ : ∃ a1, Hid (a + 1 = a1) := ⟨_, rfl⟩
  have ha1 : 1 ≤ a1 ∧ a1 ≤ 67108865 := by have := Ha1.out; omega
  obtain ⟨tm, Htm⟩ : ∃ tm, Hid (a1 * fc = tm) := ⟨_, rfl⟩
  have htm : 0 ≤ tm ∧ tm ≤ 671088650000 := by
    rw [← Htm.out]
    refine ⟨Int.mul_nonneg (by omega) (by omega), ?_⟩
    exact Int.le_trans (Int.mul_le_mul_of_nonneg_right ha1.2 (by omega)) (Int.le_trans (Int.mul_le_mul_of_nonneg_left hfc.2 (by omega)) (by omega))
  obtain ⟨by1, Hby⟩ : ∃ b, Hid (100 * (n : Int) = b) := ⟨_, rfl⟩
  have hby : 100 ≤ by1 ∧ by1 ≤ 6400 := by have := Hby.out; omega
  obtain ⟨q, Hq⟩ : ∃ q, Hid ((tm + by1 - 1) / by1 = q) := ⟨_, rfl⟩
  have hpost : ((a + 1) * fc + 100 * (n : Int) - 1) / (100 * (n : Int)) = q := by rw [Ha1.out, Htm.out, Hby.out, Hq.out]
  rw [hpost]
  clear hpost
  have w1 : IntKind.i64.wrap (a + 1) = a1 := by rw [Ha1.out]; exact wrap64_in (by omega) (by omega)
  have w2 : IntKind.i64.wrap (a1 * fc) = tm := by rw [Htm.out]; exact wrap64_in (by omega) (by omega)
  have w3 : IntKind.i64.wrap (100 * (n : Int)) = by1 := by rw [Hby.out]; exact wrap64_in (by omega) (by omega)
  have w4 : IntKind.i64.wrap (tm + by1) = tm + by1 := wrap64_in (by omega) (by omega)
  have w5 : IntKind.i64.wrap (tm + by1 - 1) = tm + by1 - 1 := wrap64_in (by omega) (by omega)
  have w6 : (tm + by1 - 1).tdiv by1 = q := by rw [Int.tdiv_eq_ediv_of_nonneg (by omega)]; exact Hq.out
  have hq : 0 ≤ q ∧ q ≤ 671088700000 := by
    rw [← Hq.out]
    exact ⟨Int.ediv_nonneg (by omega) (by omega), Int.le_trans (Int.ediv_le_self _ (by omega)) (by omega)⟩
  have w7 : IntKind.i64.wrap q = q := wrap64_in (by omega) (by omega)
  have hb0 : ¬ by1 = 0 := by omega
  have hb0' : (by1 == 0) = false := by simp; omega
  have hmx : min (max fac 100) 10000 = fc := Hfc.out
  go_enter Try.func37, Try.ntmps37
  go_wp2
  go_ret
  exact ⟨rfl, rfl⟩
set_option maxHeartbeats 4000000 in
theorem bound_any {W : World} {B : Nat} {s : Int} {e M : Nat} {v : Value} {L : List Int} {P : List (Int × Int)} (h : RnAt W B s e M v L P) {m : Nat} {f : Int → Int} (hl : LdAt W m f) (fac : Int) :
    Calls Try.prog 22 #[.pointer (some ⟨B, 0, none⟩), .map (some m), .int .i64 fac] W fun r w' => r = .returned (.int .i64 (bndZ f fac L)) ∧ Hid (RowKit.Below W.heap.size W w') := by
  have hM := made_yes h.obj.cells.2.1 h.each.1
  have c2 := h.obj.cells.2.2.1
  have hlen := fun ty => h.map.len ty
  obtain ⟨q, Hq⟩ : ∃ q, Hid (bndZ f fac L = q) := ⟨_, rfl⟩
  rw [Hq.out]
  by_cases h0 : L.length = 0
  · obtain rfl : 0 = q := by rw [← Hq.out]; unfold bndZ; rw [if_pos h0]
    rw [h0] at hlen
    have HV := hid (RowKit.Below.refl W.heap.size W)
    clear h hl Hq h0
    go_enter Try.func22, Try.ntmps22
    go_wp2_with fail
    refine hM.mono ?_
    rintro r w1 ⟨rfl, rfl⟩
    go_wp2_with fail
    go_ret
    exact ⟨rfl, HV⟩
  · obtain ⟨W2, cnt0, hrg, hrs, hbr⟩ := h.map.range
    have HQ : Hid (∀ ss : List Int, ss.Perm L → ((sumZ f ss + 1) * facZ fac + 100 * (L.length : Int) - 1) / (100 * (L.length : Int)) = q) := fun ss hp => by
      rw [sumZ_perm hp, ← Hq.out]; unfold bndZ; rw [if_neg h0]
    have HK := hid fun (W' : World) (hb : RowKit.Below W.heap.size W W') => (⟨(h.below hb).obj.cells.2.2.1, fun ty => (h.below hb).map.len ty, fun x hx => (hl.below hb).look hx⟩ : W'.cell? ⟨B, 2, none⟩ = some (.map (some M)) ∧ (∀ ty, (Builtin.len_ #[55] ty #[.map (some M)]).run Try.prog W' = .ok (.int .i64 L.length) W') ∧ ∀ x, isU x → (Instr.lookup 37 (.map (some m)) (.int .u64 x) false).run Try.prog W' = .ok (.int .i64 (f x)) W')
    have hL64 := h.len
    obtain ⟨n, Hn⟩ : ∃ n, Hid (L.length = n) := ⟨_, rfl⟩
    rw [Hn.out] at h0 HQ HK hL64 hlen
    have hn0 : ¬ (n : Int) = 0 := by omega
    have hn0' : ((n : Int) == 0) = false := by simp; omega
    have HR0 := hid hrs
    have HB0 := hid hbr
    have HM := hid h.map.lt
    have HSub : Hid (∀ (W' : World) (ss : List Int) (cnt : Nat), RsAt W' M W.heap.size L ss cnt → 0 ≤ sumZ f ss ∧ sumZ f ss ≤ 67108864) := by
      intro W' ss cnt hr
      have h1 := hr.len
      have h2 := sumZ_bd f ss
      rw [Hn.out] at h1
      omega
    clear h hl Hq hrs hbr
    obtain ⟨rr, Hrr⟩ : ∃ rr, Hid (W.heap.size = rr) := ⟨_, rfl⟩
    rw [Hrr.out] at hrg HR0 HSub
    go_enter Try.func22, Try.ntmps22
    go_wp2_with fail
    refine hM.mono ?_
    rintro r w1 ⟨rfl, rfl⟩
    clear hM
    go_wp2_with fail
    go_loopw [7] (fun z W' => ∃ (ss : List Int) (cnt : Nat), z = .int .i64 (sumZ f ss) ∧ Hid (RsAt W' M rr L ss cnt ∧ RowKit.Below w1.heap.size w1 W')) (fun _ W' => W'.rangeLeft M rr)
    case atStart => exact ⟨[], cnt0, rfl, ⟨HR0.out, HB0.out⟩⟩
    case round =>
    obtain ⟨ss, cnt, rfl, HI⟩ := hrel
    rename World => w3
    clear HR0 HB0
    obtain ⟨sm, Hsm⟩ : ∃ sm, Hid (sumZ f ss = sm ∧ 0 ≤ sm ∧ sm ≤ 67108864) := ⟨_, rfl, HSub.out _ _ _ HI.out.1⟩
    rw [Hsm.out.1]
    rcases HI.out.1.next 0 with ⟨hp, hrun⟩ | ⟨x, u, w4, cnt', hxU, hxL, hrun, hen, hrs', hlt, hfb⟩
    · have HE := hid (HQ.out ss hp)
      have hBo := boundOf_any sm fac n w3 Hsm.out.2 (by omega)
      rw [Hsm.out.1] at HE
      rw [HE.out] at hBo
      have c2' := (HK.out _ HI.out.2).1
      have hln := (HK.out _ HI.out.2).2.1
      clear hp
      go_wp2_with fail
      refine hBo.mono ?_
      rintro r w5 ⟨rfl, rfl⟩
      go_wp2_with fail
      go_ret
      exact ⟨rfl, HI.out.2⟩
    · have HB4 : Hid (RowKit.Below w1.heap.size w1 w4) := HI.out.2.trans (hfb.to (fun k hk => by rw [show k = rr from hk, ← Hrr.out]; exact Nat.le_refl _) HI.out.2.size)
      have HR4 := hid hrs'
      have hlk := (HK.out _ HB4.out).2.2 x hxU
      have hCn := counted_any (f x) w4
      obtain ⟨cz, Hcz⟩ : ∃ cz, Hid (cntZ (f x) = cz ∧ 0 ≤ cz ∧ cz ≤ 1048576) := ⟨_, rfl, cntZ_bd _⟩
      rw [Hcz.out.1] at hCn
      have hws : IntKind.i64.wrap (sm + cz) = sm + cz := by have := Hsm.out.2; have := Hcz.out.2; exact wrap64_in (by omega) (by omega)
      have HS4 : Hid (sumZ f (ss ++ [x]) = sm + cz) := by
        unfold Hid
        rw [sumZ_app, Hsm.out.1]
        simp only [sumZ, Hcz.out.1]
        omega
      have HLt : Hid (w4.rangeLeft M rr < w3.rangeLeft M rr) := by
        unfold Hid
        rw [hrs'.left, HI.out.1.left]
        exact hlt
      clear hrs' hlt hfb hxU hxL HI Hsm Hcz
      go_wp2_with fail
      refine hCn.mono ?_
      rintro r w5 ⟨rfl, rfl⟩
      go_wp2_with fail
      go_round
      case rel => exact ⟨ss ++ [x], cnt', by rw [HS4.out], ⟨HR4.out, HB4.out⟩⟩
      case measure => exact HLt.out
end Go.Proofs.Ytaiojhigomdocaa
