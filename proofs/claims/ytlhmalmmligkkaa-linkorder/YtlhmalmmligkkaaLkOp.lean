/-
  Package link: counters; made, full, lookAt, add; bytes.Clone.
-/
import Derived.Test.YtlhmalmmligkkaaLkSt
import Derived.BigQuiet
import Derived.Lib.SliceRun
import Derived.Deep.AppendLies
namespace Go.Proofs.Ytlhmalmmligkkaa
open Go.RowKit
set_option linter.unusedVariables false
set_option maxRecDepth 1000000
variable {B b : Nat} {w w' : World} {v : Value} {us : List Value} {S : Lm}

theorem cup_any (n k : Int) (w : World) (hn : isW n) (hk : isW k) : Calls Try.prog 30 #[.agg #[.int .u32 n, .int .u32 4294967295], .int .u32 k] w fun e w' => e = .returned (.agg #[.int .u32 (upZ n k), .int .u32 4294967295]) ∧ Hid (Below w.heap.size w w') := by
  obtain ⟨n0, n1⟩ := hn
  obtain ⟨k0, k1⟩ := hk
  by_cases h : 4294967295 - n < k
  · have e : upZ n k = 4294967295 := by unfold upZ; split <;> omega
    rw [e]
    go_enter Try.func30, Try.ntmps30
    go_wp2
    refine bodyPost_ret (v := .agg #[.int .u32 4294967295, .int .u32 4294967295]) (by simp [results, Try.results30, go_sem]; omega) rfl ⟨rfl, ?_⟩
    exact ((Below.refl _ _).alloc (Nat.le_refl _) _).alloc (by simp) _
  · have e : upZ n k = n + k := by unfold upZ; rw [if_pos (by omega)]
    rw [e]
    go_enter Try.func30, Try.ntmps30
    go_wp2
    refine bodyPost_ret (v := .agg #[.int .u32 (n + k), .int .u32 4294967295]) (by simp [results, Try.results30, go_sem]) rfl ⟨rfl, ?_⟩
    exact ((Below.refl _ _).alloc (Nat.le_refl _) _).alloc (by simp) _
theorem cn_any (n m : Int) (w : World) : Calls Try.prog 41 #[.agg #[.int .u32 n, .int .u32 m]] w fun e w' => e = .returned (.int .u32 n) ∧ Hid (Below w.heap.size w w') := by
  have HE : Hid (Below w.heap.size w (w.alloc (.cells #[.int .u32 n, .int .u32 m] 58))) := (Below.refl _ _).alloc (Nat.le_refl _) _
  go_enter Try.func41, Try.ntmps41
  go_wp2
  go_ret
  exact ⟨rfl, HE⟩
theorem cnew_any (w : World) : Calls Try.prog 27 #[.int .u32 4294967295] w fun e w' => e = .returned (.agg #[.int .u32 0, .int .u32 4294967295]) ∧ Hid (Below w.heap.size w w') := by
  go_enter Try.func27, Try.ntmps27
  go_wp2
  refine bodyPost_ret (v := .agg #[.int .u32 0, .int .u32 4294967295]) (by simp [results, Try.results27, go_sem]) rfl ⟨rfl, ?_⟩
  exact (Below.refl _ _).alloc (Nat.le_refl _) _
theorem lmade_yes (h : LkAt B w b v us S) : Calls Try.prog 40 #[.pointer (some ⟨b, 0, none⟩)] w fun e w' => e = .returned (.bool true) ∧ w' = w := by
  have c0 := h.cells.1
  have r0 : 0 < S.room := h.ok.r0
  have r1 := h.ok.r1
  clear h
  go_enter Try.func40, Try.ntmps40
  go_wp2
  go_ret
  exact ⟨rfl, rfl⟩
theorem lmade_nil (w : World) : Calls Try.prog 40 #[.pointer none] w fun e w' => e = .returned (.bool false) ∧ w' = w := by
  go_enter Try.func40, Try.ntmps40
  go_wp2
  go_ret
  exact ⟨rfl, rfl⟩
theorem lmade_zero {w : World} {b : Nat} (c0 : w.cell? ⟨b, 0, none⟩ = some (.int .i64 0)) : Calls Try.prog 40 #[.pointer (some ⟨b, 0, none⟩)] w fun e w' => e = .returned (.bool false) ∧ w' = w := by
  go_enter Try.func40, Try.ntmps40
  go_wp2
  go_ret
  exact ⟨rfl, rfl⟩
theorem len_r (ty : TypeId) (a : Option Addr) (n c : Nat) (W : World) : (Builtin.len_ #[27] ty #[.slice a n c]).run Try.prog W = .ok (.int .i64 n) W := by
  simp [Builtin.len_, run_underlying Try.underlying27, goInt]
theorem LkAt.vlen (h : LkAt B w b v us S) (ty : TypeId) (W : World) : (Builtin.len_ #[27] ty #[v]).run Try.prog W = .ok (.int .i64 S.ms.length) W := by
  rw [← h.len]
  rcases id h.row.2 with ⟨e, e0⟩ | ⟨g, cap, cur, e, _⟩
  · rw [e, e0]; exact len_r ..
  · rw [e]; exact len_r ..
theorem lfull_any (h : LkAt B w b v us S) : Calls Try.prog 35 #[.pointer (some ⟨b, 0, none⟩)] w fun e w' => e = .returned (.bool (decide (S.room ≤ S.ms.length))) ∧ Hid (Below w.heap.size w w') := by
  have c0 := h.cells.1
  have c1 := h.cells.2.1
  have hlen := h.vlen
  have r1 := h.ok.r1
  have r2 := h.ok.ms
  clear h
  go_enter Try.func35, Try.ntmps35
  go_wp2_with fail
  go_quiet (fail)
  go_wp2_with fail
  go_ret
  exact ⟨rfl, ⟨rfl, rfl, rfl, Nat.le_refl _, fun _ _ => rfl⟩⟩
/-- The value of the row, where there are messages. -/
theorem LkAt.form (h : LkAt B w b v us S) (h0 : 0 < S.ms.length) : ∃ g cap, v = .slice (some ⟨g, 0, none⟩) S.ms.length cap ∧ S.ms.length ≤ cap ∧ cap ≤ 9223372036854775807 := by
  rcases id h.row.2 with ⟨e, e0⟩ | ⟨g, cap, cur, e, _, _, h1, h2, _⟩
  · rw [h.len] at e0; omega
  · rw [h.len] at e h1; exact ⟨g, cap, e, h1, by unfold maxLen at h2; omega⟩
theorem LkAt.at (h : LkAt B w b v us S) {g cap : Nat} (e : v = .slice (some ⟨g, 0, none⟩) S.ms.length cap) {i : Nat} {u : Value} (hu : us[i]? = some u) : w.cell? ⟨g, i, none⟩ = some u := by
  have hr := h.row
  rw [e, h.len] at hr
  rw [hr.cellAt i (by rw [Nat.mul_one, ← h.len]; exact (List.getElem?_eq_some_iff.1 hu).1), hu]
theorem lookat_any (h : LkAt B w b v us S) {i : Nat} {u : Value} (hu : us[i]? = some u) : Calls Try.prog 34 #[.pointer (some ⟨b, 0, none⟩), .int .i64 i] w fun e w' => e = .returned u ∧ w' = w := by
  have hi : i < S.ms.length := by rw [← h.len]; exact (List.getElem?_eq_some_iff.1 hu).1
  obtain ⟨g, cap, hv, v1, v2⟩ := h.form (by omega)
  have c1 := h.cells.2.1
  have c2 := h.at hv hu
  have r1 := h.ok.r1
  have r2 := h.ok.ms
  subst hv
  clear h hu
  generalize S.ms.length = n at *
  go_enter Try.func34, Try.ntmps34
  go_wp2
  go_ret
  exact ⟨rfl, rfl⟩
theorem clone_any (a : Option Addr) (len cap : Nat) (zs : List Int) (w : World) (hr : Reads .u8 w a len cap zs) (hz : IsBytes zs) (hlen : len ≤ 140737488351232) :
    Calls Try.prog 37 #[.slice a len cap] w fun e w' => ∃ u, e = .returned u ∧ MsgAt w.heap.size w' u zs ∧ Hid (Below w.heap.size w w') := by
  obtain ⟨i0, hi, hz0, hz1, hz2⟩ := info_parts Try.info5
  cases a with
  | none =>
    obtain ⟨rfl, rfl⟩ := hr.bare rfl
    obtain rfl : zs = [] := List.eq_nil_of_length_eq_zero hr.size
    have heq : ∀ W : World, (binOp .eql 36 (.slice none 0 0) (.slice none 0 0)).run Try.prog W = .ok (.bool true) W := fun W => Lib.run_eql_slice_nil W _ _ none 0 0 0 0 Try.underlying36
    clear hr
    go_enter Try.func37, Try.ntmps37
    go_wp2
    go_ret
    exact ⟨_, rfl, ⟨World.ownsRow_nil _ _ _ _, hz, by simp⟩, Below.refl _ _⟩
  | some ad =>
    have heq : ∀ W : World, (binOp .eql 36 (.slice (some ad) len cap) (.slice none 0 0)).run Try.prog W = .ok (.bool false) W := fun W => Lib.run_eql_slice_nil W _ _ (some ad) len cap 0 0 Try.underlying36
    have HR : Hid (∀ W, Below w.heap.size w W → Reads .u8 W (some ad) len cap zs) := fun W hb => hr.below hb
    have HS : Hid (zs.length = len) := hr.size
    have HZ := hid hz
    clear hr hz
    have hb1 : Below w.heap.size w (w.alloc (.cells #[] 5)) := (Below.refl _ _).alloc (Nat.le_refl _) _
    have how0 : (w.alloc (.cells #[] 5)).ownsRow w.heap.size 5 1 (.slice (some ⟨w.heap.size, 0, none⟩) 0 0) 0 (([] : List Int).map (Value.int .u8)) := World.ownsRow_made w #[] 0 (Nat.le_refl _) (by decide) rfl
    go_enter Try.func37, Try.ntmps37
    go_wp2_with (at_builtin; refine append_any _ rfl (.tmp 5) (.tmp 6) 36 rfl w.heap.size 5 i0 (.int .u8 0) 1 Try.underlying36 hi hz0 hz1 hz2 rfl .u8 _ 0 [] rfl how0 (some ad) len cap zs rfl (HR.out _ hb1) (by omega) (by omega) hb1.size ?_; intro v' w1 how1 hb2)
    go_ret
    rw [List.nil_append, Nat.zero_add, ← HS.out] at how1
    exact ⟨_, rfl, ⟨how1, HZ.out, by rw [HS.out]; exact hlen⟩, hb1.trans hb2⟩
/-- What add leaves. -/
theorem ladd_end {u : Value} {zs : List Int} {v5 : Value} {W1 w5 : World} (h : LkAt B w b v us S) (hm : MsgAt B w u zs) (hu : ∀ k, u.ownBlock = some k → ¬ msF us k) (hl : S.ms.length < S.room) (h1 : W1 = w.alloc (.cells #[u] 36))
    (how : w5.ownsRow B 36 1 v5 (us.length + 1) (us ++ [u])) (hgr : W1.grownBy w5 v.ownBlock) (hat : v5.ownBlock = v.ownBlock ∨ v5.ownBlock = some W1.heap.size) :
    LkAt B (w5.setCell ⟨b, 1, none⟩ v5) b v5 (us ++ [u]) (S.put (S.ms ++ [zs])) ∧ Fb (rwF b v) w (w5.setCell ⟨b, 1, none⟩ v5) ∧ (∀ k, v5.ownBlock = some k → v.ownBlock = some k ∨ w.heap.size ≤ k) := by
  have f1 : Below w.heap.size w W1 := by rw [h1]; exact (Below.refl _ _).alloc (Nat.le_refl _) _
  have hs : W1.heap.size = w.heap.size + 1 := by rw [h1]; simp
  have fb0 := fb_grown hgr
  have hB1 := h.below f1
  have hb5 : w5.heap[b]? = some (.cells (LkC S.room v S.se S.ca S.dr S.tu) 60 (0, 0)) := fb0.one hB1.blk hB1.vb
  have hfr : Fb (rwF b v) w (w5.setCell ⟨b, 1, none⟩ v5) := (((Fb.of f1 : Fb (rwF b v) w W1).trans fb0 fun k hk => .inl (.inr hk))).trans (Fb.set (F := rwF b v) (p := ⟨b, 1, none⟩) (.inl rfl) _) fun k hk => .inl hk
  have hv5 : ∀ k, v5.ownBlock = some k → k ≠ b := fun k hk e => by
    obtain ⟨_, cur, hc⟩ := own_blkP how hk
    rw [e] at hc
    have := hc.symm.trans hb5
    cases this
  refine ⟨h.turn (row_set hb5) ?_ (by simp [h.len]) (fun i x ys hx hy => ?_) (nd_app h.nd hu) (by simp; omega), hfr, fun k hk => ?_⟩
  · rw [show (us ++ [u]).length = us.length + 1 by simp]
    exact own_blk how fun k hk => Below.heap_setCell _ _ _ _ (hv5 k hk)
  · have hx2 : MsgAt B w x ys := by
      by_cases hi : i < us.length
      · rw [List.getElem?_append_left hi] at hx
        rw [List.getElem?_append_left (by rw [← h.len]; exact hi)] at hy
        exact h.msg i x ys hx hy
      · have hi' : i < (us ++ [u]).length := (List.getElem?_eq_some_iff.1 hx).1
        rw [List.length_append, List.length_singleton] at hi'
        obtain rfl : i = us.length := by omega
        rw [List.getElem?_append_right (by omega)] at hx
        rw [h.len, List.getElem?_append_right (by omega)] at hy
        simp at hx hy
        subst hx hy
        exact hm
    exact hx2.same fun k hk => hfr.block k (hx2.lt hk).2 (h.off hx2 hk)
  · rcases hat with e | e
    · exact .inl (e.symm.trans hk)
    · rw [e] at hk
      cases hk
      exact .inr f1.size
theorem Try.info36 : (Try.prog.info? 36).map (fun i => (i.zero, i.size, i.bytes)) = some (some (.slice none 0 0), 1, 24) := by kernel_rfl
theorem LkAt.ones (h : LkAt B w b v us S) : ∀ u ∈ us, u.oneCell' = true := fun u hu => by
  obtain ⟨zs, hm⟩ := h.of hu
  exact hm.one
set_option maxHeartbeats 2000000 in
theorem ladd_any {u : Value} {zs : List Int} (h : LkAt B w b v us S) (hm : MsgAt B w u zs) (hu : ∀ k, u.ownBlock = some k → ¬ msF us k) (hl : S.ms.length < S.room) :
    Calls Try.prog 36 #[.pointer (some ⟨b, 0, none⟩), u] w fun e w' => e = .returned (.tuple #[]) ∧ Hid (∃ v', LkAt B w' b v' (us ++ [u]) (S.put (S.ms ++ [zs])) ∧ Fb (rwF b v) w w' ∧ (∀ k, v'.ownBlock = some k → v.ownBlock = some k ∨ w.heap.size ≤ k)) := by
  have c1 := h.cells.2.1
  obtain ⟨i0, hi, hz0, hz1, hz2⟩ := info_parts Try.info36
  obtain ⟨W1, hW1⟩ : ∃ W1, W1 = w.alloc (.cells #[u] 36) := ⟨_, rfl⟩
  have f1 : Below w.heap.size w W1 := by rw [hW1]; exact (Below.refl _ _).alloc (Nat.le_refl _) _
  have HO : Hid (W1.ownsRow B 36 1 v us.length us) := (h.below f1).row
  have HCC : Hid (W1.heap[w.heap.size]? = some (.cells #[u] 36 (0, 0))) := by unfold Hid; rw [hW1]; exact heap_alloc_new w _
  have HE : Hid (∀ v5 w5, w5.ownsRow B 36 1 v5 (us.length + 1) (us ++ [u]) → W1.grownBy w5 v.ownBlock → (v5.ownBlock = v.ownBlock ∨ v5.ownBlock = some W1.heap.size) → _) := fun v5 w5 a b c => ladd_end h hm hu hl hW1 a b c
  obtain ⟨ua, uc, rfl, _⟩ := hm.reads
  generalize zs.length = un at *
  have hBw : B ≤ W1.heap.size := by have := h.hb; have := h.blt; have := f1.size; omega
  have hnl : us.length ≤ 256 := by have := h.len; have := h.ok.r1; omega
  have hfb : Hid (∀ w5 : World, W1.grownBy w5 v.ownBlock → w5.frozen? ⟨b, 1, none⟩ = false ∧ w5.cell? ⟨b, 1, none⟩ = some v) := fun w5 hg => by
    have h5 := (fb_grown hg).one (h.below f1).blk (h.below f1).vb
    exact ⟨frozen_of_row _ _ 1 _ _ h5, by rw [cell_of_row _ _ _ _ _ _ h5]; rfl⟩
  clear h hm hu f1
  generalize us.length = n at *
  go_enter Try.func36, Try.ntmps36
  go_wp2_with (at_builtin; (first | rw [← hW1] | skip); refine wpList_append_own_at _ rfl (.tmp 8) (.tmp 10) 27 rfl B 36 i0 (.slice none 0 0) 1 24 Try.underlying27 hi hz0 hz1 hz2 rfl (by decide) _ n _ rfl HO.out ⟨w.heap.size, 0, none⟩ 1 1 [.slice ua un uc] rfl rfl (World.news_of_block HCC.out) (by intro x hx; simp at hx; subst hx; rfl) (by unfold maxLen; omega) (by omega) hBw ?_; intro v5 w5 how hgr _ hat; have HX := hid (HE.out v5 w5 how hgr hat); obtain ⟨f5, c5⟩ := hfb.out w5 hgr; obtain ⟨g5, d5, rfl, _⟩ := how.form (by omega); clear how hgr hat HE HO HCC hfb)
  go_end0
  exact ⟨rfl, _, HX.out⟩
end Go.Proofs.Ytlhmalmmligkkaa
