/-
  A mark's tokens.
-/
import Derived.Test.YtdchoegaindnbaaPtAll
import Derived.Lib.ConvBytes
namespace Go.Proofs.Ytdchoegaindnbaa
open Go.RowKit
set_option linter.unusedVariables false
set_option maxRecDepth 1000000

theorem bytes_conv {zs : List Int} (hz : IsBytes zs) (hl : zs.length ≤ 100000) (w : World) : (convert 9 75 (.string (strOfNums zs))).run Try.prog w = .ok (.slice (some ⟨w.heap.size, 0, none⟩) zs.length (grownCap w zs.length 0 5)) (Lib.bytesWorld w 5 (strOfNums zs)) ∧ Reads .u8 (Lib.bytesWorld w 5 (strOfNums zs)) (some ⟨w.heap.size, 0, none⟩) zs.length (grownCap w zs.length 0 5) zs ∧ Gw w (Lib.bytesWorld w 5 (strOfNums zs)) := by
  have hs : (strOfNums zs).size = zs.length := strOfNums_size _
  have h := Lib.run_convert_string_bytes (P := Try.prog) w 9 75 5 (strOfNums zs) Try.underlying9 Try.underlying75 Try.underlying5
  have hd := run_drawn _ _ _ _ _ h
  rw [hs] at h
  refine ⟨h, ⟨rfl, grownCap_ge _ _ _ _, ?_, (fun e => by cases e), fun i hi => ⟨w.heap.size, 0, rfl, ?_⟩⟩, ⟨rfl, rfl, rfl, by rw [Lib.bytesWorld_size]; omega, fun k hk => Lib.bytesWorld_at_old _ _ _ _ hk⟩, hd⟩
  · have := grownCap_le_maxLen w zs.length 0 5 (by unfold maxLen; omega)
    unfold maxLen at this
    omega
  · rw [Nat.zero_add, Lib.bytesWorld_cell _ _ _ _ (by rw [hs]; exact hi)]
    have hb := hz.at i
    rw [strOfNums_data, List.getD_eq_getElem?_getD, List.getElem?_map, List.getElem?_eq_getElem hi] at *
    simp at hb ⊢
    omega
/-- 'make' of m numbers. -/
theorem make_i64s (w : World) (m : Nat) (hm : m ≤ 1001) : (Instr.makeSlice 88 (.int .i64 (m : Int)) (.int .i64 (m : Int))).run Try.prog w = .ok (.slice (some ⟨w.heap.size, 0, none⟩) m m) (w.alloc (.cells (madeCells #[.int .i64 0] m) 2)) := by
  obtain ⟨i0, hi, hz0, hz1, hz2⟩ := info_parts Try.info2
  have := run_make (P := Try.prog) w 88 2 i0 (.int .i64 0) Try.underlying88 hi hz0 .i64 .i64 (m : Int) (m : Int) (by omega) (Int.le_refl _) (by rw [hz2]; omega) (by omega)
  rw [this, hz1, Int.toNat_natCast, Nat.mul_one]
  rfl
theorem map_set2 (f g : Int → Int) (hfg : ∀ y, f (g y) = y) (ts : List Int) {k : Nat} (h : k < ts.length) : (ts.take k ++ List.replicate (ts.length - k) 0).set k (f (((ts.map g)[k]?).getD 0)) = ts.take (k + 1) ++ List.replicate (ts.length - (k + 1)) 0 := by
  have e : f (((ts.map g)[k]?).getD 0) = ts[k]?.getD 0 := by simp [h, hfg]
  rw [e, List.set_append_right _ _ (by simp; omega), take_snoc h, List.append_assoc]
  congr 1
  rw [show ts.length - k = ts.length - (k + 1) + 1 by omega, List.replicate_succ]
  simp [Nat.min_eq_left (Nat.le_of_lt h)]
set_option maxHeartbeats 4000000 in
theorem tokens_any {W : World} {m : Mk} (h : MkB W m) (hk : m.ok) : Calls Try.prog 52 #[.pointer (some ⟨m.blk, 0, none⟩)] W fun r w' => ∃ a c, r = .returned (.slice a m.toks.length c) ∧ Hid (Gw W w' ∧ Reads .i64 w' a m.toks.length c m.toks) := by
  have HM := hid fun (w : World) (hg : Gw W w) => h.below hg.1
  have HT := hid fun (w : World) (hg : Gw W w) => mtext_any (h.below hg.1) hk
  have hlz : (txZ m.toks).length ≤ 10000 := by have := txZ_len hk.2.1; have := hk.2.2.1; omega
  have HC := hid fun w : World => bytes_conv (txZ_bytes m.toks) (by omega) w
  have HAll := hid fun (w : World) (a : Option Addr) (c : Nat) (hr : Reads .u8 w a (txZ m.toks).length c (txZ m.toks)) => all_back a _ c (m.toks.map foldZ) w hr (fold_u64 hk.2.1) (by omega) (N := m.toks.length) (by simp)
  have hN : m.toks.length ≤ 1000 := hk.2.2.1
  have HI := hid hk.2.1
  obtain ⟨cw, Hcw⟩ : ∃ cw : World → World, Hid (cw = fun w => Lib.bytesWorld w 5 (strOfNums (txZ m.toks))) := ⟨_, rfl⟩
  obtain ⟨cc, Hcc⟩ : ∃ cc : World → Nat, Hid (cc = fun w => grownCap w (txZ m.toks).length 0 5) := ⟨_, rfl⟩
  obtain ⟨n, Hn⟩ : ∃ n, Hid ((txZ m.toks).length = n) := ⟨_, rfl⟩
  obtain ⟨s, Hs⟩ : ∃ s, Hid (strOfNums (txZ m.toks) = s) := ⟨_, rfl⟩
  have hcv : ∀ w, (convert 9 75 (.string s)).run Try.prog w = .ok (.slice (some ⟨w.heap.size, 0, none⟩) n (cc w)) (cw w) := fun w => by
    rw [Hcw.out, Hcc.out, ← Hs.out, ← Hn.out]
    exact (HC.out w).1
  have HRd : Hid (∀ w, Reads .u8 (cw w) (some ⟨w.heap.size, 0, none⟩) n (cc w) (txZ m.toks) ∧ Gw w (cw w)) := fun w => by
    rw [Hcw.out, Hcc.out, ← Hn.out]
    exact (HC.out w).2
  rw [Hn.out] at HAll
  rw [Hs.out] at HT
  have HG0 : Hid (Gw W W.drew) := (Gw.refl W).drew
  have HK0 := hid (HM.out _ (Gw.refl W)).cells.2.2.1
  have HK1 := hid (HM.out _ HG0.out).cells.2.2.1
  clear HC h hk Hcw Hcc Hn Hs hlz
  have c2 := HK1.out
  go_enter Try.func52, Try.ntmps52
  go_wp2_with fail
  go_region_with (first
    | (go_at_call 26; refine (HT.out _ HG0.out).mono ?_; rintro r w2 ⟨rfl, H2⟩; have HG2 : Hid (Gw W w2) := (by obtain ⟨q, rfl⟩ := H2; exact HG0.out.drewN q); have c3 := (HM.out _ HG2.out).cells.2.2.1; have HG3 : Hid (Gw W (cw w2)) := HG2.out.trans (HRd.out w2).2; have c4 := (HM.out _ HG3.out).cells.2.2.1; clear H2)
    | (go_at_call 59; refine (HAll.out _ _ _ (HRd.out w2).1).mono ?_; rintro r w5 ⟨v5, rfl, H5⟩))
  all_goals
    have HG5 : Hid (Gw W w5) := HG3.out.trans H5.out.1
    obtain ⟨a5, c5, e5, hr5⟩ := Reads.own (k := .u64) H5.out.2
    subst e5
    have HR5 := hid hr5
    have hmk := make_i64s w5 m.toks.length (by omega)
    have HO6 := hid (OwnN.made .i64 2 w5 m.toks.length (by omega))
    have HG6 : Hid (Gw W (w5.alloc (.cells (madeCells #[.int .i64 0] m.toks.length) 2))) := HG5.out.alloc _
    have HB6 : Hid (Below w5.heap.size w5 (w5.alloc (.cells (madeCells #[.int .i64 0] m.toks.length) 2))) := (Below.refl _ _).alloc (Nat.le_refl _) _
    obtain ⟨w6, Hw6⟩ : ∃ w6, Hid (w5.alloc (.cells (madeCells #[.int .i64 0] m.toks.length) 2) = w6) := ⟨_, rfl⟩
    rw [Hw6.out] at hmk HO6 HG6 HB6
    obtain ⟨g, Hg⟩ : ∃ g, Hid (w5.heap.size = g) := ⟨_, rfl⟩
    rw [Hg.out] at hmk HO6 HB6
    have HBg : Hid (W.heap.size ≤ g) := by rw [← Hg.out]; exact HG5.out.1.size
    clear hr5 H5 c3 c4 c2 hcv HT HAll HRd HK0 HK1 HG0 HG2 HG3 Hw6
    obtain ⟨N, HN⟩ : ∃ N, Hid (m.toks.length = N) := ⟨_, rfl⟩
    rw [HN.out] at hmk HO6 HR5 hN ⊢
    go_wp2_with fail
    go_loopw [24] (fun z w => ∃ k : Nat, k ≤ N ∧ z = .int .i64 k ∧ Hid (Gw W w ∧ Below g w5 w ∧ OwnN .i64 2 g g N N (m.toks.take k ++ List.replicate (N - k) 0) w)) (fun z _ => N - (intOf z).toNat)
    case atStart => exact ⟨0, Nat.zero_le _, rfl, HG6.out, HB6.out, by simpa using HO6.out⟩
    case round =>
    obtain ⟨k, hk, rfl, HK⟩ := hrel
    rename World => w7
    by_cases hlt : k < N
    · obtain ⟨b, off, rfl, hc0⟩ := (HR5.out.below (Hg.out ▸ HK.out.2.1)).cell k hlt
      have hu := (fold_u64 HI.out).at k
      have hF := unfold_any ((m.toks.map foldZ)[k]?.getD 0) w7 hu.1 hu.2
      have hc1 := HK.out.2.2.cell hlt
      have hf1 := HK.out.2.2.frozen k
      have rm := HR5.out.room
      have ms := HR5.out.most
      have HNx : Hid (Gw W (w7.setCell ⟨g, k, none⟩ (.int .i64 (unfoldZ ((m.toks.map foldZ)[k]?.getD 0)))) ∧ Below g w5 (w7.setCell ⟨g, k, none⟩ (.int .i64 (unfoldZ ((m.toks.map foldZ)[k]?.getD 0)))) ∧ OwnN .i64 2 g g N N (m.toks.take (k + 1) ++ List.replicate (N - (k + 1)) 0) (w7.setCell ⟨g, k, none⟩ (.int .i64 (unfoldZ ((m.toks.map foldZ)[k]?.getD 0))))) := by
        have hs : Below g w7 (w7.setCell ⟨g, k, none⟩ (.int .i64 (unfoldZ ((m.toks.map foldZ)[k]?.getD 0)))) := (Below.refl g w7).setCell (Nat.le_refl g) _
        refine ⟨⟨HK.out.1.1.trans (hs.mono HBg.out), HK.out.1.2⟩, HK.out.2.1.trans hs, ?_⟩
        have := HK.out.2.2.set k (unfoldZ ((m.toks.map foldZ)[k]?.getD 0))
        rw [← HN.out, map_set2 unfoldZ foldZ unfold_fold m.toks (by have := HN.out; omega), HN.out] at this
        exact this
      generalize (m.toks.map foldZ)[k]?.getD 0 = x at *
      generalize unfoldZ x = y at *
      clear HK HO6 HB6 hu
      go_wp2_with fail
      refine hF.mono ?_
      rintro r w8 ⟨rfl, rfl⟩
      clear hF
      go_wp2_with fail
      go_round
      case rel => exact ⟨k + 1, by omega, by go_num, HNx⟩
      case measure => simp [intOf]; omega
    · have hkl : k = N := by omega
      subst hkl
      have HE : Hid (Gw W w7 ∧ Reads .i64 w7 (some ⟨g, 0, none⟩) k k m.toks) := by
        refine ⟨HK.out.1, ?_⟩
        have := HK.out.2.2.reads
        rw [List.take_of_length_le (by have := HN.out; omega), Nat.sub_self] at this
        simpa using this
      clear HK HO6 HB6 HR5
      go_wp2_with fail
      go_ret
      rw [HN.out]
      exact ⟨_, _, rfl, HE⟩
end Go.Proofs.Ytdchoegaindnbaa
