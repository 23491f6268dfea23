/-
  alive; a tree that nobody made.
-/
import Derived.Test.YtdchoegaindnbaaPtArgs
namespace Go.Proofs.Ytdchoegaindnbaa
open Go.RowKit Go.Maps Go.Shelf
set_option linter.unusedVariables false
set_option maxRecDepth 1000000

/-- A pointer to no tree, or to one that New did not give. -/
def TrNo (W : World) (p : Option Addr) : Prop := p = none ∨ ∃ B, p = some ⟨B, 0, none⟩ ∧ W.cell? ⟨B, 0, none⟩ = some (.int .i64 0)
theorem TrNo.below {W W' : World} {p : Option Addr} (h : TrNo W p) (hb : Below W.heap.size W W') : TrNo W' p := h.imp id fun ⟨B, e, hc⟩ => ⟨B, e, (hb.cell (World.block_lt_of_cell? _ _ hc)).trans hc⟩
theorem made_no {W : World} {p : Option Addr} (h : TrNo W p) : Calls Try.prog 21 #[.pointer p] W fun r w' => r = .returned (.bool false) ∧ w' = W := by
  rcases h with rfl | ⟨B, rfl, hc⟩
  · exact made_nil W
  · exact made_zero hc
theorem no_put {W : World} {p : Option Addr} (h : TrNo W p) (v : Value) (x : Int) : Calls Try.prog 16 #[.pointer p, v, .int .u64 x] W fun r w' => r = .returned (.int .i64 0) ∧ w' = W := by
  have hM := made_no h
  clear h
  go_enter Try.func16, Try.ntmps16
  go_wp2_with fail
  refine hM.mono ?_
  rintro r w1 ⟨rfl, rfl⟩
  go_wp2_with fail
  go_ret
  exact ⟨rfl, rfl⟩
theorem no_match {W : World} {p : Option Addr} (h : TrNo W p) (v : Value) : Calls Try.prog 11 #[.pointer p, v] W fun r w' => r = .returned (.map none) ∧ Hid (Below W.heap.size W w') := by
  obtain ⟨w1, hw1⟩ : ∃ w1, w1 = W.alloc (.cells #[.pointer p] 23) := ⟨_, rfl⟩
  have hb1 : Below W.heap.size W w1 := by rw [hw1]; exact (Below.refl _ _).alloc (Nat.le_refl _) _
  have hM := made_no (h.below hb1)
  have HB := hid hb1
  clear h hb1
  go_enter Try.func11, Try.ntmps11
  go_wp2_with fail
  rw [← hw1]
  clear hw1
  refine hM.mono ?_
  rintro e w2 ⟨rfl, rfl⟩
  go_wp2_with fail
  go_ret
  exact ⟨rfl, HB⟩
theorem no_forget {W : World} {p : Option Addr} (h : TrNo W p) (x : Int) : Calls Try.prog 14 #[.pointer p, .int .u64 x] W fun r w' => r = .returned (.int .i64 0) ∧ Hid (Below W.heap.size W w') := by
  obtain ⟨w1, hw1⟩ : ∃ w1, w1 = (W.alloc (.cells #[.pointer p] 23)).alloc (.cells #[.int .u64 x] 33) := ⟨_, rfl⟩
  have hb1 : Below W.heap.size W w1 := by rw [hw1]; exact ((Below.refl _ _).alloc (Nat.le_refl _) _).alloc (by simp) _
  have hM := made_no (h.below hb1)
  have HB := hid hb1
  clear h hb1
  go_enter Try.func14, Try.ntmps14
  go_wp2_with fail
  rw [← hw1]
  clear hw1
  refine hM.mono ?_
  rintro e w2 ⟨rfl, rfl⟩
  go_wp2_with fail
  go_ret
  exact ⟨rfl, HB⟩
theorem no_len {W : World} {p : Option Addr} (h : TrNo W p) : Calls Try.prog 18 #[.pointer p] W fun r w' => r = .returned (.int .i64 0) ∧ w' = W := by
  have hM := made_no h
  clear h
  go_enter Try.func18, Try.ntmps18
  go_wp2_with fail
  refine hM.mono ?_
  rintro r w1 ⟨rfl, rfl⟩
  go_wp2_with fail
  go_ret
  exact ⟨rfl, rfl⟩
theorem no_has {W : World} {p : Option Addr} (h : TrNo W p) (v : Value) (x : Int) : Calls Try.prog 19 #[.pointer p, v, .int .u64 x] W fun r w' => r = .returned (.bool false) ∧ w' = W := by
  have hM := made_no h
  clear h
  go_enter Try.func19, Try.ntmps19
  go_wp2_with fail
  refine hM.mono ?_
  rintro r w1 ⟨rfl, rfl⟩
  go_wp2_with fail
  go_ret
  exact ⟨rfl, rfl⟩
theorem aft_new {B M : Nat} {L : List Mk} {W : World} (h : ∀ k, trF B M L k → k < W.heap.size) {g : Nat} (hg : W.heap.size ≤ g) {len : Nat} : Aft len (some ⟨g, 0, none⟩) (trF B M L) := fun _ ad e hF => by
  cases e
  have := h _ hF
  simp at this
  omega
theorem alive_put {c : Nat} {L' : List Mk} (h : PutS [] 7 [1, 2, 3] 5 2 1 c L') : c = 1 ∧ ∃ m, L' = [m] ∧ m.rep = 7 ∧ m.toks = [1, 2] := by
  obtain ⟨L2, Fr, h1, h2, h3, rfl⟩ := h
  have e2 : L2 = [] := List.eq_nil_iff_forall_not_mem.2 fun m hm => by
    have := h3.sub m hm
    simp [useK] at this
  have e3 : frJ [] 7 (List.take (5 * 2) [1, 2, 3]) 2 (min [(1 : Int), 2, 3].length (5 * 2) / 2) = [0] := rfl
  have h4 := h1.tks
  rw [e3] at h4
  have h5 : Fr.length = 1 := by have := congrArg List.length h4; simpa using this
  obtain ⟨m, rfl⟩ := List.length_eq_one_iff.1 h5
  refine ⟨by omega, m, by rw [e2]; rfl, h1.rep m (by simp), ?_⟩
  have h6 : [m.toks] = [bgT (List.take (5 * 2) [1, 2, 3]) 2 0] := h4
  rw [List.cons.injEq] at h6
  rw [h6.1]
  rfl
theorem alive_lg {m : Mk} (h1 : m.rep = 7) (h2 : m.toks = [1, 2]) {K : List Int} {f : Int → Int} (hn : K.Nodup) (h : LgP ([m].filter fun m => decide (m.toks <+: [1, 2])) K f) : K.length = 1 ∧ f 7 = 2 := by
  have e : ([m].filter fun m => decide (m.toks <+: [1, 2])) = [m] := by simp [h2]
  rw [e] at h
  have hk : ∀ r, r ∈ K ↔ r ∈ [(7 : Int)] := fun r => by
    rw [(h r).2.2]
    simp [h1, eq_comm]
  have hp : K.Perm [7] := (List.perm_ext_iff_of_nodup hn (by simp)).2 hk
  refine ⟨by rw [hp.length_eq]; rfl, ?_⟩
  obtain ⟨a1, a2, _⟩ := h 7
  have b1 := a1 m (by simp) h1
  rw [h2] at b1
  rcases a2 with ⟨e1, e2⟩ | ⟨x, hx, _, e3⟩
  · have := e2 m (by simp) h1
    rw [h2] at this
    simp at this
  · simp at hx
    rw [hx, h2] at e3
    simp at e3
    omega
theorem UmAt.nodup {W : World} {b : Nat} {K : List Int} {f : Int → Int} (h : UmAt W b K f) : K.Nodup := by obtain ⟨D, _, _, _, h4, _⟩ := h; exact h4
set_option maxHeartbeats 4000000 in
theorem alive17_any (W : World) : Calls Try.prog 8 #[] W fun e w' => e = .returned (.bool true) ∧ Hid (Below W.heap.size W w') := by
  have hN := pnew_yes 5 2 W (by omega) (by omega)
  go_enter Try.func8, Try.ntmps8
  go_wp2_with fail
  refine hN.mono ?_
  rintro r w1 ⟨rfl, H1⟩
  clear hN
  obtain ⟨B, HB⟩ : ∃ B, Hid (W.heap.size + 1 = B) := ⟨_, rfl⟩
  obtain ⟨M, HM⟩ : ∃ M, Hid (W.heap.size = M) := ⟨_, rfl⟩
  have HBw := hid H1.out.2
  replace H1 := hid H1.out.1
  rw [HB.out, HM.out] at H1
  rw [HB.out]
  have HLo : Hid (W.heap.size ≤ B ∧ W.heap.size ≤ M) := ⟨by have := HB.out; omega, by have := HM.out; omega⟩
  clear HB HM
  obtain ⟨w2, hw2⟩ : ∃ w2, w2 = w1.alloc (.cells #[.int .i64 1, .int .i64 2, .int .i64 3] 3) := ⟨_, rfl⟩
  have hb2 : Below w1.heap.size w1 w2 := by rw [hw2]; exact (Below.refl _ _).alloc (Nat.le_refl _) _
  have t2 := H1.out.below hb2
  have hr2 : Reads .i64 w2 (some ⟨w1.heap.size, 0, none⟩) 3 3 [1, 2, 3] := by rw [hw2]; exact Reads.lit w1 [1, 2, 3] 3 3 rfl (by omega)
  have hP := put_any17 t2 (by omega) hr2 (x := 7) (by intro y hy; simp at hy; rcases hy with rfl | rfl | rfl <;> exact ⟨by omega, by omega⟩) (by omega) ⟨by omega, by omega⟩ (aft_new (fun k hk => H1.out.lts hk) (Nat.le_refl _))
  have HB2 : Hid (Below W.heap.size W w2) := HBw.out.trans (hb2.mono HBw.out.size)
  clear t2 hr2 hb2
  go_wp2_with fail
  rw [← hw2]
  clear hw2
  with_reducible refine hP.mono ?_
  rintro r w3 ⟨c, rfl, H3⟩
  clear hP H1
  obtain ⟨L', hps, ho3⟩ := H3.out
  obtain ⟨rfl, m, rfl, m1, m2⟩ := alive_put hps
  have HT3 := hid ho3.1
  have HB3 : Hid (Below W.heap.size W w3) := by
    refine HB2.out.trans (ho3.2.1.to (B := W.heap.size) (fun k hk => ?_) HB2.out.size)
    rcases hk with rfl | rfl | ⟨y, hy, _⟩
    · exact HLo.out.1
    · exact HLo.out.2
    · simp at hy
  have HLo3 : Hid (W.heap.size ≤ m.blk) := by
    rcases ho3.2.2 m (by simp) with ⟨y, hy, _⟩ | h
    · simp at hy
    · have := HB2.out.size; unfold Hid; omega
  have Hm := hid (And.intro m1 m2)
  clear H3 hps ho3 m1 m2
  obtain ⟨w4, hw4⟩ : ∃ w4, w4 = w3.alloc (.cells #[.int .i64 1, .int .i64 2] 3) := ⟨_, rfl⟩
  have hb4 : Below w3.heap.size w3 w4 := by rw [hw4]; exact (Below.refl _ _).alloc (Nat.le_refl _) _
  have t4 := HT3.out.below hb4
  have hr4 : Reads .i64 w4 (some ⟨w3.heap.size, 0, none⟩) 2 2 [1, 2] := by rw [hw4]; exact Reads.lit w3 [1, 2] 3 2 rfl (by omega)
  have his : isIs [1, 2] := by intro y hy; simp at hy; rcases hy with rfl | rfl <;> exact ⟨by omega, by omega⟩
  have hMt := match_any t4 (by omega) hr4 his (by omega) (aft_new (fun k hk => HT3.out.lts hk) (Nat.le_refl _))
  have HB4 : Hid (Below W.heap.size W w4) := HB3.out.trans (hb4.mono HB3.out.size)
  clear t4 hr4 hb4
  go_wp2_with fail
  rw [← hw4]
  clear hw4
  with_reducible refine hMt.mono ?_
  rintro r w5 ⟨b, rfl, H5⟩
  clear hMt
  obtain ⟨ho5, hb5, K, f, hum, hlg⟩ := H5.out
  obtain ⟨hK1, hf7⟩ := alive_lg Hm.out.1 Hm.out.2 hum.nodup hlg
  have hu : useL [m] [1, 2] (0 + 1 + 1) = [m.at (0 + 1 + 1)] := by simp [useL, Hm.out.2]
  rw [hu] at ho5
  have HT5 := hid ho5.1
  have hflo : ∀ k, trF B M [m] k → W.heap.size ≤ k := fun k hk => by
    rcases hk with rfl | rfl | ⟨y, hy, rfl⟩
    · exact HLo.out.1
    · exact HLo.out.2
    · simp at hy; rw [hy]; exact HLo3.out
  have HB5 : Hid (Below W.heap.size W w5) := HB4.out.trans (ho5.2.1.to (B := W.heap.size) hflo HB4.out.size)
  have hlen := fun ty => hum.len ty
  rw [hK1] at hlen
  have hlk := hum.look (x := 7) ⟨by omega, by omega⟩
  rw [hf7] at hlk
  have HFl := hid hflo
  obtain ⟨w6, hw6⟩ : ∃ w6, w6 = w5.alloc (.cells #[.int .i64 1, .int .i64 2] 3) := ⟨_, rfl⟩
  have hb6 : Below w5.heap.size w5 w6 := by rw [hw6]; exact (Below.refl _ _).alloc (Nat.le_refl _) _
  have t6 := HT5.out.below hb6
  have hr6 : Reads .i64 w6 (some ⟨w5.heap.size, 0, none⟩) 2 2 [1, 2] := by rw [hw6]; exact Reads.lit w5 [1, 2] 3 2 rfl (by omega)
  have hH := phas_any t6 hr6 (x := 7) his (by omega) ⟨by omega, by omega⟩
  have hhas : hasM [m.at (0 + 1 + 1)] 7 [1, 2] = true := (hasM_iff t6.map.oks ⟨by omega, by omega⟩ his).2 ⟨m.at (0 + 1 + 1), by simp, Hm.out.1, Hm.out.2⟩
  rw [hhas] at hH
  have HB6 : Hid (Below W.heap.size W w6) := HB5.out.trans (hb6.mono HB5.out.size)
  have HT6 := hid t6
  clear H5 ho5 hum hlg hu hflo hb6 t6 hr6 hhas hK1 hf7
  go_wp2_with fail
  rw [← hw6]
  clear hw6 hlen hlk
  with_reducible refine hH.mono ?_
  rintro r w7 ⟨rfl, H7⟩
  clear hH
  have HT7 := hid (HT6.out.below H7.out)
  have HB7 : Hid (Below W.heap.size W w7) := HB6.out.trans (H7.out.mono HB6.out.size)
  have hF := forget_any HT7.out (x := 7) ⟨by omega, by omega⟩
  have hfl : forL [m.at (0 + 1 + 1)] 7 = [] := by
    have : (m.at (0 + 1 + 1)).rep = 7 := Hm.out.1
    unfold forL
    rw [List.filter_cons_of_neg (by rw [this]; simp)]
    rfl
  rw [hfl] at hF
  go_wp2_with fail
  with_reducible refine hF.mono ?_
  rintro r w8 ⟨rfl, H8⟩
  clear hF
  have HB8 : Hid (Below W.heap.size W w8) := HB7.out.trans (H8.out.2.1.to (B := W.heap.size) (fun k hk => HFl.out k (hk.imp id fun h => h.imp id fun ⟨y, hy, e⟩ => ⟨m, by simp, by simp at hy; rw [hy] at e; exact e⟩)) HB7.out.size)
  have hL := plen_any H8.out.1
  go_wp2_with fail
  with_reducible refine hL.mono ?_
  rintro r w9 ⟨rfl, rfl⟩
  go_wp2_with fail
  go_ret
  exact ⟨rfl, HB8⟩
end Go.Proofs.Ytdchoegaindnbaa
