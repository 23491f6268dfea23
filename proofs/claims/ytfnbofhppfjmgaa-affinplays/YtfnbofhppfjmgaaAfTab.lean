/-
  Package affin: a table in memory; New, made, Now; letGo, first.
-/
import Derived.Test.YtfnbofhppfjmgaaAfMath
import Derived.Deep.DeepCutAuto
import Derived.BigQuiet
namespace Go.Proofs.Ytfnbofhppfjmgaa
open Go.RowKit Go.Maps
set_option linter.unusedVariables false
set_option maxRecDepth 1000000

/-- A table's block. -/
def TbB (W : World) (B room : Nat) (keep T : Int) (M : Nat) : Prop := W.heap[B]? = some (.cells #[.int .i64 room, .int .i64 keep, .int .i64 T, .map (some M)] 51 (0, 0))
theorem TbB.cells {W : World} {B room : Nat} {keep T : Int} {M : Nat} (h : TbB W B room keep T M) : W.cell? ⟨B, 0, none⟩ = some (.int .i64 room) ∧ W.cell? ⟨B, 1, none⟩ = some (.int .i64 keep) ∧ W.cell? ⟨B, 2, none⟩ = some (.int .i64 T) ∧ W.cell? ⟨B, 3, none⟩ = some (.map (some M)) :=
  ⟨by rw [cell_of_row _ _ _ _ _ _ h]; rfl, by rw [cell_of_row _ _ _ _ _ _ h]; rfl, by rw [cell_of_row _ _ _ _ _ _ h]; rfl, by rw [cell_of_row _ _ _ _ _ _ h]; rfl⟩
theorem TbB.lt {W : World} {B room : Nat} {keep T : Int} {M : Nat} (h : TbB W B room keep T M) : B < W.heap.size := lt_of_block h
theorem TbB.same {W W' : World} {B room : Nat} {keep T : Int} {M : Nat} (h : TbB W B room keep T M) (hb : W'.heap[B]? = W.heap[B]?) : TbB W' B room keep T M := hb.trans h
theorem TbB.ne {W : World} {B room : Nat} {keep T : Int} {M : Nat} (h : TbB W B room keep T M) {L : List Bd} (hm : BmAt W M L) : B ≠ M := fun e => by
  obtain ⟨es, clock, h2⟩ := hm.blk
  rw [← e, show W.heap[B]? = _ from h] at h2
  cases h2
theorem tb_frozen {W : World} {B room : Nat} {keep T : Int} {M : Nat} (h : TbB W B room keep T M) (k : Nat) : W.frozen? ⟨B, k, none⟩ = false := by
  unfold World.frozen?
  rw [show W.heap[B]? = _ from h]
  simp
/-- A table as it lies. -/
structure TbAt (W : World) (B room : Nat) (keep T : Int) (M : Nat) (L : List Bd) : Prop where
  obj : TbB W B room keep T M
  map : BmAt W M L
  rm : 1 ≤ room ∧ room ≤ 1024
  kp : 1 ≤ keep ∧ keep ≤ 4294967296
  tm : 0 ≤ T ∧ T ≤ 1099511627776
  ends : ∀ b ∈ L, T < b.fin ∧ b.fin ≤ T + keep
  reps : ∀ b ∈ L, isU b.rep
  len : L.length ≤ room
/-- The blocks of a table. -/
def tbF (B M : Nat) (k : Nat) : Prop := k = B ∨ k = M
/-- What a call leaves. -/
def TbO (W : World) (B room : Nat) (keep : Int) (M : Nat) (T' : Int) (L' : List Bd) (W' : World) : Prop := TbAt W' B room keep T' M L' ∧ Fb (tbF B M) W W'
theorem TbAt.lts {W : World} {B room : Nat} {keep T : Int} {M : Nat} {L : List Bd} (h : TbAt W B room keep T M L) {k : Nat} (hk : tbF B M k) : k < W.heap.size := by
  rcases hk with rfl | rfl
  · exact h.obj.lt
  · exact h.map.lt
theorem TbAt.fb {F : Nat → Prop} {W W' : World} {B room : Nat} {keep T : Int} {M : Nat} {L : List Bd} (h : TbAt W B room keep T M L) (hb : Fb F W W') (hF : ∀ k, tbF B M k → ¬ F k) : TbAt W' B room keep T M L :=
  ⟨h.obj.same (hb.block _ h.obj.lt (hF _ (.inl rfl))), h.map.fb hb (hF _ (.inr rfl)), h.rm, h.kp, h.tm, h.ends, h.reps, h.len⟩
theorem TbAt.below {W W' : World} {B room : Nat} {keep T : Int} {M : Nat} {L : List Bd} (h : TbAt W B room keep T M L) (hb : Below W.heap.size W W') : TbAt W' B room keep T M L := h.fb (F := fun _ => False) (Fb.of hb) fun _ _ h => h
theorem tmade_yes {W : World} {B room : Nat} {keep T : Int} {M : Nat} (h : TbB W B room keep T M) (hr : 1 ≤ room) : Calls Try.prog 18 #[.pointer (some ⟨B, 0, none⟩)] W fun r w' => r = .returned (.bool true) ∧ w' = W := by
  have c0 := h.cells.1
  have h1 : (0 : Int) < (room : Int) := by omega
  have h2 : 0 < room := by omega
  clear h
  go_enter Try.func18, Try.ntmps18
  go_wp2
  go_ret
  exact ⟨rfl, rfl⟩
theorem tmade_nil (W : World) : Calls Try.prog 18 #[.pointer none] W fun r w' => r = .returned (.bool false) ∧ w' = W := by
  go_enter Try.func18, Try.ntmps18
  go_wp2
  go_ret
  exact ⟨rfl, rfl⟩
theorem tmade_zero {W : World} {B : Nat} (c0 : W.cell? ⟨B, 0, none⟩ = some (.int .i64 0)) : Calls Try.prog 18 #[.pointer (some ⟨B, 0, none⟩)] W fun r w' => r = .returned (.bool false) ∧ w' = W := by
  go_enter Try.func18, Try.ntmps18
  go_wp2
  go_ret
  exact ⟨rfl, rfl⟩
theorem tnew_no (r s : Int) (W : World) (h : r < 1 ∨ 1024 < r ∨ s < 1 ∨ 4294967296 < s) : Calls Try.prog 6 #[.int .i64 r, .int .i64 s] W fun e w' => e = .returned (.tuple #[.pointer none, .int .i64 1]) ∧ w' = W := by
  by_cases h1 : r < 1
  · clear h
    go_enter Try.func6, Try.ntmps6
    go_wp2
    go_ret2
    exact ⟨rfl, rfl⟩
  by_cases h2 : 1024 < r
  · clear h
    go_enter Try.func6, Try.ntmps6
    go_wp2
    go_ret2
    exact ⟨rfl, rfl⟩
  by_cases h3 : s < 1
  · clear h
    go_enter Try.func6, Try.ntmps6
    go_wp2
    go_ret2
    exact ⟨rfl, rfl⟩
  have h4 : 4294967296 < s := by omega
  clear h
  go_enter Try.func6, Try.ntmps6
  go_wp2
  go_ret2
  exact ⟨rfl, rfl⟩
theorem tnew_yes (r : Nat) (s : Int) (W : World) (hr : 1 ≤ r ∧ r ≤ 1024) (hs : 1 ≤ s ∧ s ≤ 4294967296) : Calls Try.prog 6 #[.int .i64 r, .int .i64 s] W fun e w' => e = .returned (.tuple #[.pointer (some ⟨W.heap.size + 1, 0, none⟩), .int .i64 0]) ∧ Hid (TbAt w' (W.heap.size + 1) r s 0 W.heap.size [] ∧ Below W.heap.size W w') := by
  have h1 : ¬ (r : Int) < 1 := by omega
  have h2 : ¬ (1024 : Int) < (r : Int) := by omega
  have h3 : ¬ s < 1 := by omega
  have h4 : ¬ (4294967296 : Int) < s := by omega
  have k1 : r < 1025 := by omega
  have k2 : ¬ 1024 < r := by omega
  have k3 : ¬ r = 0 := by omega
  have hm := @run_makeMap Try.prog
  have HX : Hid (TbAt ((W.alloc (.map #[] 0)).alloc (.cells #[.int .i64 r, .int .i64 s, .int .i64 0, .map (some W.heap.size)] 51)) (W.heap.size + 1) r s 0 W.heap.size [] ∧ Below W.heap.size W ((W.alloc (.map #[] 0)).alloc (.cells #[.int .i64 r, .int .i64 s, .int .i64 0, .map (some W.heap.size)] 51))) := by
    refine ⟨⟨?_, (BmAt.new W).below ((Below.refl _ _).alloc (Nat.le_refl _) _), hr, hs, by omega, by simp, by simp, by simp⟩, ((Below.refl _ _).alloc (Nat.le_refl _) _).alloc (by simp) _⟩
    have := heap_alloc_new (W.alloc (.map #[] 0)) (.cells #[.int .i64 r, .int .i64 s, .int .i64 0, .map (some W.heap.size)] 51)
    rwa [World.size_alloc] at this
  clear hr hs
  go_enter Try.func6, Try.ntmps6
  go_wp2
  go_ret2
  exact ⟨rfl, HX⟩
theorem tnow_any {W : World} {B room : Nat} {keep T : Int} {M : Nat} {L : List Bd} (h : TbAt W B room keep T M L) : Calls Try.prog 17 #[.pointer (some ⟨B, 0, none⟩)] W fun e w' => e = .returned (.int .i64 T) ∧ w' = W := by
  have hM := tmade_yes h.obj h.rm.1
  have c2 := h.obj.cells.2.2.1
  clear h
  go_enter Try.func17, Try.ntmps17
  go_wp2_with fail
  refine hM.mono ?_
  rintro r w1 ⟨rfl, rfl⟩
  go_wp2_with fail
  go_ret
  exact ⟨rfl, rfl⟩
set_option maxHeartbeats 4000000 in
theorem letGo_any {W : World} {B room : Nat} {keep T : Int} {M : Nat} {L : List Bd} (hB : TbB W B room keep T M) (hm : BmAt W M L) (hl : L.length ≤ 1024) (fn g : Nat) (p : Bd → Bool) (hg : g < W.heap.size) (hgM : g ≠ M)
    (hE : ∀ args w, (callFunc fn args).run Try.prog w = .ok (.enter fn args) w)
    (hG : ∀ (W' : World) (b : Bd), b ∈ L → W'.heap[g]? = W.heap[g]? → Calls Try.prog fn #[.agg #[.int .u64 b.rep, .int .i64 b.fin], .pointer (some ⟨g, 0, none⟩)] W' fun e w' => e = .returned (.bool (p b)) ∧ Hid (Below W'.heap.size W' w')) :
    Calls Try.prog 23 #[.pointer (some ⟨B, 0, none⟩), .func (.func fn) #[] #[.pointer (some ⟨g, 0, none⟩)]] W fun e w' => e = .returned (.int .i64 ((L.length : Int) - (L.filter fun b => !p b).length)) ∧ Hid (BmAt w' M (L.filter fun b => !p b) ∧ Fb (at1 M) W w') := by
  have c3 := hB.cells.2.2.2
  have hlen := fun ty => hm.len ty
  obtain ⟨W2, cnt0, hrg, hrs, hbr, hsz⟩ := hm.range
  have hne := hB.ne hm
  have HN := hid (And.intro hm.nodup hm.oks)
  have HR0 : Hid (RbAt W2 M W.heap.size L.length (L.filter fun b => (lk L b.ses).isSome || !p b) (fun x => (lk L x).isSome) cnt0 ∧ Fb (at1 M) W W2) := ⟨hrs.to (left_start hm.nodup p) fun _ _ => rfl, Fb.of hbr⟩
  obtain ⟨lf0, Hlf0⟩ : ∃ lf0 : Int → Bool, Hid (lf0 = fun x => (lk L x).isSome) := ⟨_, rfl⟩
  have HR1 : Hid (RbAt W2 M W.heap.size L.length (L.filter fun b => lf0 b.ses || !p b) lf0 cnt0 ∧ Fb (at1 M) W W2) := by rw [Hlf0.out]; exact HR0.out
  obtain ⟨nl, Hnl⟩ : ∃ nl, Hid (L.length = nl) := ⟨_, rfl⟩
  rw [Hnl.out] at hlen HR1 hl
  rw [Hnl.out]
  obtain ⟨nf, Hnf⟩ : ∃ nf, Hid ((L.filter fun b => !p b).length = nf) := ⟨_, rfl⟩
  have hnf : nf ≤ nl := by rw [← Hnf.out, ← Hnl.out]; exact List.length_filter_le _ _
  rw [Hnf.out]
  have HK := hid fun (W' : World) (hf : Fb (at1 M) W W') => (⟨hf.cell c3 hne, hf.block g hg hgM⟩ : W'.cell? ⟨B, 3, none⟩ = some (.map (some M)) ∧ W'.heap[g]? = W.heap[g]?)
  have HG := hid hG
  have HM := hid (And.intro hm.lt hne)
  clear hG hrs hbr HR0 hB hm Hlf0
  obtain ⟨rr, Hrr⟩ : ∃ rr, Hid (W.heap.size = rr) := ⟨_, rfl⟩
  rw [Hrr.out] at hrg HR1
  go_enter Try.func23, Try.ntmps23
  go_wp2_with fail
  go_loopw [6] (fun _ W' => ∃ (lf : Int → Bool) (cnt : Nat), Hid (RbAt W' M rr nl (L.filter fun b => lf b.ses || !p b) lf cnt ∧ Fb (at1 M) W W')) (fun _ W' => W'.rangeLeft M rr)
  case atStart => exact ⟨lf0, cnt0, HR1⟩
  case round =>
  obtain ⟨lf, cnt, HI⟩ := hrel
  rename World => w3
  clear HR1 hrg c3 hlen
  rcases HI.out.1.next 0 with ⟨hp, hrun⟩ | ⟨b, w4, cnt', hbL, hbU, hlb, hrun, hrs', hlt, hfb, hsz4, hen⟩
  · have HE : Hid (BmAt w3 M (L.filter fun b => !p b) ∧ Fb (at1 M) W w3) := ⟨by rw [← left_end HN.out.2 hp p]; exact HI.out.1.map, HI.out.2⟩
    have c3 := (HK.out _ HE.out.2).1
    have hlen := fun ty => HE.out.1.len ty
    rw [Hnf.out] at hlen
    clear hp HI
    go_wp2_with fail
    go_ret
    exact ⟨rfl, HE⟩
  · obtain ⟨w5, hw5⟩ : ∃ w5, w5 = w4.alloc (.cells #[.int .u64 b.rep, .int .i64 b.fin] 56) := ⟨_, rfl⟩
    have hb5 : Below w4.heap.size w4 w5 := by rw [hw5]; exact (Below.refl _ _).alloc (Nat.le_refl _) _
    have hbL' := (List.mem_filter.1 hbL).1
    have hf4 : Fb (at1 M) W w4 := HI.out.2.trans hfb fun x hx => .inr (by rw [show x = rr from hx, ← Hrr.out]; exact Nat.le_refl _)
    have hf5 : Fb (at1 M) W w5 := hf4.below hb5
    have hC := HG.out w5 b hbL' (HK.out _ hf5).2
    have HX : Hid (∀ w6, Below w5.heap.size w5 w6 → RbAt w6 M rr nl (L.filter fun b => lf b.ses || !p b) (fun x => lf x && decide (x ≠ b.ses)) cnt' ∧ Fb (at1 M) W w6) := fun w6 hb => ⟨(hrs'.below hb5).below hb, hf5.below hb⟩
    have HLt : Hid (cnt' < w3.rangeLeft M rr) := by unfold Hid; rw [HI.out.1.left]; exact hlt
    cases hpb : p b with
    | false =>
      rw [hpb] at hC
      have HS := hid (left_stay HN.out.1 hbL' lf hpb)
      clear hrs' hlt hfb hbU hlb HI hf4 hf5 hb5 hbL hbL' hpb hsz4
      go_wp2_with fail
      rw [← hw5]
      clear hw5
      with_reducible refine hC.mono ?_
      rintro r w6 ⟨rfl, H6⟩
      obtain ⟨hr6, hf6⟩ := HX.out _ H6.out
      have HR6 := hid hr6
      have HF6 := hid hf6
      clear hC H6 hr6 hf6
      go_wp2_with fail
      go_round
      case rel => exact ⟨_, cnt', HR6.out.to HS.out fun _ _ => rfl, HF6.out⟩
      case measure => rw [HR6.out.left]; exact HLt.out
    | true =>
      rw [hpb] at hC
      have HS := hid (left_go HN.out.1 hbL' lf hpb)
      have HU := hid hbU
      have HNe := hid HM.out.2
      clear hrs' hlt hfb hbU hlb HI hf4 hf5 hb5 hbL hbL' hpb hsz4
      go_wp2_with fail
      rw [← hw5]
      clear hw5
      with_reducible refine hC.mono ?_
      rintro r w6 ⟨rfl, H6⟩
      obtain ⟨hr6, hf6⟩ := HX.out _ H6.out
      have c3 := (HK.out _ hf6).1
      obtain ⟨w7, cnt7, hd, hr7, hle7, hf7⟩ := hr6.drop HU.out (by simp) 0
      have HR7 := hid hr7
      have HF7 : Hid (Fb (at1 M) W w7) := hf6.trans hf7 fun x hx => .inl hx
      have HL7 := hid hle7
      clear hC H6 hr6 hf6 hr7 hf7 hle7
      go_wp2_with fail
      go_round
      case rel => exact ⟨_, cnt7, HR7.out.to HS.out fun _ _ => rfl, HF7.out⟩
      case measure => rw [HR7.out.left]; exact Nat.lt_of_le_of_lt HL7.out HLt.out
end Go.Proofs.Ytfnbofhppfjmgaa
