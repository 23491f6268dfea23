/-
  Package affin: use, first.
-/
import Derived.Test.YtfnbofhppfjmgaaAfGo
namespace Go.Proofs.Ytfnbofhppfjmgaa
open Go.RowKit Go.Maps
set_option linter.unusedVariables false
set_option maxRecDepth 1000000

/-- One binding is put into the map. -/
structure StoreP (L : List Bd) (s : Int) (p : Int × Int) (L' : List Bd) : Prop where
  nd : NdB L'
  us : ∀ b ∈ L', isU b.ses
  lk : ∀ y, isU y → lk L' y = if y = s then some p else Ytfnbofhppfjmgaa.lk L y
  len : L'.length = L.length + (if (Ytfnbofhppfjmgaa.lk L s).isSome then 0 else 1)
theorem storeP_rep {L : List Bd} (hn : NdB L) (hu : ∀ b ∈ L, isU b.ses) {n : Bd} (h : lk L n.ses ≠ none) : StoreP L n.ses (n.rep, n.fin) (repB L n) := by
  have hs : (lk L n.ses).isSome = true := by cases hl : lk L n.ses with
    | none => exact absurd hl h
    | some p => rfl
  refine ⟨repB_nd hn n, fun b hb => ?_, fun y hy => ?_, by rw [repB_len, hs]; rfl⟩
  · have : b.ses ∈ (repB L n).map Bd.ses := List.mem_map_of_mem hb
    rw [repB_ses] at this
    obtain ⟨c, hc, e⟩ := List.mem_map.1 this
    rw [← e]
    exact hu c hc
  · rw [lk_rep]
    by_cases e : y = n.ses
    · subst e
      simp [hs]
    · simp [e]
theorem storeP_app {L : List Bd} (hn : NdB L) (hu : ∀ b ∈ L, isU b.ses) {n : Bd} (hs : isU n.ses) (h : lk L n.ses = none) : StoreP L n.ses (n.rep, n.fin) (L ++ [n]) := by
  refine ⟨app_nd hn h, fun b hb => ?_, fun y hy => ?_, by rw [List.length_append, h]; rfl⟩
  · rcases List.mem_append.1 hb with hb | hb
    · exact hu b hb
    · simp at hb
      rw [hb]
      exact hs
  · rw [lk_app]
    by_cases e : y = n.ses
    · subst e
      simp [h]
    · have e' : ¬ n.ses = y := fun e2 => e e2.symm
      rw [if_neg e, if_neg e']
      cases lk L y <;> rfl
theorem StoreP.mem {L : List Bd} {s : Int} {p : Int × Int} {L' : List Bd} (h : StoreP L s p L') {b : Bd} (hb : b ∈ L') : b ∈ L ∨ (b.ses = s ∧ b.rep = p.1 ∧ b.fin = p.2) := by
  have h1 := h.lk _ (h.us b hb)
  rw [lk_mem h.nd hb] at h1
  by_cases e : b.ses = s
  · rw [if_pos e] at h1
    cases h1
    exact .inr ⟨e, rfl, rfl⟩
  · rw [if_neg e] at h1
    obtain ⟨c, hc, e1, e2⟩ := lk_some h1.symm
    simp at e2
    left
    have : c = b := by
      obtain ⟨c1, c2, c3⟩ := c
      obtain ⟨b1, b2, b3⟩ := b
      simp at e1 e2
      simp [e1, e2]
    rw [← this]
    exact hc
set_option maxHeartbeats 4000000 in
theorem tuse_any {W : World} {B room : Nat} {keep T : Int} {M : Nat} {L L' : List Bd} (h : TbAt W B room keep T M L) {s r : Int} (hs : isU s) (hr : isU r) (hp : StoreP L s (r, T + keep) L') (hl : L'.length ≤ room) :
    Calls Try.prog 20 #[.pointer (some ⟨B, 0, none⟩), .int .u64 s, .int .u64 r] W fun e w' => e = .returned (.tuple #[]) ∧ Hid (TbO W B room keep M T L' w') := by
  have c1 := h.obj.cells.2.1
  have c2 := h.obj.cells.2.2.1
  have c3 := h.obj.cells.2.2.2
  obtain ⟨f, hf⟩ : ∃ f, T + keep = f := ⟨_, rfl⟩
  have hw : IntKind.i64.wrap (T + keep) = f := by rw [← hf]; have := h.tm; have := h.kp; exact wrap64_in (by omega) (by omega)
  have hd0 : Fb (at1 M) W W.drew := (Fb.refl _ _).drew
  obtain ⟨W1, hst, hm1, hf1'⟩ := (h.map.same (W' := W.drew) rfl).store (by have := h.len; have := h.rm; omega) hs (r, f)
  have hf1 : Fb (at1 M) W W1 := hd0.trans hf1' fun x hx => .inl hx
  have hne := h.obj.ne h.map
  have HE : Hid (TbO W B room keep M T L' W1) := by
    rw [hf] at hp
    refine ⟨⟨h.obj.same (hf1.block _ h.obj.lt hne), hm1 L' hp.nd hp.us hp.lk hp.len, h.rm, h.kp, h.tm, fun b hb => ?_, fun b hb => ?_, hl⟩, ?_⟩
    · rcases hp.mem hb with hb | ⟨_, _, e⟩
      · exact h.ends b hb
      · rw [e, ← hf]
        have := h.kp
        constructor <;> simp <;> omega
    · rcases hp.mem hb with hb | ⟨_, e, _⟩
      · exact h.reps b hb
      · rw [e]; exact hr
    · exact hf1.mono fun x hx => .inr hx
  clear hm1 hf1 hf1' hd0 hp hl h hs hr hne hf
  unfold bdV at hst
  go_enter Try.func20, Try.ntmps20
  go_wp2_with fail
  go_region
  go_wp2_with fail
  go_end0
  exact ⟨rfl, HE⟩
theorem first_case {f F s S : Int} : (f < F) ∨ (¬ f < F ∧ f = F ∧ s < S) ∨ (¬ f < F ∧ f = F ∧ ¬ s < S) ∨ (¬ f < F ∧ ¬ f = F) := by omega
set_option maxHeartbeats 4000000 in
theorem first_any {W : World} {B room : Nat} {keep T : Int} {M : Nat} {L : List Bd} (h : TbAt W B room keep T M L) (h0 : L ≠ []) :
    Calls Try.prog 25 #[.pointer (some ⟨B, 0, none⟩)] W fun e w' => ∃ s, e = .returned (.int .u64 s) ∧ Hid ((∃ b, LstB L b ∧ s = b.ses) ∧ Below W.heap.size W w') := by
  have c3 := h.obj.cells.2.2.2
  obtain ⟨W2, cnt0, hrg, hrs, hbr, hsz⟩ := h.map.range
  have HN := hid (And.intro h.map.nodup (And.intro h.map.oks h0))
  have HF : Hid (∀ b ∈ L, isI b.fin ∧ b.fin < 1103806595073) := fun b hb => by
    have := (h.ends b hb); have := h.tm; have := h.kp
    exact ⟨⟨by omega, by omega⟩, by omega⟩
  obtain ⟨lf0, Hlf0⟩ : ∃ lf0 : Int → Bool, Hid (lf0 = fun x => (lk L x).isSome) := ⟨_, rfl⟩
  have HR0 : Hid (RbAt W2 M W.heap.size L.length L lf0 cnt0 ∧ Below W.heap.size W W2 ∧ FsO L lf0 0 1103806595073) := by
    rw [Hlf0.out]
    exact ⟨hrs, hbr, .inl ⟨fun b hb => by simp only [lk_mem HN.out.1 hb]; rfl, rfl, rfl⟩⟩
  clear hrs hbr h Hlf0 h0 hsz
  obtain ⟨nl, Hnl⟩ : ∃ nl, Hid (L.length = nl) := ⟨_, rfl⟩
  rw [Hnl.out] at HR0
  obtain ⟨rr, Hrr⟩ : ∃ rr, Hid (W.heap.size = rr) := ⟨_, rfl⟩
  rw [Hrr.out] at hrg
  have HR1 : Hid (RbAt W2 M rr nl L lf0 cnt0 ∧ Below W.heap.size W W2 ∧ FsO L lf0 0 1103806595073) := by rw [← Hrr.out]; exact HR0.out
  clear HR0
  go_enter Try.func25, Try.ntmps25
  go_wp2_with fail
  go_loopw [3, 4] (fun x y W' => ∃ (lf : Int → Bool) (cnt : Nat) (s f : Int), x = .int .u64 s ∧ y = .int .i64 f ∧ Hid (RbAt W' M rr nl L lf cnt ∧ Below W.heap.size W W' ∧ FsO L lf s f)) (fun _ _ W' => W'.rangeLeft M rr)
  case atStart => exact ⟨lf0, cnt0, 0, 1103806595073, rfl, rfl, HR1⟩
  case round =>
  obtain ⟨lf, cnt, s, f, rfl, rfl, HI⟩ := hrel
  rename World => w3
  clear HR1 hrg c3
  rcases HI.out.1.next 0 with ⟨hp, hrun⟩ | ⟨b, w4, cnt', hbL, hbU, hlb, hrun, hrs', hlt, hfb, hsz4, hen⟩
  · have HE : Hid ((∃ b, LstB L b ∧ s = b.ses) ∧ Below W.heap.size W w3) := ⟨HI.out.2.2.end HN.out.2.1 hp HN.out.2.2, HI.out.2.1⟩
    clear hp HI
    go_wp2_with fail
    go_ret
    exact ⟨s, rfl, HE⟩
  · obtain ⟨w5, hw5⟩ : ∃ w5, w5 = w4.alloc (.cells #[.int .u64 b.rep, .int .i64 b.fin] 56) := ⟨_, rfl⟩
    have hb5 : Below w4.heap.size w4 w5 := by rw [hw5]; exact (Below.refl _ _).alloc (Nat.le_refl _) _
    have hb4 : Below W.heap.size W w4 := HI.out.2.1.trans (hfb.to (fun k hk => by rw [show k = rr from hk, ← Hrr.out]; exact Nat.le_refl _) HI.out.2.1.size)
    have HX : Hid (∀ w6, Below w5.heap.size w5 w6 → RbAt w6 M rr nl L (fun x => lf x && decide (x ≠ b.ses)) cnt' ∧ Below W.heap.size W w6) := fun w6 hb => ⟨(hrs'.below hb5).below hb, (hb4.trans (hb5.mono hb4.size)).trans (hb.mono (hb4.trans (hb5.mono hb4.size)).size)⟩
    have HLt : Hid (cnt' < w3.rangeLeft M rr) := by unfold Hid; rw [HI.out.1.left]; exact hlt
    have HFs := hid HI.out.2.2
    have HBL := hid (And.intro hbL hlb)
    have hgb : w5.heap[w4.heap.size]? = some (.cells #[.int .u64 b.rep, .int .i64 b.fin] 56 (0, 0)) := by rw [hw5]; exact heap_alloc_new w4 _
    have cb := cells_two hgb
    clear hrs' hlt hfb hbU hlb HI hb5 hb4 hbL hsz4 hgb
    rcases first_case (f := b.fin) (F := f) (s := b.ses) (S := s) with k1 | ⟨k1, k2, k3⟩ | ⟨k1, k2, k3⟩ | ⟨k1, k2⟩
    · have HS := hid (HFs.out.less HN.out.1 HBL.out.1 (HF.out b HBL.out.1).2 (.inl k1))
      have d1 : decide (b.fin < f) = true := decide_eq_true k1
      have HR6 := hid (HX.out w5.drew (Below.refl _ _).drew)
      clear HFs HBL
      generalize b.ses = bs at *
      generalize b.rep = br at *
      generalize b.fin = bf at *
      go_wp2_with fail
      rw [← hw5]
      clear hw5
      go_region
      go_wp2_with fail
      go_round
      case rel => exact ⟨_, cnt', bs, bf, rfl, rfl, HR6.out.1, HR6.out.2, HS.out⟩
      case measure => rw [HR6.out.1.left]; exact HLt.out
    · have HS := hid (HFs.out.less HN.out.1 HBL.out.1 (HF.out b HBL.out.1).2 (.inr ⟨k2, k3⟩))
      have d1 : decide (b.fin < f) = false := decide_eq_false k1
      have d2 : (b.fin == f) = true := by simp [k2]
      have d3 : decide (b.ses < s) = true := decide_eq_true k3
      have HR6 := hid (HX.out w5.drew (Below.refl _ _).drew)
      have k2' := hid k2
      clear k2
      clear HFs HBL
      generalize b.ses = bs at *
      generalize b.rep = br at *
      generalize b.fin = bf at *
      go_wp2_with fail
      rw [← hw5]
      clear hw5
      go_region
      go_wp2_with fail
      go_round
      case rel => exact ⟨_, cnt', bs, bf, rfl, rfl, HR6.out.1, HR6.out.2, HS.out⟩
      case measure => rw [HR6.out.1.left]; exact HLt.out
    · have HS := hid (HFs.out.stay HN.out.1 HBL.out.1 HBL.out.2 (HF.out b HBL.out.1).2 (by omega))
      have d1 : decide (b.fin < f) = false := decide_eq_false k1
      have d2 : (b.fin == f) = true := by simp [k2]
      have d3 : decide (b.ses < s) = false := decide_eq_false k3
      have HR6 := hid (HX.out w5 (Below.refl _ _))
      have k2' := hid k2
      clear k2
      clear HFs HBL cb
      generalize b.ses = bs at *
      generalize b.rep = br at *
      generalize b.fin = bf at *
      go_wp2_with fail
      rw [← hw5]
      go_round
      case rel => exact ⟨_, cnt', s, f, rfl, rfl, HR6.out.1, HR6.out.2, HS.out⟩
      case measure => rw [HR6.out.1.left]; exact HLt.out
    · have HS := hid (HFs.out.stay HN.out.1 HBL.out.1 HBL.out.2 (HF.out b HBL.out.1).2 (by omega))
      have d1 : decide (b.fin < f) = false := decide_eq_false k1
      have d2 : (b.fin == f) = false := by simp [k2]
      have HR6 := hid (HX.out w5 (Below.refl _ _))
      clear HFs HBL cb
      generalize b.ses = bs at *
      generalize b.rep = br at *
      generalize b.fin = bf at *
      go_wp2_with fail
      rw [← hw5]
      go_round
      case rel => exact ⟨_, cnt', s, f, rfl, rfl, HR6.out.1, HR6.out.2, HS.out⟩
      case measure => rw [HR6.out.1.left]; exact HLt.out
end Go.Proofs.Ytfnbofhppfjmgaa
